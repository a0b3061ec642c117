/-
  Itoa; a line of numbers.
-/
import Derived.Test.YtmaekpfkkpkgpaaGreatDoorBNew
import Derived.Test.YtmaekpfkkpkgpaaGreatDoorBCut
import Derived.Test.YtmaekpfkkpkgpaaGreatDoorBBld
import Derived.WalkSmall
import Derived.Lib.LaidTab
namespace Go.Proofs.YtmaekpfkkpkgpaaGreatDoor
open Go.RowKit Go.Shelf
set_option maxRecDepth 10000

/-- The library's table of powers of ten. -/
def Pows (w : World) : Prop := Lib.TabIs Tryz.prog w "internal/strconv.uint64pow10" .u64 Lib.pow10Tab
theorem pows_named : Tryz.prog.globalNamed "internal/strconv.uint64pow10" = some 3 := by kernel_rfl
theorem Pows.lt {w : World} (h : Pows w) : 3 < w.heap.size :=
  World.block_lt_of_cell? w _ (Lib.TabIs.cell h pows_named 0 (by rw [Lib.pow10Tab_length]; omega))
theorem Pows.later {w w' : World} (h : Pows w) (hb : Below w.heap.size w w') : Pows w' := var?_below hb pows_named h.lt h
theorem itoa_any (n : Int) (h0 : -9223372036854775808 ≤ n) (h1 : n ≤ 9223372036854775807) (w : World) (hp : Pows w) :
    Calls Tryz.prog 63 #[.int .i64 n] w fun e w' => e = .returned (.string (bs (Lib.itoa n))) ∧ Below w.heap.size w w' := by
  refine (Tryz.strconv_Itoa n h0 h1 w hp).mono ?_
  rintro e w' ⟨rfl, k, os, rfl⟩
  refine ⟨rfl, rfl, rfl, rfl, by simp [Sort.grow], fun i hi => ?_⟩
  show (w.heap ++ os)[i]? = _
  rw [Array.getElem?_append_left hi]
theorem digits_len : ∀ (k u : Nat), 1 ≤ k → u < 10 ^ k → (Lib.decDigits u).length ≤ k := by
  intro k
  induction k with
  | zero => intro u h; omega
  | succ k ih =>
    intro u _ hu
    rw [Lib.decDigits]
    split
    · simp
    · rename_i h
      have hk : 1 ≤ k := by
        rcases k with _ | k
        · simp at hu; omega
        · omega
      have := ih (u / 10) hk (Nat.div_lt_of_lt_mul (by rw [Nat.pow_succ] at hu; omega))
      simp
      omega
theorem itoa_len {n : Int} (h0 : 0 ≤ n) (h1 : n ≤ 16777216) : (Lib.itoa n).length ≤ 8 := by
  unfold Lib.itoa
  rw [if_neg (by omega)]
  exact digits_len 8 _ (by decide) (by omega)
/-- A line of numbers. -/
def lineF (ns : List Int) : List UInt8 := Lib.join (ns.map Lib.itoa) [32]
theorem join_len : ∀ (l : List (List UInt8)) (k : Nat), (∀ x ∈ l, x.length ≤ k) → (Lib.join l [32]).length ≤ l.length * (k + 1)
  | [], _, _ => by simp [Lib.join]
  | [x], k, h => by
    have := h x (by simp)
    simp [Lib.join, List.intercalate]
    omega
  | x :: y :: l, k, h => by
    have h1 := h x (by simp)
    have h2 := join_len (y :: l) k (fun z hz => h z (by simp at hz ⊢; right; exact hz))
    have e : Lib.join (x :: y :: l) [32] = x ++ [32] ++ Lib.join (y :: l) [32] := by simp [Lib.join, List.intercalate]
    rw [e]
    simp only [List.length_append, List.length_cons, List.length_nil] at h2 ⊢
    rw [Nat.succ_mul]
    omega
theorem line_len {ns : List Int} (h : ∀ x ∈ ns, 0 ≤ x ∧ x ≤ 16777216) : (lineF ns).length ≤ ns.length * 9 := by
  have := join_len (ns.map Lib.itoa) 8 (fun x hx => by
    obtain ⟨n, hn, rfl⟩ := List.mem_map.1 hx
    exact itoa_len (h n hn).1 (h n hn).2)
  rw [List.length_map] at this
  exact this
theorem infoS : (Tryz.prog.info? 9).map (fun i => (i.zero, i.size, i.bytes)) = some (some (.string ⟨#[]⟩), 1, 16) := by kernel_rfl
theorem makeS (n : Nat) (h : n ≤ 256) : ∃ R : Array Value, R.toList = List.replicate n (Value.string ⟨#[]⟩) ∧ ∀ W, (Instr.makeSlice 97 (.int .i64 (n : Int)) (.int .i64 (n : Int))).run Tryz.prog W = .ok (.slice (some ⟨W.heap.size, 0, none⟩) n n) (W.alloc (.cells R 9)) := by
  obtain ⟨i0, hi, hz0, hz1, hz2⟩ := info_parts infoS
  refine ⟨madeCells #[.string ⟨#[]⟩] (n * 1), ?_, fun W => ?_⟩
  · have := made_flat [Value.string ⟨#[]⟩] (by decide) n
    rw [show (madeCells #[Value.string ⟨#[]⟩] (n * 1)) = madeCells [Value.string ⟨#[]⟩].toArray (n * [Value.string ⟨#[]⟩].length) from rfl, this]
    simp
  · have := run_make (P := Tryz.prog) W 97 9 i0 _ Tryz.underlying97 hi hz0 .i64 .i64 n n (by omega) (Int.le_refl _) (by rw [hz2]; omega) (by omega)
    rw [hz1] at this
    exact this
/-- The words that are written so far. -/
def wordsL (ns : List Int) (k : Nat) : List Value := (ns.take k).map (fun n => Value.string (bs (Lib.itoa n))) ++ List.replicate (ns.length - k) (Value.string ⟨#[]⟩)
theorem words_set {ns : List Int} {k : Nat} {n : Int} (h : ns[k]? = some n) : (wordsL ns k).set k (.string (bs (Lib.itoa n))) = wordsL ns (k + 1) := by
  have hk : k < ns.length := (List.getElem?_eq_some_iff.1 h).1
  unfold wordsL
  rw [List.set_append_right _ _ (by simp; omega)]
  have e : k - ((ns.take k).map (fun n => Value.string (bs (Lib.itoa n)))).length = 0 := by simp; omega
  rw [e, show ns.length - k = (ns.length - (k + 1)) + 1 by omega, List.replicate_succ, List.set_cons_zero, List.take_add_one, h]
  simp
set_option maxHeartbeats 2000000 in
theorem line_any (bk cap : Nat) (ns : List Int) (w : World) (hr : Row w bk (ns.map fun n => Value.int .i64 n) 3) (hn : 1 ≤ ns.length) (hn4 : ns.length ≤ 4) (hb : ∀ x ∈ ns, 0 ≤ x ∧ x ≤ 16777216) (hp : Pows w) :
    Calls Tryz.prog 41 #[.slice (some ⟨bk, 0, none⟩) ns.length cap] w fun e w' => e = .returned (.string (bs (lineF ns))) ∧ Below w.heap.size w w' := by
  obtain ⟨m, hm⟩ : ∃ m, m = ns.length := ⟨_, rfl⟩
  rw [← hm]
  rw [← hm] at hn hn4
  obtain ⟨R, hR, hmk⟩ := makeS m (by omega)
  obtain ⟨X, hX⟩ : ∃ X, X = w.alloc (.cells R 9) := ⟨_, rfl⟩
  have hbX : Below w.heap.size w X := by rw [hX]; exact below_new _ _
  have hrX : Row X w.heap.size (wordsL ns 0) 9 := by
    have := Row.new w R.toList 9
    rw [Array.toArray_toList, ← hX, hR] at this
    unfold wordsL
    rw [← hm]
    simpa using this
  have HR := hidW hr
  have HM := hidW hm
  have HB := hidW hb
  have HP := hidW hp
  have HBX := hidW hbX
  have HRX := hidW hrX
  clear hr hm hb hp hbX hrX hR
  go_enter Tryz.func41, Tryz.ntmps41
  go_wp2_with fail
  rw [← hX]
  clear hX hmk
  go_loopw [11] (fun s11 wr => ∃ k : Nat, s11 = .int .i64 (k : Int) ∧ k ≤ m ∧ Hid (Row wr w.heap.size (wordsL ns k) 9 ∧ Below w.heap.size w wr)) (fun s11 _ => m - (intOf s11).toNat)
  case atStart => exact ⟨0, rfl, by omega, HRX.out, HBX.out⟩
  case round =>
    obtain ⟨k, rfl, hk, HK⟩ := hrel
    by_cases hkl : k < m
    · have hkn : k < ns.length := by rw [← HM.out]; exact hkl
      have hg := List.getElem?_eq_getElem hkn
      obtain ⟨x, hx⟩ : ∃ x, x = ns[k] := ⟨_, rfl⟩
      rw [← hx] at hg
      have hbx := HB.out x (List.mem_of_getElem? hg)
      have c1 : wr.cell? ⟨bk, k, none⟩ = some (.int .i64 x) := (HR.out.later HK.out.2).cell (by rw [List.getElem?_map, hg]; rfl)
      have kI := itoa_any x (by omega) (by omega) wr (HP.out.later HK.out.2)
      have hlt : (k : Int) < (m : Int) := by omega
      have hk0 : ¬ (k : Int) < 0 := by omega
      have HG := hidW hg
      have HKL := hidW hkl
      have hwl : k < (wordsL ns k).length := by unfold wordsL; simp; omega
      have HWL := hidW hwl
      clear hkn hg hx hbx hkl hwl
      go_wp2_with (go_at_call 63; refine kI.mono ?_; rintro e w1 ⟨rfl, hb1⟩; have r1 := HK.out.1.later hb1; have f1 := r1.frozen k; have c2 : ∃ v, w1.cell? ⟨w.heap.size, k, none⟩ = some v := ⟨_, r1.cell (List.getElem?_eq_getElem HWL.out)⟩; obtain ⟨v2, c2⟩ := c2; have R1 := hidW r1; have B1 := hidW hb1; clear r1 hb1)
      go_roundw
      case rel =>
        refine ⟨k + 1, by go_num, HKL.out, ?_, (Below.after HK.out.2 B1.out).setCell (p := ⟨w.heap.size, k, none⟩) (Nat.le_refl _) _⟩
        rw [← words_set HG.out]
        exact R1.out.set _ HWL.out
      case measure => simp [intOf]; have := HKL.out; omega
    · have hlt : ¬ (k : Int) < (m : Int) := by omega
      obtain rfl : k = m := by omega
      have kJ := Tryz.strings_Join w.heap.size 0 k (ns.map fun n => bs (Lib.itoa n)) ⟨#[32]⟩ wr (fun j x hx => by
        have := HK.out.1.cell (i := j) (v := .string x) (by
          unfold wordsL
          rw [HM.out, List.take_length, Nat.sub_self, List.replicate_zero, List.append_nil]
          rw [List.getElem?_map] at hx ⊢
          cases h : ns[j]? with
          | none => rw [h] at hx; simp at hx
          | some y => rw [h] at hx; simp at hx ⊢; exact hx)
        rw [Nat.zero_add]
        exact this) HK.out.1.lt (by simp; rw [← HM.out]; omega) (by simp; rw [← HM.out]; omega) (by
        have h1 := line_len HB.out
        rw [← HM.out] at h1
        have h2 : (List.map (fun x : ByteArray => x.data.toList) (List.map (fun n => bs (Lib.itoa n)) ns)) = ns.map Lib.itoa := by rw [List.map_map]; rfl
        rw [h2]
        exact Nat.le_trans h1 (by omega))
      have h2 : (List.map (fun x : ByteArray => x.data.toList) (List.map (fun n => bs (Lib.itoa n)) ns)) = ns.map Lib.itoa := by rw [List.map_map]; rfl
      rw [h2, List.length_map, ← HM.out] at kJ
      have HB2 := hidW HK.out.2
      clear hkl h2
      go_wp2_with (go_at_call 64; refine kJ.mono ?_; rintro e w1 ⟨rfl, hb1⟩; have B1 := hidW hb1; clear hb1)
      go_ret
      exact ⟨rfl, Below.after HB2.out B1.out⟩
end Go.Proofs.YtmaekpfkkpkgpaaGreatDoor
