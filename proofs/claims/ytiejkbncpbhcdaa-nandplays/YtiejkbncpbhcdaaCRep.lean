/-
  What bytes.Repeat answers at one byte.
-/
import Derived.Test.YtiejkbncpbhcdaaCView
import Derived.Test.YtiejkbncpbhcdaaCShelf
import Derived.BigQuiet
import Derived.Laws.CopyOwn
import Derived.Deep.RegionLaw
import Derived.Deep.LoopGhost
import Derived.Lib.MakeNoZero
namespace Go.Proofs.Ytiejkbncpbhcdaa
open Go.RowKit

theorem size8 : (Try.prog.info? 5).map (·.size) = some 1 := by kernel_rfl
/-- k bytes of 255 ahead of what there was. -/
def ffs (cur : List Value) (k : Nat) : List Value := List.replicate k (Value.int .u8 255) ++ cur.drop k
theorem ffs_splice (cur : List Value) (k m : Nat) : splice (ffs cur k) k (List.replicate m (Value.int .u8 255)) = ffs cur (k + m) := by
  unfold splice ffs
  rw [List.take_append_of_le_length (by simp), List.take_of_length_le (by simp), List.drop_append]
  simp [List.replicate_append_replicate, ← List.append_assoc]
theorem ffs_len (cur : List Value) (k : Nat) (h : k ≤ cur.length) : (ffs cur k).length = cur.length := by simp [ffs]; omega
theorem ffs_get (cur : List Value) (k j : Nat) (h : j < k) : (ffs cur k)[j]? = some (.int .u8 255) := by
  unfold ffs; rw [List.getElem?_append_left (by simpa using h)]; simp [h]
theorem one_ff (m : Nat) : ∀ v ∈ List.replicate m (Value.int .u8 255), v.oneCell' = true := by
  intro v hv; rw [List.eq_of_mem_replicate hv]; rfl
theorem rep_get {m j : Nat} {v x : Value} (h : (List.replicate m x)[j]? = some v) : j < m ∧ v = x := by
  obtain ⟨hlt, e⟩ := List.getElem?_eq_some_iff.1 h
  simp at hlt e
  exact ⟨hlt, e.symm⟩

theorem rep_pos {W : World} {g b off : Nat} (hcb : W.cell? ⟨b, off, none⟩ = some (.int .u8 255)) : 0 < ([.int .u8 255] : List Value).length → some (⟨g, 0, none⟩ : Addr) = some ⟨g, 0, none⟩ ∧ ∃ ad, some (⟨b, off, none⟩ : Addr) = some ad ∧ ∀ j v, ([.int .u8 255] : List Value)[j]? = some v → W.cell? (ad.add j) = some v := by
  intro _
  refine ⟨rfl, _, rfl, fun j v hj => ?_⟩
  rcases j with _ | j
  · simp at hj; subst hj; simpa [Addr.add] using hcb
  · simp at hj
theorem rep_pos2 {W : World} {g k m : Nat} {cur : List Value} (hg : W.heap[g]? = some (.cells (ffs cur k).toArray 5 (0, 0))) (hm : m ≤ k) : 0 < (List.replicate m (Value.int .u8 255)).length → some (⟨g, k, none⟩ : Addr) = some ⟨g, k, none⟩ ∧ ∃ ad, some (⟨g, 0, none⟩ : Addr) = some ad ∧ ∀ j v, (List.replicate m (Value.int .u8 255))[j]? = some v → W.cell? (ad.add j) = some v := by
  intro _
  refine ⟨rfl, _, rfl, fun j v hj => ?_⟩
  obtain ⟨h1, rfl⟩ := rep_get hj
  have e : (⟨g, 0, none⟩ : Addr).add j = ⟨g, j, none⟩ := by unfold Addr.add; split <;> simp_all
  rw [e]
  simp only [World.cell?, hg]
  have := ffs_get cur k j (by omega)
  simpa using this

set_option maxRecDepth 100000 in
set_option maxHeartbeats 2000000 in
theorem repeat_any (b off c n : Nat) (w : World) (h1 : 1 ≤ n) (h2 : n ≤ 512) (hc : w.cell? ⟨b, off, none⟩ = some (.int .u8 255)) :
    Calls Try.prog 74 #[.slice (some ⟨b, off, none⟩) 1 c, .int .i64 n] w fun e w' => e = .returned (.slice (some ⟨w.heap.size, 0, none⟩) n n) ∧ Row w' w.heap.size (List.replicate n (Value.int .u8 255)) 5 ∧ Below w.heap.size w w' := by
  have hmul := fun W => Try.bits_Mul 1 n (by decide) (by omega) W
  have e1 : 1 * n / 18446744073709551616 = 0 := by omega
  have e2 : 1 * n % 18446744073709551616 = n := by omega
  simp only [e1, e2] at hmul
  change ∀ W, Calls Try.prog 85 #[.int .u64 1, .int .u64 (n : Int)] W _ at hmul
  clear e1 e2
  have hmul2 : ∀ W, Calls Try.prog 85 #[.int .u64 1, .int .u64 (n : Int)] W fun e w' => e = .returned (.tuple #[.int .u64 0, .int .u64 (n : Int)]) ∧ W = w' := fun W => (hmul W).mono fun e w' ⟨a, b⟩ => ⟨a, b.symm⟩
  clear hmul
  obtain ⟨cs, hrunM, hle, _⟩ := Lib.run_makeNoZero (P := Try.prog) w #[3] 35 5 Try.underlying35 n (by omega)
  have hcall : (callFunc 86 #[.int .i64 (n : Int)]).run Try.prog w = .ok (.value (.slice (some ⟨w.heap.size, 0, none⟩) n cs.size)) ((w.alloc (.cells cs 5)).drewN 2) := by
    rw [run_callFunc_extern Try.func86 (by kernel_rfl) (by kernel_rfl) (by kernel_rfl) (e := Extern.BytealgMakeNoZero.makeNoZero #[3] #[35]) (by kernel_rfl), hrunM]
    rfl
  clear hrunM
  obtain ⟨m, hm⟩ : ∃ m, m = cs.size := ⟨_, rfl⟩
  rw [← hm] at hcall hle
  have k0 : ((n : Int) == 0) = false := by simp; omega
  have k1 : ¬ (n : Int) < 0 := by omega
  have k2 : ¬ (8192 : Int) < (n : Int) := by omega
  have k3 : ¬ (9223372036854775807 : Int) < (n : Int) := by omega
  have k4 : IntKind.u64.wrap (n : Int) = n := by rw [IntKind.wrap_u64]; omega
  have k5 : IntKind.i64.wrap (n : Int) = n := by rw [IntKind.wrap_i64]; omega
  have hbel : Below w.heap.size w ((w.alloc (.cells cs 5)).drewN 2) := Below.after (below_new w _) (below_drawn _ 2)
  have hg0 : ((w.alloc (.cells cs 5)).drewN 2).heap[w.heap.size]? = some (.cells (ffs cs.toList 0).toArray 5 (0, 0)) := by
    show (w.heap.push _)[w.heap.size]? = _
    simp [ffs]
  have HG : Hid (((w.alloc (.cells cs 5)).drewN 2).heap[w.heap.size]? = some (.cells (ffs cs.toList 0).toArray 5 (0, 0))) := hg0
  clear hg0
  have hlen : cs.toList.length = m := by simp [hm]
  have hcb : ((w.alloc (.cells cs 5)).drewN 2).cell? ⟨b, off, none⟩ = some (.int .u8 255) := by
    rw [hbel.cell (p := ⟨b, off, none⟩) (World.block_lt_of_cell? w _ hc)]; exact hc
  have HN1 : Hid (([.int .u8 255] : List Value).length = Nat.min 1 n) := by show 1 = Nat.min 1 n; rw [show Nat.min 1 n = min 1 n from rfl]; omega
  have HF : Hid (0 + ([.int .u8 255] : List Value).length ≤ (ffs cs.toList 0).length) := by show 0 + 1 ≤ _; rw [ffs_len _ _ (by omega)]; omega
  go_enter Try.func74, Try.ntmps74
  go_wp2_with (first
    | (go_at_call 85; refine (hmul2 _).mono ?_; rintro e w' ⟨rfl, rfl⟩)
    | (refine wpList_copy_splice rfl (.tmp 58) (.tmp 59) 35 35 rfl 5 Try.underlying35 size8 _ _ _ _ _ _ rfl rfl w.heap.size 0 _ 5 HG.out [.int .u8 255] HN1.out (rep_pos hcb) HF.out (one_ff 1) w.heap.size w hbel (Nat.le_refl _) ?_; intro w2 hg2 hb2))
  have HG1 : Hid (w2.heap[w.heap.size]? = some (.cells (ffs cs.toList 1).toArray 5 (0, 0))) := by
    have := hg2.out
    rw [show ([.int .u8 255] : List Value) = List.replicate 1 (Value.int .u8 255) from rfl, ffs_splice] at this
    exact this
  clear hg2 HF HN1 HG hcb hbel hcall hmul2
  go_loopg [10, 11] (n - 1) (fun gm i _ wr => ∃ k : Nat, 1 ≤ k ∧ k ≤ n ∧ gm = n - k ∧ i = .int .i64 k ∧ Hid (wr.heap[w.heap.size]? = some (.cells (ffs cs.toList k).toArray 5 (0, 0))) ∧ Below w.heap.size w wr)
  case atStart => exact ⟨1, by omega, by omega, rfl, rfl, HG1, hb2⟩
  case round =>
    obtain ⟨k, hk1, hk, rfl, rfl, hg, hb⟩ := hrel
    by_cases hlt : k < n
    · obtain ⟨q, hq⟩ : ∃ q, q = min k (n - k) := ⟨_, rfl⟩
      have HL : Hid ((List.replicate q (Value.int .u8 255)).length = Nat.min k (n - k)) := by show _ = min k (n - k); rw [List.length_replicate]; exact hq
      have HF : Hid (k + (List.replicate q (Value.int .u8 255)).length ≤ (ffs cs.toList k).length) := by show _ ≤ _; rw [ffs_len _ _ (by omega), List.length_replicate]; omega
      have hne : ¬ n = k := by omega
      have hmin : min (k : Int) (n : Int) = k := by omega
      have hqk : q ≤ k := by omega
      have hqn : k + q ≤ n := by omega
      have hq1 : 1 ≤ q := by omega
      have hw : IntKind.i64.wrap ((k : Int) + (q : Int)) = ((k + q : Nat) : Int) := by rw [IntKind.wrap_i64]; omega
      clear hq
      go_wp2
      go_region_law (refine step_copy_splice rfl (.tmp 70) (.tmp 73) 35 35 rfl 5 Try.underlying35 size8 (some ⟨w.heap.size, k, none⟩) (some ⟨w.heap.size, 0, none⟩) (n - k) (n - k) k n (by simp [Act.eval, Act.put]) (by simp [Act.eval, Act.put]) w.heap.size k _ 5 hg.out (List.replicate q (Value.int .u8 255)) HL.out (rep_pos2 hg.out hqk) HF.out (one_ff q) w.heap.size w hb.drew (Nat.le_refl _) ?_; intro w4 hg4 hb4)
      all_goals go_wp2
      go_roundg (n - (k + q))
      case measure => omega
      case rel =>
        exact ⟨k + q, by omega, by omega, rfl, by simp, by have := hg4.out; rw [ffs_splice] at this; exact this, hb4⟩
    · go_wp2
      go_ret
      have e : k = n := by omega
      subst e
      exact ⟨rfl, ⟨cs.toList.drop k, hg.out⟩, hb⟩

/-- What is read of a page: its bytes; nothing, if it is unreadable. -/
def Pg.bytes (p : Pg) (n : Nat) : List Nat := if p.st = 0 then List.replicate n 255 else if p.st = 1 then p.data ++ List.replicate (n - p.data.length) 255 else []
def Pg.err (p : Pg) : Int := if p.st = 0 then 0 else if p.st = 1 then 0 else 5
/-- A row of bytes that one copied over its beginning. -/
theorem Row.setCells {g : Nat} {t : TypeId} : ∀ (vs : List Value) (o : Nat) (W : World) (cs : List Value), Row W g cs t → o + vs.length ≤ cs.length → Row (W.setCells g o vs) g (splice cs o vs) t
  | [], o, W, cs, h, hl => by simpa [splice, World.setCells] using h
  | v :: vs, o, W, cs, h, hl => by
    simp only [List.length_cons] at hl
    have h1 := h.set (i := o) v (by omega)
    have h2 := Row.setCells vs (o + 1) _ _ h1 (by rw [List.length_set]; omega)
    have e : splice (cs.set o v) (o + 1) vs = splice cs o (v :: vs) := by
      unfold splice
      rw [List.take_succ_eq_append_getElem (by rw [List.length_set]; omega), List.take_set_of_le (Nat.le_refl _), List.drop_set_of_lt (by omega)]
      simp [List.getElem_set_self]
      congr 1
      omega
    rw [e] at h2
    exact h2
end Go.Proofs.Ytiejkbncpbhcdaa
