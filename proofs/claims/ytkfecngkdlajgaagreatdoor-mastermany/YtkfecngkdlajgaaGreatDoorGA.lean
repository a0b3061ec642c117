/-
  Plain mathematics for the statements on package bits: a number's bytes, the check sum's steps, lists. No word of the program.
  What the functions step, framed, Sum and Blank of package bits answer: they only read.
  Rows of bytes in memory: what a call owns, what it may read, and that both stay while others are made.
  What Put of package bits answers: a number's lowest bytes, in new memory.
  What Same answers: whether two lists of bytes are the same.
  What Get of package bits answers: the number that the first eight bytes make.
  The check sum's mathematics: its steps are linear over exclusive or, and one to one.
-/
import Derived.Test.YtkfecngkdlajgaaGreatDoorRows
import Derived.Laws.BitsAllLaws
import Derived.Laws.BitsLemmas
import Derived.Laws.Bits64
import Derived.WalkKit
import Derived.WalkSpells
import Derived.WalkLawsBesides
import Derived.Laws.BytesArg
namespace Go.Proofs.YtkfecngkdlajgaaGreatDoor.Hd.M

/-- One bit's step of the check sum. -/
def bit1 (n : Nat) : Nat := if n % 2 = 1 then (n / 2) ^^^ 3988292384 else n / 2
def bitN : Nat → Nat → Nat
  | 0, n => n
  | k + 1, n => bit1 (bitN k n)
/-- One byte's step. -/
def step8 (n : Nat) : Nat := bitN 8 n
/-- The sum's register behind the bytes l. -/
def regL : Nat → List Nat → Nat
  | c, [] => c
  | c, x :: l => regL (step8 (c ^^^ x)) l
def sumL (l : List Nat) : Nat := 4294967295 - regL 4294967295 l

theorem bit1_lt {n : Nat} (h : n < 4294967296) : bit1 n < 4294967296 := by
  unfold bit1
  split
  · exact Nat.xor_lt_two_pow (n := 32) (by omega) (by decide)
  · omega
theorem bitN_lt {n : Nat} (k : Nat) (h : n < 4294967296) : bitN k n < 4294967296 := by
  induction k with
  | zero => exact h
  | succ k ih => exact bit1_lt ih
theorem step8_lt {n : Nat} (h : n < 4294967296) : step8 n < 4294967296 := bitN_lt 8 h
theorem xor_lt32 {a b : Nat} (ha : a < 4294967296) (hb : b < 4294967296) : a ^^^ b < 4294967296 := Nat.xor_lt_two_pow (n := 32) ha hb
theorem regL_lt : ∀ (l : List Nat) (c : Nat), c < 4294967296 → (∀ x ∈ l, x < 256) → regL c l < 4294967296
  | [], c, h, _ => h
  | x :: l, c, h, hl => regL_lt l _ (step8_lt (xor_lt32 h (by have := hl x (by simp); omega))) (fun y hy => hl y (by simp [hy]))
theorem regL_snoc : ∀ (l : List Nat) (c x : Nat), regL c (l ++ [x]) = step8 (regL c l ^^^ x)
  | [], _, _ => rfl
  | y :: l, c, x => regL_snoc l (step8 (c ^^^ y)) x
theorem sumL_lt (l : List Nat) : sumL l < 4294967296 := by unfold sumL; omega

/-- A number's lowest bytes, the lowest first. -/
def putL : Nat → Nat → List Nat
  | 0, _ => []
  | k + 1, n => n % 256 :: putL k (n / 256)
/-- The number that bytes make, the lowest first. -/
def getL : List Nat → Nat
  | [] => 0
  | x :: l => x + 256 * getL l
theorem putL_length : ∀ k n, (putL k n).length = k
  | 0, _ => rfl
  | k + 1, n => by simp [putL, putL_length k]
theorem putL_lt : ∀ k n, ∀ x ∈ putL k n, x < 256
  | 0, _, x, h => by simp [putL] at h
  | k + 1, n, x, h => by
    simp only [putL, List.mem_cons] at h
    rcases h with rfl | h
    · exact Nat.mod_lt _ (by decide)
    · exact putL_lt k _ x h
theorem getL_putL : ∀ k n, getL (putL k n) = n % 256 ^ k
  | 0, n => by simp [putL, getL, Nat.mod_one]
  | k + 1, n => by
    simp only [putL, getL, getL_putL k]
    rw [Nat.pow_succ, Nat.mul_comm (256 ^ k) 256, Nat.mod_mul]
theorem putL_succ_last : ∀ k n, putL (k + 1) n = putL k n ++ [n / 256 ^ k % 256]
  | 0, n => by simp [putL]
  | k + 1, n => by
    show n % 256 :: putL (k + 1) (n / 256) = _
    rw [putL_succ_last k (n / 256)]
    simp only [putL, List.cons_append, List.cons.injEq, true_and, List.append_cancel_left_eq]
    rw [Nat.div_div_eq_div_mul, Nat.pow_succ, Nat.mul_comm 256]
    exact ⟨rfl, trivial⟩
theorem getL_lt : ∀ l : List Nat, (∀ x ∈ l, x < 256) → getL l < 256 ^ l.length
  | [], _ => by simp [getL]
  | x :: l, h => by
    have h1 := getL_lt l (fun y hy => h y (by simp [hy]))
    have h2 := h x (by simp)
    simp only [getL, List.length_cons, Nat.pow_succ]
    omega
end Go.Proofs.YtkfecngkdlajgaaGreatDoor.Hd.M
namespace Go.Proofs.YtkfecngkdlajgaaGreatDoor.Hd
open Go.RowKit M

theorem ret_int {k : IntKind} {a b : Int} (h : a = b) : Ending.returned (.int k a) = .returned (.int k b) := by rw [h]
theorem ret_bool {a b : Bool} (h : a = b) : Ending.returned (.bool a) = .returned (.bool b) := by rw [h]
theorem u32_and1 (c : Nat) (h : c < 4294967296) : bits .and .u32 (c : Int) 1 = ((c % 2 : Nat) : Int) := by
  have := u32_and_nat c 1 h (by decide)
  rw [nat_mask1] at this
  exact this
theorem bit_yes {n : Nat} (h : n < 4294967296) (ht : (bits BinOp.and IntKind.u32 (n : Int) 1 == 1) = true) :
    bits BinOp.xor IntKind.u32 ((n : Int) / 2) 3988292384 = ((bit1 n : Nat) : Int) := by
  rw [u32_and1 n h] at ht
  have h1 : n % 2 = 1 := by have := eq_of_beq ht; omega
  have e : ((n : Int) / 2) = ((n / 2 : Nat) : Int) := by omega
  rw [e, show (3988292384 : Int) = ((3988292384 : Nat) : Int) from rfl, u32_xor_nat (n / 2) 3988292384 (by omega) (by decide)]
  simp [bit1, h1]
theorem bit_no {n : Nat} (h : n < 4294967296) (ht : (bits BinOp.and IntKind.u32 (n : Int) 1 == 1) = false) :
    (n : Int) / 2 = ((bit1 n : Nat) : Int) := by
  rw [u32_and1 n h] at ht
  have h1 : ¬ n % 2 = 1 := by intro e; rw [e] at ht; simp at ht
  simp [bit1, h1]

set_option maxHeartbeats 400000 in
theorem step_any (c : Nat) (hc : c < 4294967296) (w : World) :
    Calls Tryz.prog 187 #[.int .u32 c] w fun e w' => e = .returned (.int .u32 (step8 c : Nat)) ∧ w = w' := by
  go_enter Tryz.func187, Tryz.ntmps187
  go_wp2
  go_loop [0, 3] (fun s i => ∃ k : Nat, k ≤ 8 ∧ i = .int .i64 k ∧ s = .int .u32 (bitN k c : Nat)) (fun _ i => 8 - (intOf i).toNat)
  case atStart => exact ⟨0, by omega, rfl, rfl⟩
  case round =>
    obtain ⟨k, hk, rfl, rfl⟩ := hrel
    have hb := bitN_lt k hc
    by_cases hlt : k < 8
    · go_wp2
      · go_round
        case rel => exact ⟨k + 1, by omega, by go_num, by rw [bit_yes hb ‹_›]; rfl⟩
        case measure => simp [intOf]; omega
      · go_round
        case rel => exact ⟨k + 1, by omega, by go_num, by rw [bit_no hb ‹_›]; rfl⟩
        case measure => simp [intOf]; omega
    · go_wp2
      go_ret
      have : k = 8 := by omega
      subst this
      exact ⟨rfl, rfl⟩

theorem framed_any (n : Int) (w : World) :
    Calls Tryz.prog 144 #[.int .i64 n] w fun e w' => e = .returned (.bool (decide (1 ≤ n ∧ n ≤ 1024))) ∧ w = w' := by
  by_cases h1 : 1 ≤ n
  · go_enter Tryz.func144, Tryz.ntmps144
    go_wp2
    go_ret
    exact ⟨by simp [h1], rfl⟩
  · go_enter Tryz.func144, Tryz.ntmps144
    go_wp2
    go_ret
    exact ⟨by simp; omega, rfl⟩

/-- A slice's elements, as they lie: it is empty, or its address leads to the bytes l. -/
def BRow (w : World) (a : Option Addr) (l : List Nat) : Prop :=
  l = [] ∨ ∃ b off, a = some ⟨b, off, none⟩ ∧ ∀ i, i < l.length → w.cell? ⟨b, off + i, none⟩ = some (.int .u8 ((l.getD i 0 : Nat) : Int))

theorem take_succ_getD (l : List Nat) (k : Nat) (h : k < l.length) : l.take (k + 1) = l.take k ++ [l.getD k 0] := by
  rw [List.take_succ_eq_append_getElem h]
  simp [List.getD, h]

theorem nat_not32 (c : Nat) (h : c < 4294967296) : 4294967295 ^^^ c = 4294967295 - c := by
  have e : (4294967295 - c : Nat) = 2 ^ 32 - (c + 1) := by omega
  rw [e, show (4294967295 : Nat) = 2 ^ 32 - 1 from rfl]
  refine Nat.eq_of_testBit_eq fun i => ?_
  rw [Nat.testBit_xor, Nat.testBit_two_pow_sub_one, Nat.testBit_two_pow_sub_succ h]
  by_cases hi : i < 32
  · simp [hi]
  · have : c.testBit i = false := Nat.testBit_lt_two_pow (Nat.lt_of_lt_of_le h (show 2 ^ 32 ≤ 2 ^ i from Nat.pow_le_pow_right (by decide) (by omega)))
    simp [hi, this]
theorem not_u32 (c : Nat) (h : c < 4294967296) : bits BinOp.xor IntKind.u32 IntKind.u32.max (c : Int) = ((4294967295 - c : Nat) : Int) := by
  rw [show IntKind.u32.max = ((4294967295 : Nat) : Int) from rfl, u32_xor_nat 4294967295 c (by decide) h, nat_not32 c h]

set_option maxHeartbeats 400000 in
theorem sum_any (a : Option Addr) (cap : Nat) (l : List Nat) (w : World) (hl : l.length ≤ maxLen) (hb : ∀ x ∈ l, x < 256) (hr : BRow w a l) :
    Calls Tryz.prog 145 #[.slice a l.length cap] w fun e w' => e = .returned (.int .u32 (sumL l : Nat)) ∧ w = w' := by
  unfold maxLen at hl
  obtain ⟨n, hn⟩ : ∃ n, n = l.length := ⟨_, rfl⟩
  rw [← hn] at hl ⊢
  have HN : Hid (n = l.length) := hn
  clear hn
  have HB : Hid (∀ x ∈ l, x < 256) := hb
  have HR : Hid (BRow w a l) := hr
  clear hb hr
  go_enter Tryz.func145, Tryz.ntmps145
  go_wp2
  go_loop [3, 8] (fun s i => ∃ k : Nat, k ≤ n ∧ i = .int .i64 k ∧ s = .int .u32 (regL 4294967295 (l.take k) : Nat)) (fun _ i => n - (intOf i).toNat)
  case atStart => exact ⟨0, by omega, rfl, rfl⟩
  case round =>
    obtain ⟨k, hk, rfl, rfl⟩ := hrel
    have hreg : regL 4294967295 (l.take k) < 4294967296 := regL_lt _ _ (by decide) (fun x hx => HB.out x (List.mem_of_mem_take hx))
    by_cases hlt : k < n
    · obtain ⟨x, hx⟩ : ∃ x, x = l.getD k 0 := ⟨_, rfl⟩
      have hne : l ≠ [] := by intro e; have := HN.out; subst e; simp at this; omega
      obtain ⟨b, off, rfl, hcs⟩ : ∃ b off, a = some ⟨b, off, none⟩ ∧ ∀ i, i < l.length → w.cell? ⟨b, off + i, none⟩ = some (.int .u8 ((l.getD i 0 : Nat) : Int)) := by
        rcases HR.out with h | h
        · exact absurd h hne
        · exact h
      have hkl : k < l.length := by have := HN.out; omega
      have hcell := hcs k hkl
      rw [← hx] at hcell
      have hx256 : x < 256 := by rw [hx]; exact HB.out _ (by simp [List.getD, hkl])
      have HX : Hid (regL 4294967295 (l.take (k + 1)) = step8 (regL 4294967295 (l.take k) ^^^ x)) := by rw [take_succ_getD l k hkl, regL_snoc, hx]; exact rfl
      obtain ⟨c, hc⟩ : ∃ c, c = regL 4294967295 (l.take k) := ⟨_, rfl⟩
      rw [← hc] at HX hreg ⊢
      have hxor := u32_xor_nat c x hreg (by omega)
      have hlt2 := xor_lt32 hreg (show x < 4294967296 by omega)
      clear hx hcs hkl hne hc
      go_wp2_with (go_at_call 187; refine (step_any _ hlt2 _).mono ?_; rintro e w' ⟨rfl, rfl⟩)
      go_round
      case rel => exact ⟨k + 1, by omega, by go_num, by rw [HX.out]⟩
      case measure => simp [intOf]; omega
    · go_wp2
      go_ret
      have hkn : k = l.length := by have := HN.out; omega
      rw [not_u32 _ hreg, hkn, List.take_length]
      exact ⟨rfl, rfl⟩

theorem all_take_succ (l : List Nat) (k : Nat) (h : k < l.length) : (l.take (k + 1)).all (· == 255) = ((l.take k).all (· == 255) && (l.getD k 0 == 255)) := by
  rw [take_succ_getD l k h]
  simp
theorem all_false_of_take (l : List Nat) (k : Nat) (h : k < l.length) (h2 : l.getD k 0 ≠ 255) : l.all (· == 255) = false := by
  rw [List.all_eq_false]
  refine ⟨l.getD k 0, by simp [List.getD, h], by simpa using h2⟩

set_option maxHeartbeats 400000 in
theorem blank_any (a : Option Addr) (cap : Nat) (l : List Nat) (w : World) (hl : l.length ≤ maxLen) (hr : BRow w a l) :
    Calls Tryz.prog 141 #[.slice a l.length cap] w fun e w' => e = .returned (.bool (l.all (· == 255))) ∧ w = w' := by
  unfold maxLen at hl
  obtain ⟨n, hn⟩ : ∃ n, n = l.length := ⟨_, rfl⟩
  rw [← hn] at hl ⊢
  have HN : Hid (n = l.length) := hn
  clear hn
  have HR : Hid (BRow w a l) := hr
  clear hr
  obtain ⟨R, hR⟩ : ∃ R, R = l.all (· == 255) := ⟨_, rfl⟩
  rw [← hR]
  have HRR : Hid (R = l.all (· == 255)) := hR
  clear hR
  go_enter Tryz.func141, Tryz.ntmps141
  go_wp2
  go_loop [7] (fun i => ∃ k : Nat, k ≤ n ∧ i = .int .i64 k ∧ (l.take k).all (· == 255) = true) (fun i => n - (intOf i).toNat)
  case atStart => exact ⟨0, by omega, rfl, rfl⟩
  case round =>
    obtain ⟨k, hk, rfl, hall⟩ := hrel
    have HA : Hid ((l.take k).all (· == 255) = true) := hall
    clear hall
    by_cases hlt : k < n
    · obtain ⟨x, hx⟩ : ∃ x, x = l.getD k 0 := ⟨_, rfl⟩
      have hne : l ≠ [] := by intro e; have := HN.out; subst e; simp at this; omega
      obtain ⟨b, off, rfl, hcs⟩ : ∃ b off, a = some ⟨b, off, none⟩ ∧ ∀ i, i < l.length → w.cell? ⟨b, off + i, none⟩ = some (.int .u8 ((l.getD i 0 : Nat) : Int)) := by
        rcases HR.out with h | h
        · exact absurd h hne
        · exact h
      have hkl : k < l.length := by have := HN.out; omega
      have hcell := hcs k hkl
      rw [← hx] at hcell
      have HX : Hid (x = l.getD k 0) := hx
      clear hx hcs hkl hne
      go_wp2
      · go_ret
        have hx : ((x : Int) != 255) = true := by assumption
        have hkl : k < l.length := by have := HN.out; omega
        have hR : R = false := by
          rw [HRR.out]
          refine all_false_of_take l k hkl ?_
          rw [← HX.out]
          intro e
          subst e
          simp at hx
        subst hR
        exact ⟨rfl, rfl⟩
      · have hx : ((x : Int) != 255) = false := by assumption
        have hkl : k < l.length := by have := HN.out; omega
        have hx2 : x = 255 := by simp at hx; omega
        go_round
        case rel => exact ⟨k + 1, by omega, by go_num, by rw [all_take_succ l k hkl, HA.out, ← HX.out, hx2]; rfl⟩
        case measure => simp [intOf]; omega
    · go_wp2
      go_ret
      have hkn : k = l.length := by have := HN.out; omega
      have hR : R = true := by
        rw [HRR.out]
        have := HA.out
        rw [hkn, List.take_length] at this
        exact this
      subst hR
      exact ⟨rfl, rfl⟩
end Go.Proofs.YtkfecngkdlajgaaGreatDoor.Hd
namespace Go.Proofs.YtkfecngkdlajgaaGreatDoor.Hd
open Go.RowKit M

/-- The cell of a byte. -/
def u8v (x : Nat) : Value := .int .u8 (x : Int)

/-- The call that began in w has made the bytes l, in new memory: v leads to them. -/
def Own (w w' : World) (v : Value) (l : List Nat) : Prop :=
  w'.ownsRow w.heap.size 5 1 v l.length (l.map u8v) ∧ Below w.heap.size w w'

theorem BRow.later {w w' : World} {a : Option Addr} {l : List Nat} (h : BRow w a l) (hb : Below w.heap.size w w') : BRow w' a l := by
  rcases h with h | ⟨b, off, ha, hc⟩
  · exact .inl h
  · exact .inr ⟨b, off, ha, fun i hi => by
      have h1 := hc i hi
      have h2 := World.block_lt_of_cell? w _ h1
      rw [hb.cell (p := ⟨b, off + i, none⟩) h2]
      exact h1⟩

theorem owns_later {w w' : World} {base e size n : Nat} {v : Value} {xs : List Value} (h : w.ownsRow base e size v n xs) (hb : Below w.heap.size w w') : w'.ownsRow base e size v n xs := by
  refine ⟨h.1, ?_⟩
  rcases h.2 with hn | ⟨g, cap, cur, rfl, hbg, hgg, rest⟩
  · exact .inl hn
  · refine .inr ⟨g, cap, cur, rfl, hbg, ?_, rest⟩
    rw [hb.block g (Array.getElem?_eq_some_iff.1 hgg).1]
    exact hgg

/-- What is owned can be read. -/
theorem owns_row {w : World} {base : Nat} {v : Value} {l : List Nat} (h : w.ownsRow base 5 1 v l.length (l.map u8v)) :
    ∃ a cap, v = .slice a l.length cap ∧ BRow w a l ∧ l.length ≤ cap ∧ cap ≤ maxLen := by
  rcases h.2 with ⟨rfl, hn⟩ | ⟨g, cap, cur, rfl, hbg, hgg, hnc, hcm, hcs, htake⟩
  · have : l = [] := List.eq_nil_of_length_eq_zero hn
    subst this
    exact ⟨none, 0, rfl, .inl rfl, Nat.le_refl _, by decide⟩
  · refine ⟨_, cap, rfl, .inr ⟨g, 0, rfl, fun i hi => ?_⟩, hnc, hcm⟩
    have := h.cellAt i (by simpa using hi)
    simp only [Nat.zero_add]
    rw [this]
    simp [u8v, hi, List.getD]

theorem Below.after {w w1 w2 : World} (h : Below w.heap.size w w1) (h2 : Below w1.heap.size w1 w2) : Below w.heap.size w w2 :=
  h.trans (h2.mono h.size)

theorem Own.row {w w' : World} {v : Value} {l : List Nat} (h : Own w w' v l) : ∃ a cap, v = .slice a l.length cap ∧ BRow w' a l ∧ l.length ≤ cap ∧ cap ≤ maxLen := owns_row h.1

theorem info8 : (Tryz.prog.info? 5).map (fun i => (i.zero, i.size, i.bytes)) = some (some (.int .u8 0), 1, 1) := by kernel_rfl

/-- The bytes l of a row, cell by cell, as the laws on append and copy ask for them. -/
theorem BRow.cells {w : World} {b off : Nat} {l : List Nat} (hc : ∀ i, i < l.length → w.cell? ⟨b, off + i, none⟩ = some (.int .u8 ((l.getD i 0 : Nat) : Int))) :
    ∀ j u, (l.map u8v)[j]? = some u → w.cell? ((⟨b, off, none⟩ : Addr).add j) = some u := by
  intro j u hj
  have hjl : j < l.length := by
    have := (List.getElem?_eq_some_iff.1 hj).1
    simpa using this
  have := hc j hjl
  have hu : u = u8v (l.getD j 0) := by
    simp [hjl] at hj
    simp [← hj, List.getD, hjl]
  have e : (⟨b, off, none⟩ : Addr).add j = ⟨b, off + j, none⟩ := by unfold Addr.add; split <;> simp_all
  rw [e, this, hu]
  rfl
theorem u8v_one (l : List Nat) : ∀ u ∈ l.map u8v, u.oneCell' = true := by
  intro u hu
  simp only [List.mem_map] at hu
  obtain ⟨x, _, rfl⟩ := hu
  rfl
end Go.Proofs.YtkfecngkdlajgaaGreatDoor.Hd
namespace Go.Proofs.YtkfecngkdlajgaaGreatDoor.Hd
open Go.RowKit M

/-- How many bytes Put makes. -/
def putN (bytes : Int) : Nat := (min (max bytes 0) 8).toNat

/-- Put's row behind k rounds: k bytes are written, the rest is 0. -/
def putRow (m n k : Nat) : List Nat := putL k n ++ List.replicate (m - k) 0
theorem putRow_length (m n k : Nat) (h : k ≤ m) : (putRow m n k).length = m := by simp [putRow, putL_length]; omega
theorem putRow_set (m n k : Nat) (h : k < m) : ((putRow m n k).map u8v).set k (u8v (n / 256 ^ k % 256)) = (putRow m n (k + 1)).map u8v := by
  obtain ⟨j, hj⟩ : ∃ j, m - k = j + 1 := ⟨m - k - 1, by omega⟩
  have hj2 : m - (k + 1) = j := by omega
  unfold putRow
  rw [hj, hj2, putL_succ_last, List.replicate_succ, List.map_append, List.set_append_right _ _ (by simp [putL_length])]
  simp [putL_length]
theorem putRow_zero (m n : Nat) : (madeCells #[Value.int IntKind.u8 0] m).toList = (putRow m n 0).map u8v := by
  rw [toList_madeCells_one]
  simp [putRow, putL, u8v]

theorem put_next {n k q : Nat} (h : q = n / 256 ^ k) : Value.int IntKind.u64 ((q : Int) / 256) = Value.int IntKind.u64 ((n / 256 ^ (k + 1) : Nat) : Int) := by
  rw [Nat.pow_succ, ← Nat.div_div_eq_div_mul, ← h]
  rfl
theorem put_stored {w : World} {base g m n k q : Nat} (hk : k < m) (h : q = n / 256 ^ k)
    (ho : w.ownsRow base 5 1 (.slice (some ⟨g, 0, none⟩) m m) m ((putRow m n k).map u8v)) :
    (w.setCell ⟨g, k, none⟩ (Value.int IntKind.u8 ((q : Int) % 256))).ownsRow base 5 1 (.slice (some ⟨g, 0, none⟩) m m) m ((putRow m n (k + 1)).map u8v) := by
  have := (ho.stored k (u8v (n / 256 ^ k % 256))).1
  rw [putRow_set m n k hk] at this
  have e : Value.int IntKind.u8 ((q : Int) % 256) = u8v (n / 256 ^ k % 256) := by
    rw [← h]
    rfl
  rw [e]
  exact this
theorem put_end {w : World} {base g m n : Nat}
    (ho : w.ownsRow base 5 1 (.slice (some ⟨g, 0, none⟩) m m) m ((putRow m n m).map u8v)) :
    w.ownsRow base 5 1 (.slice (some ⟨g, 0, none⟩) m m) (putL m n).length ((putL m n).map u8v) := by
  have e : putRow m n m = putL m n := by simp [putRow]
  rw [e] at ho
  rw [putL_length]
  exact ho

set_option maxRecDepth 10000 in
set_option maxHeartbeats 1000000 in
theorem put_any (n : Nat) (hn : n < 18446744073709551616) (bytes : Int) (m : Nat) (hm : putN bytes = m) (w : World) :
    Calls Tryz.prog 37 #[.int .u64 n, .int .i64 bytes] w fun e w' => e = .returned (.slice (some ⟨w.heap.size, 0, none⟩) m m) ∧ Own w w' (.slice (some ⟨w.heap.size, 0, none⟩) m m) (putL m n) := by
  have hmm : (bytes < 0 ∧ m = 0) ∨ (0 ≤ bytes ∧ bytes ≤ 8 ∧ bytes = (m : Int)) ∨ (8 < bytes ∧ m = 8) := by unfold putN at hm; omega
  have hm8 : m ≤ 8 := by unfold putN at hm; omega
  have hmL : m ≤ maxLen := by unfold maxLen; omega
  clear hm
  obtain ⟨i0, hi, hz0, hz1, hz2⟩ := info_parts info8
  have HM : Hid (i0.bytes * m ≤ 281474976710656) := by show _ ≤ _; rw [hz2]; omega
  go_enter Tryz.func37, Tryz.ntmps37
  go_wp2_with (at_make; refine wpList_make_full _ rfl _ _ 56 rfl w.heap.size 5 i0 (.int .u8 0) 1 Tryz.underlying56 hi hz0 hz1 _ _ _ _ m rfl rfl (by (repeat' split) <;> omega) (by (repeat' split) <;> omega) HM.out hmL (Nat.le_refl _) ?_; intro w1 hown hgrow)
  all_goals
    have hown1 : w1.ownsRow w.heap.size 5 1 (.slice (some ⟨w.heap.size, 0, none⟩) m m) m ((putRow m n 0).map u8v) := by
      have := hown
      simp only [Value.cells, Nat.mul_one] at this
      rw [← putRow_zero]
      exact this
    have hbel : Below w.heap.size w w1 := (Below.refl _ _).grown hgrow (Nat.le_refl _) (fun k hk => by cases hk)
    clear hown hgrow hmm HM
    go_wp2
    go_loopw [0, 13] (fun s i wr => ∃ k : Nat, k ≤ m ∧ i = .int .i64 k ∧ s = .int .u64 (n / 256 ^ k : Nat) ∧ wr.ownsRow w.heap.size 5 1 (.slice (some ⟨w.heap.size, 0, none⟩) m m) m ((putRow m n k).map u8v) ∧ Below w.heap.size w wr) (fun _ i _ => m - (intOf i).toNat)
    case atStart => exact ⟨0, by omega, rfl, by simp, hown1, hbel⟩
    case round =>
      obtain ⟨k, hk, rfl, rfl, hown, hb⟩ := hrel
      obtain ⟨q, hq⟩ : ∃ q, q = n / 256 ^ k := ⟨_, rfl⟩
      have hqn : q < 18446744073709551616 := by rw [hq]; exact Nat.lt_of_le_of_lt (Nat.div_le_self _ _) hn
      have HQ : Hid (q = n / 256 ^ k) := hq
      rw [← hq]
      clear hq
      by_cases hlt : k < m
      · have hcell : ∃ v0, wr.cell? ⟨w.heap.size, k, none⟩ = some v0 := by
          rw [hown.cellAt k (by omega)]
          exact ⟨_, List.getElem?_eq_getElem (by simp [putRow_length m n k hk]; omega)⟩
        obtain ⟨v0, hcell⟩ := hcell
        have hfr := hown.frozenAt k
        have HO : Hid (wr.ownsRow w.heap.size 5 1 (.slice (some ⟨w.heap.size, 0, none⟩) m m) m ((putRow m n k).map u8v)) := hown
        clear hown
        go_wp2
        go_roundw
        case rel => exact ⟨k + 1, by omega, by go_num, put_next HQ.out, put_stored hlt HQ.out HO.out, hb.setCell (Nat.le_refl _) _⟩
        case measure => simp [intOf]; omega
      · go_wp2
        go_ret
        have hkm : k = m := by omega
        subst hkm
        exact ⟨rfl, put_end hown, hb⟩
end Go.Proofs.YtkfecngkdlajgaaGreatDoor.Hd
namespace Go.Proofs.YtkfecngkdlajgaaGreatDoor.Hd
open Go.RowKit M

/-- The string of bytes. -/
def bstr (l : List Nat) : ByteArray := strOfNums (l.map fun x : Nat => (x : Int))
theorem bstr_inj {l m : List Nat} (hl : ∀ x ∈ l, x < 256) (hm : ∀ x ∈ m, x < 256) : (bstr l).data.toList = (bstr m).data.toList ↔ l = m := by
  constructor
  · intro h
    unfold bstr at h
    rw [strOfNums_data, strOfNums_data, List.map_map, List.map_map] at h
    have key : ∀ (a b : List Nat), (∀ x ∈ a, x < 256) → (∀ x ∈ b, x < 256) → a.map ((fun n : Int => UInt8.ofNat n.toNat) ∘ fun x : Nat => (x : Int)) = b.map ((fun n : Int => UInt8.ofNat n.toNat) ∘ fun x : Nat => (x : Int)) → a = b := by
      intro a
      induction a with
      | nil => intro b _ _ h; cases b with
        | nil => rfl
        | cons y b => simp at h
      | cons x a ih =>
        intro b ha hb h
        cases b with
        | nil => simp at h
        | cons y b =>
          simp only [List.map_cons, List.cons.injEq, Function.comp_apply, Int.toNat_natCast] at h
          have hx := ha x (by simp)
          have hy := hb y (by simp)
          have e : x = y := by
            have := congrArg UInt8.toNat h.1
            simpa [Nat.mod_eq_of_lt hx, Nat.mod_eq_of_lt hy] using this
          rw [e, ih b (fun z hz => ha z (by simp [hz])) (fun z hz => hb z (by simp [hz])) h.2]
    exact key l m hl hm h
  · rintro rfl; rfl

theorem bstr_eq {l m : List Nat} (hl : ∀ x ∈ l, x < 256) (hm : ∀ x ∈ m, x < 256) : ((bstr l).toList == (bstr m).toList) = decide (l = m) := by
  rw [Bool.eq_iff_iff, beq_iff_eq, decide_eq_true_iff, ByteArray.toList_eq, ByteArray.toList_eq]
  exact bstr_inj hl hm

theorem conv_row {w : World} {a : Option Addr} {l : List Nat} (cap : Nat) (hr : BRow w a l) :
    (convert 56 9 (.slice a l.length cap)).run Tryz.prog w = .ok (.string (bstr l)) w := by
  rcases hr with rfl | ⟨b, off, rfl, hc⟩
  · rw [run_convert_bytes_string w 56 9 5 a _ cap Tryz.underlying56 Tryz.underlying5 Tryz.underlying9]
    cases a with
    | none => simp [Conv.bytesToString, bstr, strOfNums]; rfl
    | some a => 
      rw [List.length_nil, run_bytesToString w a 0 cap [] (by simp [loadCells, loadCellsFrom])]
      rfl
  · refine run_convert_bytes_arg w 56 5 Tryz.underlying56 Tryz.underlying5 b off l.length cap (l.map fun x : Nat => (x : Int)) (by simp) (fun i hi => ?_) 9 Tryz.underlying9
    rw [hc i hi]
    simp [List.getD, hi]

end Go.Proofs.YtkfecngkdlajgaaGreatDoor.Hd
namespace Go.Proofs.YtkfecngkdlajgaaGreatDoor.Hd
open Go.RowKit M


/-- A number that 256·p divides, joined with a byte's p-fold. -/
theorem or_join (A x p B : Nat) (hp : A % (256 * p) = 0) (hx : x < 256) (hB : B = A + x * p) (h : B < 18446744073709551616) (hk : ∃ k, p = 2 ^ k) :
    bits BinOp.or IntKind.u64 (A : Int) ((x : Int) * (p : Int)) = (B : Int) := by
  obtain ⟨k, rfl⟩ := hk
  have h2 : x * 2 ^ k < 2 ^ (8 + k) := by rw [Nat.pow_add]; exact (Nat.mul_lt_mul_right (Nat.two_pow_pos k)).2 hx
  have h3 : A % 2 ^ (8 + k) = 0 := by rw [Nat.pow_add]; exact hp
  have := u64_or_nat A (x * 2 ^ k) (by omega) (by omega)
  rw [nat_join (8 + k) A (x * 2 ^ k) h3 h2] at this
  rw [hB, ← this]
  simp
theorem or_join0 (A x B : Nat) (hp : A % 256 = 0) (hx : x < 256) (hB : B = A + x) (h : B < 18446744073709551616) :
    bits BinOp.or IntKind.u64 (A : Int) (x : Int) = (B : Int) := by
  have := or_join A x 1 B (by simpa using hp) hx (by omega) h ⟨0, rfl⟩
  simpa using this

set_option maxHeartbeats 400000 in
theorem get_0 (a : Option Addr) (cap : Nat) (w : World) :
    Calls Tryz.prog 101 #[.slice a 0 cap] w fun e w' => e = .returned (.int .u64 0) ∧ w = w' := by
  go_enter Tryz.func101, Tryz.ntmps101
  go_wp2
  go_ret
  exact ⟨rfl, rfl⟩

set_option maxHeartbeats 1000000 in
theorem get_1 (b off cap : Nat) (x0 : Nat) (w : World) (h0 : w.cell? ⟨b, off, none⟩ = some (.int .u8 (x0 : Int))) (b0 : x0 < 256) :
    Calls Tryz.prog 101 #[.slice (some ⟨b, off, none⟩) 1 cap] w fun e w' => e = .returned (.int .u64 (getL [x0] : Nat)) ∧ w = w' := by
  obtain ⟨A0, hA0⟩ : ∃ A : Nat, A = x0 * 1 := ⟨_, rfl⟩
  have e0 : bits BinOp.or IntKind.u64 0 (x0 : Int) = (A0 : Int) := or_join0 0 x0 A0 (by omega) (by omega) (by omega) (by omega)
  have HA : Hid (A0 = x0 * 1) := hA0
  clear hA0
  go_enter Tryz.func101, Tryz.ntmps101
  go_wp2
  all_goals go_ret
  all_goals have hE : (A0 : Int) = ((getL [x0] : Nat) : Int) := by have := HA.out; simp only [getL]; omega
  all_goals exact ⟨ret_int hE, rfl⟩

set_option maxHeartbeats 1000000 in
theorem get_2 (b off cap : Nat) (x0 x1 : Nat) (w : World) (h0 : w.cell? ⟨b, off, none⟩ = some (.int .u8 (x0 : Int))) (h1 : w.cell? ⟨b, off + 1, none⟩ = some (.int .u8 (x1 : Int))) (b0 : x0 < 256) (b1 : x1 < 256) :
    Calls Tryz.prog 101 #[.slice (some ⟨b, off, none⟩) 2 cap] w fun e w' => e = .returned (.int .u64 (getL [x0, x1] : Nat)) ∧ w = w' := by
  obtain ⟨A1, hA1⟩ : ∃ A : Nat, A = x1 * 256 := ⟨_, rfl⟩
  have e1 : bits BinOp.or IntKind.u64 0 ((x1 : Int) * 256) = (A1 : Int) := or_join 0 x1 256 A1 (by omega) (by omega) (by omega) (by omega) ⟨8, rfl⟩
  obtain ⟨A0, hA0⟩ : ∃ A : Nat, A = x1 * 256 + x0 * 1 := ⟨_, rfl⟩
  have e0 : bits BinOp.or IntKind.u64 (A1 : Int) (x0 : Int) = (A0 : Int) := or_join0 A1 x0 A0 (by omega) (by omega) (by omega) (by omega)
  have HA : Hid (A0 = x1 * 256 + x0 * 1) := hA0
  clear hA0 hA1
  go_enter Tryz.func101, Tryz.ntmps101
  go_wp2
  all_goals go_ret
  all_goals have hE : (A0 : Int) = ((getL [x0, x1] : Nat) : Int) := by have := HA.out; simp only [getL]; omega
  all_goals exact ⟨ret_int hE, rfl⟩

set_option maxHeartbeats 1000000 in
theorem get_3 (b off cap : Nat) (x0 x1 x2 : Nat) (w : World) (h0 : w.cell? ⟨b, off, none⟩ = some (.int .u8 (x0 : Int))) (h1 : w.cell? ⟨b, off + 1, none⟩ = some (.int .u8 (x1 : Int))) (h2 : w.cell? ⟨b, off + 2, none⟩ = some (.int .u8 (x2 : Int))) (b0 : x0 < 256) (b1 : x1 < 256) (b2 : x2 < 256) :
    Calls Tryz.prog 101 #[.slice (some ⟨b, off, none⟩) 3 cap] w fun e w' => e = .returned (.int .u64 (getL [x0, x1, x2] : Nat)) ∧ w = w' := by
  obtain ⟨A2, hA2⟩ : ∃ A : Nat, A = x2 * 65536 := ⟨_, rfl⟩
  have e2 : bits BinOp.or IntKind.u64 0 ((x2 : Int) * 65536) = (A2 : Int) := or_join 0 x2 65536 A2 (by omega) (by omega) (by omega) (by omega) ⟨16, rfl⟩
  obtain ⟨A1, hA1⟩ : ∃ A : Nat, A = x2 * 65536 + x1 * 256 := ⟨_, rfl⟩
  have e1 : bits BinOp.or IntKind.u64 (A2 : Int) ((x1 : Int) * 256) = (A1 : Int) := or_join A2 x1 256 A1 (by omega) (by omega) (by omega) (by omega) ⟨8, rfl⟩
  obtain ⟨A0, hA0⟩ : ∃ A : Nat, A = x2 * 65536 + x1 * 256 + x0 * 1 := ⟨_, rfl⟩
  have e0 : bits BinOp.or IntKind.u64 (A1 : Int) (x0 : Int) = (A0 : Int) := or_join0 A1 x0 A0 (by omega) (by omega) (by omega) (by omega)
  have HA : Hid (A0 = x2 * 65536 + x1 * 256 + x0 * 1) := hA0
  clear hA0 hA1 hA2
  go_enter Tryz.func101, Tryz.ntmps101
  go_wp2
  all_goals go_ret
  all_goals have hE : (A0 : Int) = ((getL [x0, x1, x2] : Nat) : Int) := by have := HA.out; simp only [getL]; omega
  all_goals exact ⟨ret_int hE, rfl⟩

set_option maxHeartbeats 1000000 in
theorem get_4 (b off cap : Nat) (x0 x1 x2 x3 : Nat) (w : World) (h0 : w.cell? ⟨b, off, none⟩ = some (.int .u8 (x0 : Int))) (h1 : w.cell? ⟨b, off + 1, none⟩ = some (.int .u8 (x1 : Int))) (h2 : w.cell? ⟨b, off + 2, none⟩ = some (.int .u8 (x2 : Int))) (h3 : w.cell? ⟨b, off + 3, none⟩ = some (.int .u8 (x3 : Int))) (b0 : x0 < 256) (b1 : x1 < 256) (b2 : x2 < 256) (b3 : x3 < 256) :
    Calls Tryz.prog 101 #[.slice (some ⟨b, off, none⟩) 4 cap] w fun e w' => e = .returned (.int .u64 (getL [x0, x1, x2, x3] : Nat)) ∧ w = w' := by
  obtain ⟨A3, hA3⟩ : ∃ A : Nat, A = x3 * 16777216 := ⟨_, rfl⟩
  have e3 : bits BinOp.or IntKind.u64 0 ((x3 : Int) * 16777216) = (A3 : Int) := or_join 0 x3 16777216 A3 (by omega) (by omega) (by omega) (by omega) ⟨24, rfl⟩
  obtain ⟨A2, hA2⟩ : ∃ A : Nat, A = x3 * 16777216 + x2 * 65536 := ⟨_, rfl⟩
  have e2 : bits BinOp.or IntKind.u64 (A3 : Int) ((x2 : Int) * 65536) = (A2 : Int) := or_join A3 x2 65536 A2 (by omega) (by omega) (by omega) (by omega) ⟨16, rfl⟩
  obtain ⟨A1, hA1⟩ : ∃ A : Nat, A = x3 * 16777216 + x2 * 65536 + x1 * 256 := ⟨_, rfl⟩
  have e1 : bits BinOp.or IntKind.u64 (A2 : Int) ((x1 : Int) * 256) = (A1 : Int) := or_join A2 x1 256 A1 (by omega) (by omega) (by omega) (by omega) ⟨8, rfl⟩
  obtain ⟨A0, hA0⟩ : ∃ A : Nat, A = x3 * 16777216 + x2 * 65536 + x1 * 256 + x0 * 1 := ⟨_, rfl⟩
  have e0 : bits BinOp.or IntKind.u64 (A1 : Int) (x0 : Int) = (A0 : Int) := or_join0 A1 x0 A0 (by omega) (by omega) (by omega) (by omega)
  have HA : Hid (A0 = x3 * 16777216 + x2 * 65536 + x1 * 256 + x0 * 1) := hA0
  clear hA0 hA1 hA2 hA3
  go_enter Tryz.func101, Tryz.ntmps101
  go_wp2
  all_goals go_ret
  all_goals have hE : (A0 : Int) = ((getL [x0, x1, x2, x3] : Nat) : Int) := by have := HA.out; simp only [getL]; omega
  all_goals exact ⟨ret_int hE, rfl⟩

set_option maxHeartbeats 1000000 in
theorem get_5 (b off cap : Nat) (x0 x1 x2 x3 x4 : Nat) (w : World) (h0 : w.cell? ⟨b, off, none⟩ = some (.int .u8 (x0 : Int))) (h1 : w.cell? ⟨b, off + 1, none⟩ = some (.int .u8 (x1 : Int))) (h2 : w.cell? ⟨b, off + 2, none⟩ = some (.int .u8 (x2 : Int))) (h3 : w.cell? ⟨b, off + 3, none⟩ = some (.int .u8 (x3 : Int))) (h4 : w.cell? ⟨b, off + 4, none⟩ = some (.int .u8 (x4 : Int))) (b0 : x0 < 256) (b1 : x1 < 256) (b2 : x2 < 256) (b3 : x3 < 256) (b4 : x4 < 256) :
    Calls Tryz.prog 101 #[.slice (some ⟨b, off, none⟩) 5 cap] w fun e w' => e = .returned (.int .u64 (getL [x0, x1, x2, x3, x4] : Nat)) ∧ w = w' := by
  obtain ⟨A4, hA4⟩ : ∃ A : Nat, A = x4 * 4294967296 := ⟨_, rfl⟩
  have e4 : bits BinOp.or IntKind.u64 0 ((x4 : Int) * 4294967296) = (A4 : Int) := or_join 0 x4 4294967296 A4 (by omega) (by omega) (by omega) (by omega) ⟨32, rfl⟩
  obtain ⟨A3, hA3⟩ : ∃ A : Nat, A = x4 * 4294967296 + x3 * 16777216 := ⟨_, rfl⟩
  have e3 : bits BinOp.or IntKind.u64 (A4 : Int) ((x3 : Int) * 16777216) = (A3 : Int) := or_join A4 x3 16777216 A3 (by omega) (by omega) (by omega) (by omega) ⟨24, rfl⟩
  obtain ⟨A2, hA2⟩ : ∃ A : Nat, A = x4 * 4294967296 + x3 * 16777216 + x2 * 65536 := ⟨_, rfl⟩
  have e2 : bits BinOp.or IntKind.u64 (A3 : Int) ((x2 : Int) * 65536) = (A2 : Int) := or_join A3 x2 65536 A2 (by omega) (by omega) (by omega) (by omega) ⟨16, rfl⟩
  obtain ⟨A1, hA1⟩ : ∃ A : Nat, A = x4 * 4294967296 + x3 * 16777216 + x2 * 65536 + x1 * 256 := ⟨_, rfl⟩
  have e1 : bits BinOp.or IntKind.u64 (A2 : Int) ((x1 : Int) * 256) = (A1 : Int) := or_join A2 x1 256 A1 (by omega) (by omega) (by omega) (by omega) ⟨8, rfl⟩
  obtain ⟨A0, hA0⟩ : ∃ A : Nat, A = x4 * 4294967296 + x3 * 16777216 + x2 * 65536 + x1 * 256 + x0 * 1 := ⟨_, rfl⟩
  have e0 : bits BinOp.or IntKind.u64 (A1 : Int) (x0 : Int) = (A0 : Int) := or_join0 A1 x0 A0 (by omega) (by omega) (by omega) (by omega)
  have HA : Hid (A0 = x4 * 4294967296 + x3 * 16777216 + x2 * 65536 + x1 * 256 + x0 * 1) := hA0
  clear hA0 hA1 hA2 hA3 hA4
  go_enter Tryz.func101, Tryz.ntmps101
  go_wp2
  all_goals go_ret
  all_goals have hE : (A0 : Int) = ((getL [x0, x1, x2, x3, x4] : Nat) : Int) := by have := HA.out; simp only [getL]; omega
  all_goals exact ⟨ret_int hE, rfl⟩

set_option maxHeartbeats 1000000 in
theorem get_6 (b off cap : Nat) (x0 x1 x2 x3 x4 x5 : Nat) (w : World) (h0 : w.cell? ⟨b, off, none⟩ = some (.int .u8 (x0 : Int))) (h1 : w.cell? ⟨b, off + 1, none⟩ = some (.int .u8 (x1 : Int))) (h2 : w.cell? ⟨b, off + 2, none⟩ = some (.int .u8 (x2 : Int))) (h3 : w.cell? ⟨b, off + 3, none⟩ = some (.int .u8 (x3 : Int))) (h4 : w.cell? ⟨b, off + 4, none⟩ = some (.int .u8 (x4 : Int))) (h5 : w.cell? ⟨b, off + 5, none⟩ = some (.int .u8 (x5 : Int))) (b0 : x0 < 256) (b1 : x1 < 256) (b2 : x2 < 256) (b3 : x3 < 256) (b4 : x4 < 256) (b5 : x5 < 256) :
    Calls Tryz.prog 101 #[.slice (some ⟨b, off, none⟩) 6 cap] w fun e w' => e = .returned (.int .u64 (getL [x0, x1, x2, x3, x4, x5] : Nat)) ∧ w = w' := by
  obtain ⟨A5, hA5⟩ : ∃ A : Nat, A = x5 * 1099511627776 := ⟨_, rfl⟩
  have e5 : bits BinOp.or IntKind.u64 0 ((x5 : Int) * 1099511627776) = (A5 : Int) := or_join 0 x5 1099511627776 A5 (by omega) (by omega) (by omega) (by omega) ⟨40, rfl⟩
  obtain ⟨A4, hA4⟩ : ∃ A : Nat, A = x5 * 1099511627776 + x4 * 4294967296 := ⟨_, rfl⟩
  have e4 : bits BinOp.or IntKind.u64 (A5 : Int) ((x4 : Int) * 4294967296) = (A4 : Int) := or_join A5 x4 4294967296 A4 (by omega) (by omega) (by omega) (by omega) ⟨32, rfl⟩
  obtain ⟨A3, hA3⟩ : ∃ A : Nat, A = x5 * 1099511627776 + x4 * 4294967296 + x3 * 16777216 := ⟨_, rfl⟩
  have e3 : bits BinOp.or IntKind.u64 (A4 : Int) ((x3 : Int) * 16777216) = (A3 : Int) := or_join A4 x3 16777216 A3 (by omega) (by omega) (by omega) (by omega) ⟨24, rfl⟩
  obtain ⟨A2, hA2⟩ : ∃ A : Nat, A = x5 * 1099511627776 + x4 * 4294967296 + x3 * 16777216 + x2 * 65536 := ⟨_, rfl⟩
  have e2 : bits BinOp.or IntKind.u64 (A3 : Int) ((x2 : Int) * 65536) = (A2 : Int) := or_join A3 x2 65536 A2 (by omega) (by omega) (by omega) (by omega) ⟨16, rfl⟩
  obtain ⟨A1, hA1⟩ : ∃ A : Nat, A = x5 * 1099511627776 + x4 * 4294967296 + x3 * 16777216 + x2 * 65536 + x1 * 256 := ⟨_, rfl⟩
  have e1 : bits BinOp.or IntKind.u64 (A2 : Int) ((x1 : Int) * 256) = (A1 : Int) := or_join A2 x1 256 A1 (by omega) (by omega) (by omega) (by omega) ⟨8, rfl⟩
  obtain ⟨A0, hA0⟩ : ∃ A : Nat, A = x5 * 1099511627776 + x4 * 4294967296 + x3 * 16777216 + x2 * 65536 + x1 * 256 + x0 * 1 := ⟨_, rfl⟩
  have e0 : bits BinOp.or IntKind.u64 (A1 : Int) (x0 : Int) = (A0 : Int) := or_join0 A1 x0 A0 (by omega) (by omega) (by omega) (by omega)
  have HA : Hid (A0 = x5 * 1099511627776 + x4 * 4294967296 + x3 * 16777216 + x2 * 65536 + x1 * 256 + x0 * 1) := hA0
  clear hA0 hA1 hA2 hA3 hA4 hA5
  go_enter Tryz.func101, Tryz.ntmps101
  go_wp2
  all_goals go_ret
  all_goals have hE : (A0 : Int) = ((getL [x0, x1, x2, x3, x4, x5] : Nat) : Int) := by have := HA.out; simp only [getL]; omega
  all_goals exact ⟨ret_int hE, rfl⟩

set_option maxHeartbeats 1000000 in
theorem get_7 (b off cap : Nat) (x0 x1 x2 x3 x4 x5 x6 : Nat) (w : World) (h0 : w.cell? ⟨b, off, none⟩ = some (.int .u8 (x0 : Int))) (h1 : w.cell? ⟨b, off + 1, none⟩ = some (.int .u8 (x1 : Int))) (h2 : w.cell? ⟨b, off + 2, none⟩ = some (.int .u8 (x2 : Int))) (h3 : w.cell? ⟨b, off + 3, none⟩ = some (.int .u8 (x3 : Int))) (h4 : w.cell? ⟨b, off + 4, none⟩ = some (.int .u8 (x4 : Int))) (h5 : w.cell? ⟨b, off + 5, none⟩ = some (.int .u8 (x5 : Int))) (h6 : w.cell? ⟨b, off + 6, none⟩ = some (.int .u8 (x6 : Int))) (b0 : x0 < 256) (b1 : x1 < 256) (b2 : x2 < 256) (b3 : x3 < 256) (b4 : x4 < 256) (b5 : x5 < 256) (b6 : x6 < 256) :
    Calls Tryz.prog 101 #[.slice (some ⟨b, off, none⟩) 7 cap] w fun e w' => e = .returned (.int .u64 (getL [x0, x1, x2, x3, x4, x5, x6] : Nat)) ∧ w = w' := by
  obtain ⟨A6, hA6⟩ : ∃ A : Nat, A = x6 * 281474976710656 := ⟨_, rfl⟩
  have e6 : bits BinOp.or IntKind.u64 0 ((x6 : Int) * 281474976710656) = (A6 : Int) := or_join 0 x6 281474976710656 A6 (by omega) (by omega) (by omega) (by omega) ⟨48, rfl⟩
  obtain ⟨A5, hA5⟩ : ∃ A : Nat, A = x6 * 281474976710656 + x5 * 1099511627776 := ⟨_, rfl⟩
  have e5 : bits BinOp.or IntKind.u64 (A6 : Int) ((x5 : Int) * 1099511627776) = (A5 : Int) := or_join A6 x5 1099511627776 A5 (by omega) (by omega) (by omega) (by omega) ⟨40, rfl⟩
  obtain ⟨A4, hA4⟩ : ∃ A : Nat, A = x6 * 281474976710656 + x5 * 1099511627776 + x4 * 4294967296 := ⟨_, rfl⟩
  have e4 : bits BinOp.or IntKind.u64 (A5 : Int) ((x4 : Int) * 4294967296) = (A4 : Int) := or_join A5 x4 4294967296 A4 (by omega) (by omega) (by omega) (by omega) ⟨32, rfl⟩
  obtain ⟨A3, hA3⟩ : ∃ A : Nat, A = x6 * 281474976710656 + x5 * 1099511627776 + x4 * 4294967296 + x3 * 16777216 := ⟨_, rfl⟩
  have e3 : bits BinOp.or IntKind.u64 (A4 : Int) ((x3 : Int) * 16777216) = (A3 : Int) := or_join A4 x3 16777216 A3 (by omega) (by omega) (by omega) (by omega) ⟨24, rfl⟩
  obtain ⟨A2, hA2⟩ : ∃ A : Nat, A = x6 * 281474976710656 + x5 * 1099511627776 + x4 * 4294967296 + x3 * 16777216 + x2 * 65536 := ⟨_, rfl⟩
  have e2 : bits BinOp.or IntKind.u64 (A3 : Int) ((x2 : Int) * 65536) = (A2 : Int) := or_join A3 x2 65536 A2 (by omega) (by omega) (by omega) (by omega) ⟨16, rfl⟩
  obtain ⟨A1, hA1⟩ : ∃ A : Nat, A = x6 * 281474976710656 + x5 * 1099511627776 + x4 * 4294967296 + x3 * 16777216 + x2 * 65536 + x1 * 256 := ⟨_, rfl⟩
  have e1 : bits BinOp.or IntKind.u64 (A2 : Int) ((x1 : Int) * 256) = (A1 : Int) := or_join A2 x1 256 A1 (by omega) (by omega) (by omega) (by omega) ⟨8, rfl⟩
  obtain ⟨A0, hA0⟩ : ∃ A : Nat, A = x6 * 281474976710656 + x5 * 1099511627776 + x4 * 4294967296 + x3 * 16777216 + x2 * 65536 + x1 * 256 + x0 * 1 := ⟨_, rfl⟩
  have e0 : bits BinOp.or IntKind.u64 (A1 : Int) (x0 : Int) = (A0 : Int) := or_join0 A1 x0 A0 (by omega) (by omega) (by omega) (by omega)
  have HA : Hid (A0 = x6 * 281474976710656 + x5 * 1099511627776 + x4 * 4294967296 + x3 * 16777216 + x2 * 65536 + x1 * 256 + x0 * 1) := hA0
  clear hA0 hA1 hA2 hA3 hA4 hA5 hA6
  go_enter Tryz.func101, Tryz.ntmps101
  go_wp2
  all_goals go_ret
  all_goals have hE : (A0 : Int) = ((getL [x0, x1, x2, x3, x4, x5, x6] : Nat) : Int) := by have := HA.out; simp only [getL]; omega
  all_goals exact ⟨ret_int hE, rfl⟩

set_option maxHeartbeats 1000000 in
theorem get_8 (b off cap : Nat) (x0 x1 x2 x3 x4 x5 x6 x7 : Nat) (w : World) (n : Nat) (hn : 8 ≤ n) (hm : n ≤ 9223372036854775807) (h0 : w.cell? ⟨b, off, none⟩ = some (.int .u8 (x0 : Int))) (h1 : w.cell? ⟨b, off + 1, none⟩ = some (.int .u8 (x1 : Int))) (h2 : w.cell? ⟨b, off + 2, none⟩ = some (.int .u8 (x2 : Int))) (h3 : w.cell? ⟨b, off + 3, none⟩ = some (.int .u8 (x3 : Int))) (h4 : w.cell? ⟨b, off + 4, none⟩ = some (.int .u8 (x4 : Int))) (h5 : w.cell? ⟨b, off + 5, none⟩ = some (.int .u8 (x5 : Int))) (h6 : w.cell? ⟨b, off + 6, none⟩ = some (.int .u8 (x6 : Int))) (h7 : w.cell? ⟨b, off + 7, none⟩ = some (.int .u8 (x7 : Int))) (b0 : x0 < 256) (b1 : x1 < 256) (b2 : x2 < 256) (b3 : x3 < 256) (b4 : x4 < 256) (b5 : x5 < 256) (b6 : x6 < 256) (b7 : x7 < 256) :
    Calls Tryz.prog 101 #[.slice (some ⟨b, off, none⟩) n cap] w fun e w' => e = .returned (.int .u64 (getL [x0, x1, x2, x3, x4, x5, x6, x7] : Nat)) ∧ w = w' := by
  obtain ⟨A7, hA7⟩ : ∃ A : Nat, A = x7 * 72057594037927936 := ⟨_, rfl⟩
  have e7 : bits BinOp.or IntKind.u64 0 ((x7 : Int) * 72057594037927936) = (A7 : Int) := or_join 0 x7 72057594037927936 A7 (by omega) (by omega) (by omega) (by omega) ⟨56, rfl⟩
  obtain ⟨A6, hA6⟩ : ∃ A : Nat, A = x7 * 72057594037927936 + x6 * 281474976710656 := ⟨_, rfl⟩
  have e6 : bits BinOp.or IntKind.u64 (A7 : Int) ((x6 : Int) * 281474976710656) = (A6 : Int) := or_join A7 x6 281474976710656 A6 (by omega) (by omega) (by omega) (by omega) ⟨48, rfl⟩
  obtain ⟨A5, hA5⟩ : ∃ A : Nat, A = x7 * 72057594037927936 + x6 * 281474976710656 + x5 * 1099511627776 := ⟨_, rfl⟩
  have e5 : bits BinOp.or IntKind.u64 (A6 : Int) ((x5 : Int) * 1099511627776) = (A5 : Int) := or_join A6 x5 1099511627776 A5 (by omega) (by omega) (by omega) (by omega) ⟨40, rfl⟩
  obtain ⟨A4, hA4⟩ : ∃ A : Nat, A = x7 * 72057594037927936 + x6 * 281474976710656 + x5 * 1099511627776 + x4 * 4294967296 := ⟨_, rfl⟩
  have e4 : bits BinOp.or IntKind.u64 (A5 : Int) ((x4 : Int) * 4294967296) = (A4 : Int) := or_join A5 x4 4294967296 A4 (by omega) (by omega) (by omega) (by omega) ⟨32, rfl⟩
  obtain ⟨A3, hA3⟩ : ∃ A : Nat, A = x7 * 72057594037927936 + x6 * 281474976710656 + x5 * 1099511627776 + x4 * 4294967296 + x3 * 16777216 := ⟨_, rfl⟩
  have e3 : bits BinOp.or IntKind.u64 (A4 : Int) ((x3 : Int) * 16777216) = (A3 : Int) := or_join A4 x3 16777216 A3 (by omega) (by omega) (by omega) (by omega) ⟨24, rfl⟩
  obtain ⟨A2, hA2⟩ : ∃ A : Nat, A = x7 * 72057594037927936 + x6 * 281474976710656 + x5 * 1099511627776 + x4 * 4294967296 + x3 * 16777216 + x2 * 65536 := ⟨_, rfl⟩
  have e2 : bits BinOp.or IntKind.u64 (A3 : Int) ((x2 : Int) * 65536) = (A2 : Int) := or_join A3 x2 65536 A2 (by omega) (by omega) (by omega) (by omega) ⟨16, rfl⟩
  obtain ⟨A1, hA1⟩ : ∃ A : Nat, A = x7 * 72057594037927936 + x6 * 281474976710656 + x5 * 1099511627776 + x4 * 4294967296 + x3 * 16777216 + x2 * 65536 + x1 * 256 := ⟨_, rfl⟩
  have e1 : bits BinOp.or IntKind.u64 (A2 : Int) ((x1 : Int) * 256) = (A1 : Int) := or_join A2 x1 256 A1 (by omega) (by omega) (by omega) (by omega) ⟨8, rfl⟩
  obtain ⟨A0, hA0⟩ : ∃ A : Nat, A = x7 * 72057594037927936 + x6 * 281474976710656 + x5 * 1099511627776 + x4 * 4294967296 + x3 * 16777216 + x2 * 65536 + x1 * 256 + x0 * 1 := ⟨_, rfl⟩
  have e0 : bits BinOp.or IntKind.u64 (A1 : Int) (x0 : Int) = (A0 : Int) := or_join0 A1 x0 A0 (by omega) (by omega) (by omega) (by omega)
  have HA : Hid (A0 = x7 * 72057594037927936 + x6 * 281474976710656 + x5 * 1099511627776 + x4 * 4294967296 + x3 * 16777216 + x2 * 65536 + x1 * 256 + x0 * 1) := hA0
  clear hA0 hA1 hA2 hA3 hA4 hA5 hA6 hA7
  go_enter Tryz.func101, Tryz.ntmps101
  go_wp2
  all_goals go_ret
  all_goals have hE : (A0 : Int) = ((getL [x0, x1, x2, x3, x4, x5, x6, x7] : Nat) : Int) := by have := HA.out; simp only [getL]; omega
  all_goals exact ⟨ret_int hE, rfl⟩

theorem get_any (a : Option Addr) (cap : Nat) (l : List Nat) (w : World) (hl : l.length ≤ maxLen) (hb : ∀ x ∈ l, x < 256) (hr : BRow w a l) :
    Calls Tryz.prog 101 #[.slice a l.length cap] w fun e w' => e = .returned (.int .u64 (getL (l.take 8) : Nat)) ∧ w = w' := by
  unfold maxLen at hl
  rcases hr with rfl | ⟨b, off, rfl, hc⟩
  · exact get_0 a cap w
  · match l, hl, hb, hc with
    | [], _, _, _ => exact get_0 _ cap w
    | [x0], hl, hb, hc => exact get_1 b off cap x0 w (by have := hc 0 (by simp); simpa using this) (hb x0 (by simp))
    | [x0, x1], hl, hb, hc => exact get_2 b off cap x0 x1 w (by have := hc 0 (by simp); simpa using this) (by have := hc 1 (by simp); simpa using this) (hb x0 (by simp)) (hb x1 (by simp))
    | [x0, x1, x2], hl, hb, hc => exact get_3 b off cap x0 x1 x2 w (by have := hc 0 (by simp); simpa using this) (by have := hc 1 (by simp); simpa using this) (by have := hc 2 (by simp); simpa using this) (hb x0 (by simp)) (hb x1 (by simp)) (hb x2 (by simp))
    | [x0, x1, x2, x3], hl, hb, hc => exact get_4 b off cap x0 x1 x2 x3 w (by have := hc 0 (by simp); simpa using this) (by have := hc 1 (by simp); simpa using this) (by have := hc 2 (by simp); simpa using this) (by have := hc 3 (by simp); simpa using this) (hb x0 (by simp)) (hb x1 (by simp)) (hb x2 (by simp)) (hb x3 (by simp))
    | [x0, x1, x2, x3, x4], hl, hb, hc => exact get_5 b off cap x0 x1 x2 x3 x4 w (by have := hc 0 (by simp); simpa using this) (by have := hc 1 (by simp); simpa using this) (by have := hc 2 (by simp); simpa using this) (by have := hc 3 (by simp); simpa using this) (by have := hc 4 (by simp); simpa using this) (hb x0 (by simp)) (hb x1 (by simp)) (hb x2 (by simp)) (hb x3 (by simp)) (hb x4 (by simp))
    | [x0, x1, x2, x3, x4, x5], hl, hb, hc => exact get_6 b off cap x0 x1 x2 x3 x4 x5 w (by have := hc 0 (by simp); simpa using this) (by have := hc 1 (by simp); simpa using this) (by have := hc 2 (by simp); simpa using this) (by have := hc 3 (by simp); simpa using this) (by have := hc 4 (by simp); simpa using this) (by have := hc 5 (by simp); simpa using this) (hb x0 (by simp)) (hb x1 (by simp)) (hb x2 (by simp)) (hb x3 (by simp)) (hb x4 (by simp)) (hb x5 (by simp))
    | [x0, x1, x2, x3, x4, x5, x6], hl, hb, hc => exact get_7 b off cap x0 x1 x2 x3 x4 x5 x6 w (by have := hc 0 (by simp); simpa using this) (by have := hc 1 (by simp); simpa using this) (by have := hc 2 (by simp); simpa using this) (by have := hc 3 (by simp); simpa using this) (by have := hc 4 (by simp); simpa using this) (by have := hc 5 (by simp); simpa using this) (by have := hc 6 (by simp); simpa using this) (hb x0 (by simp)) (hb x1 (by simp)) (hb x2 (by simp)) (hb x3 (by simp)) (hb x4 (by simp)) (hb x5 (by simp)) (hb x6 (by simp))
    | x0 :: x1 :: x2 :: x3 :: x4 :: x5 :: x6 :: x7 :: r, hl, hb, hc => exact get_8 b off cap x0 x1 x2 x3 x4 x5 x6 x7 w _ (by simp) (by simpa using hl) (by have := hc 0 (by simp); simpa using this) (by have := hc 1 (by simp); simpa using this) (by have := hc 2 (by simp); simpa using this) (by have := hc 3 (by simp); simpa using this) (by have := hc 4 (by simp); simpa using this) (by have := hc 5 (by simp); simpa using this) (by have := hc 6 (by simp); simpa using this) (by have := hc 7 (by simp); simpa using this) (hb x0 (by simp)) (hb x1 (by simp)) (hb x2 (by simp)) (hb x3 (by simp)) (hb x4 (by simp)) (hb x5 (by simp)) (hb x6 (by simp)) (hb x7 (by simp))
end Go.Proofs.YtkfecngkdlajgaaGreatDoor.Hd
namespace Go.Proofs.YtkfecngkdlajgaaGreatDoor.Hd.M
open Go.Proofs.YtkfecngkdlajgaaGreatDoor.Hd

end Go.Proofs.YtkfecngkdlajgaaGreatDoor.Hd.M
