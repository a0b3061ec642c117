/-
  What the functions step, framed, Sum and Blank of package bits answer: they only read.
-/
import Derived.Test.YtdhbhjfpjmmonaaDoorRows
import Derived.Test.YtdhbhjfpjmmonaaDoorMath
import Derived.WalkKit
import Derived.WalkSpells
import Derived.WalkLawsBesides
namespace Go.Proofs.YtdhbhjfpjmmonaaDoor
open Go.RowKit M

theorem ret_int {k : IntKind} {a b : Int} (h : a = b) : Ending.returned (.int k a) = .returned (.int k b) := by rw [h]
theorem ret_bool {a b : Bool} (h : a = b) : Ending.returned (.bool a) = .returned (.bool b) := by rw [h]
theorem u32_and1 (c : Nat) (h : c < 4294967296) : bits .and .u32 (c : Int) 1 = ((c % 2 : Nat) : Int) := by
  have := u32_and_nat c 1 h (by decide)
  rw [nat_mask1] at this
  exact this
theorem bit_yes {n : Nat} (h : n < 4294967296) (ht : (bits BinOp.and IntKind.u32 (n : Int) 1 == 1) = true) :
    bits BinOp.xor IntKind.u32 ((n : Int) / 2) 3988292384 = ((bit1 n : Nat) : Int) := by
  rw [u32_and1 n h] at ht
  have h1 : n % 2 = 1 := by have := eq_of_beq ht; omega
  have e : ((n : Int) / 2) = ((n / 2 : Nat) : Int) := by omega
  rw [e, show (3988292384 : Int) = ((3988292384 : Nat) : Int) from rfl, u32_xor_nat (n / 2) 3988292384 (by omega) (by decide)]
  simp [bit1, h1]
theorem bit_no {n : Nat} (h : n < 4294967296) (ht : (bits BinOp.and IntKind.u32 (n : Int) 1 == 1) = false) :
    (n : Int) / 2 = ((bit1 n : Nat) : Int) := by
  rw [u32_and1 n h] at ht
  have h1 : ¬ n % 2 = 1 := by intro e; rw [e] at ht; simp at ht
  simp [bit1, h1]

set_option maxHeartbeats 400000 in
theorem step_any (c : Nat) (hc : c < 4294967296) (w : World) :
    Calls Tryd.prog 49 #[.int .u32 c] w fun e w' => e = .returned (.int .u32 (step8 c : Nat)) ∧ w = w' := by
  go_enter Tryd.func49, Tryd.ntmps49
  go_wp2
  go_loop [0, 3] (fun s i => ∃ k : Nat, k ≤ 8 ∧ i = .int .i64 k ∧ s = .int .u32 (bitN k c : Nat)) (fun _ i => 8 - (intOf i).toNat)
  case atStart => exact ⟨0, by omega, rfl, rfl⟩
  case round =>
    obtain ⟨k, hk, rfl, rfl⟩ := hrel
    have hb := bitN_lt k hc
    by_cases hlt : k < 8
    · go_wp2
      · go_round
        case rel => exact ⟨k + 1, by omega, by go_num, by rw [bit_yes hb ‹_›]; rfl⟩
        case measure => simp [intOf]; omega
      · go_round
        case rel => exact ⟨k + 1, by omega, by go_num, by rw [bit_no hb ‹_›]; rfl⟩
        case measure => simp [intOf]; omega
    · go_wp2
      go_ret
      have : k = 8 := by omega
      subst this
      exact ⟨rfl, rfl⟩

theorem framed_any (n : Int) (w : World) :
    Calls Tryd.prog 46 #[.int .i64 n] w fun e w' => e = .returned (.bool (decide (1 ≤ n ∧ n ≤ 1024))) ∧ w = w' := by
  by_cases h1 : 1 ≤ n
  · go_enter Tryd.func46, Tryd.ntmps46
    go_wp2
    go_ret
    exact ⟨by simp [h1], rfl⟩
  · go_enter Tryd.func46, Tryd.ntmps46
    go_wp2
    go_ret
    exact ⟨by simp; omega, rfl⟩

/-- A slice's elements, as they lie: it is empty, or its address leads to the bytes l. -/
def BRow (w : World) (a : Option Addr) (l : List Nat) : Prop :=
  l = [] ∨ ∃ b off, a = some ⟨b, off, none⟩ ∧ ∀ i, i < l.length → w.cell? ⟨b, off + i, none⟩ = some (.int .u8 ((l.getD i 0 : Nat) : Int))

theorem take_succ_getD (l : List Nat) (k : Nat) (h : k < l.length) : l.take (k + 1) = l.take k ++ [l.getD k 0] := by
  rw [List.take_succ_eq_append_getElem h]
  simp [List.getD, h]

theorem nat_not32 (c : Nat) (h : c < 4294967296) : 4294967295 ^^^ c = 4294967295 - c := by
  have e : (4294967295 - c : Nat) = 2 ^ 32 - (c + 1) := by omega
  rw [e, show (4294967295 : Nat) = 2 ^ 32 - 1 from rfl]
  refine Nat.eq_of_testBit_eq fun i => ?_
  rw [Nat.testBit_xor, Nat.testBit_two_pow_sub_one, Nat.testBit_two_pow_sub_succ h]
  by_cases hi : i < 32
  · simp [hi]
  · have : c.testBit i = false := Nat.testBit_lt_two_pow (Nat.lt_of_lt_of_le h (show 2 ^ 32 ≤ 2 ^ i from Nat.pow_le_pow_right (by decide) (by omega)))
    simp [hi, this]
theorem not_u32 (c : Nat) (h : c < 4294967296) : bits BinOp.xor IntKind.u32 IntKind.u32.max (c : Int) = ((4294967295 - c : Nat) : Int) := by
  rw [show IntKind.u32.max = ((4294967295 : Nat) : Int) from rfl, u32_xor_nat 4294967295 c (by decide) h, nat_not32 c h]

set_option maxHeartbeats 400000 in
theorem sum_any (a : Option Addr) (cap : Nat) (l : List Nat) (w : World) (hl : l.length ≤ maxLen) (hb : ∀ x ∈ l, x < 256) (hr : BRow w a l) :
    Calls Tryd.prog 47 #[.slice a l.length cap] w fun e w' => e = .returned (.int .u32 (sumL l : Nat)) ∧ w = w' := by
  unfold maxLen at hl
  obtain ⟨n, hn⟩ : ∃ n, n = l.length := ⟨_, rfl⟩
  rw [← hn] at hl ⊢
  have HN : Hid (n = l.length) := hn
  clear hn
  have HB : Hid (∀ x ∈ l, x < 256) := hb
  have HR : Hid (BRow w a l) := hr
  clear hb hr
  go_enter Tryd.func47, Tryd.ntmps47
  go_wp2
  go_loop [3, 8] (fun s i => ∃ k : Nat, k ≤ n ∧ i = .int .i64 k ∧ s = .int .u32 (regL 4294967295 (l.take k) : Nat)) (fun _ i => n - (intOf i).toNat)
  case atStart => exact ⟨0, by omega, rfl, rfl⟩
  case round =>
    obtain ⟨k, hk, rfl, rfl⟩ := hrel
    have hreg : regL 4294967295 (l.take k) < 4294967296 := regL_lt _ _ (by decide) (fun x hx => HB.out x (List.mem_of_mem_take hx))
    by_cases hlt : k < n
    · obtain ⟨x, hx⟩ : ∃ x, x = l.getD k 0 := ⟨_, rfl⟩
      have hne : l ≠ [] := by intro e; have := HN.out; subst e; simp at this; omega
      obtain ⟨b, off, rfl, hcs⟩ : ∃ b off, a = some ⟨b, off, none⟩ ∧ ∀ i, i < l.length → w.cell? ⟨b, off + i, none⟩ = some (.int .u8 ((l.getD i 0 : Nat) : Int)) := by
        rcases HR.out with h | h
        · exact absurd h hne
        · exact h
      have hkl : k < l.length := by have := HN.out; omega
      have hcell := hcs k hkl
      rw [← hx] at hcell
      have hx256 : x < 256 := by rw [hx]; exact HB.out _ (by simp [List.getD, hkl])
      have HX : Hid (regL 4294967295 (l.take (k + 1)) = step8 (regL 4294967295 (l.take k) ^^^ x)) := by rw [take_succ_getD l k hkl, regL_snoc, hx]; exact rfl
      obtain ⟨c, hc⟩ : ∃ c, c = regL 4294967295 (l.take k) := ⟨_, rfl⟩
      rw [← hc] at HX hreg ⊢
      have hxor := u32_xor_nat c x hreg (by omega)
      have hlt2 := xor_lt32 hreg (show x < 4294967296 by omega)
      clear hx hcs hkl hne hc
      go_wp2_with (go_at_call 49; refine (step_any _ hlt2 _).mono ?_; rintro e w' ⟨rfl, rfl⟩)
      go_round
      case rel => exact ⟨k + 1, by omega, by go_num, by rw [HX.out]⟩
      case measure => simp [intOf]; omega
    · go_wp2
      go_ret
      have hkn : k = l.length := by have := HN.out; omega
      rw [not_u32 _ hreg, hkn, List.take_length]
      exact ⟨rfl, rfl⟩

theorem all_take_succ (l : List Nat) (k : Nat) (h : k < l.length) : (l.take (k + 1)).all (· == 255) = ((l.take k).all (· == 255) && (l.getD k 0 == 255)) := by
  rw [take_succ_getD l k h]
  simp
theorem all_false_of_take (l : List Nat) (k : Nat) (h : k < l.length) (h2 : l.getD k 0 ≠ 255) : l.all (· == 255) = false := by
  rw [List.all_eq_false]
  refine ⟨l.getD k 0, by simp [List.getD, h], by simpa using h2⟩

set_option maxHeartbeats 400000 in
theorem blank_any (a : Option Addr) (cap : Nat) (l : List Nat) (w : World) (hl : l.length ≤ maxLen) (hr : BRow w a l) :
    Calls Tryd.prog 39 #[.slice a l.length cap] w fun e w' => e = .returned (.bool (l.all (· == 255))) ∧ w = w' := by
  unfold maxLen at hl
  obtain ⟨n, hn⟩ : ∃ n, n = l.length := ⟨_, rfl⟩
  rw [← hn] at hl ⊢
  have HN : Hid (n = l.length) := hn
  clear hn
  have HR : Hid (BRow w a l) := hr
  clear hr
  obtain ⟨R, hR⟩ : ∃ R, R = l.all (· == 255) := ⟨_, rfl⟩
  rw [← hR]
  have HRR : Hid (R = l.all (· == 255)) := hR
  clear hR
  go_enter Tryd.func39, Tryd.ntmps39
  go_wp2
  go_loop [7] (fun i => ∃ k : Nat, k ≤ n ∧ i = .int .i64 k ∧ (l.take k).all (· == 255) = true) (fun i => n - (intOf i).toNat)
  case atStart => exact ⟨0, by omega, rfl, rfl⟩
  case round =>
    obtain ⟨k, hk, rfl, hall⟩ := hrel
    have HA : Hid ((l.take k).all (· == 255) = true) := hall
    clear hall
    by_cases hlt : k < n
    · obtain ⟨x, hx⟩ : ∃ x, x = l.getD k 0 := ⟨_, rfl⟩
      have hne : l ≠ [] := by intro e; have := HN.out; subst e; simp at this; omega
      obtain ⟨b, off, rfl, hcs⟩ : ∃ b off, a = some ⟨b, off, none⟩ ∧ ∀ i, i < l.length → w.cell? ⟨b, off + i, none⟩ = some (.int .u8 ((l.getD i 0 : Nat) : Int)) := by
        rcases HR.out with h | h
        · exact absurd h hne
        · exact h
      have hkl : k < l.length := by have := HN.out; omega
      have hcell := hcs k hkl
      rw [← hx] at hcell
      have HX : Hid (x = l.getD k 0) := hx
      clear hx hcs hkl hne
      go_wp2
      · go_ret
        have hx : ((x : Int) != 255) = true := by assumption
        have hkl : k < l.length := by have := HN.out; omega
        have hR : R = false := by
          rw [HRR.out]
          refine all_false_of_take l k hkl ?_
          rw [← HX.out]
          intro e
          subst e
          simp at hx
        subst hR
        exact ⟨rfl, rfl⟩
      · have hx : ((x : Int) != 255) = false := by assumption
        have hkl : k < l.length := by have := HN.out; omega
        have hx2 : x = 255 := by simp at hx; omega
        go_round
        case rel => exact ⟨k + 1, by omega, by go_num, by rw [all_take_succ l k hkl, HA.out, ← HX.out, hx2]; rfl⟩
        case measure => simp [intOf]; omega
    · go_wp2
      go_ret
      have hkn : k = l.length := by have := HN.out; omega
      have hR : R = true := by
        rw [HRR.out]
        have := HA.out
        rw [hkn, List.take_length] at this
        exact this
      subst hR
      exact ⟨rfl, rfl⟩
end Go.Proofs.YtdhbhjfpjmmonaaDoor
