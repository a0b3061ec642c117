/-
  The document's Put of layer 1.
-/
import Derived.Test.YtfmgaahileknfaaPut
import Derived.Deep.AppendLies
namespace Go.Proofs.Ytfmgaahileknfaa
open Go.RowKit M

theorem one_int (x : Int) : ∀ u ∈ [Value.int .u8 x], u.oneCell' = true := by
  intro u hu
  simp at hu
  subst hu
  rfl
theorem put_grow {w : World} {base k n : Nat} {v : Value} (h : w.ownsRow base 5 1 v (k + 1) ((putL k n).map u8v ++ [.int .u8 ((n : Int) / 2 ^ (8 * k) % 256)])) :
    w.ownsRow base 5 1 v (k + 1) ((putL (k + 1) n).map u8v) := by
  rw [putL_succ_last, List.map_append]
  have e : Value.int .u8 ((n : Int) / 2 ^ (8 * k) % 256) = u8v (n / 256 ^ k % 256) := by
    have hpow : (256 : Nat) ^ k = 2 ^ (8 * k) := by rw [Nat.pow_mul]
    rw [hpow]
    simp [u8v]
  rw [e] at h
  exact h
theorem ref_end {w : World} {base n : Nat} {v : Value} {l : List Nat} (hl : l.length = n) (h : w.ownsRow base 5 1 v n (l.map u8v)) : w.ownsRow base 5 1 v l.length (l.map u8v) := by
  rw [hl]
  exact h

set_option maxRecDepth 10000 in
set_option maxHeartbeats 1000000 in
theorem ref_put (n : Nat) (_hn : n < 18446744073709551616) (bytes : Int) (m : Nat) (hm : putN bytes = m) (w : World) :
    Calls Try.prog 31 #[.int .u64 n, .int .i64 bytes] w fun e w' => ∃ v, e = .returned v ∧ Own w w' v (putL m n) := by
  have hmm : (bytes < 0 ∧ m = 0) ∨ (0 ≤ bytes ∧ bytes ≤ 8 ∧ bytes = (m : Int)) ∨ (8 < bytes ∧ m = 8) := by unfold putN at hm; omega
  have hm8 : m ≤ 8 := by unfold putN at hm; omega
  have HMM : Hid (∀ k : Nat, k ≤ m → (k < m ↔ (k : Int) < bytes ∧ (k : Int) < 8)) := by intro k hk; omega
  clear hm hmm
  obtain ⟨i0, hi, hz0, hz1, hz2⟩ := info_parts info8
  go_enter Try.func31, Try.ntmps31
  go_wp2
  go_loopw [5, 6] (fun v i wr => ∃ k : Nat, k ≤ m ∧ i = .int .i64 k ∧ Hid (wr.ownsRow w.heap.size 5 1 v k ((putL k n).map u8v)) ∧ Below w.heap.size w wr) (fun _ i _ => m - (intOf i).toNat)
  case atStart => exact ⟨0, by omega, rfl, World.ownsRow_nil _ _ _ _, Below.refl _ _⟩
  case round =>
    obtain ⟨k, hk, rfl, hown, hb⟩ := hrel
    by_cases hlt : k < m
    · have h1 := (HMM.out k hk).1 hlt
      obtain ⟨h1, h8⟩ := h1
      have HKM : Hid (k + 1 ≤ maxLen ∧ (k + 1) * 1 ≤ 140737488355328 ∧ w.heap.size ≤ wr.heap.size + 1) := ⟨by unfold maxLen; omega, by omega, by have := hb.size; omega⟩
      have HV : Hid (∀ g, u5.ownBlock = some g → w.heap.size ≤ g) := fun g hg => (hown.out.lt g hg).1
      go_wp2_with (at_builtin; go_must (refine wpList_append_own _ rfl (.tmp 16) (.tmp 23) 53 rfl w.heap.size 5 i0 (.int .u8 0) 1 1 Try.underlying53 hi hz0 hz1 hz2 rfl (by omega) u5 k _ rfl (hown.out.alloc _) ⟨wr.heap.size, 0, none⟩ 1 1 [.int .u8 ((n : Int) / 2 ^ (8 * k) % 256)] rfl rfl (World.news_of_block (cs := #[.int .u8 ((n : Int) / 2 ^ (8 * k) % 256)]) (t := 5) (fr := (0, 0)) (heap_alloc_new wr _)) (one_int _) HKM.out.1 HKM.out.2.1 (by simpa using HKM.out.2.2) ?_); intro v' w1 hown1 hgrow1 _)
      have HO2 : Hid (w1.ownsRow w.heap.size 5 1 v' (k + 1) ((putL (k + 1) n).map u8v)) := put_grow hown1
      have hb2 : Below w.heap.size w w1 := (hb.alloc hb.size _).grown hgrow1 (by simpa using HKM.out.2.2) HV.out
      clear hown hb hown1 hgrow1
      go_wp2
      go_roundw
      case rel => exact ⟨k + 1, by omega, by go_num, HO2, hb2⟩
      case measure => simp [intOf]; omega
    · have hkm : k = m := by omega
      have h1 : ¬ ((k : Int) < bytes ∧ (k : Int) < 8) := fun h => hlt ((HMM.out k hk).2 h)
      by_cases h2 : (k : Int) < bytes
      all_goals
        go_wp2
        go_ret
        subst hkm
        exact ⟨_, rfl, ref_end (putL_length _ _) hown.out, hb⟩
end Go.Proofs.Ytfmgaahileknfaa
