/-
  What the document's power says.
-/
import Derived.Test.YtplhlbajgijohaaPRt
namespace Go.Proofs.Ytplhlbajgijohaa.Nd
open Go.RowKit

/-- What the document's power says, in k halvings at most. -/
def powD : Nat → Int → Bool
  | 0, n => n == 1
  | k + 1, n => if 1 < n ∧ n % 2 = 0 then powD k (n / 2) else n == 1
theorem powD_stop {k : Nat} {n : Int} (h : ¬ (1 < n ∧ n % 2 = 0)) : powD k n = (n == 1) := by
  cases k with
  | zero => rfl
  | succ k => unfold powD; rw [if_neg h]
theorem half_wrap {k : Int} (h1 : 1 < k) (h2 : k ≤ 9223372036854775807) : wrap64 (k.tdiv 2) = k / 2 := by
  rw [Int.tdiv_eq_ediv_of_nonneg (by omega)]
  unfold wrap64
  omega
set_option maxHeartbeats 2000000 in
theorem d_pow (n : Int) (h2 : n ≤ 9223372036854775807) (w : World) : Calls Try.prog 44 #[.int .i64 n] w fun e w' => e = .returned (.bool (powD n.toNat n)) ∧ w = w' := by
  obtain ⟨B, hB⟩ : ∃ B, powD n.toNat n = B := ⟨_, rfl⟩
  rw [hB]
  have HB : Hid (powD n.toNat n = B) := hB
  have H2 : Hid (n ≤ 9223372036854775807) := h2
  clear hB h2
  go_enter Try.func44, Try.ntmps44
  go_wp2
  go_loopg [0] n.toNat (fun gm s0 wr => ∃ k : Int, s0 = .int .i64 k ∧ Hid (k.toNat ≤ gm ∧ k ≤ 9223372036854775807 ∧ powD gm k = B) ∧ w = wr)
  case atStart => exact ⟨n, rfl, ⟨Nat.le_refl _, H2.out, HB.out⟩, rfl⟩
  case round =>
    obtain ⟨k, rfl, HK, rfl⟩ := hrel
    by_cases h1 : 1 < k
    · have hm : k.tmod 2 = k % 2 := Int.tmod_eq_emod_of_nonneg (by omega)
      have hw1 : IntKind.i64.wrap (k % 2) = k % 2 := by rw [IntKind.wrap_i64]; omega
      by_cases h0 : k % 2 = 0
      · have e0 : (k % 2 == 0) = true := by simpa using h0
        have HQ : Hid (k % 2 = 0) := h0
        have hw2 := half_wrap h1 HK.out.2.1
        clear h0
        go_wp2
        go_roundg (gk - 1)
        case measure => have := HK.out.1; omega
        case rel =>
          refine ⟨k / 2, ?_, ⟨?_, ?_, ?_⟩, rfl⟩
          · rw [hw2]
          · have := HK.out.1; omega
          · have := HK.out.2.1; omega
          · obtain ⟨j, rfl⟩ : ∃ j, gk = j + 1 := ⟨gk - 1, by have := HK.out.1; omega⟩
            have := HK.out.2.2
            unfold powD at this
            rw [if_pos ⟨h1, HQ.out⟩] at this
            exact this
      · have e0 : (k % 2 == 0) = false := by simpa using h0
        have hs := powD_stop (k := gk) (n := k) (fun q => h0 q.2)
        have HS : Hid ((k == 1) = B) := hs.symm.trans HK.out.2.2
        clear h0 hs
        go_wp2
        go_ret
        exact ⟨by rw [← HS.out]; rfl, rfl⟩
    · have hs := powD_stop (k := gk) (n := k) (fun q => h1 q.1)
      have HS : Hid ((k == 1) = B) := hs.symm.trans HK.out.2.2
      clear hs
      go_wp2
      go_ret
      exact ⟨by rw [← HS.out]; rfl, rfl⟩
end Go.Proofs.Ytplhlbajgijohaa.Nd
