/-
  What the document's Right says: what the program's says.
-/
import Derived.Test.YtplhlbajgijohaaPPow
namespace Go.Proofs.Ytplhlbajgijohaa.Nd
open Go.RowKit

theorem pow_all : ∀ n : Fin 513, powD n.val (n.val : Int) = powB (n.val : Int) := by decide +kernel
theorem pow_same {n : Int} (h0 : 0 ≤ n) (h1 : n ≤ 512) : powD n.toNat n = powB n := by
  obtain ⟨k, rfl⟩ : ∃ k : Nat, n = k := ⟨n.toNat, by omega⟩
  have := pow_all ⟨k, by omega⟩
  simpa using this
set_option maxHeartbeats 4000000 in
theorem d_right (b p z r : Int) (w : World) : Calls Try.prog 33 #[.agg #[.int .i64 b, .int .i64 p, .int .i64 z, .int .i64 r]] w fun e w' => e = .returned (.bool (rightB b p z r)) ∧ Below w.heap.size w w' := by
  obtain ⟨X, hX⟩ : ∃ X, X = rightB b p z r := ⟨_, rfl⟩
  rw [← hX]
  have HX : Hid (X = rightB b p z r) := hX
  clear hX
  by_cases hb : 16 ≤ b ∧ b ≤ 256
  · by_cases hp : 8 ≤ p ∧ p ≤ 64
    · have kp := fun W => d_pow p (by omega) W
      rw [pow_same (by omega) (by omega)] at kp
      have b1 : ¬ b < 16 := by omega
      have b2 : ¬ 256 < b := by omega
      have p1 : ¬ p < 8 := by omega
      have p2 : ¬ 64 < p := by omega
      by_cases hz : 64 ≤ z ∧ z ≤ 512
      · have kz := fun W => d_pow z (by omega) W
        rw [pow_same (by omega) (by omega)] at kz
        obtain ⟨z1, z2⟩ := hz
        have HX2 : Hid (X = (powB p && (powB z && (decide (1536 ≤ wrap64 (wrap64 (p - 2) * z)) && decide (0 ≤ r ∧ r ≤ wrap64 (b.tdiv 4)))))) := by
          show _ = _
          rw [HX.out]; unfold rightB
          rw [decide_eq_true hb, decide_eq_true hp, decide_eq_true (show 64 ≤ z ∧ z ≤ 512 from ⟨z1, z2⟩)]; simp
        have M1 : Hid True := trivial
        cases hP : powB p
        · rw [hP] at kp
          have HX3 : Hid (X = false) := by show _ = _; rw [HX2.out, hP]; rfl
          clear hb hp hP
          go_enter Try.func33, Try.ntmps33
          go_wp2_with (go_at_call 44; refine (kp _).mono ?_; rintro e w' ⟨rfl, rfl⟩)
          go_ret
          exact ⟨ret_bool HX3.out.symm, below_new _ _⟩
        · rw [hP] at kp
          cases hZ : powB z
          · rw [hZ] at kz
            have HX3 : Hid (X = false) := by show _ = _; rw [HX2.out, hP, hZ]; rfl
            clear hb hp hP hZ
            go_enter Try.func33, Try.ntmps33
            go_wp2_with (first
              | (go_at_call 44; clear M1; refine (kp _).mono ?_; rintro e w' ⟨rfl, rfl⟩)
              | (go_at_call 44; refine (kz _).mono ?_; rintro e w' ⟨rfl, rfl⟩))
            go_ret
            exact ⟨ret_bool HX3.out.symm, below_new _ _⟩
          · rw [hZ] at kz
            have HX3 : Hid (X = (decide (1536 ≤ wrap64 (wrap64 (p - 2) * z)) && decide (0 ≤ r ∧ r ≤ wrap64 (b.tdiv 4)))) := by show _ = _; rw [HX2.out, hP, hZ]; rfl
            have hw1 : wrap64 (p - 2) = p - 2 := by unfold wrap64; omega
            have hw2 : wrap64 (b.tdiv 4) = b / 4 := by rw [Int.tdiv_eq_ediv_of_nonneg (by omega)]; unfold wrap64; omega
            have HX3 : Hid (X = (decide (1536 ≤ wrap64 ((p - 2) * z)) && decide (0 ≤ r ∧ r ≤ b / 4))) := by have := HX3.out; rw [hw1, hw2] at this; exact this
            clear hw1 hw2
            by_cases hy : 1536 ≤ wrap64 ((p - 2) * z)
            · by_cases hr0 : 0 ≤ r
              · by_cases hr1 : r ≤ b / 4
                · have HX4 : Hid (X = true) := by show _ = _; rw [HX3.out, decide_eq_true hy, decide_eq_true (show 0 ≤ r ∧ r ≤ b / 4 from ⟨hr0, hr1⟩)]; rfl
                  clear hb hp hP hZ
                  go_enter Try.func33, Try.ntmps33
                  go_wp2_with (first
                    | (go_at_call 44; clear M1; refine (kp _).mono ?_; rintro e w' ⟨rfl, rfl⟩)
                    | (go_at_call 44; refine (kz _).mono ?_; rintro e w' ⟨rfl, rfl⟩))
                  go_ret
                  exact ⟨ret_bool HX4.out.symm, below_new _ _⟩
                · have HX4 : Hid (X = false) := by show _ = _; rw [HX3.out, decide_eq_false (show ¬ (0 ≤ r ∧ r ≤ b / 4) from fun q => hr1 q.2)]; simp
                  clear hb hp hP hZ
                  go_enter Try.func33, Try.ntmps33
                  go_wp2_with (first
                    | (go_at_call 44; clear M1; refine (kp _).mono ?_; rintro e w' ⟨rfl, rfl⟩)
                    | (go_at_call 44; refine (kz _).mono ?_; rintro e w' ⟨rfl, rfl⟩))
                  go_ret
                  exact ⟨ret_bool (by rw [HX4.out]; exact decide_eq_false (by omega)), below_new _ _⟩
              · have HX4 : Hid (X = false) := by show _ = _; rw [HX3.out, decide_eq_false (show ¬ (0 ≤ r ∧ r ≤ b / 4) from fun q => hr0 q.1)]; simp
                clear hb hp hP hZ
                go_enter Try.func33, Try.ntmps33
                go_wp2_with (first
                  | (go_at_call 44; clear M1; refine (kp _).mono ?_; rintro e w' ⟨rfl, rfl⟩)
                  | (go_at_call 44; refine (kz _).mono ?_; rintro e w' ⟨rfl, rfl⟩))
                go_ret
                exact ⟨ret_bool HX4.out.symm, below_new _ _⟩
            · have HX4 : Hid (X = false) := by show _ = _; rw [HX3.out, decide_eq_false hy]; rfl
              clear hb hp hP hZ
              go_enter Try.func33, Try.ntmps33
              go_wp2_with (first
                | (go_at_call 44; clear M1; refine (kp _).mono ?_; rintro e w' ⟨rfl, rfl⟩)
                | (go_at_call 44; refine (kz _).mono ?_; rintro e w' ⟨rfl, rfl⟩))
              go_ret
              exact ⟨ret_bool HX4.out.symm, below_new _ _⟩
      · have HX2 : Hid (X = false) := by
          show _ = _
          rw [HX.out]; unfold rightB; rw [decide_eq_false hz]; simp
        have hz' : ¬ 64 ≤ z ∨ (64 ≤ z ∧ ¬ z ≤ 512) := by omega
        cases hP : powB p
        · rw [hP] at kp
          clear hb hp hP hz hz'
          go_enter Try.func33, Try.ntmps33
          go_wp2_with (go_at_call 44; refine (kp _).mono ?_; rintro e w' ⟨rfl, rfl⟩)
          go_ret
          exact ⟨ret_bool HX2.out.symm, below_new _ _⟩
        · rw [hP] at kp
          clear hb hp hP hz
          rcases hz' with q | ⟨q1, q2⟩
          all_goals
            go_enter Try.func33, Try.ntmps33
            go_wp2_with (go_at_call 44; refine (kp _).mono ?_; rintro e w' ⟨rfl, rfl⟩)
            go_ret
            exact ⟨ret_bool HX2.out.symm, below_new _ _⟩
    · have HX2 : Hid (X = false) := by
        show _ = _
        rw [HX.out]; unfold rightB; rw [decide_eq_false hp]; simp
      have hp' : p < 8 ∨ (¬ p < 8 ∧ 64 < p) := by omega
      have b1 : ¬ b < 16 := by omega
      have b2 : ¬ 256 < b := by omega
      clear hb hp
      rcases hp' with q | ⟨q1, q2⟩
      all_goals
        go_enter Try.func33, Try.ntmps33
        go_wp2
        go_ret
        exact ⟨ret_bool HX2.out.symm, below_new _ _⟩
  · have HX2 : Hid (X = false) := by
      show _ = _
      rw [HX.out]; unfold rightB; rw [decide_eq_false hb]; simp
    have hb' : b < 16 ∨ (¬ b < 16 ∧ 256 < b) := by omega
    clear hb
    rcases hb' with q | ⟨q1, q2⟩
    all_goals
      go_enter Try.func33, Try.ntmps33
      go_wp2
      go_ret
      exact ⟨ret_bool HX2.out.symm, below_new _ _⟩
end Go.Proofs.Ytplhlbajgijohaa.Nd
