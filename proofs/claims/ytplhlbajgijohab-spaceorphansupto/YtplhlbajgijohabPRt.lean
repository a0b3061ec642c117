/-
  What Right answers.
-/
import Derived.Test.YtplhlbajgijohabPN
namespace Go.Proofs.Ytplhlbajgijohab.Nd
open Go.RowKit

theorem within_any (n a b : Int) (w : World) : Calls Try.prog 34 #[.int .i64 n, .int .i64 a, .int .i64 b] w fun e w' => e = .returned (.bool (decide (a ≤ n ∧ n ≤ b))) ∧ w = w' := by
  by_cases h1 : a ≤ n
  · go_enter Try.func34, Try.ntmps34
    go_wp2
    go_ret
    exact ⟨by simp [h1], rfl⟩
  · go_enter Try.func34, Try.ntmps34
    go_wp2
    go_ret
    exact ⟨by simp; omega, rfl⟩


/-- What powerOfTwo says. -/
def powB (n : Int) : Bool := decide (0 < n) && (bits .and .i64 n (wrap64 (n - 1)) == 0)
/-- What Right says. -/
def rightB (b p z r : Int) : Bool :=
  decide (16 ≤ b ∧ b ≤ 256) && (decide (8 ≤ p ∧ p ≤ 64) && (powB p && (decide (64 ≤ z ∧ z ≤ 512) && (powB z && (decide (1536 ≤ wrap64 (wrap64 (p - 2) * z)) && decide (0 ≤ r ∧ r ≤ wrap64 (b.tdiv 4)))))))
theorem pow_any (n : Int) (w : World) : Calls Try.prog 35 #[.int .i64 n] w fun e w' => e = .returned (.bool (powB n)) ∧ w = w' := by
  by_cases h : 0 < n
  · unfold powB
    rw [decide_eq_true h, Bool.true_and]
    go_enter Try.func35, Try.ntmps35
    go_wp2
    go_ret
    exact ⟨rfl, rfl⟩
  · unfold powB
    rw [decide_eq_false h, Bool.false_and]
    go_enter Try.func35, Try.ntmps35
    go_wp2
    go_ret
    exact ⟨rfl, rfl⟩
set_option maxHeartbeats 2000000 in
theorem right_any (b p z r : Int) (w : World) : Calls Try.prog 28 #[.agg #[.int .i64 b, .int .i64 p, .int .i64 z, .int .i64 r]] w fun e w' => e = .returned (.bool (rightB b p z r)) ∧ Below w.heap.size w w' := by
  have h1 := fun W => within_any b 16 256 W
  have h2 := fun W => within_any p 8 64 W
  have h3 := fun W => pow_any p W
  have h4 := fun W => within_any z 64 512 W
  have h5 := fun W => pow_any z W
  have h7 := fun W => within_any r 0 (wrap64 (b.tdiv 4)) W
  unfold rightB
  have e6 : ∃ b6, decide (1536 ≤ wrap64 (wrap64 (p - 2) * z)) = b6 ∧ (b6 = true → 1536 ≤ wrap64 (wrap64 (p - 2) * z)) ∧ (b6 = false → ¬ 1536 ≤ wrap64 (wrap64 (p - 2) * z)) := ⟨_, rfl, fun e => by simpa using e, fun e => by simpa using e⟩
  obtain ⟨b6, e6, e61, e62⟩ := e6
  rw [e6]
  clear e6
  generalize decide (16 ≤ b ∧ b ≤ 256) = b1 at *
  generalize decide (8 ≤ p ∧ p ≤ 64) = b2 at *
  generalize powB p = b3 at *
  generalize decide (64 ≤ z ∧ z ≤ 512) = b4 at *
  generalize powB z = b5 at *
  generalize decide (0 ≤ r ∧ r ≤ wrap64 (b.tdiv 4)) = b7 at *
  have M1 : Hid True := trivial
  have M2 : Hid True := trivial
  have M3 : Hid True := trivial
  have M4 : Hid True := trivial
  have fin : ∀ B : Bool, Below w.heap.size w (w.alloc (.cells #[.int .i64 b, .int .i64 p, .int .i64 z, .int .i64 r] 42)) := fun _ => below_new w _
  rcases Bool.eq_false_or_eq_true b1 with hb | hb
  rotate_left
  · subst hb
    go_enter Try.func28, Try.ntmps28
    go_wp2_with (first
      | (go_at_call 34; clear M1; go_must (refine (h1 _).mono ?_); rintro e w' ⟨rfl, rfl⟩)
      | (go_at_call 34; clear M2; go_must (refine (h2 _).mono ?_); rintro e w' ⟨rfl, rfl⟩)
      | (go_at_call 35; clear M4; go_must (refine (h3 _).mono ?_); rintro e w' ⟨rfl, rfl⟩)
      | (go_at_call 34; clear M3; go_must (refine (h4 _).mono ?_); rintro e w' ⟨rfl, rfl⟩)
      | (go_at_call 35; go_must (refine (h5 _).mono ?_); rintro e w' ⟨rfl, rfl⟩)
      | (go_at_call 34; go_must (refine (h7 _).mono ?_); rintro e w' ⟨rfl, rfl⟩))
    go_ret
    exact ⟨by simp, fin true⟩
  subst hb
  rcases Bool.eq_false_or_eq_true b2 with hb | hb
  rotate_left
  · subst hb
    go_enter Try.func28, Try.ntmps28
    go_wp2_with (first
      | (go_at_call 34; clear M1; go_must (refine (h1 _).mono ?_); rintro e w' ⟨rfl, rfl⟩)
      | (go_at_call 34; clear M2; go_must (refine (h2 _).mono ?_); rintro e w' ⟨rfl, rfl⟩)
      | (go_at_call 35; clear M4; go_must (refine (h3 _).mono ?_); rintro e w' ⟨rfl, rfl⟩)
      | (go_at_call 34; clear M3; go_must (refine (h4 _).mono ?_); rintro e w' ⟨rfl, rfl⟩)
      | (go_at_call 35; go_must (refine (h5 _).mono ?_); rintro e w' ⟨rfl, rfl⟩)
      | (go_at_call 34; go_must (refine (h7 _).mono ?_); rintro e w' ⟨rfl, rfl⟩))
    go_ret
    exact ⟨by simp, fin true⟩
  subst hb
  rcases Bool.eq_false_or_eq_true b3 with hb | hb
  rotate_left
  · subst hb
    go_enter Try.func28, Try.ntmps28
    go_wp2_with (first
      | (go_at_call 34; clear M1; go_must (refine (h1 _).mono ?_); rintro e w' ⟨rfl, rfl⟩)
      | (go_at_call 34; clear M2; go_must (refine (h2 _).mono ?_); rintro e w' ⟨rfl, rfl⟩)
      | (go_at_call 35; clear M4; go_must (refine (h3 _).mono ?_); rintro e w' ⟨rfl, rfl⟩)
      | (go_at_call 34; clear M3; go_must (refine (h4 _).mono ?_); rintro e w' ⟨rfl, rfl⟩)
      | (go_at_call 35; go_must (refine (h5 _).mono ?_); rintro e w' ⟨rfl, rfl⟩)
      | (go_at_call 34; go_must (refine (h7 _).mono ?_); rintro e w' ⟨rfl, rfl⟩))
    go_ret
    exact ⟨by simp, fin true⟩
  subst hb
  rcases Bool.eq_false_or_eq_true b4 with hb | hb
  rotate_left
  · subst hb
    go_enter Try.func28, Try.ntmps28
    go_wp2_with (first
      | (go_at_call 34; clear M1; go_must (refine (h1 _).mono ?_); rintro e w' ⟨rfl, rfl⟩)
      | (go_at_call 34; clear M2; go_must (refine (h2 _).mono ?_); rintro e w' ⟨rfl, rfl⟩)
      | (go_at_call 35; clear M4; go_must (refine (h3 _).mono ?_); rintro e w' ⟨rfl, rfl⟩)
      | (go_at_call 34; clear M3; go_must (refine (h4 _).mono ?_); rintro e w' ⟨rfl, rfl⟩)
      | (go_at_call 35; go_must (refine (h5 _).mono ?_); rintro e w' ⟨rfl, rfl⟩)
      | (go_at_call 34; go_must (refine (h7 _).mono ?_); rintro e w' ⟨rfl, rfl⟩))
    go_ret
    exact ⟨by simp, fin true⟩
  subst hb
  rcases Bool.eq_false_or_eq_true b5 with hb | hb
  rotate_left
  · subst hb
    go_enter Try.func28, Try.ntmps28
    go_wp2_with (first
      | (go_at_call 34; clear M1; go_must (refine (h1 _).mono ?_); rintro e w' ⟨rfl, rfl⟩)
      | (go_at_call 34; clear M2; go_must (refine (h2 _).mono ?_); rintro e w' ⟨rfl, rfl⟩)
      | (go_at_call 35; clear M4; go_must (refine (h3 _).mono ?_); rintro e w' ⟨rfl, rfl⟩)
      | (go_at_call 34; clear M3; go_must (refine (h4 _).mono ?_); rintro e w' ⟨rfl, rfl⟩)
      | (go_at_call 35; go_must (refine (h5 _).mono ?_); rintro e w' ⟨rfl, rfl⟩)
      | (go_at_call 34; go_must (refine (h7 _).mono ?_); rintro e w' ⟨rfl, rfl⟩))
    go_ret
    exact ⟨by simp, fin true⟩
  subst hb
  rcases Bool.eq_false_or_eq_true b6 with hb6 | hb6
  rotate_left
  · have hm := e62 hb6
    subst hb6
    clear e61 e62
    go_enter Try.func28, Try.ntmps28
    go_wp2_with (first
      | (go_at_call 34; clear M1; go_must (refine (h1 _).mono ?_); rintro e w' ⟨rfl, rfl⟩)
      | (go_at_call 34; clear M2; go_must (refine (h2 _).mono ?_); rintro e w' ⟨rfl, rfl⟩)
      | (go_at_call 35; clear M4; go_must (refine (h3 _).mono ?_); rintro e w' ⟨rfl, rfl⟩)
      | (go_at_call 34; clear M3; go_must (refine (h4 _).mono ?_); rintro e w' ⟨rfl, rfl⟩)
      | (go_at_call 35; go_must (refine (h5 _).mono ?_); rintro e w' ⟨rfl, rfl⟩)
      | (go_at_call 34; go_must (refine (h7 _).mono ?_); rintro e w' ⟨rfl, rfl⟩))
    go_ret
    exact ⟨by simp, fin true⟩
  have hm := e61 hb6
  subst hb6
  clear e61 e62
  go_enter Try.func28, Try.ntmps28
  go_wp2_with (first
      | (go_at_call 34; clear M1; go_must (refine (h1 _).mono ?_); rintro e w' ⟨rfl, rfl⟩)
      | (go_at_call 34; clear M2; go_must (refine (h2 _).mono ?_); rintro e w' ⟨rfl, rfl⟩)
      | (go_at_call 35; clear M4; go_must (refine (h3 _).mono ?_); rintro e w' ⟨rfl, rfl⟩)
      | (go_at_call 34; clear M3; go_must (refine (h4 _).mono ?_); rintro e w' ⟨rfl, rfl⟩)
      | (go_at_call 35; go_must (refine (h5 _).mono ?_); rintro e w' ⟨rfl, rfl⟩)
      | (go_at_call 34; go_must (refine (h7 _).mono ?_); rintro e w' ⟨rfl, rfl⟩))
  go_ret
  exact ⟨by simp, fin true⟩
end Go.Proofs.Ytplhlbajgijohab.Nd
