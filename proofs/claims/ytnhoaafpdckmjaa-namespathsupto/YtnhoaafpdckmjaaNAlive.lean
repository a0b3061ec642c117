/-
  The examples that each statement asks for.
-/
import Derived.Test.YtnhoaafpdckmjaaNClean
namespace Go.Proofs.Ytnhoaafpdckmjaa
open Go.RowKit Go.Shelf M

theorem any_no (s : ByteArray) (h : s.data.toList = [46] ∨ s.data.toList = [97]) (w : World) :
    Calls Try.prog 33 #[.string s, .string ⟨#[47, 0]⟩] w fun e w' => e = .returned (.bool false) ∧ Below w.heap.size w w' := by
  have hsz : s.size = 1 := by show s.data.size = 1; rw [← Array.length_toList]; rcases h with h | h <;> rw [h] <;> rfl
  refine (Try.strings_ContainsAny_laid s ⟨#[47, 0]⟩ w (by omega) (by decide) ?_ ?_).mono ?_
  · intro j b hj
    rcases h with h | h <;> rw [h] at hj <;> (rcases j with _ | j <;> simp at hj <;> subst hj <;> decide)
  · intro j b hj
    rcases j with _ | _ | j <;> simp at hj <;> subst hj <;> decide
  · rintro e w' ⟨rfl, hb⟩
    refine ⟨?_, hb⟩
    rcases h with h | h <;> rw [h] <;> rfl

theorem right_dot (w : World) : Calls Try.prog 11 #[.string ⟨#[46]⟩] w fun e w' => e = .returned (.int .i64 22) ∧ Below w.heap.size w w' := by
  have h := fun w => any_no ⟨#[46]⟩ (.inl rfl) w
  go_enter Try.func11, Try.ntmps11
  go_wp2_with (go_at_call 33; refine (h _).mono ?_; rintro e w1 ⟨rfl, hb⟩)
  go_ret
  exact ⟨rfl, hb⟩
theorem right_a (w : World) : Calls Try.prog 11 #[.string ⟨#[97]⟩] w fun e w' => e = .returned (.int .i64 0) ∧ Below w.heap.size w w' := by
  have h := fun w => any_no ⟨#[97]⟩ (.inr rfl) w
  go_enter Try.func11, Try.ntmps11
  go_wp2_with (go_at_call 33; refine (h _).mono ?_; rintro e w1 ⟨rfl, hb⟩)
  go_ret
  exact ⟨rfl, hb⟩

theorem split1 (w : World) : Calls Try.prog 9 #[.string ⟨#[47, 97, 47, 47, 98, 47]⟩] w fun e w' => ∃ a cap, e = .returned (.tuple #[.agg #[.slice a 2 cap, .bool true], .int .i64 0]) ∧ SRow w' a [⟨#[97]⟩, ⟨#[98]⟩] ∧ Below w.heap.size w w' := by
  refine (split_at [47, 97, 47, 47, 98, 47] true 0 [⟨#[97]⟩, ⟨#[98]⟩] (by decide) (by decide) (by decide) w).mono ?_
  rintro e w' ⟨a, cap, rfl, h1, _, _, _, h2⟩
  exact ⟨a, cap, rfl, h1, h2⟩
theorem split2 (w : World) : Calls Try.prog 9 #[.string ⟨#[]⟩] w fun e w' => ∃ a cap, e = .returned (.tuple #[.agg #[.slice a 0 cap, .bool false], .int .i64 2]) ∧ Below w.heap.size w w' := by
  refine (split_at [] false 2 [] (by decide) (by decide) (by decide) w).mono ?_
  rintro e w' ⟨a, cap, rfl, h1, _, _, _, h2⟩
  exact ⟨a, cap, rfl, h2⟩
theorem clean1 (w : World) : Calls Try.prog 17 #[.string ⟨#[47, 97, 47, 46, 47, 98, 47, 46, 46, 47, 99]⟩] w fun e w' => e = .returned (.tuple #[.string ⟨#[47, 97, 47, 99]⟩, .int .i64 0]) ∧ Below w.heap.size w w' := by
  refine (clean_any [47, 97, 47, 46, 47, 98, 47, 46, 46, 47, 99] w).mono ?_
  rintro e w' ⟨rfl, hb⟩
  refine ⟨?_, hb⟩
  have h1 : cleaned [47, 97, 47, 46, 47, 98, 47, 46, 46, 47, 99] = [47, 97, 47, 99] := by decide
  have h2 : err [47, 97, 47, 46, 47, 98, 47, 46, 46, 47, 99] = 0 := by decide
  rw [h1, h2]
  rfl
theorem Blk.later {W W' : World} {B : Nat} {cs : Array Value} {t : TypeId} (h : Blk W B cs t) (hb : Below W.heap.size W W') : Blk W' B cs t := (hb.block B (Array.getElem?_eq_some_iff.1 h).1).trans h
theorem two_row (w : World) (x y : ByteArray) : SRow (w.alloc (Obj.cells #[Value.string x, Value.string y] 9)) (some ⟨w.heap.size, 0, none⟩) [x, y] := by
  have h : Blk (w.alloc (Obj.cells #[Value.string x, Value.string y] 9)) w.heap.size #[Value.string x, Value.string y] 9 := World.alloc_heap_new w _
  refine .inr ⟨_, _, rfl, fun i hi => ?_⟩
  rcases i with _ | _ | i
  · exact h.cell0
  · exact h.cell1
  · simp at hi; omega
theorem texts_two (w : World) (a : Option Addr) (cap : Nat) (hr : SRow w a [⟨#[97]⟩, ⟨#[98]⟩]) :
    Calls Try.prog 21 #[.slice a 2 cap, .slice (some ⟨w.heap.size, 0, none⟩) 2 2] (w.alloc (Obj.cells #[Value.string ⟨#[97]⟩, Value.string ⟨#[98]⟩] 9)) fun e w' => e = .returned (.bool true) ∧ ∃ q, w' = (w.alloc (Obj.cells #[Value.string ⟨#[97]⟩, Value.string ⟨#[98]⟩] 9)).drewN q := by
  refine (texts_any a 2 cap [⟨#[97]⟩, ⟨#[98]⟩] (some ⟨w.heap.size, 0, none⟩) 2 2 [⟨#[97]⟩, ⟨#[98]⟩] _ rfl rfl (by decide) (hr.later (below_new _ _)) (two_row w _ _)).mono ?_
  rintro e w' ⟨rfl, h⟩
  exact ⟨rfl, h⟩

set_option maxHeartbeats 2000000 in
theorem alive_any (w : World) : Calls Try.prog 14 #[] w fun e w' => e = .returned (.bool true) ∧ Below w.heap.size w w' := by
  have M1 : Hid True := trivial
  have M2 : Hid True := trivial
  go_enter Try.func14, Try.ntmps14
  go_wp2_with (first
    | (go_at_call 9; clear M1; go_must (refine (split1 w).mono ?_); rintro e w1 ⟨a, cap, rfl, hr1, hb1⟩)
    | (go_at_call 9; go_must (refine (split2 _).mono ?_); rintro e w2 ⟨a2, cap2, rfl, hb2⟩; have hk2 := Blk.later (World.alloc_heap_new w1 (Obj.cells #[Value.slice a 2 cap, Value.bool true] 24)) hb2; have hr2 := (hr1.later (below_new w1 _)).later hb2; have hz2 := Below.after (below_new w1 (Obj.cells #[Value.slice a 2 cap, Value.bool true] 24)) hb2; have hy2 := Below.after hb1 hz2; clear hr1 hb1 hb2 hz2)
    | (go_at_call 17; go_must (refine (clean1 _).mono ?_); rintro e w3 ⟨rfl, hb3⟩; have hk3 := (hk2.later (below_new w2 _)).later hb3; have hr3 := (hr2.later (below_new w2 _)).later hb3; have hy3 := Below.after hy2 (Below.after (below_new w2 _) hb3); have c0 := hk3.cell0; have c1 := hk3.cell1; clear hk2 hr2 hy2 hb3)
    | (go_at_call 21; go_must (refine (texts_two _ a cap hr3).mono ?_); rintro e w4 ⟨rfl, q, rfl⟩; have hk4 := hk3.later (below_new w3 (Obj.cells #[Value.string ⟨#[97]⟩, Value.string ⟨#[98]⟩] 9)); have c4 := hk4.cell1; have hy4 := Below.after (Below.after hy3 (below_new w3 (Obj.cells #[Value.string ⟨#[97]⟩, Value.string ⟨#[98]⟩] 9))) (below_drawn _ q); clear hr3)
    | (go_at_call 11; clear M2; go_must (refine (right_dot _).mono ?_); rintro e w5 ⟨rfl, hb5⟩; have hy5 := Below.after hy4 hb5; clear hy4 hb5)
    | (go_at_call 11; go_must (refine (right_a _).mono ?_); rintro e w6 ⟨rfl, hb6⟩; have hy6 := Below.after hy5 hb6; clear hy5 hb6))
  go_ret
  exact ⟨rfl, hy6⟩
end Go.Proofs.Ytnhoaafpdckmjaa
