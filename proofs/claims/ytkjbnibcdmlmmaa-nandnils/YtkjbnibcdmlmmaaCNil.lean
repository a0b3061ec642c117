/-
  What a nil chip says.
-/
import Derived.Test.YtkjbnibcdmlmmaaCChip
namespace Go.Proofs.Ytkjbnibcdmlmmaa
open Go.RowKit

theorem nil_read (b p : Int) (w : World) : Calls Try.prog 19 #[.pointer none, .int .i64 b, .int .i64 p] w fun e w' => e = .returned (.tuple #[.slice none 0 0, .int .i64 14]) ∧ w = w' := by
  have hv := reach_nil b w
  go_enter Try.func19, Try.ntmps19
  go_wp2_with (go_at_call 39; refine hv.mono ?_; rintro e w' ⟨rfl, rfl⟩)
  go_ret2
  exact ⟨rfl, rfl⟩
theorem nil_program (b p : Int) (a : Option Addr) (m c : Nat) (w : World) : Calls Try.prog 21 #[.pointer none, .int .i64 b, .int .i64 p, .slice a m c] w fun e w' => e = .returned (.int .i64 14) ∧ w = w' := by
  have hv := reach_nil b w
  go_enter Try.func21, Try.ntmps21
  go_wp2_with (go_at_call 39; refine hv.mono ?_; rintro e w' ⟨rfl, rfl⟩)
  go_ret
  exact ⟨rfl, rfl⟩
theorem nil_erase (b : Int) (w : World) : Calls Try.prog 14 #[.pointer none, .int .i64 b] w fun e w' => e = .returned (.int .i64 14) ∧ w = w' := by
  have hv := reach_nil b w
  go_enter Try.func14, Try.ntmps14
  go_wp2_with (go_at_call 39; refine hv.mono ?_; rintro e w' ⟨rfl, rfl⟩)
  go_ret
  exact ⟨rfl, rfl⟩
theorem nil_mark (b : Int) (w : World) : Calls Try.prog 15 #[.pointer none, .int .i64 b] w fun e w' => e = .returned (.int .i64 14) ∧ w = w' := by
  have hv := reach_nil b w
  go_enter Try.func15, Try.ntmps15
  go_wp2_with (go_at_call 39; refine hv.mono ?_; rintro e w' ⟨rfl, rfl⟩)
  go_ret
  exact ⟨rfl, rfl⟩
theorem nil_arm (a : Option Addr) (m c : Nat) (w : World) : Calls Try.prog 23 #[.pointer none, .slice a m c] w fun e w' => e = .returned (.int .i64 14) ∧ w = w' := by
  go_enter Try.func23, Try.ntmps23
  go_wp2
  go_ret
  exact ⟨rfl, rfl⟩
theorem nil_bad (b : Int) (w : World) : Calls Try.prog 24 #[.pointer none, .int .i64 b] w fun e w' => e = .returned (.bool false) ∧ w = w' := by
  have hv := view_nil b w
  go_enter Try.func24, Try.ntmps24
  go_wp2_with (go_at_call 57; refine hv.mono ?_; rintro e w' ⟨rfl, rfl⟩)
  go_ret
  exact ⟨rfl, rfl⟩
theorem nil_next (b : Int) (w : World) : Calls Try.prog 20 #[.pointer none, .int .i64 b] w fun e w' => e = .returned (.int .i64 0) ∧ w = w' := by
  have hv := view_nil b w
  go_enter Try.func20, Try.ntmps20
  go_wp2_with (go_at_call 57; refine hv.mono ?_; rintro e w' ⟨rfl, rfl⟩)
  go_ret
  exact ⟨rfl, rfl⟩
theorem nil_erases (b : Int) (w : World) : Calls Try.prog 28 #[.pointer none, .int .i64 b] w fun e w' => e = .returned (.int .i64 0) ∧ w = w' := by
  have hv := view_nil b w
  go_enter Try.func28, Try.ntmps28
  go_wp2_with (go_at_call 57; refine hv.mono ?_; rintro e w' ⟨rfl, rfl⟩)
  go_ret
  exact ⟨rfl, rfl⟩
theorem nil_on (w : World) : Calls Try.prog 25 #[.pointer none] w fun e w' => e = .returned (.bool false) ∧ w = w' := by
  go_enter Try.func25, Try.ntmps25
  go_wp2
  go_ret
  exact ⟨rfl, rfl⟩
theorem nil_ops (w : World) : Calls Try.prog 26 #[.pointer none] w fun e w' => e = .returned (.int .i64 0) ∧ w = w' := by
  go_enter Try.func26, Try.ntmps26
  go_wp2
  go_ret
  exact ⟨rfl, rfl⟩
theorem nil_wrong (w : World) : Calls Try.prog 27 #[.pointer none] w fun e w' => e = .returned (.int .i64 0) ∧ w = w' := by
  go_enter Try.func27, Try.ntmps27
  go_wp2
  go_ret
  exact ⟨rfl, rfl⟩
theorem nil_clone (w : World) : Calls Try.prog 13 #[.pointer none] w fun e w' => e = .returned (.pointer none) ∧ w = w' := by
  go_enter Try.func13, Try.ntmps13
  go_wp2
  go_ret
  exact ⟨rfl, rfl⟩
theorem nil_geometry (w : World) : Calls Try.prog 29 #[.pointer none] w fun e w' => e = .returned (.agg #[.int .i64 0, .int .i64 0, .int .i64 0, .int .i64 0]) ∧ Below w.heap.size w w' := by
  go_enter Try.func29, Try.ntmps29
  go_wp2
  refine bodyPost_ret (v := .agg #[.int .i64 0, .int .i64 0, .int .i64 0, .int .i64 0]) ?_ rfl ⟨rfl, ?_⟩
  · simp [results, Try.f29, go_sem]
  · exact below_new w _
end Go.Proofs.Ytkjbnibcdmlmmaa
