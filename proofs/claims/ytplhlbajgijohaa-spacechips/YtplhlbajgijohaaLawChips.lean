/-
  SpaceChips: of any geometry (four numbers, whatever they are) Lebs, Bytes, Limit and Most of the program answer what those of the document answer, and the chapter's examples come out. No condition.
-/
import Derived.Test.YtplhlbajgijohaaPW
namespace Go.Proofs.Ytplhlbajgijohaa.spaceChips
open Go.ChangeShapes Go.WideShapes Go.ChangeAt Go.RowKit Go.Deep Go.Proofs.Ytplhlbajgijohaa
set_option maxRecDepth 10000

set_option maxHeartbeats 4000000 in
theorem walk (b p z r : Int) (w : World) : Calls Try.prog 3 #[.agg #[.int .i64 b, .int .i64 p, .int .i64 z, .int .i64 r]] w fun e w' => e = .returned (.bool true) ∧ Below w.heap.size w w' := by
  obtain ⟨W1, hW1⟩ : ∃ W1, W1 = w.alloc (.cells #[.int .i64 b, .int .i64 p, .int .i64 z, .int .i64 r] 23) := ⟨_, rfl⟩
  have HX : Row W1 w.heap.size [.int .i64 b, .int .i64 p, .int .i64 z, .int .i64 r] 23 := by rw [hW1]; exact Row.new w [.int .i64 b, .int .i64 p, .int .i64 z, .int .i64 r] _
  have HB : Hid (Below w.heap.size w W1) := by rw [hW1]; exact below_new _ _
  have H1 : Hid (∀ q : Wd W1, Calls Try.prog 9 #[.agg #[.int .i64 b, .int .i64 p, .int .i64 z, .int .i64 r]] q.v fun e w'' => e = .returned (.int .i64 (lebG b p z r)) ∧ ∃ q : Wd W1, w'' = q.v) := fun q => quiet_call q (lebs_any b p z r q.v)
  have H2 : Hid (∀ q : Wd W1, Calls Try.prog 10 #[.agg #[.int .i64 b, .int .i64 p, .int .i64 z, .int .i64 r]] q.v fun e w'' => e = .returned (.int .i64 (lebG b p z r)) ∧ ∃ q : Wd W1, w'' = q.v) := fun q => quiet_call q (rlebs_any b p z r q.v)
  have H3 : Hid (∀ q : Wd W1, Calls Try.prog 11 #[.agg #[.int .i64 b, .int .i64 p, .int .i64 z, .int .i64 r]] q.v fun e w'' => e = .returned (.int .i64 (bytG b p z r)) ∧ ∃ q : Wd W1, w'' = q.v) := fun q => quiet_call q (bytes_any b p z r q.v)
  have H4 : Hid (∀ q : Wd W1, Calls Try.prog 12 #[.agg #[.int .i64 b, .int .i64 p, .int .i64 z, .int .i64 r]] q.v fun e w'' => e = .returned (.int .i64 (bytG b p z r)) ∧ ∃ q : Wd W1, w'' = q.v) := fun q => quiet_call q (rbytes_any b p z r q.v)
  have H5 : Hid (∀ q : Wd W1, Calls Try.prog 13 #[.agg #[.int .i64 b, .int .i64 p, .int .i64 z, .int .i64 r]] q.v fun e w'' => e = .returned (.int .i64 (limG b p z r)) ∧ ∃ q : Wd W1, w'' = q.v) := fun q => quiet_call q (limit_any b p z r q.v)
  have H6 : Hid (∀ q : Wd W1, Calls Try.prog 14 #[.agg #[.int .i64 b, .int .i64 p, .int .i64 z, .int .i64 r]] q.v fun e w'' => e = .returned (.int .i64 (limG b p z r)) ∧ ∃ q : Wd W1, w'' = q.v) := fun q => quiet_call q (rlimit_any b p z r q.v)
  have H7 : Hid (∀ q : Wd W1, Calls Try.prog 15 #[.agg #[.int .i64 b, .int .i64 p, .int .i64 z, .int .i64 r]] q.v fun e w'' => e = .returned (.int .i64 (mosG b p z r)) ∧ ∃ q : Wd W1, w'' = q.v) := fun q => quiet_call q (most_any b p z r q.v)
  have H8 : Hid (∀ q : Wd W1, Calls Try.prog 16 #[.agg #[.int .i64 b, .int .i64 p, .int .i64 z, .int .i64 r]] q.v fun e w'' => e = .returned (.int .i64 (mosG b p z r)) ∧ ∃ q : Wd W1, w'' = q.v) := fun q => quiet_call q (rmost_any b p z r q.v)
  have H9 : Hid (∀ q : Wd W1, Calls Try.prog 17 #[] q.v fun e w'' => e = .returned (.bool true) ∧ ∃ q : Wd W1, w'' = q.v) := fun q => quiet_call q (alive_any q.v)
  have HZ : Hid (∀ q : Wd W1, q.v.cell? ⟨w.heap.size, 0, none⟩ = some (.int .i64 b) ∧ q.v.cell? ⟨w.heap.size, 1, none⟩ = some (.int .i64 p) ∧ q.v.cell? ⟨w.heap.size, 2, none⟩ = some (.int .i64 z) ∧ q.v.cell? ⟨w.heap.size, 3, none⟩ = some (.int .i64 r)) := fun q => (HX.later q.h).cells4
  clear HX
  generalize lebG b p z r = n1 at *
  generalize bytG b p z r = n2 at *
  generalize limG b p z r = n3 at *
  generalize mosG b p z r = n4 at *
  go_enter Try.func3, Try.ntmps3
  go_wp2_with fail
  rw [← hW1]
  clear hW1
  have z0 := fun q => (HZ.out q).1
  have z1 := fun q => (HZ.out q).2.1
  have z2 := fun q => (HZ.out q).2.2.1
  have z3 := fun q => (HZ.out q).2.2.2
  have ne := Wd.non W1
  refine quiet_below (by kernel_rfl) ?_
  repeat (first | go_big_quiet_skip | go_big_quiet_step (first
    | (go_at_call 9; exact H1.out _) | (go_at_call 10; exact H2.out _)
    | (go_at_call 11; exact H3.out _) | (go_at_call 12; exact H4.out _)
    | (go_at_call 13; exact H5.out _) | (go_at_call 14; exact H6.out _)
    | (go_at_call 15; exact H7.out _) | (go_at_call 16; exact H8.out _)
    | (go_at_call 17; exact H9.out _)))
  refine wpQuiet_nil ?_
  rintro _ ⟨p7, rfl⟩
  have HB7 : Hid (Below w.heap.size w p7.v) := Below.after HB.out p7.h
  clear z0 z1 z2 z3 ne
  go_wp2
  go_ret
  exact ⟨rfl, HB7.out⟩

set_option maxRecDepth 100000 in
theorem lifted (os : Os) (started : os.Started) (H : Type) (enc : TypeId × Value → H) :
    ReturnsInHanded {} Try.checked os 3 .any (Rows.spaceChipsSpec.pre6 enc Try.prog Try.f3 Rows.spaceChipsRow.domain false) (Rows.spaceChipsSpec.post enc Try.prog Try.f3 false true false false) := by
  refine returnsInHanded_of_change_sized (C := Try.checked) own started (by kernel_rfl) Try.func3
    (ChangeSpec.witness6 (enc := enc) (C := Try.checked) false ⟨#[], #[.agg #[.int .i64 0, .int .i64 0, .int .i64 0, .int .i64 0]], []⟩ 8 (by kernel_rfl) (by kernel_rfl) (by kernel_rfl) (by kernel_rfl)) ?_
  intro W base args ds gs before hval0 hW hcnd hsz0 _
  have hval : ∀ (j : Nat) t v, Try.f3.params[j]? = some t → args[j]? = some v → Value.okWide Try.prog W .any base t v := hval0
  have hsz : (DataW.weightsEach Try.prog (Try.f3.params.toList ++ Rows.spaceChipsSpec.plain.varTypes Try.prog) (ds ++ gs)).all (· ≤ reachBytes) = true := hsz0
  have hW' := hW
  obtain ⟨p, q, hA0, hV, rfl, hfz, hnd⟩ := hW
  have hA : DataW.TrodAll enc Try.prog W 0 (fun _ => true) true Try.f3.params.toList args.toList ds p := hA0
  rw [Try.params3] at hA hval hsz
  obtain ⟨v0, vs0, d0, ds0, p0, q0, hargs, rfl, rfl, h0, r0⟩ := trodAll_cons hA
  obtain ⟨rfl, rfl, rfl⟩ := trodAll_nil r0
  obtain rfl : args = #[v0] := by cases args; simp_all
  obtain ⟨rfl, rfl⟩ := trodVars_none hV
  obtain ⟨cs0, rfl, sz0⟩ := okWide_struct Try.underlying23 (hval 0 23 v0 rfl rfl)
  have k0 := h0
  have lt0 : ∀ x ∈ p0, x.block < W.heap.size := by obtain ⟨m, hm⟩ := k0; exact DataW.trod_lt m _ _ _ hm
  obtain ⟨gb0, gp0, gz0, gr0, rfl⟩ : ∃ b p z r, cs0 = #[.int .i64 b, .int .i64 p, .int .i64 z, .int .i64 r] := by
    obtain ⟨fuel, hf⟩ := h0
    exact garg_open sz0 hf
  clear hA0 hval0
  refine (walk gb0 gp0 gz0 gr0 W ).mono fun e W' ⟨he, bel⟩ => ?_
  subst he
  exact ⟨_, rfl, _, _, _, [], _, [], hW', trodAll_mk1 (shut_bool Try.underlying4 _), (trodAll_cons_mk (Below.trod laidOut (by kernel_rfl) (of_decide_eq_true (by kernel_rfl)) k0 bel lt0) trodAll_mk0), rfl, bel.frame _, fun h => by cases h⟩

theorem over : Rows.spaceChipsRow.holds Try.pinned (OpenSpec.ofChange Rows.spaceChipsSpec) :=
  OpenClaim.holds_of_wide 3 Try.f3 rfl rfl rfl rfl rfl rfl rfl ⟨rfl, rfl, rfl, rfl, rfl⟩ rfl rfl rfl rfl rfl (by kernel_rfl) Try.func3 (by kernel_rfl)
    (of_decide_eq_true (by kernel_rfl)) (by unfold Func.isWrapper; first | (rw [if_pos (by decide +kernel)]; kernel_rfl) | (rw [if_neg (by decide +kernel)]; exact ⟨rfl, rfl⟩))
    (fun os started H enc _ => lifted os started H enc)
end Go.Proofs.Ytplhlbajgijohaa.spaceChips

namespace Go.Proofs.Ytplhlbajgijohaa
theorem spaceChips_holds : Rows.SpaceChipsSaid := spaceChips.over
#print axioms spaceChips_holds
end Go.Proofs.Ytplhlbajgijohaa
