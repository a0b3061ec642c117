/-
  Proved: the statement on names and on paths that are parted (NamesRights): for every two texts; no condition.
-/
import Derived.Test.YtnhoaafpdckmjaaNRefB
import Derived.Test.YtnhoaafpdckmjaaNArg
namespace Go.Proofs.Ytnhoaafpdckmjaa.namesRights
open Go.ChangeShapes Go.WideShapes Go.ChangeAt Go.RowKit Go.Shelf M

set_option maxHeartbeats 2000000 in
theorem walk_l (l s : List UInt8) (hl : l.length ≤ maxLen) (w : World) :
    Calls Try.prog 3 #[.string (bs l), .string (bs s)] w fun e w' => e = .returned (.bool true) ∧ Below w.heap.size w w' := by
  obtain ⟨ps, hps⟩ : ∃ ps, ps = (told s).map bs := ⟨_, rfl⟩
  obtain ⟨b, hb⟩ : ∃ b, b = ends s := ⟨_, rfl⟩
  obtain ⟨z, hz⟩ : ∃ z, z = err s := ⟨_, rfl⟩
  obtain ⟨r, hr⟩ : ∃ r, r = rightOf l := ⟨_, rfl⟩
  obtain ⟨n, hn⟩ : ∃ n, n = ps.length := ⟨_, rfl⟩
  have hs1 := split_at s b z ps hb hz hps w
  have hs2 : ∀ W, Calls Try.prog 10 #[.string (bs s)] W fun e w' => ∃ a cap, e = .returned (.tuple #[.agg #[.slice a n cap, .bool b], .int .i64 z]) ∧ SRow w' a ps ∧ Below W.heap.size W w' := by
    intro W
    refine (rsplit_any s W).mono ?_
    rintro e w' ⟨a, m, cap, rfl, rfl, h1, h2⟩
    refine ⟨a, cap, by rw [hb, hz, hn, hps, List.length_map], by rw [hps]; exact h1, h2⟩
  have hr1 := fun W => right_any l hl W
  have hr2 := fun W => rright_any l hl W
  rw [← hr] at hr1 hr2
  rw [← hn] at hs1
  have HN : Hid (n = ps.length) := hn
  obtain ⟨L, hL⟩ : ∃ L, L = bs l := ⟨_, rfl⟩
  obtain ⟨S, hS⟩ : ∃ S, S = bs s := ⟨_, rfl⟩
  rw [← hL] at hr1 hr2 ⊢
  rw [← hS] at hs1 hs2 ⊢
  clear hps hb hz hr hn hL hS
  go_enter Try.func3, Try.ntmps3
  go_wp2_with (first
    | (go_at_call 9; go_must (refine hs1.mono ?_); rintro e w1 ⟨a, cap, rfl, hr1', hnil, hcap, hmax, hb1⟩; have hy1 := Below.after hb1 (below_new w1 (Obj.cells #[Value.slice a n cap, Value.bool b] 24)); have hq1 := hr1'.later (below_new w1 (Obj.cells #[Value.slice a n cap, Value.bool b] 24)); have hk1 : Blk (w1.alloc (Obj.cells #[Value.slice a n cap, Value.bool b] 24)) w1.heap.size #[Value.slice a n cap, Value.bool b] 24 := World.alloc_heap_new w1 _; have hnm : n ≤ maxLen := Nat.le_trans hcap hmax; clear hr1' hb1 hs1)
    | (go_at_call 10; go_must (refine (hs2 _).mono ?_); rintro e w2 ⟨a2, cap2, rfl, hr2', hb2⟩; have hy2 := Below.after (Below.after hy1 hb2) (below_new w2 (Obj.cells #[Value.slice a2 n cap2, Value.bool b] 28)); have hq2 := (hq1.later hb2).later (below_new w2 (Obj.cells #[Value.slice a2 n cap2, Value.bool b] 28)); have hq3 := hr2'.later (below_new w2 (Obj.cells #[Value.slice a2 n cap2, Value.bool b] 28)); have hk2 := (hk1.later hb2).later (below_new w2 (Obj.cells #[Value.slice a2 n cap2, Value.bool b] 28)); have hk3 : Blk (w2.alloc (Obj.cells #[Value.slice a2 n cap2, Value.bool b] 28)) w2.heap.size #[Value.slice a2 n cap2, Value.bool b] 28 := World.alloc_heap_new w2 _; clear hr2' hb2 hy1 hq1 hk1)
    | (go_at_call 11; go_must (refine (hr1 _).mono ?_); rintro e w3 ⟨rfl, hb3⟩; have hy3 := Below.after hy2 hb3; have hq4 := hq2.later hb3; have hq5 := hq3.later hb3; have hk4 := hk2.later hb3; have hk5 := hk3.later hb3; have c0 := hk4.cell0; have c1 := hk4.cell1; have d0 := hk5.cell0; have d1 := hk5.cell1; clear hb3 hy2 hq2 hq3 hk2 hk3)
    | (go_at_call 12; go_must (refine (hr2 _).mono ?_); rintro e w4 ⟨rfl, rfl⟩)
    | (go_at_call 13; go_must (refine (same_yes a a2 n cap cap2 ps b _ HN.out hnm hq4 hq5).mono ?_); rintro e w5 ⟨rfl, hb5⟩; have hy5 := Below.after hy3 hb5)
    | (go_at_call 14; refine (alive_any _).mono ?_; rintro e w6 ⟨rfl, hb6⟩))
  go_ret
  exact ⟨by simp, Below.after hy5 hb6⟩

theorem walk (x y : ByteArray) (w : World) (hx : x.size ≤ maxLen) (_ : y.size ≤ maxLen) :
    Calls Try.prog 3 #[.string x, .string y] w fun e w' => e = .returned (.bool true) ∧ Below w.heap.size w w' := by
  rw [← bs_of x, ← bs_of y]
  refine walk_l _ _ ?_ w
  rw [Array.length_toList]
  exact hx

set_option maxRecDepth 100000 in
theorem lifted (os : Os) (started : os.Started) (H : Type) (enc : TypeId × Value → H) :
    ReturnsInHanded {} Try.checked os 3 .any (Rows.namesRightsSpec.pre6 enc Try.prog Try.f3 Rows.namesRightsRow.domain false) (Rows.namesRightsSpec.post enc Try.prog Try.f3 false true false false) := by
  refine returnsInHanded_of_change (C := Try.checked) own started (by kernel_rfl) Try.func3
    (ChangeSpec.witness6 (enc := enc) (C := Try.checked) false ⟨#[], #[.string ⟨#[]⟩, .string ⟨#[]⟩], []⟩ 8 (by kernel_rfl) (by kernel_rfl) (by kernel_rfl) (by kernel_rfl)) ?_
  intro W base args ds gs before hval0 hW hcnd _
  have hval : ∀ (j : Nat) t v, Try.f3.params[j]? = some t → args[j]? = some v → Value.okWide Try.prog W .any base t v := hval0
  have hW' := hW
  obtain ⟨p, q, hA0, hV, rfl, hfz, hnd⟩ := hW
  have hA : DataW.TrodAll enc Try.prog W 0 (fun _ => true) true Try.f3.params.toList args.toList ds p := hA0
  rw [Try.params3] at hA hval
  obtain ⟨v0, vs0, d0, ds0, p0, q0, hargs, rfl, rfl, h0, r0⟩ := trodAll_cons hA
  obtain ⟨v1, vs1, d1, ds1, p1, q1, rfl, rfl, rfl, h1, r1⟩ := trodAll_cons r0
  obtain ⟨rfl, rfl, rfl⟩ := trodAll_nil r1
  obtain rfl : args = #[v0, v1] := by cases args; simp_all
  obtain ⟨rfl, rfl⟩ := trodVars_none hV
  obtain ⟨a0, rfl, rfl, rfl, w0⟩ := Go.ChangeMaps.open_string Try.underlying9 (hval 0 9 v0 rfl rfl) h0
  obtain ⟨a1, rfl, rfl, rfl, w1⟩ := Go.ChangeMaps.open_string Try.underlying9 (hval 1 9 v1 rfl rfl) h1
  clear hA0 hval0
  refine (walk a0 a1 W w0 w1).mono fun e W' ⟨he, bel⟩ => ?_
  subst he
  exact ⟨_, rfl, _, _, _, [], _, [], hW', trodAll_mk1 (shut_bool Try.underlying4 _), (trodAll_cons_mk (Go.ChangeMaps.shut_string Try.underlying9 w0) (trodAll_cons_mk (Go.ChangeMaps.shut_string Try.underlying9 w1) trodAll_mk0)), rfl, bel.frame _, fun h => by cases h⟩

theorem over : Rows.namesRightsRow.holds Try.pinned (OpenSpec.ofChange Rows.namesRightsSpec) :=
  OpenClaim.holds_of_wide 3 Try.f3 rfl rfl rfl rfl rfl rfl rfl ⟨rfl, rfl, rfl, rfl, rfl⟩ rfl rfl rfl rfl rfl (by kernel_rfl) Try.func3 (by kernel_rfl)
    (of_decide_eq_true (by kernel_rfl)) (by unfold Func.isWrapper; first | (rw [if_pos (by decide +kernel)]; kernel_rfl) | (rw [if_neg (by decide +kernel)]; exact ⟨rfl, rfl⟩))
    (fun os started H enc _ => lifted os started H enc)
end Go.Proofs.Ytnhoaafpdckmjaa.namesRights

namespace Go.Proofs.Ytnhoaafpdckmjaa
theorem namesRights_holds : Rows.NamesRightsSaid := namesRights.over
#print axioms namesRights_holds
end Go.Proofs.Ytnhoaafpdckmjaa
