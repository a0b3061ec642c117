/-
  For all numbers and mappings: HeaderMakes answers true (the two page images are made as the document says, byte by byte, or refused), and leaves its arguments as they were; given that the package's error variable holds what its initialiser lays (the card ties it). No other condition.
-/
import Derived.Test.YtdhbhjfpjmmonaaDoorHRefM
namespace Go.Proofs.YtdhbhjfpjmmonaaDoor.headerMakes
open Go.ChangeShapes Go.WideShapes Go.ChangeAt Go.RowKit M

set_option maxRecDepth 10000 in
set_option maxHeartbeats 4000000 in
theorem core (n page a1 a2 a3 E1 E2 : Int) (l1 l2 : List Nat) (n1 n2 : Nat) (w : World) (hg : Glb w)
    (c1 : ∀ w, Calls Tryd.prog 7 #[.int .i64 n, .int .i64 page] w (ResPost w l1 n1 E1))
    (c2 : ∀ w, Calls Tryd.prog 8 #[.int .i64 n, .int .i64 page] w (RResPost w l1 n1 E1))
    (c3 : ∀ w, Calls Tryd.prog 9 #[.agg #[.int .i64 a1, .int .u64 a2, .int .i64 a3], .int .i64 page] w (ResPost w l2 n2 E2))
    (c4 : ∀ w, Calls Tryd.prog 10 #[.agg #[.int .i64 a1, .int .u64 a2, .int .i64 a3], .int .i64 page] w (RResPost w l2 n2 E2)) :
    Calls Tryd.prog 3 #[.int .i64 n, .int .i64 page, .agg #[.int .i64 a1, .int .u64 a2, .int .i64 a3]] w fun e w' => e = .returned (.bool true) ∧ Below w.heap.size w w' := by
  obtain ⟨W, hW⟩ : ∃ W, W = w.alloc (.cells #[.int .i64 a1, .int .u64 a2, .int .i64 a3] 24) := ⟨_, rfl⟩
  have HB : Hid (Below w.heap.size w W) := by rw [hW]; exact below_new _ _
  have HA : Hid (Row W w.heap.size [.int .i64 a1, .int .u64 a2, .int .i64 a3] 24) := by rw [hW]; exact Row.new w [_, _, _] _
  have HG : Hid (Glb W) := hg.later HB.out
  have e1 : (E1 == E1) = true := by simp
  have e2 : (E2 == E2) = true := by simp
  clear hg
  have M1 : Hid True := trivial
  go_enter Tryd.func3, Tryd.ntmps3
  go_wp2_with fail
  rw [← hW]
  clear hW
  go_wp2_with (first
    | (go_at_call 7; refine (c1 _).mono ?_; rintro e w1 ⟨x1, y1, rfl, hl1, hb1, _⟩; have HL1 : Hid (Lies _ _ _ _ _) := hl1; have HB1 : Hid (Below W.heap.size W w1) := hb1; clear hl1 hb1)
    | (go_at_call 8; refine (c2 _).mono ?_; rintro e w2 ⟨x2, y2, rfl, hl2, hb2⟩; have HL2 : Hid (Lies _ _ _ _ _) := hl2; have HL12 : Hid (Lies w2 _ _ _ _) := HL1.out.later hb2; have HB2 : Hid (Below W.heap.size W w2) := Below.after HB1.out hb2; clear hl2 hb2; have hra := HA.out.later HB2.out; have d0 : w2.cell? ⟨w.heap.size, 0, none⟩ = some (.int .i64 a1) := hra.cell (i := 0) rfl; have d1 : w2.cell? ⟨w.heap.size, 1, none⟩ = some (.int .u64 a2) := hra.cell (i := 1) rfl; have d2 : w2.cell? ⟨w.heap.size, 2, none⟩ = some (.int .i64 a3) := hra.cell (i := 2) rfl; clear hra)
    | (go_at_call 9; clear d0 d1 d2; refine (c3 _).mono ?_; rintro e w3 ⟨x3, y3, rfl, hl3, hb3, _⟩; have HL3 : Hid (Lies _ _ _ _ _) := hl3; have HL13 : Hid (Lies w3 _ _ _ _) := HL12.out.later hb3; have HL23 : Hid (Lies w3 _ _ _ _) := HL2.out.later hb3; have HB3 : Hid (Below W.heap.size W w3) := Below.after HB2.out hb3; clear hl3 hb3; have hra := HA.out.later HB3.out; have d0 : w3.cell? ⟨w.heap.size, 0, none⟩ = some (.int .i64 a1) := hra.cell (i := 0) rfl; have d1 : w3.cell? ⟨w.heap.size, 1, none⟩ = some (.int .u64 a2) := hra.cell (i := 1) rfl; have d2 : w3.cell? ⟨w.heap.size, 2, none⟩ = some (.int .i64 a3) := hra.cell (i := 2) rfl; clear hra)
    | (go_at_call 10; clear d0 d1 d2; refine (c4 _).mono ?_; rintro e w4 ⟨x4, y4, rfl, hl4, hb4⟩; have HL4 : Hid (Lies _ _ _ _ _) := hl4; have HL14 : Hid (Lies w4 _ _ _ _) := HL13.out.later hb4; have HL24 : Hid (Lies w4 _ _ _ _) := HL23.out.later hb4; have HL34 : Hid (Lies w4 _ _ _ _) := HL3.out.later hb4; have HB4 : Hid (Below W.heap.size W w4) := Below.after HB3.out hb4; clear hl4 hb4)
    | (go_at_call 11; clear M1; refine (same_res true HL14.out HL24.out (by simp)).mono ?_; rintro e w' ⟨rfl, rfl⟩)
    | (go_at_call 11; refine (same_res true HL34.out HL4.out (by simp)).mono ?_; rintro e w' ⟨rfl, rfl⟩)
    | (go_at_call 12; refine (alive_any _ (HG.out.later HB4.out)).mono ?_; rintro e w5 ⟨rfl, hb5⟩; have HB5 : Hid (Below W.heap.size W w5) := Below.after HB4.out hb5; clear hb5))
  go_ret
  exact ⟨rfl, Below.after HB.out HB5.out⟩
theorem walk (n page a1 a2 a3 : Int) (w : World) (hg : Glb w) (_hn : -9223372036854775808 ≤ n ∧ n ≤ 9223372036854775807) (_hp : -9223372036854775808 ≤ page ∧ page ≤ 9223372036854775807)
    (_ha1 : -9223372036854775808 ≤ a1 ∧ a1 ≤ 9223372036854775807) (ha2 : 0 ≤ a2 ∧ a2 ≤ 18446744073709551615) (_ha3 : -9223372036854775808 ≤ a3 ∧ a3 ≤ 9223372036854775807) :
    Calls Tryd.prog 3 #[.int .i64 n, .int .i64 page, .agg #[.int .i64 a1, .int .u64 a2, .int .i64 a3]] w fun e w' => e = .returned (.bool true) ∧ Below w.heap.size w w' :=
  core n page a1 a2 a3 _ _ _ _ _ _ w hg (fun w => count_res n page w) (fun w => rcount_res n page w) (fun w => map_res a1 a2 a3 page w ha2) (fun w => rmap_res a1 a2 a3 page w ha2)

set_option maxRecDepth 100000 in
theorem contract (H : Type) (enc : TypeId × Value → H) (W : World) (base : Nat) (args : Array Value) (ds gs : List (DataW H)) (before : List MemPlace)
    (hval : ∀ (j : Nat) t v, Tryd.f3.params[j]? = some t → args[j]? = some v → Value.okWide Tryd.prog W .any base t v)
    (hW : DataW.Whole enc Tryd.prog Tryd.f3.params.toList Rows.headerMakesSpec.vars false W args.toList ds gs before) (hL : laidMetH Tryd.prog laid W)
    : Calls Tryd.prog 3 args W fun e W' => ∃ v, e = .returned v ∧ Rows.headerMakesSpec.post enc Tryd.prog Tryd.f3 false true false false W args v W' := by
  have hW' := hW
  obtain ⟨p, q, hA0, hV, rfl, hfz, hnd⟩ := hW
  have hA : DataW.TrodAll enc Tryd.prog W 0 (fun _ => true) true Tryd.f3.params.toList args.toList ds p := hA0
  rw [Tryd.params3] at hA hval
  obtain ⟨v0, vs0, d0, ds0, p0, q0, hargs, rfl, rfl, h0, r0⟩ := trodAll_cons hA
  obtain ⟨v1, vs1, d1, ds1, p1, q1, rfl, rfl, rfl, h1, r1⟩ := trodAll_cons r0
  obtain ⟨v2, vs2, d2, ds2, p2, q2, rfl, rfl, rfl, h2, r2⟩ := trodAll_cons r1
  obtain ⟨rfl, rfl, rfl⟩ := trodAll_nil r2
  obtain rfl : args = #[v0, v1, v2] := by cases args; simp_all
  obtain ⟨rfl, rfl⟩ := trodVars_none hV
  obtain ⟨a0, rfl, rfl, rfl, w0⟩ := open_int Tryd.underlying3 (hval 0 3 v0 rfl rfl) h0
  obtain ⟨a1, rfl, rfl, rfl, w1⟩ := open_int Tryd.underlying3 (hval 1 3 v1 rfl rfl) h1
  obtain ⟨cs2, rfl, sz2⟩ := okWide_struct Tryd.underlying24 (hval 2 24 v2 rfl rfl)
  have k2 := h2
  have lt2 : ∀ x ∈ p2, x.block < W.heap.size := by obtain ⟨m, hm⟩ := k2; exact DataW.trod_lt m _ _ _ hm
  obtain ⟨ma2, mb2, mc2, rfl, ha2, hb2, hc2⟩ : ∃ a b c, cs2 = #[.int .i64 a, .int .u64 b, .int .i64 c] ∧ (-9223372036854775808 ≤ a ∧ a ≤ 9223372036854775807) ∧ (0 ≤ b ∧ b ≤ 18446744073709551615) ∧ (-9223372036854775808 ≤ c ∧ c ≤ 9223372036854775807) := by
    obtain ⟨fuel, hf⟩ := h2
    exact marg_open sz2 hf
  clear hA0
  refine (walk a0 a1 ma2 mb2 mc2 W (glb_of hL) (bounds_i64 w0) (bounds_i64 w1) ha2 hb2 hc2).mono fun e W' ⟨he, bel⟩ => ?_
  subst he
  exact ⟨_, rfl, _, _, _, [], _, [], hW', trodAll_mk1 (shut_bool Tryd.underlying4 _), (trodAll_cons_mk (shut_int Tryd.underlying3 w0) (trodAll_cons_mk (shut_int Tryd.underlying3 w1) (trodAll_cons_mk (Below.trod laidOut (by kernel_rfl) (of_decide_eq_true (by kernel_rfl)) k2 bel lt2) trodAll_mk0))), rfl, bel.frame _, fun h => by cases h⟩

theorem reads (os : Os) {H : Type} (enc : TypeId × Value → H) : ∃ places, DataW.whole enc Tryd.prog ((laidWorld os).forCall (fun _ _ => 0) ⟨#[], #[.int .i64 0, .int .i64 0, .agg #[.int .i64 0, .int .u64 0, .int .i64 0]], []⟩).memory Tryd.f3.params.toList Rows.headerMakesSpec.vars false (#[.int .i64 0, .int .i64 0, .agg #[.int .i64 0, .int .u64 0, .int .i64 0]] : Array Value).toList 8 = some ([.lit (.int .i64 0), .lit (.int .i64 0), .agg [.lit (.int .i64 0), .lit (.int .u64 0), .lit (.int .i64 0)]], [], places) :=
  ⟨[], by kernel_rfl⟩
set_option maxRecDepth 100000 in
theorem lifted (os : Os) (started : os.Started) (H : Type) (enc : TypeId × Value → H) (F : Stop.Interp) :
    ReturnsInHanded {} Tryd.checked os 3 .any ((OpenSpec.ofChange Rows.headerMakesSpec).preRow enc Tryd.prog Tryd.f3 Rows.headerMakesRow.domain false Rows.headerMakesRow.laid) (((OpenSpec.ofChange Rows.headerMakesSpec).at F).post enc Tryd.prog Tryd.f3 false true false false) := by
  obtain ⟨places, hx⟩ := reads os enc
  refine returnsInHanded_of_row (C := Tryd.checked) (s := OpenSpec.ofChange Rows.headerMakesSpec) own started (by kernel_rfl) Tryd.func3
    (witness_row_at (enc := enc) (C := Tryd.checked) false (laidWorld os) #[.int .i64 0, .int .i64 0, .agg #[.int .i64 0, .int .u64 0, .int .i64 0]] (laid_os os) (by kernel_rfl) (by kernel_rfl) (by kernel_rfl)
      (OpenSpec.preRow_of_cond 8 hx (by kernel_rfl) (fun k hk => by cases hk) (by kernel_rfl) (laid_met os _))) ?_
  intro W base args ds gs before hval hW _ _ hsz hL _ _
  exact contract H enc W base args ds gs before hval hW hL
theorem said : Rows.HeaderMakesSaid :=
  OpenClaim.holds_of_cond 3 Tryd.f3 rfl rfl rfl rfl rfl rfl rfl ⟨rfl, rfl, rfl, rfl, rfl⟩ rfl rfl rfl rfl rfl (by kernel_rfl) Tryd.func3 (by kernel_rfl)
    (of_decide_eq_true (by kernel_rfl)) (by unfold Func.isWrapper; first | (rw [if_pos (by decide +kernel)]; kernel_rfl) | (rw [if_neg (by decide +kernel)]; exact ⟨rfl, rfl⟩))
    (fun os started H enc _ F => by rw [OpenClaim.pre_eq_preRow]; exact lifted os started H enc F)
set_option maxRecDepth 100000 in
theorem plain (f : FuncId) (fn : Func) (hf : Tryd.pinned.checked.prog.funcNamed "pumice/pumicelaw05.HeaderMakes" = some f) (hfn : Tryd.pinned.checked.prog.funcs[f]? = some fn) :
    true = Tryd.pinned.checked.prog.looks [] ∧ ∀ (j : Nat) t, fn.params[j]? = some t → Tryd.pinned.checked.prog.wantsStandIn t = false := by
  obtain rfl : f = 3 := Option.some.inj ((show Tryd.prog.funcNamed "pumice/pumicelaw05.HeaderMakes" = some 3 by kernel_rfl).symm.trans hf) |>.symm
  obtain rfl : fn = Tryd.f3 := (Option.some.inj (Tryd.func3.symm.trans hfn)).symm
  refine ⟨by kernel_rfl, fun j t ht => ?_⟩
  rw [Tryd.params3] at ht
  have hm : t = 3 ∨ t = 3 ∨ t = 24 := by simpa using Array.mem_of_getElem? ht
  rcases hm with rfl | rfl | rfl
  · exact (show Tryd.prog.wantsStandIn 3 = false by kernel_rfl)
  · exact (show Tryd.prog.wantsStandIn 3 = false by kernel_rfl)
  · exact (show Tryd.prog.wantsStandIn 24 = false by kernel_rfl)
theorem card : Rows.HeaderMakesCardSaid :=
  Claim7.holds_tied_plain_at .later [] _ _ _ _ said (fun _ h => by cases h) (by kernel_rfl) (fun _ h => by cases h) headerMakes_row_tie rfl ⟨rfl, rfl⟩ (by kernel_rfl) rfl plain (by kernel_rfl)
end Go.Proofs.YtdhbhjfpjmmonaaDoor.headerMakes

namespace Go.Proofs.YtdhbhjfpjmmonaaDoor
theorem headerMakes_holds : Rows.HeaderMakesCardSaid := headerMakes.card
#print axioms headerMakes_holds
end Go.Proofs.YtdhbhjfpjmmonaaDoor
