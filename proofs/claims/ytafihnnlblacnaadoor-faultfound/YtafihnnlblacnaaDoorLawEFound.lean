/-
  FaultFound: the name of an errno that api names is found, and is that errno; no two have one name; class 0 is OK's alone, class 6 that of all that api does not name: for every two errnos. Conditions: none but the row's own: the listed library variables hold what their initialisers lay (the card ties that to the program's text).
-/
import Derived.Test.YtafihnnlblacnaaDoorECard
import Derived.Test.YtafihnnlblacnaaDoorENMath
namespace Go.Proofs.YtafihnnlblacnaaDoor.faultFound
open Go.ChangeShapes Go.WideShapes Go.ChangeAt Go.RowKit

structure On (w0 w : World) : Prop where
  g : Typed w
  p : Pows w
  bel : Below w0.heap.size w0 w
theorem On.later {w0 w w' : World} (h : On w0 w) (hb : Below w.heap.size w w') : On w0 w' := ⟨h.g.later hb, h.p.later hb, Below.after h.bel hb⟩
theorem not_bool (x : Bool) (w : World) : (Op.unary .not (.bool x)).run Tryd.prog w = .ok (.bool (!x)) w := rfl

set_option maxHeartbeats 4000000 in
theorem walk (a b : Int) (w : World) (hg : Typed w) (hp : Pows w) (ha : -9223372036854775808 ≤ a ∧ a ≤ 9223372036854775807) (hb : -9223372036854775808 ≤ b ∧ b ≤ 9223372036854775807) :
    Calls Tryd.prog 7 #[.int .i64 a, .int .i64 b] w fun e w' => e = .returned (.bool true) ∧ Below w.heap.size w w' := by
  obtain ⟨S, hS⟩ : ∃ S, S = nameOf a := ⟨_, rfl⟩
  obtain ⟨U, hU⟩ : ∃ U, U = nameOf b := ⟨_, rfl⟩
  obtain ⟨c, hc⟩ : ∃ c, c = cls a := ⟨_, rfl⟩
  have k1 : ∀ w, Pows w → Calls Tryd.prog 13 #[.int .i64 a] w fun ev w' => ev = .returned (.string S) ∧ Below w.heap.size w w' := fun w h => by rw [hS]; exact name_any a ha.1 ha.2 w h
  have k2 : ∀ w, Pows w → Calls Tryd.prog 13 #[.int .i64 b] w fun ev w' => ev = .returned (.string U) ∧ Below w.heap.size w w' := fun w h => by rw [hU]; exact name_any b hb.1 hb.2 w h
  have k3 : ∀ w, Calls Tryd.prog 11 #[.int .i64 a] w fun ev w' => ev = .returned (.int .i64 c) ∧ w = w' := fun w => by rw [hc]; exact class_any a w
  have hcl : ∃ z : Bool, (c == 0) = z ∧ (a == 0) = z := by
    refine ⟨a == 0, ?_, rfl⟩
    rw [Bool.eq_iff_iff, beq_iff_eq, beq_iff_eq, hc, cls_zero]
  have hsame : ((S.toList == U.toList) = false) ∨ ((S.toList == U.toList) = true ∧ (a != b) = false) := by
    by_cases h : S = U
    · right
      refine ⟨by rw [h]; simp, ?_⟩
      have := name_inj (e := a) (f := b) (by rw [← hS, ← hU, h])
      simp [this]
    · left
      rw [beq_eq_false_iff_ne]
      intro e
      rw [ByteArray.toList_eq, ByteArray.toList_eq] at e
      apply h
      cases S; cases U
      simp at e
      rw [e]
  have hkn : (finds S = .tuple #[.int .i64 a, .bool true] ∧ c < 6) ∨ (finds S = .tuple #[.int .i64 0, .bool false] ∧ (c == 6) = true) := by
    rw [hS, hc]
    rcases named_or a with ⟨h1, h2⟩ | ⟨h1, h2, _⟩
    · left; exact ⟨by rw [finds, h1], h2⟩
    · right; exact ⟨by rw [finds, h1], by simp [h2]⟩
  have k4 := find_any S
  obtain ⟨z, hz1, hz2⟩ := hcl
  have HO : Hid (On w w) := ⟨hg, hp, Below.refl _ _⟩
  have M1 : Hid True := trivial
  have M2 : Hid True := trivial
  have hself : (a != a) = false := by simp
  clear hS hU hc hg hp ha hb
  rcases hkn with ⟨h1, h2⟩ | ⟨h1, h2⟩
  · rw [h1] at k4
    clear h1
    cases z
    all_goals
      rcases hsame with h3 | ⟨h3, h4⟩
      all_goals
        go_enter Tryd.func7, Tryd.ntmps7
        go_wp2_with (first
          | (go_at_call 13; clear M1; refine (k1 _ HO.out.p).mono ?_; rintro e w1 ⟨rfl, hb⟩; have L1 : Hid (On w w1) := HO.out.later hb; clear hb)
          | (go_at_call 9; refine (k4 _).mono ?_; rintro e w2 ⟨rfl, hb⟩; have L2 : Hid (On w w2) := L1.out.later hb; clear hb)
          | (go_at_call 13; clear M2; refine (k1 _ L2.out.p).mono ?_; rintro e w3 ⟨rfl, hb⟩; have L3 : Hid (On w w3) := L2.out.later hb; clear hb)
          | (go_at_call 13; refine (k2 _ L3.out.p).mono ?_; rintro e w4 ⟨rfl, hb⟩; have L4 : Hid (On w w4) := L3.out.later hb; clear hb)
          | (go_at_call 11; refine (k3 _).mono ?_; rintro e w5 ⟨rfl, rfl⟩)
          | (go_at_call 15; refine (alive_any _ L4.out.g L4.out.p).mono ?_; rintro e w7 ⟨rfl, hb⟩; have L7 : Hid (On w w7) := L4.out.later hb; clear hb))
        go_ret
        exact ⟨rfl, L7.out.bel⟩
  · rw [h1] at k4
    clear h1
    cases z
    all_goals
      rcases hsame with h3 | ⟨h3, h4⟩
      all_goals
        go_enter Tryd.func7, Tryd.ntmps7
        go_wp2_with (first
          | (go_at_call 13; clear M1; refine (k1 _ HO.out.p).mono ?_; rintro e w1 ⟨rfl, hb⟩; have L1 : Hid (On w w1) := HO.out.later hb; clear hb)
          | (go_at_call 9; refine (k4 _).mono ?_; rintro e w2 ⟨rfl, hb⟩; have L2 : Hid (On w w2) := L1.out.later hb; clear hb)
          | (go_at_call 13; clear M2; refine (k1 _ L2.out.p).mono ?_; rintro e w3 ⟨rfl, hb⟩; have L3 : Hid (On w w3) := L2.out.later hb; clear hb)
          | (go_at_call 13; refine (k2 _ L3.out.p).mono ?_; rintro e w4 ⟨rfl, hb⟩; have L4 : Hid (On w w4) := L3.out.later hb; clear hb)
          | (go_at_call 11; refine (k3 _).mono ?_; rintro e w5 ⟨rfl, rfl⟩)
          | (go_at_call 15; refine (alive_any _ L4.out.g L4.out.p).mono ?_; rintro e w7 ⟨rfl, hb⟩; have L7 : Hid (On w w7) := L4.out.later hb; clear hb))
        go_ret
        exact ⟨rfl, L7.out.bel⟩

set_option maxRecDepth 100000 in
theorem contract (H : Type) (enc : TypeId × Value → H) (W : World) (base : Nat) (args : Array Value) (ds gs : List (DataW H)) (before : List MemPlace)
    (hval : ∀ (j : Nat) t v, Tryd.f7.params[j]? = some t → args[j]? = some v → Value.okWide Tryd.prog W .any base t v)
    (hW : DataW.Whole enc Tryd.prog Tryd.f7.params.toList Rows.faultFoundSpec.vars false W args.toList ds gs before) (hL : laidMetH Tryd.prog laid W)
    : Calls Tryd.prog 7 args W fun e W' => ∃ v, e = .returned v ∧ Rows.faultFoundSpec.post enc Tryd.prog Tryd.f7 false true false false W args v W' := by
  have hW' := hW
  obtain ⟨p, q, hA0, hV, rfl, hfz, hnd⟩ := hW
  have hA : DataW.TrodAll enc Tryd.prog W 0 (fun _ => true) true Tryd.f7.params.toList args.toList ds p := hA0
  rw [Tryd.params7] at hA hval
  obtain ⟨v0, vs0, d0, ds0, p0, q0, hargs, rfl, rfl, h0, r0⟩ := trodAll_cons hA
  obtain ⟨v1, vs1, d1, ds1, p1, q1, rfl, rfl, rfl, h1, r1⟩ := trodAll_cons r0
  obtain ⟨rfl, rfl, rfl⟩ := trodAll_nil r1
  obtain rfl : args = #[v0, v1] := by cases args; simp_all
  obtain ⟨rfl, rfl⟩ := trodVars_none hV
  obtain ⟨a0, rfl, rfl, rfl, w0⟩ := open_int Tryd.underlying22 (hval 0 22 v0 rfl rfl) h0
  obtain ⟨a1, rfl, rfl, rfl, w1⟩ := open_int Tryd.underlying22 (hval 1 22 v1 rfl rfl) h1
  clear hA0
  refine (walk a0 a1 W (typed_of hL) (pows_of hL) (bounds_i64 w0) (bounds_i64 w1)).mono fun e W' ⟨he, bel⟩ => ?_
  subst he
  exact ⟨_, rfl, _, _, _, [], _, [], hW', trodAll_mk1 (shut_bool Tryd.underlying4 _), (trodAll_cons_mk (shut_int Tryd.underlying22 w0) (trodAll_cons_mk (shut_int Tryd.underlying22 w1) trodAll_mk0)), rfl, bel.frame _, fun h => by cases h⟩

theorem reads (os : Os) {H : Type} (enc : TypeId × Value → H) : ∃ places, DataW.whole enc Tryd.prog ((laidWorld os).forCall (fun _ _ => 0) ⟨#[], #[.int .i64 0, .int .i64 0], []⟩).memory Tryd.f7.params.toList Rows.faultFoundSpec.vars false (#[.int .i64 0, .int .i64 0] : Array Value).toList 8 = some ([.lit (.int .i64 0), .lit (.int .i64 0)], [], places) :=
  ⟨[], by kernel_rfl⟩
set_option maxRecDepth 100000 in
theorem lifted (os : Os) (started : os.Started) (H : Type) (enc : TypeId × Value → H) (F : Stop.Interp) :
    ReturnsInHanded {} Tryd.checked os 7 .any ((OpenSpec.ofChange Rows.faultFoundSpec).preRow enc Tryd.prog Tryd.f7 Rows.faultFoundRow.domain false Rows.faultFoundRow.laid) (((OpenSpec.ofChange Rows.faultFoundSpec).at F).post enc Tryd.prog Tryd.f7 false true false false) := by
  obtain ⟨places, hx⟩ := reads os enc
  refine returnsInHanded_of_row (C := Tryd.checked) (s := OpenSpec.ofChange Rows.faultFoundSpec) own started (by kernel_rfl) Tryd.func7
    (witness_row_at (enc := enc) (C := Tryd.checked) false (laidWorld os) #[.int .i64 0, .int .i64 0] rfl (by kernel_rfl) (by kernel_rfl) (by kernel_rfl)
      (OpenSpec.preRow_of_cond 8 hx (by kernel_rfl) (fun k hk => by cases hk) (by kernel_rfl) (laid_met os _))) ?_
  intro W base args ds gs before hval hW _ _ hsz hL _ _
  exact contract H enc W base args ds gs before hval hW hL
theorem said : Rows.FaultFoundSaid :=
  OpenClaim.holds_of_cond 7 Tryd.f7 rfl rfl rfl rfl rfl rfl rfl ⟨rfl, rfl, rfl, rfl, rfl⟩ rfl rfl rfl rfl rfl (by kernel_rfl) Tryd.func7 (by kernel_rfl)
    (of_decide_eq_true (by kernel_rfl)) (by unfold Func.isWrapper; first | (rw [if_pos (by decide +kernel)]; kernel_rfl) | (rw [if_neg (by decide +kernel)]; exact ⟨rfl, rfl⟩))
    (fun os started H enc _ F => by rw [OpenClaim.pre_eq_preRow]; exact lifted os started H enc F)
set_option maxRecDepth 100000 in
theorem plain (f : FuncId) (fn : Func) (hf : Tryd.pinned.checked.prog.funcNamed "pumice/pumicelaw04.FaultFound" = some f) (hfn : Tryd.pinned.checked.prog.funcs[f]? = some fn) :
    true = Tryd.pinned.checked.prog.looks [] ∧ ∀ (j : Nat) t, fn.params[j]? = some t → Tryd.pinned.checked.prog.wantsStandIn t = false := by
  obtain rfl : f = 7 := Option.some.inj ((show Tryd.prog.funcNamed "pumice/pumicelaw04.FaultFound" = some 7 by kernel_rfl).symm.trans hf) |>.symm
  obtain rfl : fn = Tryd.f7 := (Option.some.inj (Tryd.func7.symm.trans hfn)).symm
  refine ⟨by kernel_rfl, fun j t ht => ?_⟩
  rw [Tryd.params7] at ht
  have hm : t = 22 := by simpa using Array.mem_of_getElem? ht
  subst hm
  exact (show Tryd.prog.wantsStandIn 22 = false by kernel_rfl)
theorem card : Rows.FaultFoundCardSaid :=
  Claim7.holds_tied_plain_at .later [] _ _ _ _ said (fun _ h => by cases h) (by kernel_rfl) (fun _ h => by cases h) faultFound_row_tie rfl ⟨rfl, rfl⟩ (by kernel_rfl) rfl plain (by kernel_rfl)
end Go.Proofs.YtafihnnlblacnaaDoor.faultFound

namespace Go.Proofs.YtafihnnlblacnaaDoor
theorem faultFound_holds : Rows.FaultFoundCardSaid := faultFound.card
#print axioms faultFound_holds
end Go.Proofs.YtafihnnlblacnaaDoor
