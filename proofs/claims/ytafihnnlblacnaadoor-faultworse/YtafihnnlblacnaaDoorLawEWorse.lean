/-
  FaultWorse: which of two errnos is worse does not hang on their order, goes on through a third one, and is one of the two: for every three errnos. Conditions: none but the row's own: the listed library variables hold what their initialisers lay (the card ties that to the program's text).
-/
import Derived.Test.YtafihnnlblacnaaDoorECard
import Derived.Test.YtafihnnlblacnaaDoorEWMath
namespace Go.Proofs.YtafihnnlblacnaaDoor.faultWorse
open Go.ChangeShapes Go.WideShapes Go.ChangeAt Go.RowKit

/-- What lies on: the two variables of the library. -/
structure On (w0 w : World) : Prop where
  g : Typed w
  p : Pows w
  bel : Below w0.heap.size w0 w
theorem On.later {w0 w w' : World} (h : On w0 w) (hb : Below w.heap.size w w') : On w0 w' := ⟨h.g.later hb, h.p.later hb, Below.after h.bel hb⟩

set_option maxHeartbeats 4000000 in
theorem walk (a b c : Int) (w : World) (hg : Typed w) (hp : Pows w) : Calls Tryd.prog 8 #[.int .i64 a, .int .i64 b, .int .i64 c] w fun e w' => e = .returned (.bool true) ∧ Below w.heap.size w w' := by
  obtain ⟨x, hx⟩ : ∃ x, x = worse a b := ⟨_, rfl⟩
  obtain ⟨y, hy⟩ : ∃ y, y = worse b c := ⟨_, rfl⟩
  obtain ⟨z, hz⟩ : ∃ z, z = worse x c := ⟨_, rfl⟩
  have k1 := worse_any a b
  have k2 := worse_any b a
  have k3 := worse_any x c
  have k4 := worse_any b c
  have k5 := worse_any a y
  have k6 := worse_any a 0
  rw [← worse_comm a b, ← hx] at k2
  rw [← hx] at k1
  rw [← hz] at k3
  rw [← hy] at k4
  have e5 : worse a y = z := by rw [hz, hx, hy, worse_assoc]
  rw [e5] at k5
  rw [worse_ok] at k6
  have hor : ((x == a) = true) ∨ ((x == a) = false ∧ (x == b) = true) := by
    rcases (worse_spec a b).1 with e | e
    · exact .inl (by simp [hx, e])
    · by_cases h : x = a
      · exact .inl (by simpa using h)
      · exact .inr ⟨by simpa using h, by simp [hx, e]⟩
  have h0 : ((x != 0) = true) ∨ ((x != 0) = false ∧ (a == 0) = true ∧ (b == 0) = true) := by
    by_cases h : x = 0
    · have := worse_zero (a := a) (b := b) (by rw [← hx, h])
      exact .inr ⟨by simp [h], by simp [this.1], by simp [this.2]⟩
    · exact .inl (by simpa using h)
  have HO : Hid (On w w) := ⟨hg, hp, Below.refl _ _⟩
  have M1 : Hid True := trivial
  have M2 : Hid True := trivial
  have M3 : Hid True := trivial
  have M4 : Hid True := trivial
  have M5 : Hid True := trivial
  clear hx hy hz e5 hg hp
  rcases hor with h1 | ⟨h1, h2⟩
  · rcases h0 with h3 | ⟨h3, h4, h5⟩
    · go_enter Tryd.func8, Tryd.ntmps8
      go_wp2_with (first
        | (go_at_call 18; clear M1; refine (k1 _).mono ?_; rintro e w1 ⟨rfl, hb⟩; have L1 : Hid (On w w1) := HO.out.later hb; clear hb)
        | (go_at_call 18; clear M2; refine (k2 _).mono ?_; rintro e w2 ⟨rfl, hb⟩; have L2 : Hid (On w w2) := L1.out.later hb; clear hb)
        | (go_at_call 18; clear M3; refine (k3 _).mono ?_; rintro e w3 ⟨rfl, hb⟩; have L3 : Hid (On w w3) := L2.out.later hb; clear hb)
        | (go_at_call 18; clear M4; refine (k4 _).mono ?_; rintro e w4 ⟨rfl, hb⟩; have L4 : Hid (On w w4) := L3.out.later hb; clear hb)
        | (go_at_call 18; clear M5; refine (k5 _).mono ?_; rintro e w5 ⟨rfl, hb⟩; have L5 : Hid (On w w5) := L4.out.later hb; clear hb)
        | (go_at_call 18; refine (k6 _).mono ?_; rintro e w6 ⟨rfl, hb⟩; have L6 : Hid (On w w6) := L5.out.later hb; clear hb)
        | (go_at_call 15; refine (alive_any _ L6.out.g L6.out.p).mono ?_; rintro e w7 ⟨rfl, hb⟩; have L7 : Hid (On w w7) := L6.out.later hb; clear hb))
      go_ret
      exact ⟨rfl, L7.out.bel⟩
    · go_enter Tryd.func8, Tryd.ntmps8
      go_wp2_with (first
        | (go_at_call 18; clear M1; refine (k1 _).mono ?_; rintro e w1 ⟨rfl, hb⟩; have L1 : Hid (On w w1) := HO.out.later hb; clear hb)
        | (go_at_call 18; clear M2; refine (k2 _).mono ?_; rintro e w2 ⟨rfl, hb⟩; have L2 : Hid (On w w2) := L1.out.later hb; clear hb)
        | (go_at_call 18; clear M3; refine (k3 _).mono ?_; rintro e w3 ⟨rfl, hb⟩; have L3 : Hid (On w w3) := L2.out.later hb; clear hb)
        | (go_at_call 18; clear M4; refine (k4 _).mono ?_; rintro e w4 ⟨rfl, hb⟩; have L4 : Hid (On w w4) := L3.out.later hb; clear hb)
        | (go_at_call 18; clear M5; refine (k5 _).mono ?_; rintro e w5 ⟨rfl, hb⟩; have L5 : Hid (On w w5) := L4.out.later hb; clear hb)
        | (go_at_call 18; refine (k6 _).mono ?_; rintro e w6 ⟨rfl, hb⟩; have L6 : Hid (On w w6) := L5.out.later hb; clear hb)
        | (go_at_call 15; refine (alive_any _ L6.out.g L6.out.p).mono ?_; rintro e w7 ⟨rfl, hb⟩; have L7 : Hid (On w w7) := L6.out.later hb; clear hb))
      go_ret
      exact ⟨rfl, L7.out.bel⟩
  · rcases h0 with h3 | ⟨h3, h4, h5⟩
    · go_enter Tryd.func8, Tryd.ntmps8
      go_wp2_with (first
        | (go_at_call 18; clear M1; refine (k1 _).mono ?_; rintro e w1 ⟨rfl, hb⟩; have L1 : Hid (On w w1) := HO.out.later hb; clear hb)
        | (go_at_call 18; clear M2; refine (k2 _).mono ?_; rintro e w2 ⟨rfl, hb⟩; have L2 : Hid (On w w2) := L1.out.later hb; clear hb)
        | (go_at_call 18; clear M3; refine (k3 _).mono ?_; rintro e w3 ⟨rfl, hb⟩; have L3 : Hid (On w w3) := L2.out.later hb; clear hb)
        | (go_at_call 18; clear M4; refine (k4 _).mono ?_; rintro e w4 ⟨rfl, hb⟩; have L4 : Hid (On w w4) := L3.out.later hb; clear hb)
        | (go_at_call 18; clear M5; refine (k5 _).mono ?_; rintro e w5 ⟨rfl, hb⟩; have L5 : Hid (On w w5) := L4.out.later hb; clear hb)
        | (go_at_call 18; refine (k6 _).mono ?_; rintro e w6 ⟨rfl, hb⟩; have L6 : Hid (On w w6) := L5.out.later hb; clear hb)
        | (go_at_call 15; refine (alive_any _ L6.out.g L6.out.p).mono ?_; rintro e w7 ⟨rfl, hb⟩; have L7 : Hid (On w w7) := L6.out.later hb; clear hb))
      go_ret
      exact ⟨rfl, L7.out.bel⟩
    · go_enter Tryd.func8, Tryd.ntmps8
      go_wp2_with (first
        | (go_at_call 18; clear M1; refine (k1 _).mono ?_; rintro e w1 ⟨rfl, hb⟩; have L1 : Hid (On w w1) := HO.out.later hb; clear hb)
        | (go_at_call 18; clear M2; refine (k2 _).mono ?_; rintro e w2 ⟨rfl, hb⟩; have L2 : Hid (On w w2) := L1.out.later hb; clear hb)
        | (go_at_call 18; clear M3; refine (k3 _).mono ?_; rintro e w3 ⟨rfl, hb⟩; have L3 : Hid (On w w3) := L2.out.later hb; clear hb)
        | (go_at_call 18; clear M4; refine (k4 _).mono ?_; rintro e w4 ⟨rfl, hb⟩; have L4 : Hid (On w w4) := L3.out.later hb; clear hb)
        | (go_at_call 18; clear M5; refine (k5 _).mono ?_; rintro e w5 ⟨rfl, hb⟩; have L5 : Hid (On w w5) := L4.out.later hb; clear hb)
        | (go_at_call 18; refine (k6 _).mono ?_; rintro e w6 ⟨rfl, hb⟩; have L6 : Hid (On w w6) := L5.out.later hb; clear hb)
        | (go_at_call 15; refine (alive_any _ L6.out.g L6.out.p).mono ?_; rintro e w7 ⟨rfl, hb⟩; have L7 : Hid (On w w7) := L6.out.later hb; clear hb))
      go_ret
      exact ⟨rfl, L7.out.bel⟩

set_option maxRecDepth 100000 in
theorem contract (H : Type) (enc : TypeId × Value → H) (W : World) (base : Nat) (args : Array Value) (ds gs : List (DataW H)) (before : List MemPlace)
    (hval : ∀ (j : Nat) t v, Tryd.f8.params[j]? = some t → args[j]? = some v → Value.okWide Tryd.prog W .any base t v)
    (hW : DataW.Whole enc Tryd.prog Tryd.f8.params.toList Rows.faultWorseSpec.vars false W args.toList ds gs before) (hL : laidMetH Tryd.prog laid W)
    : Calls Tryd.prog 8 args W fun e W' => ∃ v, e = .returned v ∧ Rows.faultWorseSpec.post enc Tryd.prog Tryd.f8 false true false false W args v W' := by
  have hW' := hW
  obtain ⟨p, q, hA0, hV, rfl, hfz, hnd⟩ := hW
  have hA : DataW.TrodAll enc Tryd.prog W 0 (fun _ => true) true Tryd.f8.params.toList args.toList ds p := hA0
  rw [Tryd.params8] at hA hval
  obtain ⟨v0, vs0, d0, ds0, p0, q0, hargs, rfl, rfl, h0, r0⟩ := trodAll_cons hA
  obtain ⟨v1, vs1, d1, ds1, p1, q1, rfl, rfl, rfl, h1, r1⟩ := trodAll_cons r0
  obtain ⟨v2, vs2, d2, ds2, p2, q2, rfl, rfl, rfl, h2, r2⟩ := trodAll_cons r1
  obtain ⟨rfl, rfl, rfl⟩ := trodAll_nil r2
  obtain rfl : args = #[v0, v1, v2] := by cases args; simp_all
  obtain ⟨rfl, rfl⟩ := trodVars_none hV
  obtain ⟨a0, rfl, rfl, rfl, w0⟩ := open_int Tryd.underlying22 (hval 0 22 v0 rfl rfl) h0
  obtain ⟨a1, rfl, rfl, rfl, w1⟩ := open_int Tryd.underlying22 (hval 1 22 v1 rfl rfl) h1
  obtain ⟨a2, rfl, rfl, rfl, w2⟩ := open_int Tryd.underlying22 (hval 2 22 v2 rfl rfl) h2
  clear hA0
  refine (walk a0 a1 a2 W (typed_of hL) (pows_of hL)).mono fun e W' ⟨he, bel⟩ => ?_
  subst he
  exact ⟨_, rfl, _, _, _, [], _, [], hW', trodAll_mk1 (shut_bool Tryd.underlying4 _), (trodAll_cons_mk (shut_int Tryd.underlying22 w0) (trodAll_cons_mk (shut_int Tryd.underlying22 w1) (trodAll_cons_mk (shut_int Tryd.underlying22 w2) trodAll_mk0))), rfl, bel.frame _, fun h => by cases h⟩

theorem reads (os : Os) {H : Type} (enc : TypeId × Value → H) : ∃ places, DataW.whole enc Tryd.prog ((laidWorld os).forCall (fun _ _ => 0) ⟨#[], #[.int .i64 0, .int .i64 0, .int .i64 0], []⟩).memory Tryd.f8.params.toList Rows.faultWorseSpec.vars false (#[.int .i64 0, .int .i64 0, .int .i64 0] : Array Value).toList 8 = some ([.lit (.int .i64 0), .lit (.int .i64 0), .lit (.int .i64 0)], [], places) :=
  ⟨[], by kernel_rfl⟩
set_option maxRecDepth 100000 in
theorem lifted (os : Os) (started : os.Started) (H : Type) (enc : TypeId × Value → H) (F : Stop.Interp) :
    ReturnsInHanded {} Tryd.checked os 8 .any ((OpenSpec.ofChange Rows.faultWorseSpec).preRow enc Tryd.prog Tryd.f8 Rows.faultWorseRow.domain false Rows.faultWorseRow.laid) (((OpenSpec.ofChange Rows.faultWorseSpec).at F).post enc Tryd.prog Tryd.f8 false true false false) := by
  obtain ⟨places, hx⟩ := reads os enc
  refine returnsInHanded_of_row (C := Tryd.checked) (s := OpenSpec.ofChange Rows.faultWorseSpec) own started (by kernel_rfl) Tryd.func8
    (witness_row_at (enc := enc) (C := Tryd.checked) false (laidWorld os) #[.int .i64 0, .int .i64 0, .int .i64 0] rfl (by kernel_rfl) (by kernel_rfl) (by kernel_rfl)
      (OpenSpec.preRow_of_cond 8 hx (by kernel_rfl) (fun k hk => by cases hk) (by kernel_rfl) (laid_met os _))) ?_
  intro W base args ds gs before hval hW _ _ hsz hL _ _
  exact contract H enc W base args ds gs before hval hW hL
theorem said : Rows.FaultWorseSaid :=
  OpenClaim.holds_of_cond 8 Tryd.f8 rfl rfl rfl rfl rfl rfl rfl ⟨rfl, rfl, rfl, rfl, rfl⟩ rfl rfl rfl rfl rfl (by kernel_rfl) Tryd.func8 (by kernel_rfl)
    (of_decide_eq_true (by kernel_rfl)) (by unfold Func.isWrapper; first | (rw [if_pos (by decide +kernel)]; kernel_rfl) | (rw [if_neg (by decide +kernel)]; exact ⟨rfl, rfl⟩))
    (fun os started H enc _ F => by rw [OpenClaim.pre_eq_preRow]; exact lifted os started H enc F)
set_option maxRecDepth 100000 in
theorem plain (f : FuncId) (fn : Func) (hf : Tryd.pinned.checked.prog.funcNamed "pumice/pumicelaw04.FaultWorse" = some f) (hfn : Tryd.pinned.checked.prog.funcs[f]? = some fn) :
    true = Tryd.pinned.checked.prog.looks [] ∧ ∀ (j : Nat) t, fn.params[j]? = some t → Tryd.pinned.checked.prog.wantsStandIn t = false := by
  obtain rfl : f = 8 := Option.some.inj ((show Tryd.prog.funcNamed "pumice/pumicelaw04.FaultWorse" = some 8 by kernel_rfl).symm.trans hf) |>.symm
  obtain rfl : fn = Tryd.f8 := (Option.some.inj (Tryd.func8.symm.trans hfn)).symm
  refine ⟨by kernel_rfl, fun j t ht => ?_⟩
  rw [Tryd.params8] at ht
  have hm : t = 22 := by simpa using Array.mem_of_getElem? ht
  subst hm
  exact (show Tryd.prog.wantsStandIn 22 = false by kernel_rfl)
theorem card : Rows.FaultWorseCardSaid :=
  Claim7.holds_tied_plain_at .later [] _ _ _ _ said (fun _ h => by cases h) (by kernel_rfl) (fun _ h => by cases h) faultWorse_row_tie rfl ⟨rfl, rfl⟩ (by kernel_rfl) rfl plain (by kernel_rfl)
end Go.Proofs.YtafihnnlblacnaaDoor.faultWorse

namespace Go.Proofs.YtafihnnlblacnaaDoor
theorem faultWorse_holds : Rows.FaultWorseCardSaid := faultWorse.card
#print axioms faultWorse_holds
end Go.Proofs.YtafihnnlblacnaaDoor
