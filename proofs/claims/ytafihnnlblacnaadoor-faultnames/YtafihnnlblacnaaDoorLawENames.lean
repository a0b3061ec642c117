/-
  FaultNames: any errno has the document's class and name; any text is the name of an errno, or of none, as the document says: for every errno and every text. Conditions: none but the row's own: the listed library variables hold what their initialisers lay (the card ties that to the program's text).
-/
import Derived.Test.YtafihnnlblacnaaDoorECard
import Derived.Test.YtafihnnlblacnaaDoorERef
namespace Go.Proofs.YtafihnnlblacnaaDoor.faultNames
open Go.ChangeShapes Go.WideShapes Go.ChangeAt Go.RowKit

structure On (w0 w : World) : Prop where
  g : Typed w
  p : Pows w
  bel : Below w0.heap.size w0 w
theorem On.later {w0 w w' : World} (h : On w0 w) (hb : Below w.heap.size w w') : On w0 w' := ⟨h.g.later hb, h.p.later hb, Below.after h.bel hb⟩
theorem finds_shape (x : ByteArray) : ∃ n b, finds x = .tuple #[.int .i64 n, .bool b] := by
  unfold finds
  split
  · exact ⟨_, _, rfl⟩
  · exact ⟨_, _, rfl⟩

set_option maxHeartbeats 4000000 in
theorem walk (a : Int) (x : ByteArray) (w : World) (hg : Typed w) (hp : Pows w) (ha : -9223372036854775808 ≤ a ∧ a ≤ 9223372036854775807) (_ : x.size ≤ maxLen) :
    Calls Tryd.prog 3 #[.int .i64 a, .string x] w fun e w' => e = .returned (.bool true) ∧ Below w.heap.size w w' := by
  have k1 := find_any x
  have k2 := rfind_any x
  obtain ⟨n, b, hf⟩ := finds_shape x
  rw [hf] at k1 k2
  have k3 := class_any a
  have k4 := rclass_any a
  have k5 := name_any a ha.1 ha.2
  have k6 := rname_any a ha.1 ha.2
  have hself : ((nameOf a).toList == (nameOf a).toList) = true := by simp
  generalize nameOf a = S at k5 k6 hself
  generalize cls a = c at k3 k4
  have h1 : (c == c) = true := by simp
  have h2 : (n == n) = true := by simp
  have h3 : (b == b) = true := by simp
  have HO : Hid (On w w) := ⟨hg, hp, Below.refl _ _⟩
  clear hf hg hp ha
  go_enter Tryd.func3, Tryd.ntmps3
  go_wp2_with (first
    | (go_at_call 9; refine (k1 _).mono ?_; rintro e w1 ⟨rfl, hb⟩; have L1 : Hid (On w w1) := HO.out.later hb; clear hb)
    | (go_at_call 10; refine (k2 _).mono ?_; rintro e w2 ⟨rfl, hb⟩; have L2 : Hid (On w w2) := L1.out.later hb; clear hb)
    | (go_at_call 11; refine (k3 _).mono ?_; rintro e w3 ⟨rfl, rfl⟩)
    | (go_at_call 12; refine (k4 _).mono ?_; rintro e w4 ⟨rfl, rfl⟩)
    | (go_at_call 13; refine (k5 _ L2.out.p).mono ?_; rintro e w5 ⟨rfl, hb⟩; have L5 : Hid (On w w5) := L2.out.later hb; clear hb)
    | (go_at_call 14; refine (k6 _).mono ?_; rintro e w6 ⟨rfl, hb⟩; have L6 : Hid (On w w6) := L5.out.later hb; clear hb)
    | (go_at_call 15; refine (alive_any _ L6.out.g L6.out.p).mono ?_; rintro e w7 ⟨rfl, hb⟩; have L7 : Hid (On w w7) := L6.out.later hb; clear hb))
  go_ret
  exact ⟨rfl, L7.out.bel⟩

set_option maxRecDepth 100000 in
theorem contract (H : Type) (enc : TypeId × Value → H) (W : World) (base : Nat) (args : Array Value) (ds gs : List (DataW H)) (before : List MemPlace)
    (hval : ∀ (j : Nat) t v, Tryd.f3.params[j]? = some t → args[j]? = some v → Value.okWide Tryd.prog W .any base t v)
    (hW : DataW.Whole enc Tryd.prog Tryd.f3.params.toList Rows.faultNamesSpec.vars false W args.toList ds gs before) (hL : laidMetH Tryd.prog laid W)
    : Calls Tryd.prog 3 args W fun e W' => ∃ v, e = .returned v ∧ Rows.faultNamesSpec.post enc Tryd.prog Tryd.f3 false true false false W args v W' := by
  have hW' := hW
  obtain ⟨p, q, hA0, hV, rfl, hfz, hnd⟩ := hW
  have hA : DataW.TrodAll enc Tryd.prog W 0 (fun _ => true) true Tryd.f3.params.toList args.toList ds p := hA0
  rw [Tryd.params3] at hA hval
  obtain ⟨v0, vs0, d0, ds0, p0, q0, hargs, rfl, rfl, h0, r0⟩ := trodAll_cons hA
  obtain ⟨v1, vs1, d1, ds1, p1, q1, rfl, rfl, rfl, h1, r1⟩ := trodAll_cons r0
  obtain ⟨rfl, rfl, rfl⟩ := trodAll_nil r1
  obtain rfl : args = #[v0, v1] := by cases args; simp_all
  obtain ⟨rfl, rfl⟩ := trodVars_none hV
  obtain ⟨a0, rfl, rfl, rfl, w0⟩ := open_int Tryd.underlying22 (hval 0 22 v0 rfl rfl) h0
  obtain ⟨a1, rfl, rfl, rfl, w1⟩ := Go.ChangeMaps.open_string Tryd.underlying9 (hval 1 9 v1 rfl rfl) h1
  clear hA0
  refine (walk a0 a1 W (typed_of hL) (pows_of hL) (bounds_i64 w0) w1).mono fun e W' ⟨he, bel⟩ => ?_
  subst he
  exact ⟨_, rfl, _, _, _, [], _, [], hW', trodAll_mk1 (shut_bool Tryd.underlying4 _), (trodAll_cons_mk (shut_int Tryd.underlying22 w0) (trodAll_cons_mk (Go.ChangeMaps.shut_string Tryd.underlying9 w1) trodAll_mk0)), rfl, bel.frame _, fun h => by cases h⟩

theorem reads (os : Os) {H : Type} (enc : TypeId × Value → H) : ∃ places, DataW.whole enc Tryd.prog ((laidWorld os).forCall (fun _ _ => 0) ⟨#[], #[.int .i64 0, .string ⟨#[]⟩], []⟩).memory Tryd.f3.params.toList Rows.faultNamesSpec.vars false (#[.int .i64 0, .string ⟨#[]⟩] : Array Value).toList 8 = some ([.lit (.int .i64 0), .lit (.string [])], [], places) :=
  ⟨[], by kernel_rfl⟩
set_option maxRecDepth 100000 in
theorem lifted (os : Os) (started : os.Started) (H : Type) (enc : TypeId × Value → H) (F : Stop.Interp) :
    ReturnsInHanded {} Tryd.checked os 3 .any ((OpenSpec.ofChange Rows.faultNamesSpec).preRow enc Tryd.prog Tryd.f3 Rows.faultNamesRow.domain false Rows.faultNamesRow.laid) (((OpenSpec.ofChange Rows.faultNamesSpec).at F).post enc Tryd.prog Tryd.f3 false true false false) := by
  obtain ⟨places, hx⟩ := reads os enc
  refine returnsInHanded_of_row (C := Tryd.checked) (s := OpenSpec.ofChange Rows.faultNamesSpec) own started (by kernel_rfl) Tryd.func3
    (witness_row_at (enc := enc) (C := Tryd.checked) false (laidWorld os) #[.int .i64 0, .string ⟨#[]⟩] rfl (by kernel_rfl) (by kernel_rfl) (by kernel_rfl)
      (OpenSpec.preRow_of_cond 8 hx (by kernel_rfl) (fun k hk => by cases hk) (by kernel_rfl) (laid_met os _))) ?_
  intro W base args ds gs before hval hW _ _ hsz hL _ _
  exact contract H enc W base args ds gs before hval hW hL
theorem said : Rows.FaultNamesSaid :=
  OpenClaim.holds_of_cond 3 Tryd.f3 rfl rfl rfl rfl rfl rfl rfl ⟨rfl, rfl, rfl, rfl, rfl⟩ rfl rfl rfl rfl rfl (by kernel_rfl) Tryd.func3 (by kernel_rfl)
    (of_decide_eq_true (by kernel_rfl)) (by unfold Func.isWrapper; first | (rw [if_pos (by decide +kernel)]; kernel_rfl) | (rw [if_neg (by decide +kernel)]; exact ⟨rfl, rfl⟩))
    (fun os started H enc _ F => by rw [OpenClaim.pre_eq_preRow]; exact lifted os started H enc F)
set_option maxRecDepth 100000 in
theorem plain (f : FuncId) (fn : Func) (hf : Tryd.pinned.checked.prog.funcNamed "pumice/pumicelaw04.FaultNames" = some f) (hfn : Tryd.pinned.checked.prog.funcs[f]? = some fn) :
    true = Tryd.pinned.checked.prog.looks [] ∧ ∀ (j : Nat) t, fn.params[j]? = some t → Tryd.pinned.checked.prog.wantsStandIn t = false := by
  obtain rfl : f = 3 := Option.some.inj ((show Tryd.prog.funcNamed "pumice/pumicelaw04.FaultNames" = some 3 by kernel_rfl).symm.trans hf) |>.symm
  obtain rfl : fn = Tryd.f3 := (Option.some.inj (Tryd.func3.symm.trans hfn)).symm
  refine ⟨by kernel_rfl, fun j t ht => ?_⟩
  rw [Tryd.params3] at ht
  have hm : t = 22 ∨ t = 9 := by simpa using Array.mem_of_getElem? ht
  rcases hm with rfl | rfl
  · exact (show Tryd.prog.wantsStandIn 22 = false by kernel_rfl)
  · exact (show Tryd.prog.wantsStandIn 9 = false by kernel_rfl)
theorem card : Rows.FaultNamesCardSaid :=
  Claim7.holds_tied_plain_at .later [] _ _ _ _ said (fun _ h => by cases h) (by kernel_rfl) (fun _ h => by cases h) faultNames_row_tie rfl ⟨rfl, rfl⟩ (by kernel_rfl) rfl plain (by kernel_rfl)
end Go.Proofs.YtafihnnlblacnaaDoor.faultNames

namespace Go.Proofs.YtafihnnlblacnaaDoor
theorem faultNames_holds : Rows.FaultNamesCardSaid := faultNames.card
#print axioms faultNames_holds
end Go.Proofs.YtafihnnlblacnaaDoor
