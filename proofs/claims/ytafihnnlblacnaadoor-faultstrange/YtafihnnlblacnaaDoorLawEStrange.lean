/-
  FaultStrange: an error that wraps no errno is one of the medium (EIO); nil is none; a nil *Error has no text and wraps nothing: for every two texts. Conditions: none but the row's own: the listed library variables hold what their initialisers lay (the card ties that to the program's text).
-/
import Derived.Test.YtafihnnlblacnaaDoorECard
import Derived.Test.YtafihnnlblacnaaDoorEOps
namespace Go.Proofs.YtafihnnlblacnaaDoor.faultStrange
open Go.ChangeShapes Go.WideShapes Go.ChangeAt Go.RowKit

structure On (w0 w : World) : Prop where
  g : Typed w
  p : Pows w
  bel : Below w0.heap.size w0 w
theorem On.later {w0 w w' : World} (h : On w0 w) (hb : Below w.heap.size w w') : On w0 w' := ⟨h.g.later hb, h.p.later hb, Below.after h.bel hb⟩
theorem new_any (s : ByteArray) (w : World) : Calls Tryd.prog 24 #[.string s] w fun e w' => e = .returned (.iface 73 (.pointer (some ⟨w.heap.size, 0, none⟩))) ∧ Below w.heap.size w w' := by
  go_enter Tryd.func24, Tryd.ntmps24
  go_wp2
  go_ret
  exact ⟨rfl, below_new _ _⟩
theorem text_nil (w : World) : Calls Tryd.prog 25 #[.pointer none] w fun e w' => e = .returned (.string ⟨#[]⟩) ∧ w = w' := by
  go_enter Tryd.func25, Tryd.ntmps25
  go_wp2
  go_ret
  exact ⟨rfl, rfl⟩
theorem unwrap_nil (w : World) : Calls Tryd.prog 26 #[.pointer none] w fun e w' => e = .returned .nilIface ∧ w = w' := by
  go_enter Tryd.func26, Tryd.ntmps26
  go_wp2
  go_ret
  exact ⟨rfl, rfl⟩
theorem ops_nil (w : World) (hg : Typed w) : Calls Tryd.prog 23 #[.nilIface] w fun ev w' => (∃ a cap, ev = .returned (.slice a 0 cap)) ∧ Below w.heap.size w w' :=
  ops_any .nilIface [] none 0 w hg .nothing (by decide)
theorem of_five (v : Value) (l : List ByteArray) (n : Nat) (w : World) (hg : Typed w) (hc : Ch w v l none n) (h5 : told v none = 5) : Calls Tryd.prog 21 #[v] w fun ev w' => ev = .returned (.int .i64 5) ∧ Below w.heap.size w w' := by
  have := of_any v l none n w hg hc
  rw [h5] at this
  exact this

/-- The three errors of the statement: of errors.New at N, wrapped at b, the bare one at c. -/
structure Three (w0 w : World) (op what : ByteArray) (N b c : Nat) : Prop where
  on : On w0 w
  rb : Row w b [.string op, .string what, .iface 73 (.pointer (some ⟨N, 0, none⟩))] 48
  rc : Row w c [.string op, .string what, .nilIface] 48
theorem Three.later {w0 w w' : World} {op what : ByteArray} {N b c : Nat} (h : Three w0 w op what N b c) (hb : Below w.heap.size w w') : Three w0 w' op what N b c := ⟨h.on.later hb, h.rb.later hb, h.rc.later hb⟩

set_option maxHeartbeats 4000000 in
theorem walk (op what : ByteArray) (w : World) (hg : Typed w) (hp : Pows w) (_ : op.size ≤ maxLen) (_ : what.size ≤ maxLen) :
    Calls Tryd.prog 6 #[.string op, .string what] w fun e w' => e = .returned (.bool true) ∧ Below w.heap.size w w' := by
  have HO : Hid (On w w) := ⟨hg, hp, Below.refl _ _⟩
  have M1 : Hid True := trivial
  have M2 : Hid True := trivial
  have M3 : Hid True := trivial
  have M4 : Hid True := trivial
  clear hg hp
  go_enter Tryd.func6, Tryd.ntmps6
  go_wp2_with (first
    | (go_at_call 24; go_must (refine (new_any _ _).mono ?_); rintro e w1 ⟨rfl, hb⟩; have L1 : Hid (On w w1) := HO.out.later hb; clear hb)
    | (go_at_call 20; go_must (refine (wrap_some op what _ [] none 0 _ L1.out.g (.strange _) (show (5 : Int) ≠ 0 by decide)).mono ?_); rintro e w2 ⟨b, rfl, hr, hb⟩; have T2 : Hid (Three w (w2.alloc (.cells #[.string op, .string what, .nilIface] 48)) op what w.heap.size b w2.heap.size) := ⟨(L1.out.later hb).later (below_new _ _), hr.alloc _, Row.new w2 [_, _, _] _⟩; clear hb hr)
    | (go_at_call 21; clear M1; go_must (refine (of_five _ [] 0 _ T2.out.on.g (.strange _) rfl).mono ?_); rintro e w3 ⟨rfl, hb⟩; have T3 : Hid (Three w w3 op what w.heap.size b w2.heap.size) := T2.out.later hb; clear hb)
    | (go_at_call 21; clear M2; go_must (refine (of_five _ [op] 1 _ T3.out.on.g (.err T3.out.rb (.strange _)) rfl).mono ?_); rintro e w4 ⟨rfl, hb⟩; have T4 : Hid (Three w w4 op what w.heap.size b w2.heap.size) := T3.out.later hb; clear hb)
    | (go_at_call 22; go_must (refine (Is_S b op what ⟨w.heap.size, 0, none⟩ _ T4.out.rb).mono ?_); rintro e w5 ⟨rfl, rfl⟩)
    | (go_at_call 21; clear M3; go_must (refine (of_nil _).mono ?_); rintro e w6 ⟨rfl, hb⟩; have T6 : Hid (Three w w6 op what w.heap.size b w2.heap.size) := T4.out.later hb; clear hb)
    | (go_at_call 23; go_must (refine (ops_nil _ T6.out.on.g).mono ?_); rintro e w7 ⟨⟨oa, ocap, rfl⟩, hb⟩; have T7 : Hid (Three w w7 op what w.heap.size b w2.heap.size) := T6.out.later hb; clear hb)
    | (go_at_call 25; go_must (refine (text_nil _).mono ?_); rintro e w8 ⟨rfl, rfl⟩)
    | (go_at_call 26; clear M4; go_must (refine (unwrap_nil _).mono ?_); rintro e w9 ⟨rfl, rfl⟩)
    | (go_at_call 26; go_must (refine (unwrapF_any w2.heap.size op what .nilIface _ T7.out.rc (.inl rfl)).mono ?_); rintro e w10 ⟨rfl, rfl⟩)
    | (go_at_call 21; go_must (refine (of_five _ [op] 1 _ T7.out.on.g (.err T7.out.rc .nothing) rfl).mono ?_); rintro e w11 ⟨rfl, hb⟩; have T11 : Hid (Three w w11 op what w.heap.size b w2.heap.size) := T7.out.later hb; clear hb)
    | (go_at_call 15; go_must (refine (alive_any _ T11.out.on.g T11.out.on.p).mono ?_); rintro e w12 ⟨rfl, hb⟩; have T12 : Hid (Three w w12 op what w.heap.size b w2.heap.size) := T11.out.later hb; clear hb))
  go_ret
  exact ⟨rfl, T12.out.on.bel⟩

set_option maxRecDepth 100000 in
theorem contract (H : Type) (enc : TypeId × Value → H) (W : World) (base : Nat) (args : Array Value) (ds gs : List (DataW H)) (before : List MemPlace)
    (hval : ∀ (j : Nat) t v, Tryd.f6.params[j]? = some t → args[j]? = some v → Value.okWide Tryd.prog W .any base t v)
    (hW : DataW.Whole enc Tryd.prog Tryd.f6.params.toList Rows.faultStrangeSpec.vars false W args.toList ds gs before) (hL : laidMetH Tryd.prog laid W)
    : Calls Tryd.prog 6 args W fun e W' => ∃ v, e = .returned v ∧ Rows.faultStrangeSpec.post enc Tryd.prog Tryd.f6 false true false false W args v W' := by
  have hW' := hW
  obtain ⟨p, q, hA0, hV, rfl, hfz, hnd⟩ := hW
  have hA : DataW.TrodAll enc Tryd.prog W 0 (fun _ => true) true Tryd.f6.params.toList args.toList ds p := hA0
  rw [Tryd.params6] at hA hval
  obtain ⟨v0, vs0, d0, ds0, p0, q0, hargs, rfl, rfl, h0, r0⟩ := trodAll_cons hA
  obtain ⟨v1, vs1, d1, ds1, p1, q1, rfl, rfl, rfl, h1, r1⟩ := trodAll_cons r0
  obtain ⟨rfl, rfl, rfl⟩ := trodAll_nil r1
  obtain rfl : args = #[v0, v1] := by cases args; simp_all
  obtain ⟨rfl, rfl⟩ := trodVars_none hV
  obtain ⟨a0, rfl, rfl, rfl, w0⟩ := Go.ChangeMaps.open_string Tryd.underlying9 (hval 0 9 v0 rfl rfl) h0
  obtain ⟨a1, rfl, rfl, rfl, w1⟩ := Go.ChangeMaps.open_string Tryd.underlying9 (hval 1 9 v1 rfl rfl) h1
  clear hA0
  refine (walk a0 a1 W (typed_of hL) (pows_of hL) w0 w1).mono fun e W' ⟨he, bel⟩ => ?_
  subst he
  exact ⟨_, rfl, _, _, _, [], _, [], hW', trodAll_mk1 (shut_bool Tryd.underlying4 _), (trodAll_cons_mk (Go.ChangeMaps.shut_string Tryd.underlying9 w0) (trodAll_cons_mk (Go.ChangeMaps.shut_string Tryd.underlying9 w1) trodAll_mk0)), rfl, bel.frame _, fun h => by cases h⟩

theorem reads (os : Os) {H : Type} (enc : TypeId × Value → H) : ∃ places, DataW.whole enc Tryd.prog ((laidWorld os).forCall (fun _ _ => 0) ⟨#[], #[.string ⟨#[]⟩, .string ⟨#[]⟩], []⟩).memory Tryd.f6.params.toList Rows.faultStrangeSpec.vars false (#[.string ⟨#[]⟩, .string ⟨#[]⟩] : Array Value).toList 8 = some ([.lit (.string []), .lit (.string [])], [], places) :=
  ⟨[], by kernel_rfl⟩
set_option maxRecDepth 100000 in
theorem lifted (os : Os) (started : os.Started) (H : Type) (enc : TypeId × Value → H) (F : Stop.Interp) :
    ReturnsInHanded {} Tryd.checked os 6 .any ((OpenSpec.ofChange Rows.faultStrangeSpec).preRow enc Tryd.prog Tryd.f6 Rows.faultStrangeRow.domain false Rows.faultStrangeRow.laid) (((OpenSpec.ofChange Rows.faultStrangeSpec).at F).post enc Tryd.prog Tryd.f6 false true false false) := by
  obtain ⟨places, hx⟩ := reads os enc
  refine returnsInHanded_of_row (C := Tryd.checked) (s := OpenSpec.ofChange Rows.faultStrangeSpec) own started (by kernel_rfl) Tryd.func6
    (witness_row_at (enc := enc) (C := Tryd.checked) false (laidWorld os) #[.string ⟨#[]⟩, .string ⟨#[]⟩] rfl (by kernel_rfl) (by kernel_rfl) (by kernel_rfl)
      (OpenSpec.preRow_of_cond 8 hx (by kernel_rfl) (fun k hk => by cases hk) (by kernel_rfl) (laid_met os _))) ?_
  intro W base args ds gs before hval hW _ _ hsz hL _ _
  exact contract H enc W base args ds gs before hval hW hL
theorem said : Rows.FaultStrangeSaid :=
  OpenClaim.holds_of_cond 6 Tryd.f6 rfl rfl rfl rfl rfl rfl rfl ⟨rfl, rfl, rfl, rfl, rfl⟩ rfl rfl rfl rfl rfl (by kernel_rfl) Tryd.func6 (by kernel_rfl)
    (of_decide_eq_true (by kernel_rfl)) (by unfold Func.isWrapper; first | (rw [if_pos (by decide +kernel)]; kernel_rfl) | (rw [if_neg (by decide +kernel)]; exact ⟨rfl, rfl⟩))
    (fun os started H enc _ F => by rw [OpenClaim.pre_eq_preRow]; exact lifted os started H enc F)
set_option maxRecDepth 100000 in
theorem plain (f : FuncId) (fn : Func) (hf : Tryd.pinned.checked.prog.funcNamed "pumice/pumicelaw04.FaultStrange" = some f) (hfn : Tryd.pinned.checked.prog.funcs[f]? = some fn) :
    true = Tryd.pinned.checked.prog.looks [] ∧ ∀ (j : Nat) t, fn.params[j]? = some t → Tryd.pinned.checked.prog.wantsStandIn t = false := by
  obtain rfl : f = 6 := Option.some.inj ((show Tryd.prog.funcNamed "pumice/pumicelaw04.FaultStrange" = some 6 by kernel_rfl).symm.trans hf) |>.symm
  obtain rfl : fn = Tryd.f6 := (Option.some.inj (Tryd.func6.symm.trans hfn)).symm
  refine ⟨by kernel_rfl, fun j t ht => ?_⟩
  rw [Tryd.params6] at ht
  have hm : t = 9 := by simpa using Array.mem_of_getElem? ht
  subst hm
  exact (show Tryd.prog.wantsStandIn 9 = false by kernel_rfl)
theorem card : Rows.FaultStrangeCardSaid :=
  Claim7.holds_tied_plain_at .later [] _ _ _ _ said (fun _ h => by cases h) (by kernel_rfl) (fun _ h => by cases h) faultStrange_row_tie rfl ⟨rfl, rfl⟩ (by kernel_rfl) rfl plain (by kernel_rfl)
end Go.Proofs.YtafihnnlblacnaaDoor.faultStrange

namespace Go.Proofs.YtafihnnlblacnaaDoor
theorem faultStrange_holds : Rows.FaultStrangeCardSaid := faultStrange.card
#print axioms faultStrange_holds
end Go.Proofs.YtafihnnlblacnaaDoor
