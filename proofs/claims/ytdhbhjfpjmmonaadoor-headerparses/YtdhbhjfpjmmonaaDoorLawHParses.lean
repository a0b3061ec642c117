/-
  For all bytes: HeaderParses answers true (any bytes are one of the images, or none, as the document says), and leaves its argument as it was; given that the package's error variable holds what its initialiser lays (the card ties it). No other condition.
-/
import Derived.Test.YtdhbhjfpjmmonaaDoorHRefS
namespace Go.Proofs.YtdhbhjfpjmmonaaDoor.headerParses
open Go.ChangeShapes Go.WideShapes Go.ChangeAt Go.RowKit M

set_option maxRecDepth 10000 in
set_option maxHeartbeats 4000000 in
theorem core (a : Option Addr) (n cap : Nat) (N X1 X2 X3 : Nat) (B D : Bool) (w : World) (hg : Glb w)
    (c1 : ∀ w', Below w.heap.size w w' → Calls Tryd.prog 13 #[.slice a n cap] w' fun e w'' => e = .returned (.tuple #[.int .i64 (N : Int), .bool B]) ∧ Below w'.heap.size w' w'')
    (c2 : ∀ w', Below w.heap.size w w' → Calls Tryd.prog 14 #[.slice a n cap] w' fun e w'' => e = .returned (.tuple #[.int .i64 (N : Int), .bool B]) ∧ Below w'.heap.size w' w'')
    (c3 : ∀ w', Below w.heap.size w w' → Calls Tryd.prog 15 #[.slice a n cap] w' fun e w'' => e = .returned (.tuple #[.agg #[.int .i64 (X1 : Int), .int .u64 (X2 : Int), .int .i64 (X3 : Int)], .bool D]) ∧ Below w'.heap.size w' w'')
    (c4 : ∀ w', Below w.heap.size w w' → Calls Tryd.prog 16 #[.slice a n cap] w' fun e w'' => e = .returned (.tuple #[.agg #[.int .i64 (X1 : Int), .int .u64 (X2 : Int), .int .i64 (X3 : Int)], .bool D]) ∧ Below w'.heap.size w' w'') :
    Calls Tryd.prog 4 #[.slice a n cap] w fun e w' => e = .returned (.bool true) ∧ Below w.heap.size w w' := by
  have HG : Hid (Glb w) := hg
  have e1 : ((N : Int) == (N : Int)) = true := by simp
  have e2 : (B == B) = true := by simp
  have e3 : (D == D) = true := by simp
  have e4 : ((X1 : Int) == (X1 : Int)) = true := by simp
  have e5 : ((X2 : Int) == (X2 : Int)) = true := by simp
  have e6 : ((X3 : Int) == (X3 : Int)) = true := by simp
  clear hg
  go_enter Tryd.func4, Tryd.ntmps4
  go_wp2_with (first
    | (go_at_call 13; refine (c1 _ (Below.refl _ _)).mono ?_; rintro e w1 ⟨rfl, hb1⟩; have HB1 : Hid (Below w.heap.size w w1) := hb1; clear hb1)
    | (go_at_call 14; refine (c2 _ HB1.out).mono ?_; rintro e w2 ⟨rfl, hb2⟩; have HB2 : Hid (Below w.heap.size w w2) := Below.after HB1.out hb2; clear hb2)
    | (go_at_call 15; refine (c3 _ HB2.out).mono ?_; rintro e w3 ⟨rfl, hb3⟩; have HB3 : Hid (Below w.heap.size w (w3.alloc (.cells #[.int .i64 (X1 : Int), .int .u64 (X2 : Int), .int .i64 (X3 : Int)] 30))) := Below.after (Below.after HB2.out hb3) (below_new _ _); clear hb3)
    | (go_at_call 16; refine (c4 _ HB3.out).mono ?_; rintro e w4 ⟨rfl, hb4⟩; have HB5 : Hid (Below w.heap.size w (w4.alloc (.cells #[.int .i64 (X1 : Int), .int .u64 (X2 : Int), .int .i64 (X3 : Int)] 24))) := Below.after (Below.after HB3.out hb4) (below_new _ _); have hrx := (Row.new w3 [.int .i64 (X1 : Int), .int .u64 (X2 : Int), .int .i64 (X3 : Int)] 30).later hb4; have hlx := hrx.lt; have d0 : w4.cell? ⟨w3.heap.size, 0, none⟩ = some (.int .i64 (X1 : Int)) := hrx.cell (i := 0) rfl; have d1 : w4.cell? ⟨w3.heap.size, 1, none⟩ = some (.int .u64 (X2 : Int)) := hrx.cell (i := 1) rfl; have d2 : w4.cell? ⟨w3.heap.size, 2, none⟩ = some (.int .i64 (X3 : Int)) := hrx.cell (i := 2) rfl; clear hb4 hrx)
    | (go_at_call 12; refine (alive_any _ (HG.out.later HB5.out)).mono ?_; rintro e w6 ⟨rfl, hb6⟩; have HB6 : Hid (Below w.heap.size w w6) := Below.after HB5.out hb6; clear hb6))
  go_ret
  exact ⟨rfl, HB6.out⟩
theorem walk (a0 : Option Addr) (len0 cap0 : Nat) (l0 : List Nat) (w : World) (hg : Glb w) (w0 : BArg w a0 len0 cap0 l0) :
    Calls Tryd.prog 4 #[.slice a0 len0 cap0] w fun e w' => e = .returned (.bool true) ∧ Below w.heap.size w w' := by
  have h : Lies w a0 len0 cap0 l0 := ⟨w0.len_eq, w0.le, w0.max, w0.lt, w0.row⟩
  refine core a0 len0 cap0 ((parseC l0).getD 0) ((parseM l0).getD (0, 0, 0)).1 ((parseM l0).getD (0, 0, 0)).2.1 ((parseM l0).getD (0, 0, 0)).2.2 (parseC l0).isSome (parseM l0).isSome w hg ?_ ?_ ?_ ?_
  · intro w' hb
    have h' := h.later hb
    exact parseCount_any a0 len0 cap0 l0 w' (hg.later hb) h'.len h'.le h'.max h'.lt h'.row
  · intro w' hb
    exact rparseCount (h.later hb)
  · intro w' hb
    have h' := h.later hb
    exact parseMapping_any a0 len0 cap0 l0 w' (hg.later hb) h'.len h'.le h'.max h'.lt h'.row
  · intro w' hb
    exact rparseMapping (h.later hb)

set_option maxRecDepth 100000 in
theorem contract (H : Type) (enc : TypeId × Value → H) (W : World) (base : Nat) (args : Array Value) (ds gs : List (DataW H)) (before : List MemPlace)
    (hval : ∀ (j : Nat) t v, Tryd.f4.params[j]? = some t → args[j]? = some v → Value.okWide Tryd.prog W .any base t v)
    (hW : DataW.Whole enc Tryd.prog Tryd.f4.params.toList Rows.headerParsesSpec.vars false W args.toList ds gs before) (hL : laidMetH Tryd.prog laid W)
    : Calls Tryd.prog 4 args W fun e W' => ∃ v, e = .returned v ∧ Rows.headerParsesSpec.post enc Tryd.prog Tryd.f4 false true false false W args v W' := by
  have hW' := hW
  obtain ⟨p, q, hA0, hV, rfl, hfz, hnd⟩ := hW
  have hA : DataW.TrodAll enc Tryd.prog W 0 (fun _ => true) true Tryd.f4.params.toList args.toList ds p := hA0
  rw [Tryd.params4] at hA hval
  obtain ⟨v0, vs0, d0, ds0, p0, q0, hargs, rfl, rfl, h0, r0⟩ := trodAll_cons hA
  obtain ⟨rfl, rfl, rfl⟩ := trodAll_nil r0
  obtain rfl : args = #[v0] := by cases args; simp_all
  obtain ⟨rfl, rfl⟩ := trodVars_none hV
  obtain ⟨a0, len0, cap0, rfl⟩ := okWide_slice Tryd.underlying25 (hval 0 25 v0 rfl rfl)
  have k0 := h0
  have lt0 : ∀ x ∈ p0, x.block < W.heap.size := by obtain ⟨m, hm⟩ := k0; exact DataW.trod_lt m _ _ _ hm
  obtain ⟨l0, w0⟩ : ∃ l, BArg W a0 len0 cap0 l := by
    obtain ⟨fuel, hf⟩ := h0
    exact barg_open hf
  clear hA0
  refine (walk a0 len0 cap0 l0 W (glb_of hL) w0).mono fun e W' ⟨he, bel⟩ => ?_
  subst he
  exact ⟨_, rfl, _, _, _, [], _, [], hW', trodAll_mk1 (shut_bool Tryd.underlying4 _), (trodAll_cons_mk (Below.trod laidOut (by kernel_rfl) (of_decide_eq_true (by kernel_rfl)) k0 bel lt0) trodAll_mk0), rfl, bel.frame _, fun h => by cases h⟩

theorem reads (os : Os) {H : Type} (enc : TypeId × Value → H) : ∃ places, DataW.whole enc Tryd.prog ((laidWorld os).forCall (fun _ _ => 0) ⟨#[], #[.slice none 0 0], []⟩).memory Tryd.f4.params.toList Rows.headerParsesSpec.vars false (#[.slice none 0 0] : Array Value).toList 8 = some ([.nil], [], places) :=
  ⟨[], by kernel_rfl⟩
set_option maxRecDepth 100000 in
theorem lifted (os : Os) (started : os.Started) (H : Type) (enc : TypeId × Value → H) (F : Stop.Interp) :
    ReturnsInHanded {} Tryd.checked os 4 .any ((OpenSpec.ofChange Rows.headerParsesSpec).preRow enc Tryd.prog Tryd.f4 Rows.headerParsesRow.domain false Rows.headerParsesRow.laid) (((OpenSpec.ofChange Rows.headerParsesSpec).at F).post enc Tryd.prog Tryd.f4 false true false false) := by
  obtain ⟨places, hx⟩ := reads os enc
  refine returnsInHanded_of_row (C := Tryd.checked) (s := OpenSpec.ofChange Rows.headerParsesSpec) own started (by kernel_rfl) Tryd.func4
    (witness_row_at (enc := enc) (C := Tryd.checked) false (laidWorld os) #[.slice none 0 0] (laid_os os) (by kernel_rfl) (by kernel_rfl) (by kernel_rfl)
      (OpenSpec.preRow_of_cond 8 hx (by kernel_rfl) (fun k hk => by cases hk) (by kernel_rfl) (laid_met os _))) ?_
  intro W base args ds gs before hval hW _ _ hsz hL _ _
  exact contract H enc W base args ds gs before hval hW hL
theorem said : Rows.HeaderParsesSaid :=
  OpenClaim.holds_of_cond 4 Tryd.f4 rfl rfl rfl rfl rfl rfl rfl ⟨rfl, rfl, rfl, rfl, rfl⟩ rfl rfl rfl rfl rfl (by kernel_rfl) Tryd.func4 (by kernel_rfl)
    (of_decide_eq_true (by kernel_rfl)) (by unfold Func.isWrapper; first | (rw [if_pos (by decide +kernel)]; kernel_rfl) | (rw [if_neg (by decide +kernel)]; exact ⟨rfl, rfl⟩))
    (fun os started H enc _ F => by rw [OpenClaim.pre_eq_preRow]; exact lifted os started H enc F)
set_option maxRecDepth 100000 in
theorem plain (f : FuncId) (fn : Func) (hf : Tryd.pinned.checked.prog.funcNamed "pumice/pumicelaw05.HeaderParses" = some f) (hfn : Tryd.pinned.checked.prog.funcs[f]? = some fn) :
    true = Tryd.pinned.checked.prog.looks [] ∧ ∀ (j : Nat) t, fn.params[j]? = some t → Tryd.pinned.checked.prog.wantsStandIn t = false := by
  obtain rfl : f = 4 := Option.some.inj ((show Tryd.prog.funcNamed "pumice/pumicelaw05.HeaderParses" = some 4 by kernel_rfl).symm.trans hf) |>.symm
  obtain rfl : fn = Tryd.f4 := (Option.some.inj (Tryd.func4.symm.trans hfn)).symm
  refine ⟨by kernel_rfl, fun j t ht => ?_⟩
  rw [Tryd.params4] at ht
  have hm : t = 25 := by simpa using Array.mem_of_getElem? ht
  subst hm
  exact (show Tryd.prog.wantsStandIn 25 = false by kernel_rfl)
theorem card : Rows.HeaderParsesCardSaid :=
  Claim7.holds_tied_plain_at .later [] _ _ _ _ said (fun _ h => by cases h) (by kernel_rfl) (fun _ h => by cases h) headerParses_row_tie rfl ⟨rfl, rfl⟩ (by kernel_rfl) rfl plain (by kernel_rfl)
end Go.Proofs.YtdhbhjfpjmmonaaDoor.headerParses

namespace Go.Proofs.YtdhbhjfpjmmonaaDoor
theorem headerParses_holds : Rows.HeaderParsesCardSaid := headerParses.card
#print axioms headerParses_holds
end Go.Proofs.YtdhbhjfpjmmonaaDoor
