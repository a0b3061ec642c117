/-
  For all geometries, bytes and logical blocks: EbmAll answers true (all logical blocks can be full at once, one of them changed, and a manager that is attached then tells what stands in each), and leaves its arguments as they were; given that the two variables that it reaches hold what their initialisers lay (the card ties them). No other condition.
-/
import Derived.Test.YtccfalafphjkpaaGreatDoorKW
namespace Go.Proofs.YtccfalafphjkpaaGreatDoor.ebmAll
open Go.ChangeShapes Go.WideShapes Go.ChangeAt Go.RowKit
set_option maxRecDepth 10000

set_option maxHeartbeats 8000000 in
theorem walk_no (b p z r at_ : Int) (a : Option Addr) (n cap : Nat) (w : World) (hg : Hd.Glb w) (ht : Typed w) (hR : rightB b p z r = false) :
    Calls Tryz.prog 3 #[.agg #[.int .i64 b, .int .i64 p, .int .i64 z, .int .i64 r], .slice a n cap, .int .i64 at_] w fun e w' => e = .returned (.bool true) ∧ Below w.heap.size w w' := by
  have HG : Hid (Hd.Glb w ∧ Typed w) := ⟨hg, ht⟩
  have cN := fun W => new_c0 b p z r W hR
  have hb0 := below_new w (.cells #[.int .i64 b, .int .i64 p, .int .i64 z, .int .i64 r] 23)
  have HB0 : Hid (Below w.heap.size w (w.alloc (.cells #[.int .i64 b, .int .i64 p, .int .i64 z, .int .i64 r] 23))) := hb0
  clear hg ht hR hb0
  go_enter Tryz.func3, Tryz.ntmps3
  go_wp2_with (first
    | (go_at_call 5; refine (cN _).mono ?_; rintro e w1 ⟨rfl, hb1⟩; have HB1 : Hid (Below w.heap.size w w1) := Below.after HB0.out hb1; clear hb1)
    | (go_at_call 6; refine (alive_any _ (HG.out.1.later HB1.out) (HG.out.2.later HB1.out)).mono ?_; rintro e w6 ⟨rfl, hb6⟩; have HB6 : Hid (Below w.heap.size w w6) := Below.after HB1.out hb6; clear hb6))
  go_ret
  exact ⟨rfl, HB6.out⟩
set_option maxHeartbeats 8000000 in
theorem walk_long (gb gp gz gr : Nat) (at_ : Int) (a : Option Addr) (n cap : Nat) (w : World) (hg : Hd.Glb w) (ht : Typed w) (hR : rightB gb gp gz gr = true) (hz : gz < n) :
    Calls Tryz.prog 3 #[.agg #[.int .i64 gb, .int .i64 gp, .int .i64 gz, .int .i64 gr], .slice a n cap, .int .i64 at_] w fun e w' => e = .returned (.bool true) ∧ Below w.heap.size w w' := by
  have HG : Hid (Hd.Glb w ∧ Typed w) := ⟨hg, ht⟩
  have cN := fun W => new_chip gb gp gz gr W hR
  have hz2 : (gz : Int) < (n : Int) := by omega
  obtain ⟨X, hX⟩ : ∃ X, X = w.alloc (.cells #[.int .i64 gb, .int .i64 gp, .int .i64 gz, .int .i64 gr] 23) := ⟨_, rfl⟩
  have HB0 : Hid (Below w.heap.size w X) := by rw [hX]; exact below_new w _
  have hx : Row X w.heap.size [.int .i64 gb, .int .i64 gp, .int .i64 gz, .int .i64 gr] 23 := by rw [hX]; exact Row.new w _ _
  have HX : Hid (Row X w.heap.size [.int .i64 gb, .int .i64 gp, .int .i64 gz, .int .i64 gr] 23) := hx
  have x0 := hx.cell (i := 0) rfl
  have x1 := hx.cell (i := 1) rfl
  have x2 := hx.cell (i := 2) rfl
  have x3 := hx.cell (i := 3) rfl
  clear hg ht hR hx hz
  go_enter Tryz.func3, Tryz.ntmps3
  go_wp2_with fail
  rw [← hX]
  clear hX
  go_wp2_with (first
    | (go_at_call 5; refine (cN _).mono ?_; rintro e w1 ⟨c0, rfl, _, _, _, _, _, _, hb1⟩; have HB1 : Hid (Below w.heap.size w w1) := Below.after HB0.out hb1; have y2 : w1.cell? ⟨w.heap.size, 2, none⟩ = some (.int .i64 gz) := (HX.out.later hb1).cell (i := 2) rfl; clear hb1 x0 x1 x2 x3)
    | (go_at_call 6; refine (alive_any _ (HG.out.1.later HB1.out) (HG.out.2.later HB1.out)).mono ?_; rintro e w6 ⟨rfl, hb6⟩; have HB6 : Hid (Below w.heap.size w w6) := Below.after HB1.out hb6; clear hb6))
  go_ret
  exact ⟨rfl, HB6.out⟩
theorem walk (b p z r : Int) (a : Option Addr) (n cap : Nat) (l : List Nat) (at_ : Int) (w : World) (hg : Hd.Glb w) (ht : Typed w) (h0 : BArg w a n cap l) (_ : -9223372036854775808 ≤ at_ ∧ at_ ≤ 9223372036854775807) :
    Calls Tryz.prog 3 #[.agg #[.int .i64 b, .int .i64 p, .int .i64 z, .int .i64 r], .slice a n cap, .int .i64 at_] w fun e w' => e = .returned (.bool true) ∧ Below w.heap.size w w' := by
  cases h : rightB b p z r with
  | false => exact walk_no b p z r at_ a n cap w hg ht h
  | true =>
    obtain ⟨gb, gp, gz, gr, rfl, rfl, rfl, rfl, g1, g2, g3, g4, g5, g6⟩ := right_nums h
    by_cases hz : n ≤ gz
    · by_cases ha : at_ < 0
      · exact walk_A gb gp gz gr at_ a n cap l w hg ht h h0 hz ha
      · by_cases hb : at_ < (gb : Int) - gr - 2
        · exact walk_B gb gp gz gr at_ a n cap l w hg ht h h0 hz (by omega) hb
        · exact walk_C gb gp gz gr at_ a n cap l w hg ht h h0 hz (by omega) hb
    · exact walk_long gb gp gz gr at_ a n cap w hg ht h (by omega)
set_option maxRecDepth 100000 in
theorem contract (H : Type) (enc : TypeId × Value → H) (W : World) (base : Nat) (args : Array Value) (ds gs : List (DataW H)) (before : List MemPlace)
    (hval : ∀ (j : Nat) t v, Tryz.f3.params[j]? = some t → args[j]? = some v → Value.okWide Tryz.prog W .any base t v)
    (hW : DataW.Whole enc Tryz.prog Tryz.f3.params.toList Rows.ebmAllSpec.vars false W args.toList ds gs before) (hL : laidMetH Tryz.prog laid W)
    : Calls Tryz.prog 3 args W fun e W' => ∃ v, e = .returned v ∧ Rows.ebmAllSpec.post enc Tryz.prog Tryz.f3 false true false false W args v W' := by
  have hW' := hW
  obtain ⟨p, q, hA0, hV, rfl, hfz, hnd⟩ := hW
  have hA : DataW.TrodAll enc Tryz.prog W 0 (fun _ => true) true Tryz.f3.params.toList args.toList ds p := hA0
  rw [Tryz.params3] at hA hval
  obtain ⟨v0, vs0, d0, ds0, p0, q0, hargs, rfl, rfl, h0, r0⟩ := trodAll_cons hA
  obtain ⟨v1, vs1, d1, ds1, p1, q1, rfl, rfl, rfl, h1, r1⟩ := trodAll_cons r0
  obtain ⟨v2, vs2, d2, ds2, p2, q2, rfl, rfl, rfl, h2, r2⟩ := trodAll_cons r1
  obtain ⟨rfl, rfl, rfl⟩ := trodAll_nil r2
  obtain rfl : args = #[v0, v1, v2] := by cases args; simp_all
  obtain ⟨rfl, rfl⟩ := trodVars_none hV
  obtain ⟨cs0, rfl, sz0⟩ := okWide_struct Tryz.underlying23 (hval 0 23 v0 rfl rfl)
  have k0 := h0
  have lt0 : ∀ x ∈ p0, x.block < W.heap.size := by obtain ⟨m, hm⟩ := k0; exact DataW.trod_lt m _ _ _ hm
  obtain ⟨gb0, gp0, gz0, gr0, rfl⟩ : ∃ b p z r, cs0 = #[.int .i64 b, .int .i64 p, .int .i64 z, .int .i64 r] := by
    obtain ⟨fuel, hf⟩ := h0
    exact garg_open sz0 hf
  obtain ⟨a1, len1, cap1, rfl⟩ := okWide_slice Tryz.underlying24 (hval 1 24 v1 rfl rfl)
  have k1 := h1
  have lt1 : ∀ x ∈ p1, x.block < W.heap.size := by obtain ⟨m, hm⟩ := k1; exact DataW.trod_lt m _ _ _ hm
  obtain ⟨l1, w1⟩ : ∃ l, BArg W a1 len1 cap1 l := by
    obtain ⟨fuel, hf⟩ := h1
    exact barg_open hf
  obtain ⟨a2, rfl, rfl, rfl, w2⟩ := open_int Tryz.underlying3 (hval 2 3 v2 rfl rfl) h2
  clear hA0
  refine (walk gb0 gp0 gz0 gr0 a1 len1 cap1 l1 a2 W (glb_of hL) (typed_of hL) w1 (bounds_i64 w2)).mono fun e W' ⟨he, bel⟩ => ?_
  subst he
  exact ⟨_, rfl, _, _, _, [], _, [], hW', trodAll_mk1 (shut_bool Tryz.underlying4 _), (trodAll_cons_mk (Below.trod laidOut (by kernel_rfl) (of_decide_eq_true (by kernel_rfl)) k0 bel lt0) (trodAll_cons_mk (Below.trod laidOut (by kernel_rfl) (of_decide_eq_true (by kernel_rfl)) k1 bel lt1) (trodAll_cons_mk (shut_int Tryz.underlying3 w2) trodAll_mk0))), rfl, bel.frame _, fun h => by cases h⟩

theorem reads (os : Os) {H : Type} (enc : TypeId × Value → H) : ∃ places, DataW.whole enc Tryz.prog ((laidWorld os).forCall (fun _ _ => 0) ⟨#[], #[.agg #[.int .i64 0, .int .i64 0, .int .i64 0, .int .i64 0], .slice none 0 0, .int .i64 0], []⟩).memory Tryz.f3.params.toList Rows.ebmAllSpec.vars false (#[.agg #[.int .i64 0, .int .i64 0, .int .i64 0, .int .i64 0], .slice none 0 0, .int .i64 0] : Array Value).toList 8 = some ([.agg [.lit (.int .i64 0), .lit (.int .i64 0), .lit (.int .i64 0), .lit (.int .i64 0)], .nil, .lit (.int .i64 0)], [], places) :=
  ⟨[], by kernel_rfl⟩
set_option maxRecDepth 100000 in
theorem lifted (os : Os) (started : os.Started) (H : Type) (enc : TypeId × Value → H) (F : Stop.Interp) :
    ReturnsInHanded {} Tryz.checked os 3 .any ((OpenSpec.ofChange Rows.ebmAllSpec).preRow enc Tryz.prog Tryz.f3 Rows.ebmAllRow.domain false Rows.ebmAllRow.laid) (((OpenSpec.ofChange Rows.ebmAllSpec).at F).post enc Tryz.prog Tryz.f3 false true false false) := by
  obtain ⟨places, hx⟩ := reads os enc
  refine returnsInHanded_of_row (C := Tryz.checked) (s := OpenSpec.ofChange Rows.ebmAllSpec) own started (by kernel_rfl) Tryz.func3
    (witness_row_at (enc := enc) (C := Tryz.checked) false (laidWorld os) #[.agg #[.int .i64 0, .int .i64 0, .int .i64 0, .int .i64 0], .slice none 0 0, .int .i64 0] (laid_os os) (by kernel_rfl) (by kernel_rfl) (by kernel_rfl)
      (OpenSpec.preRow_of_cond 8 hx (by kernel_rfl) (fun k hk => by cases hk) (by kernel_rfl) (laid_met os _))) ?_
  intro W base args ds gs before hval hW _ _ hsz hL _ _
  exact contract H enc W base args ds gs before hval hW hL
theorem said : Rows.EbmAllSaid :=
  OpenClaim.holds_of_cond 3 Tryz.f3 rfl rfl rfl rfl rfl rfl rfl ⟨rfl, rfl, rfl, rfl, rfl⟩ rfl rfl rfl rfl rfl (by kernel_rfl) Tryz.func3 (by kernel_rfl)
    (of_decide_eq_true (by kernel_rfl)) (by unfold Func.isWrapper; first | (rw [if_pos (by decide +kernel)]; kernel_rfl) | (rw [if_neg (by decide +kernel)]; exact ⟨rfl, rfl⟩))
    (fun os started H enc _ F => by rw [OpenClaim.pre_eq_preRow]; exact lifted os started H enc F)
set_option maxRecDepth 100000 in
theorem plain (f : FuncId) (fn : Func) (hf : Tryz.pinned.checked.prog.funcNamed "pumice/pumicelaw09.EbmAll" = some f) (hfn : Tryz.pinned.checked.prog.funcs[f]? = some fn) :
    true = Tryz.pinned.checked.prog.looks [] ∧ ∀ (j : Nat) t, fn.params[j]? = some t → Tryz.pinned.checked.prog.wantsStandIn t = false := by
  obtain rfl : f = 3 := Option.some.inj ((show Tryz.prog.funcNamed "pumice/pumicelaw09.EbmAll" = some 3 by kernel_rfl).symm.trans hf) |>.symm
  obtain rfl : fn = Tryz.f3 := (Option.some.inj (Tryz.func3.symm.trans hfn)).symm
  refine ⟨by kernel_rfl, fun j t ht => ?_⟩
  rw [Tryz.params3] at ht
  have hm : t = 23 ∨ t = 24 ∨ t = 3 := by simpa using Array.mem_of_getElem? ht
  rcases hm with rfl | rfl | rfl
  · exact (show Tryz.prog.wantsStandIn 23 = false by kernel_rfl)
  · exact (show Tryz.prog.wantsStandIn 24 = false by kernel_rfl)
  · exact (show Tryz.prog.wantsStandIn 3 = false by kernel_rfl)
theorem card : Rows.EbmAllCardSaid :=
  Claim7.holds_tied_plain_at .later [] _ _ _ _ said (fun _ h => by cases h) (by kernel_rfl) (fun _ h => by cases h) ebmAll_row_tie rfl ⟨rfl, rfl⟩ (by kernel_rfl) rfl plain (by kernel_rfl)
end Go.Proofs.YtccfalafphjkpaaGreatDoor.ebmAll

namespace Go.Proofs.YtccfalafphjkpaaGreatDoor
theorem ebmAll_holds : Rows.EbmAllCardSaid := ebmAll.card
#print axioms ebmAll_holds
end Go.Proofs.YtccfalafphjkpaaGreatDoor
