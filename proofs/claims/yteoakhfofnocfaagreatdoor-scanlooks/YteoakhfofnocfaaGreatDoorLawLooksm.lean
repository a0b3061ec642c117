/-
  For all lists of blocks and numbers: ScanLooks answers true (Find, Least and Good answer as the document's do), and leaves its arguments as they were; given that the package's error variable holds what its initialiser lays (the card ties it). No other condition.
-/
import Derived.Test.YteoakhfofnocfaaGreatDoorGU
import Derived.Test.YteoakhfofnocfaaGreatDoorGS
namespace Go.Proofs.YteoakhfofnocfaaGreatDoor.scanLooks
open Go.ChangeShapes Go.WideShapes Go.ChangeAt Go.RowKit
open Hd (laid laidWorld laid_met laid_os glb_of)
set_option maxRecDepth 10000

set_option maxHeartbeats 8000000 in
theorem walk (a : Option Addr) (m cap : Nat) (l : List Bl) (leb : Int) (w : World) (hg : Hd.Glb w) (h0 : LArg w a m cap l) (hs : cap * 48 ≤ 140737488351232) (_ : -9223372036854775808 ≤ leb ∧ leb ≤ 9223372036854775807) :
    Calls Tryz.prog 4 #[.slice a m cap, .int .i64 leb] w fun e w' => e = .returned (.bool true) ∧ Below w.heap.size w w' := by
  have hmc := h0.le
  have cO := own_any a m cap l w h0.len_eq (by omega) h0.row
  have HM : Hid (m = l.length) := h0.len_eq
  have HR : Hid (LRow w a l) := h0.row
  have HG : Hid (Hd.Glb w) := hg
  have HS : Hid (m ≤ 281474976710656) := by show _ ≤ _; omega
  obtain ⟨F, hF⟩ : ∃ F, F = findI l leb := ⟨_, rfl⟩
  obtain ⟨L, hL⟩ : ∃ F, F = leastI l := ⟨_, rfl⟩
  obtain ⟨G, hG⟩ : ∃ F, F = goodI l := ⟨_, rfl⟩
  have cF := fun X a' cap' (h : LRow X a' l) => find_any m cap' l a' leb HM.out HS.out X h
  have cRF := fun X a' cap' (h : LRow X a' l) => rfind_any a' m cap' l leb X HM.out HS.out h
  have cL := fun X a' cap' (h : LRow X a' l) => least_any m cap' l a' HM.out HS.out X h
  have cRL := fun X a' cap' (h : LRow X a' l) => rleast_any a' m cap' l X HM.out HS.out h
  have cG := fun X a' cap' (h : LRow X a' l) => good_any m cap' l a' HM.out HS.out X h
  have cRG := fun X a' cap' (h : LRow X a' l) => rgood_any a' m cap' l X HM.out HS.out h
  simp only [← hF] at cF cRF
  simp only [← hL] at cL cRL
  simp only [← hG] at cG cRG
  have eF : (F == F) = true := by simp
  have eL : (L == L) = true := by simp
  have eG : (G == G) = true := by simp
  clear h0 hs hg hF hL hG hmc
  go_enter Tryz.func4, Tryz.ntmps4
  go_wp2_with (first
    | (go_at_call 18; refine cO.mono ?_; rintro e w1 ⟨a1, k1, rfl, hr1, _, hb1⟩; have HR1 : Hid (LRow w1 a1 l) := hr1; have HB1 : Hid (Below w.heap.size w w1) := hb1; clear hr1 hb1)
    | (go_at_call 19; refine (cF _ _ _ HR1.out).mono ?_; rintro e w2 ⟨rfl, hb2⟩; have HR2 : Hid (LRow w2 a1 l) := HR1.out.later hb2; have HB2 : Hid (Below w.heap.size w w2) := Below.after HB1.out hb2; clear hb2)
    | (go_at_call 20; refine (cRF _ _ _ (HR.out.later HB2.out)).mono ?_; rintro e w' ⟨rfl, rfl⟩)
    | (go_at_call 21; refine (cL _ _ _ HR2.out).mono ?_; rintro e w3 ⟨rfl, hb3⟩; have HR3 : Hid (LRow w3 a1 l) := HR2.out.later hb3; have HB3 : Hid (Below w.heap.size w w3) := Below.after HB2.out hb3; clear hb3)
    | (go_at_call 22; refine (cRL _ _ _ (HR.out.later HB3.out)).mono ?_; rintro e w4 ⟨rfl, hb4⟩; have HR4 : Hid (LRow w4 a1 l) := HR3.out.later hb4; have HB4 : Hid (Below w.heap.size w w4) := Below.after HB3.out hb4; clear hb4)
    | (go_at_call 23; refine (cG _ _ _ HR4.out).mono ?_; rintro e w5 ⟨rfl, hb5⟩; have HB5 : Hid (Below w.heap.size w w5) := Below.after HB4.out hb5; clear hb5)
    | (go_at_call 24; refine (cRG _ _ _ (HR.out.later HB5.out)).mono ?_; rintro e w' ⟨rfl, rfl⟩)
    | (go_at_call 11; refine (alive_any _ (HG.out.later HB5.out)).mono ?_; rintro e w6 ⟨rfl, hb6⟩; have HB6 : Hid (Below w.heap.size w w6) := Below.after HB5.out hb6; clear hb6))
  go_ret
  exact ⟨rfl, HB6.out⟩

set_option maxRecDepth 100000 in
theorem contract (H : Type) (enc : TypeId × Value → H) (W : World) (base : Nat) (args : Array Value) (ds gs : List (DataW H)) (before : List MemPlace)
    (hval : ∀ (j : Nat) t v, Tryz.f4.params[j]? = some t → args[j]? = some v → Value.okWide Tryz.prog W .any base t v)
    (hW : DataW.Whole enc Tryz.prog Tryz.f4.params.toList Rows.scanLooksSpec.vars false W args.toList ds gs before) (hL : laidMetH Tryz.prog laid W)
    (hsz : (DataW.weightsEach Tryz.prog (Tryz.f4.params.toList ++ Rows.scanLooksSpec.plain.varTypes Tryz.prog) (ds ++ gs)).all (· ≤ reachBytes) = true)
    : Calls Tryz.prog 4 args W fun e W' => ∃ v, e = .returned v ∧ Rows.scanLooksSpec.post enc Tryz.prog Tryz.f4 false true false false W args v W' := by
  have hW' := hW
  obtain ⟨p, q, hA0, hV, rfl, hfz, hnd⟩ := hW
  have hA : DataW.TrodAll enc Tryz.prog W 0 (fun _ => true) true Tryz.f4.params.toList args.toList ds p := hA0
  rw [Tryz.params4] at hA hval hsz
  obtain ⟨v0, vs0, d0, ds0, p0, q0, hargs, rfl, rfl, h0, r0⟩ := trodAll_cons hA
  obtain ⟨v1, vs1, d1, ds1, p1, q1, rfl, rfl, rfl, h1, r1⟩ := trodAll_cons r0
  obtain ⟨rfl, rfl, rfl⟩ := trodAll_nil r1
  obtain rfl : args = #[v0, v1] := by cases args; simp_all
  obtain ⟨rfl, rfl⟩ := trodVars_none hV
  obtain ⟨a0, len0, cap0, rfl⟩ := okWide_slice Tryz.underlying43 (hval 0 43 v0 rfl rfl)
  have k0 := h0
  have lt0 : ∀ x ∈ p0, x.block < W.heap.size := by obtain ⟨m, hm⟩ := k0; exact DataW.trod_lt m _ _ _ hm
  obtain ⟨l0, w0, s0⟩ : ∃ l, LArg W a0 len0 cap0 l ∧ cap0 * 48 ≤ 140737488351232 := by
    obtain ⟨fuel, hf⟩ := h0
    obtain ⟨l, hl, hd⟩ := larg_open hf
    refine ⟨l, hl, ?_⟩
    rcases hd with h | ⟨es, sp, hd, hc⟩
    · omega
    simp only at hd
    subst hd
    have := sized_slice hsz (j := 0) (t := 43) (e := 102) rfl rfl Tryz.underlying43
    rw [bytesRB, hc] at this
    simp only [reachBytes] at this
    omega
  obtain ⟨a1, rfl, rfl, rfl, w1⟩ := open_int Tryz.underlying3 (hval 1 3 v1 rfl rfl) h1
  clear hA0
  refine (walk a0 len0 cap0 l0 a1 W (glb_of hL) w0 s0 (bounds_i64 w1)).mono fun e W' ⟨he, bel⟩ => ?_
  subst he
  exact ⟨_, rfl, _, _, _, [], _, [], hW', trodAll_mk1 (shut_bool Tryz.underlying4 _), (trodAll_cons_mk (Below.trod Hd.laidOut (by kernel_rfl) (of_decide_eq_true (by kernel_rfl)) k0 bel lt0) (trodAll_cons_mk (shut_int Tryz.underlying3 w1) trodAll_mk0)), rfl, bel.frame _, fun h => by cases h⟩

theorem reads (os : Os) {H : Type} (enc : TypeId × Value → H) : ∃ places, DataW.whole enc Tryz.prog ((laidWorld os).forCall (fun _ _ => 0) ⟨#[], #[.slice none 0 0, .int .i64 0], []⟩).memory Tryz.f4.params.toList Rows.scanLooksSpec.vars false (#[.slice none 0 0, .int .i64 0] : Array Value).toList 8 = some ([.nil, .lit (.int .i64 0)], [], places) :=
  ⟨[], by kernel_rfl⟩
set_option maxRecDepth 100000 in
theorem lifted (os : Os) (started : os.Started) (H : Type) (enc : TypeId × Value → H) (F : Stop.Interp) :
    ReturnsInHanded {} Tryz.checked os 4 .any ((OpenSpec.ofChange Rows.scanLooksSpec).preRow enc Tryz.prog Tryz.f4 Rows.scanLooksRow.domain false Rows.scanLooksRow.laid) (((OpenSpec.ofChange Rows.scanLooksSpec).at F).post enc Tryz.prog Tryz.f4 false true false false) := by
  obtain ⟨places, hx⟩ := reads os enc
  refine returnsInHanded_of_row (C := Tryz.checked) (s := OpenSpec.ofChange Rows.scanLooksSpec) Hd.own started (by kernel_rfl) Tryz.func4
    (witness_row_at (enc := enc) (C := Tryz.checked) false (laidWorld os) #[.slice none 0 0, .int .i64 0] (laid_os os) (by kernel_rfl) (by kernel_rfl) (by kernel_rfl)
      (OpenSpec.preRow_of_cond 8 hx (by kernel_rfl) (fun k hk => by cases hk) (by kernel_rfl) (laid_met os _))) ?_
  intro W base args ds gs before hval hW _ _ hsz hL _ _
  exact contract H enc W base args ds gs before hval hW hL hsz
theorem said : Rows.ScanLooksSaid :=
  OpenClaim.holds_of_cond 4 Tryz.f4 rfl rfl rfl rfl rfl rfl rfl ⟨rfl, rfl, rfl, rfl, rfl⟩ rfl rfl rfl rfl rfl (by kernel_rfl) Tryz.func4 (by kernel_rfl)
    (of_decide_eq_true (by kernel_rfl)) (by unfold Func.isWrapper; first | (rw [if_pos (by decide +kernel)]; kernel_rfl) | (rw [if_neg (by decide +kernel)]; exact ⟨rfl, rfl⟩))
    (fun os started H enc _ F => by rw [OpenClaim.pre_eq_preRow]; exact lifted os started H enc F)
set_option maxRecDepth 100000 in
theorem plain (f : FuncId) (fn : Func) (hf : Tryz.pinned.checked.prog.funcNamed "pumice/pumicelaw07.ScanLooks" = some f) (hfn : Tryz.pinned.checked.prog.funcs[f]? = some fn) :
    false = Tryz.pinned.checked.prog.looks [] ∧ ∀ (j : Nat) t, fn.params[j]? = some t → Tryz.pinned.checked.prog.wantsStandIn t = false := by
  obtain rfl : f = 4 := Option.some.inj ((show Tryz.prog.funcNamed "pumice/pumicelaw07.ScanLooks" = some 4 by kernel_rfl).symm.trans hf) |>.symm
  obtain rfl : fn = Tryz.f4 := (Option.some.inj (Tryz.func4.symm.trans hfn)).symm
  refine ⟨by kernel_rfl, fun j t ht => ?_⟩
  rw [Tryz.params4] at ht
  have hm : t = 43 ∨ t = 3 := by simpa using Array.mem_of_getElem? ht
  rcases hm with rfl | rfl
  · exact (show Tryz.prog.wantsStandIn 43 = false by kernel_rfl)
  · exact (show Tryz.prog.wantsStandIn 3 = false by kernel_rfl)
theorem card : Rows.ScanLooksCardSaid :=
  Claim7.holds_tied_plain_at .later [] _ _ _ _ said (fun _ h => by cases h) (by kernel_rfl) (fun _ h => by cases h) scanLooks_row_tie rfl ⟨rfl, rfl⟩ (by kernel_rfl) rfl plain (by kernel_rfl)
end Go.Proofs.YteoakhfofnocfaaGreatDoor.scanLooks

namespace Go.Proofs.YteoakhfofnocfaaGreatDoor
theorem scanLooks_holds : Rows.ScanLooksCardSaid := scanLooks.card
#print axioms scanLooks_holds
end Go.Proofs.YteoakhfofnocfaaGreatDoor
