/-
  For all texts of bulk at most 1048576: PropsParses answers true (any text is the book that the document reads, or none), and leaves its argument as it was; given that the five variables of the library that it reaches hold what their initialisers lay (the card ties them).
-/
import Derived.Test.YtmaekpfkkpkgpaaGreatDoorYE
import Derived.Test.YtmaekpfkkpkgpaaGreatDoorYD
import Derived.Test.YtmaekpfkkpkgpaaGreatDoorBCard
namespace Go.Proofs.YtmaekpfkkpkgpaaGreatDoor.propsParses
open Go.ChangeShapes Go.WideShapes Go.ChangeAt Go.RowKit
set_option maxRecDepth 10000

set_option maxHeartbeats 4000000 in
theorem walk_no (s : List UInt8) (hs : s.length ≤ 1048576) (hp : parseF s = none) (w : World) (hg : Gl w) :
    Calls Tryz.prog 4 #[.string (bs s)] w fun e w' => e = .returned (.bool true) ∧ Below w.heap.size w w' := by
  have kP := hidW (parse_any s (by omega) w hg.er hg.pw)
  have kD := hidW (fun W => dparse_any s hs W)
  rw [hp] at kP
  rw [dparse_none hp] at kD
  have HG := hidW hg
  clear hp hg
  go_enter Tryz.func4, Tryz.ntmps4
  go_wp2_with (first
    | (go_at_call 10; refine kP.out.mono ?_; rintro e u1 ⟨hb1, rfl⟩; have HB1 := hidW hb1; clear hb1)
    | (go_at_call 11; refine (kD.out _).mono ?_; rintro e u2 ⟨hb2, rfl⟩; have HB2 := hidW (Below.after HB1.out hb2); clear hb2)
    | (go_at_call 7; refine (alive_any _ (HG.out.later HB2.out)).mono ?_; rintro e u3 ⟨rfl, hb3⟩; have HB3 := hidW (Below.after HB2.out hb3); clear hb3))
  go_ret
  exact ⟨rfl, HB3.out⟩
set_option maxHeartbeats 4000000 in
theorem walk_go (s : List UInt8) (hs : s.length ≤ 1048576) (size : Int) (l : List PB) (hp : parseF s = some (size, l)) (w : World) (hg : Gl w) :
    Calls Tryz.prog 4 #[.string (bs s)] w fun e w' => e = .returned (.bool true) ∧ Below w.heap.size w w' := by
  have kP := hidW (parse_any s (by omega) w hg.er hg.pw)
  rw [hp] at kP
  have kD := hidW (fun (ho : BkOk size l) W => show Calls Tryz.prog 11 #[.string (bs s)] W (DPar W (some (size, l))) from by have := dparse_any s hs W; rw [dparse_same hp ho] at this; exact this)
  have HG := hidW hg
  have HT := hidW (parse_some hp)
  have hstr := str_same (bs s)
  clear hp hg
  go_enter Tryz.func4, Tryz.ntmps4
  go_wp2_with (first
    | (go_at_call 10; refine kP.out.mono ?_; rintro e u1 ⟨hb1, p, q, cap, rfl, hl1, hp1, hq1, ho1⟩; have HB1 := hidW hb1; have HL1 := hidW hl1; have HO := hidW ho1; clear hb1 hl1 hp1 hq1 ho1)
    | (go_at_call 11; refine (kD.out HO.out _).mono ?_; rintro e u2 ⟨hb2, P, Q, C, rfl, hd2, hp2, hq2, ho2⟩; have HB := hidW (show Bo p q cap P Q C size l w u2 from ⟨HL1.out.later hb2, hd2, HG.out.later (Below.after HB1.out hb2), Below.after HB1.out hb2⟩); clear hb2 hd2 hp2 hq2 ho2)
    | (go_at_call 9; refine (looks_any (⟨HB.out.b, HB.out.d, HB.out.g, Below.refl _ _⟩ : Bo p q cap P Q C size l u2 u2) HO.out 0 2).mono ?_; rintro e u3 ⟨rfl, hb3⟩; have HB3 := hidW (HB.out.later hb3); clear hb3)
    | (go_at_call 12; refine (text_any (w := u3) ⟨HB3.out.b, HB3.out.g.pw⟩ HO.out.ok (by have := HO.out.s1; omega) HO.out.s2 HO.out.n2).mono ?_; rintro e u4 ⟨rfl, hb4⟩; have HB4 := hidW (HB3.out.later hb4); clear hb4; rw [HT.out])
    | (go_at_call 7; refine (alive_any _ HB4.out.g).mono ?_; rintro e u5 ⟨rfl, hb5⟩; have HB5 := hidW (HB4.out.later hb5); clear hb5))
  go_ret
  exact ⟨rfl, HB5.out.bel⟩
theorem walk (a : ByteArray) (w : World) (hg : Gl w) (hs : a.size ≤ 1048576) : Calls Tryz.prog 4 #[.string a] w fun e w' => e = .returned (.bool true) ∧ Below w.heap.size w w' := by
  obtain ⟨s, rfl⟩ : ∃ s, a = bs s := ⟨a.data.toList, (bs_of a).symm⟩
  rw [bs_size] at hs
  cases hp : parseF s with
  | none => exact walk_no s hs hp w hg
  | some r =>
    obtain ⟨size, l⟩ := r
    exact walk_go s hs size l hp w hg
set_option maxHeartbeats 2000000 in
set_option maxRecDepth 100000 in
theorem contract (H : Type) (enc : TypeId × Value → H) (W : World) (base : Nat) (args : Array Value) (ds gs : List (DataW H)) (before : List MemPlace)
    (hval : ∀ (j : Nat) t v, Tryz.f4.params[j]? = some t → args[j]? = some v → Value.okWide Tryz.prog W .any base t v)
    (hW : DataW.Whole enc Tryz.prog Tryz.f4.params.toList Rows.propsParsesSpec.vars false W args.toList ds gs before) (hL : laidMetH Tryz.prog laid W)
    (hk : Rows.uptoSmall H (ds ++ gs) = true)
    : Calls Tryz.prog 4 args W fun e W' => ∃ v, e = .returned v ∧ Rows.propsParsesSpec.post enc Tryz.prog Tryz.f4 false true false false W args v W' := by
  have hW' := hW
  obtain ⟨p, q, hA0, hV, rfl, hfz, hnd⟩ := hW
  have hA : DataW.TrodAll enc Tryz.prog W 0 (fun _ => true) true Tryz.f4.params.toList args.toList ds p := hA0
  rw [Tryz.params4] at hA hval
  obtain ⟨v0, vs0, d0, ds0, p0, q0, hargs, rfl, rfl, h0, r0⟩ := trodAll_cons hA
  obtain ⟨rfl, rfl, rfl⟩ := trodAll_nil r0
  obtain rfl : args = #[v0] := by cases args; simp_all
  obtain ⟨rfl, rfl⟩ := trodVars_none hV
  simp only [List.append_nil] at hk
  have hbk : Rows.uptoBulkAll ([d0] : List (DataW H)) ≤ 1048576 := of_decide_eq_true hk
  simp only [Rows.uptoBulkAll] at hbk
  obtain ⟨a0, rfl, rfl, rfl, w0⟩ := Go.ChangeMaps.open_string Tryz.underlying9 (hval 0 9 v0 rfl rfl) h0
  have s0 : a0.size ≤ 1048576 := by
    simp only [Rows.uptoBulk, Array.length_toList] at hbk
    have : a0.data.size = a0.size := rfl
    omega
  clear hA0
  refine (walk a0 W (gl_of hL) s0).mono fun e W' ⟨he, bel⟩ => ?_
  subst he
  exact ⟨_, rfl, _, _, _, [], _, [], hW', trodAll_mk1 (shut_bool Tryz.underlying4 _), (trodAll_cons_mk (Go.ChangeMaps.shut_string Tryz.underlying9 w0) trodAll_mk0), rfl, bel.frame _, fun h => by cases h⟩

theorem reads (os : Os) {H : Type} (enc : TypeId × Value → H) : ∃ places, DataW.whole enc Tryz.prog ((laidWorld os).forCall (fun _ _ => 0) ⟨#[], #[.string ⟨#[]⟩], []⟩).memory Tryz.f4.params.toList Rows.propsParsesSpec.vars false (#[.string ⟨#[]⟩] : Array Value).toList 8 = some ([.lit (.string [])], [], places) :=
  ⟨[], by kernel_rfl⟩
set_option maxRecDepth 100000 in
theorem lifted (os : Os) (started : os.Started) (H : Type) (enc : TypeId × Value → H) (F : Stop.Interp) :
    ReturnsInHanded {} Tryz.checked os 4 .any ((Rows.OpenSpec.upto Rows.propsParsesSpec).preRow enc Tryz.prog Tryz.f4 Rows.propsParsesUptoRow.domain false Rows.propsParsesUptoRow.laid) (((Rows.OpenSpec.upto Rows.propsParsesSpec).at F).post enc Tryz.prog Tryz.f4 false true false false) := by
  obtain ⟨places, hx⟩ := reads os enc
  refine returnsInHanded_of_row (C := Tryz.checked) (s := Rows.OpenSpec.upto Rows.propsParsesSpec) own started (by kernel_rfl) Tryz.func4
    (witness_row_at (enc := enc) (C := Tryz.checked) false (laidWorld os) #[.string ⟨#[]⟩] (laid_os os) (by kernel_rfl) (by kernel_rfl) (by kernel_rfl)
      (OpenSpec.preRow_of_cond 8 hx (by kernel_rfl) (fun k hk => by cases hk; kernel_rfl) (by kernel_rfl) (laid_met os _))) ?_
  intro W base args ds gs before hval hW _ hk hsz hL _ _
  exact contract H enc W base args ds gs before hval hW hL (hk _ rfl)
theorem said : Rows.PropsParsesUptoSaid :=
  OpenClaim.holds_of_cond 4 Tryz.f4 rfl rfl rfl rfl rfl rfl rfl ⟨rfl, rfl, rfl, rfl, rfl⟩ rfl rfl rfl rfl rfl (by kernel_rfl) Tryz.func4 (by kernel_rfl)
    (of_decide_eq_true (by kernel_rfl)) (by unfold Func.isWrapper; first | (rw [if_pos (by decide +kernel)]; kernel_rfl) | (rw [if_neg (by decide +kernel)]; exact ⟨rfl, rfl⟩))
    (fun os started H enc _ F => by rw [OpenClaim.pre_eq_preRow]; exact lifted os started H enc F)
set_option maxRecDepth 100000 in
theorem plain (f : FuncId) (fn : Func) (hf : Tryz.pinned.checked.prog.funcNamed "pumice/pumicelaw14.PropsParses" = some f) (hfn : Tryz.pinned.checked.prog.funcs[f]? = some fn) :
    true = Tryz.pinned.checked.prog.looks [] ∧ ∀ (j : Nat) t, fn.params[j]? = some t → Tryz.pinned.checked.prog.wantsStandIn t = false := by
  obtain rfl : f = 4 := Option.some.inj ((show Tryz.prog.funcNamed "pumice/pumicelaw14.PropsParses" = some 4 by kernel_rfl).symm.trans hf) |>.symm
  obtain rfl : fn = Tryz.f4 := (Option.some.inj (Tryz.func4.symm.trans hfn)).symm
  refine ⟨by kernel_rfl, fun j t ht => ?_⟩
  rw [Tryz.params4] at ht
  have hm : t ∈ [9] := by simpa using Array.mem_of_getElem? ht
  have hall : ∀ u ∈ [9], Tryz.prog.wantsStandIn u = false := by
    intro u hu
    simp only [List.mem_cons, List.not_mem_nil, or_false] at hu
    rcases hu with rfl
    · exact (show Tryz.prog.wantsStandIn 9 = false by kernel_rfl)
  exact hall t hm
theorem card : Rows.PropsParsesUptoCardSaid :=
  Claim7.holds_tied_plain_at .later [] _ _ _ _ said (fun _ h => by cases h) (by kernel_rfl) (fun _ h => by cases h) propsParsesUpto_row_tie rfl ⟨rfl, rfl⟩ (by kernel_rfl) rfl plain (by kernel_rfl)
end Go.Proofs.YtmaekpfkkpkgpaaGreatDoor.propsParses

namespace Go.Proofs.YtmaekpfkkpkgpaaGreatDoor
theorem propsParsesUpto_holds : Rows.PropsParsesUptoCardSaid := propsParses.card
#print axioms propsParsesUpto_holds
end Go.Proofs.YtmaekpfkkpkgpaaGreatDoor
