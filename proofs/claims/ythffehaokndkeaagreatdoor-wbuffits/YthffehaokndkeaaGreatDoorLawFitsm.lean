/-
  For all lists of sizes and numbers: WbufFits answers true (whether frames would fit, by their sizes alone; what a nil log and a logical block that is none say), and leaves its arguments as they were; given that the two variables that it reaches hold what their initialisers lay (the card ties them). No other condition.
-/
import Derived.Test.YthffehaokndkeaaGreatDoorQN
import Derived.Test.YthffehaokndkeaaGreatDoorQM
import Derived.Test.YthffehaokndkeaaGreatDoorKQ
namespace Go.Proofs.YthffehaokndkeaaGreatDoor.wbufFits
open Go.ChangeShapes Go.WideShapes Go.ChangeAt Go.RowKit
set_option maxRecDepth 10000

theorem irow_open {H : Type} {enc : TypeId × Value → H} {w : World} {a : Option Addr} {len cap fuel : Nat} {x : DataW H × List MemPlace}
    (hf : DataW.trod enc Tryz.prog w 0 (fun _ => true) true fuel 54 (Value.slice a len cap).cells.toList = some x) : ∃ l : List Int, len = l.length ∧ l.length ≤ maxLen ∧ NumsAt w a l := by
  rcases open_ints Tryz.underlying54 Tryz.underlying3 (by kernel_rfl) hf with ⟨hcs, _⟩ | ⟨x, l, c, zs, hcs, _, hl, hm, hz, hx, hcell, hwz⟩
  · simp [Value.cells] at hcs
    obtain ⟨rfl, rfl, rfl⟩ := hcs
    exact ⟨[], rfl, by decide, .inl rfl⟩
  · simp [Value.cells] at hcs
    obtain ⟨rfl, rfl, rfl⟩ := hcs
    have hz' : zs.length = cap := by simpa using hz
    refine ⟨zs.take len, by simp; omega, by simp; omega, ?_⟩
    by_cases h0 : len = 0
    · exact .inl (by simp [h0])
    · obtain ⟨b, off, spot⟩ := x
      have hspot : spot = none := by simpa [Addr.add] using World.cell?_spot (hcell 0 (by omega))
      subst hspot
      refine .inr ⟨b, off, rfl, fun i y hi => ?_⟩
      have hil : i < len := by have := (List.getElem?_eq_some_iff.1 hi).1; simp at this; omega
      have h1 := hcell i (by omega)
      have e : (⟨b, off, none⟩ : Addr).add i = ⟨b, off + i, none⟩ := by unfold Addr.add; split <;> simp_all
      rw [e] at h1
      rw [h1]
      rw [List.getElem?_take_of_lt hil] at hi
      simp [List.getD, hi]
/-- Both say alike. -/
theorem fits_both (a : Option Addr) (n cap : Nat) (l : List Int) (q page pages : Int) (w : World) (hn : n = l.length) (hl : l.length ≤ maxLen) (hr : NumsAt w a l) (b1 : -9223372036854775808 ≤ page ∧ page ≤ 9223372036854775807) :
    ∃ v : Bool, ∀ W, Below w.heap.size w W → Calls Tryz.prog 29 #[.slice a n cap, .int .i64 q, .int .i64 page, .int .i64 pages] W (fun e w' => e = .returned (.bool v) ∧ W = w') ∧ Calls Tryz.prog 30 #[.slice a n cap, .int .i64 q, .int .i64 page, .int .i64 pages] W (fun e w' => e = .returned (.bool v) ∧ W = w') := by
  subst hn
  by_cases h : okFit q page pages
  · have h' := h
    obtain ⟨h1, h2, h3, h4, h5⟩ := h'
    obtain ⟨q, rfl⟩ : ∃ k : Nat, q = k := ⟨q.toNat, by omega⟩
    obtain ⟨page, rfl⟩ : ∃ k : Nat, page = k := ⟨page.toNat, by omega⟩
    obtain ⟨pages, rfl⟩ : ∃ k : Nat, pages = k := ⟨pages.toNat, by omega⟩
    rw [show (page : Int) * (pages : Int) = ((page * pages : Nat) : Int) by simp] at h3 h5
    exact ⟨fitL page (page * pages) (bgn page q) l, fun W hb => ⟨fits_yes a cap l q page pages (page * pages) W hl (hr.later hb) (by omega) (by omega) rfl (by omega) (by omega), rfits_yes a cap l q page pages (page * pages) W hl (hr.later hb) (by omega) (by omega) rfl (by omega) (by omega)⟩⟩
  · exact ⟨false, fun W hb => ⟨fits_no a _ cap q page pages W b1 h, rfits_no a _ cap q page pages W h⟩⟩
theorem lebs14 (w : World) : Calls Tryz.prog 28 #[.agg #[.int .i64 16, .int .i64 32, .int .i64 64, .int .i64 0]] w fun e w' => e = .returned (.int .i64 14) ∧ Below w.heap.size w w' := by
  have := rlebs_any 16 32 64 0 w
  rw [show lebsI 16 32 64 0 = 14 by kernel_rfl] at this
  exact this

set_option maxHeartbeats 8000000 in
theorem walk (a : Option Addr) (n cap : Nat) (S : List Int) (q page pages : Int) (w : World) (hg : Hd.Glb w) (ht : Typed w) (hn : n = S.length ∧ S.length ≤ maxLen ∧ NumsAt w a S) (b0 : -9223372036854775808 ≤ q ∧ q ≤ 9223372036854775807) (b1 : -9223372036854775808 ≤ page ∧ page ≤ 9223372036854775807) :
    Calls Tryz.prog 6 #[.slice a n cap, .int .i64 q, .int .i64 page, .int .i64 pages] w fun e w' => e = .returned (.bool true) ∧ Below w.heap.size w w' := by
  have h1 : 0 < w.heap.size ∧ 1 < w.heap.size := by
    obtain ⟨v, hv⟩ := hg
    exact ⟨World.block_lt_of_cell? w _ hv, World.block_lt_of_cell? w _ ht⟩
  obtain ⟨v, hv⟩ := fits_both a n cap S q page pages w hn.1 hn.2.1 hn.2.2 b1
  have HF : Hid (∀ X, Below w.heap.size w X → Calls Tryz.prog 8 #[.agg #[.int .i64 16, .int .i64 32, .int .i64 64, .int .i64 0]] X fun e w' => ∃ p, e = .returned (.pointer (some ⟨p, 0, none⟩)) ∧ Below w.heap.size w w' ∧ Calls Tryz.prog 13 #[.pointer (some ⟨p, 0, none⟩), .int .i64 q] w' fun e w2 => ∃ u, e = .returned (.tuple #[u, .int .i64 (if q < 0 ∨ 14 ≤ q then 22 else 0)]) ∧ Below w.heap.size w w2) := fun X hb => by
    refine (fresh_yes 16 32 64 0 X (by kernel_rfl) (hg.later hb) (ht.later hb) (by have := hb.size; omega) (by have := hb.size; omega)).mono ?_
    rintro e w' ⟨m, c, P, rfl, hN⟩
    refine ⟨m.p, rfl, Below.after hb hN.bl, (open_which hN.al hN.num q).mono ?_⟩
    rintro e w2 ⟨u, rfl, hk⟩
    refine ⟨u, rfl, Below.after hb ?_⟩
    have hz := hN.bl.size
    exact ⟨hk.os.trans hN.bl.os, hk.tape.trans hN.bl.tape, hk.output.trans hN.bl.output, Nat.le_trans hz hk.size, fun k hlt => (hk.block k (Nat.lt_of_lt_of_le hlt hz) (by omega)).trans (hN.bl.block k hlt)⟩
  have HA : Hid (∀ X, Below w.heap.size w X → Calls Tryz.prog 10 #[] X fun e w' => e = .returned (.bool true) ∧ Below X.heap.size X w') := fun X hb => alive_any X (hg.later hb) (ht.later hb) (by have := hb.size; omega) (by have := hb.size; omega)
  have HV := hidV hv
  have HR := hidV (Below.refl w.heap.size w)
  have hc1 : ∀ W : World, (convert 39 39 (.slice (some ⟨W.heap.size, 0, none⟩) 1 1)).run Tryz.prog (W.alloc (.cells #[.int .u8 97] 5)) = .ok (.slice (some ⟨W.heap.size, 0, none⟩) 1 1) (W.alloc (.cells #[.int .u8 97] 5 (1, 2))) := fun W => Lib.run_convert_bytes_const W 39 5 #[.int .u8 97] 1 1 Tryz.underlying39 Tryz.underlying5
  have kAp := fun W => append_nil (some ⟨w.heap.size, 0, none⟩) 1 1 W
  have kRd := fun W => read_nil q W
  have kSy := fun W => sync_nil W
  have kFr := fun W => frames_nil W
  have kRo := fun W => room_nil W
  have kEn := fun W => end_nil W
  have kBr := fun W => broken_nil W
  have kOn := fun W => open_nil W q
  have kLb := fun W => lebs14 W
  have M1 : Hid True := trivial
  clear hg ht h1 hn hv
  by_cases q0 : q < 0
  · simp only [if_pos (Or.inl q0 : q < 0 ∨ 14 ≤ q)] at HF
    go_enter Tryz.func6, Tryz.ntmps6
    go_wp2_with (first
      | (go_at_call 15; refine (kAp _).mono ?_; rintro e w1 ⟨rfl, rfl⟩)
      | (go_at_call 20; refine (kRd _).mono ?_; rintro e w1 ⟨rfl, rfl⟩)
      | (go_at_call 18; refine (kSy _).mono ?_; rintro e w1 ⟨rfl, rfl⟩)
      | (go_at_call 24; refine (kFr _).mono ?_; rintro e w1 ⟨rfl, rfl⟩)
      | (go_at_call 25; refine (kRo _).mono ?_; rintro e w1 ⟨rfl, rfl⟩)
      | (go_at_call 26; refine (kEn _).mono ?_; rintro e w1 ⟨rfl, rfl⟩)
      | (go_at_call 27; refine (kBr _).mono ?_; rintro e w2 ⟨rfl, hb2⟩; have HB2 := hidV (Below.after (Below.after HR.out (below_new _ _)) hb2); clear hb2)
      | (go_at_call 13; clear M1; refine (kOn _).mono ?_; rintro e w1 ⟨rfl, rfl⟩)
      | (go_at_call 8; refine (HF.out _ HB2.out).mono ?_; rintro e w3 ⟨p3, rfl, hb3, kO⟩; have HB3 := hidV hb3; clear hb3)
      | (go_at_call 13; refine kO.mono ?_; rintro e w4 ⟨u4, rfl, hb4⟩; have HB4 := hidV hb4; clear hb4)
      | (go_at_call 28; refine (kLb _).mono ?_; rintro e w5 ⟨rfl, hb5⟩; have HB5 := hidV (Below.after HB4.out hb5); clear hb5)
      | (go_at_call 29; refine (HV.out _ HB4.out).1.mono ?_; rintro e w' ⟨rfl, rfl⟩)
      | (go_at_call 30; refine (HV.out _ HB4.out).2.mono ?_; rintro e w' ⟨rfl, rfl⟩)
      | (go_at_call 10; refine (HA.out _ HB4.out).mono ?_; rintro e w6 ⟨rfl, hb6⟩; have HB6 := hidV (Below.after HB4.out hb6); clear hb6))
    go_ret
    exact ⟨rfl, HB6.out⟩
  · by_cases q1 : 14 ≤ q
    · simp only [if_pos (Or.inr q1 : q < 0 ∨ 14 ≤ q)] at HF
      go_enter Tryz.func6, Tryz.ntmps6
      go_wp2_with (first
        | (go_at_call 15; refine (kAp _).mono ?_; rintro e w1 ⟨rfl, rfl⟩)
        | (go_at_call 20; refine (kRd _).mono ?_; rintro e w1 ⟨rfl, rfl⟩)
        | (go_at_call 18; refine (kSy _).mono ?_; rintro e w1 ⟨rfl, rfl⟩)
        | (go_at_call 24; refine (kFr _).mono ?_; rintro e w1 ⟨rfl, rfl⟩)
        | (go_at_call 25; refine (kRo _).mono ?_; rintro e w1 ⟨rfl, rfl⟩)
        | (go_at_call 26; refine (kEn _).mono ?_; rintro e w1 ⟨rfl, rfl⟩)
        | (go_at_call 27; refine (kBr _).mono ?_; rintro e w2 ⟨rfl, hb2⟩; have HB2 := hidV (Below.after (Below.after HR.out (below_new _ _)) hb2); clear hb2)
        | (go_at_call 13; clear M1; refine (kOn _).mono ?_; rintro e w1 ⟨rfl, rfl⟩)
        | (go_at_call 8; refine (HF.out _ HB2.out).mono ?_; rintro e w3 ⟨p3, rfl, hb3, kO⟩; have HB3 := hidV hb3; clear hb3)
        | (go_at_call 13; refine kO.mono ?_; rintro e w4 ⟨u4, rfl, hb4⟩; have HB4 := hidV hb4; clear hb4)
        | (go_at_call 28; refine (kLb _).mono ?_; rintro e w5 ⟨rfl, hb5⟩; have HB5 := hidV (Below.after HB4.out hb5); clear hb5)
        | (go_at_call 29; refine (HV.out _ HB5.out).1.mono ?_; rintro e w' ⟨rfl, rfl⟩)
        | (go_at_call 30; refine (HV.out _ HB5.out).2.mono ?_; rintro e w' ⟨rfl, rfl⟩)
        | (go_at_call 10; refine (HA.out _ HB5.out).mono ?_; rintro e w6 ⟨rfl, hb6⟩; have HB6 := hidV (Below.after HB5.out hb6); clear hb6))
      go_ret
      exact ⟨rfl, HB6.out⟩
    · simp only [if_neg (show ¬ (q < 0 ∨ 14 ≤ q) by omega)] at HF
      go_enter Tryz.func6, Tryz.ntmps6
      go_wp2_with (first
        | (go_at_call 15; refine (kAp _).mono ?_; rintro e w1 ⟨rfl, rfl⟩)
        | (go_at_call 20; refine (kRd _).mono ?_; rintro e w1 ⟨rfl, rfl⟩)
        | (go_at_call 18; refine (kSy _).mono ?_; rintro e w1 ⟨rfl, rfl⟩)
        | (go_at_call 24; refine (kFr _).mono ?_; rintro e w1 ⟨rfl, rfl⟩)
        | (go_at_call 25; refine (kRo _).mono ?_; rintro e w1 ⟨rfl, rfl⟩)
        | (go_at_call 26; refine (kEn _).mono ?_; rintro e w1 ⟨rfl, rfl⟩)
        | (go_at_call 27; refine (kBr _).mono ?_; rintro e w2 ⟨rfl, hb2⟩; have HB2 := hidV (Below.after (Below.after HR.out (below_new _ _)) hb2); clear hb2)
        | (go_at_call 13; clear M1; refine (kOn _).mono ?_; rintro e w1 ⟨rfl, rfl⟩)
        | (go_at_call 8; refine (HF.out _ HB2.out).mono ?_; rintro e w3 ⟨p3, rfl, hb3, kO⟩; have HB3 := hidV hb3; clear hb3)
        | (go_at_call 13; refine kO.mono ?_; rintro e w4 ⟨u4, rfl, hb4⟩; have HB4 := hidV hb4; clear hb4)
        | (go_at_call 28; refine (kLb _).mono ?_; rintro e w5 ⟨rfl, hb5⟩; have HB5 := hidV (Below.after HB4.out hb5); clear hb5)
        | (go_at_call 29; refine (HV.out _ HB5.out).1.mono ?_; rintro e w' ⟨rfl, rfl⟩)
        | (go_at_call 30; refine (HV.out _ HB5.out).2.mono ?_; rintro e w' ⟨rfl, rfl⟩)
        | (go_at_call 10; refine (HA.out _ HB5.out).mono ?_; rintro e w6 ⟨rfl, hb6⟩; have HB6 := hidV (Below.after HB5.out hb6); clear hb6))
      go_ret
      exact ⟨ret_bool (by simp [q0, q1]), HB6.out⟩

set_option maxRecDepth 100000 in
theorem contract (H : Type) (enc : TypeId × Value → H) (W : World) (base : Nat) (args : Array Value) (ds gs : List (DataW H)) (before : List MemPlace)
    (hval : ∀ (j : Nat) t v, Tryz.f6.params[j]? = some t → args[j]? = some v → Value.okWide Tryz.prog W .any base t v)
    (hW : DataW.Whole enc Tryz.prog Tryz.f6.params.toList Rows.wbufFitsSpec.vars false W args.toList ds gs before) (hL : laidMetH Tryz.prog laid W)
    : Calls Tryz.prog 6 args W fun e W' => ∃ v, e = .returned v ∧ Rows.wbufFitsSpec.post enc Tryz.prog Tryz.f6 false true false false W args v W' := by
  have hW' := hW
  obtain ⟨p, q, hA0, hV, rfl, hfz, hnd⟩ := hW
  have hA : DataW.TrodAll enc Tryz.prog W 0 (fun _ => true) true Tryz.f6.params.toList args.toList ds p := hA0
  rw [Tryz.params6] at hA hval
  obtain ⟨v0, vs0, d0, ds0, p0, q0, hargs, rfl, rfl, h0, r0⟩ := trodAll_cons hA
  obtain ⟨v1, vs1, d1, ds1, p1, q1, rfl, rfl, rfl, h1, r1⟩ := trodAll_cons r0
  obtain ⟨v2, vs2, d2, ds2, p2, q2, rfl, rfl, rfl, h2, r2⟩ := trodAll_cons r1
  obtain ⟨v3, vs3, d3, ds3, p3, q3, rfl, rfl, rfl, h3, r3⟩ := trodAll_cons r2
  obtain ⟨rfl, rfl, rfl⟩ := trodAll_nil r3
  obtain rfl : args = #[v0, v1, v2, v3] := by cases args; simp_all
  obtain ⟨rfl, rfl⟩ := trodVars_none hV
  obtain ⟨a0, len0, cap0, rfl⟩ := okWide_slice Tryz.underlying54 (hval 0 54 v0 rfl rfl)
  have k0 := h0
  have lt0 : ∀ x ∈ p0, x.block < W.heap.size := by obtain ⟨m, hm⟩ := k0; exact DataW.trod_lt m _ _ _ hm
  obtain ⟨l0, w0⟩ : ∃ l : List Int, len0 = l.length ∧ l.length ≤ maxLen ∧ NumsAt W a0 l := by
    obtain ⟨fuel, hf⟩ := h0
    exact irow_open hf
  obtain ⟨a1, rfl, rfl, rfl, w1⟩ := open_int Tryz.underlying3 (hval 1 3 v1 rfl rfl) h1
  obtain ⟨a2, rfl, rfl, rfl, w2⟩ := open_int Tryz.underlying3 (hval 2 3 v2 rfl rfl) h2
  obtain ⟨a3, rfl, rfl, rfl, w3⟩ := open_int Tryz.underlying3 (hval 3 3 v3 rfl rfl) h3
  clear hA0
  refine (walk a0 len0 cap0 l0 a1 a2 a3 W (glb_of hL) (typed_of hL) w0 (bounds_i64 w1) (bounds_i64 w2)).mono fun e W' ⟨he, bel⟩ => ?_
  subst he
  exact ⟨_, rfl, _, _, _, [], _, [], hW', trodAll_mk1 (shut_bool Tryz.underlying4 _), (trodAll_cons_mk (Below.trod laidOut (by kernel_rfl) (of_decide_eq_true (by kernel_rfl)) k0 bel lt0) (trodAll_cons_mk (shut_int Tryz.underlying3 w1) (trodAll_cons_mk (shut_int Tryz.underlying3 w2) (trodAll_cons_mk (shut_int Tryz.underlying3 w3) trodAll_mk0)))), rfl, bel.frame _, fun h => by cases h⟩

theorem reads (os : Os) {H : Type} (enc : TypeId × Value → H) : ∃ places, DataW.whole enc Tryz.prog ((laidWorld os).forCall (fun _ _ => 0) ⟨#[], #[.slice none 0 0, .int .i64 0, .int .i64 0, .int .i64 0], []⟩).memory Tryz.f6.params.toList Rows.wbufFitsSpec.vars false (#[.slice none 0 0, .int .i64 0, .int .i64 0, .int .i64 0] : Array Value).toList 8 = some ([.nil, .lit (.int .i64 0), .lit (.int .i64 0), .lit (.int .i64 0)], [], places) :=
  ⟨[], by kernel_rfl⟩
set_option maxRecDepth 100000 in
theorem lifted (os : Os) (started : os.Started) (H : Type) (enc : TypeId × Value → H) (F : Stop.Interp) :
    ReturnsInHanded {} Tryz.checked os 6 .any ((OpenSpec.ofChange Rows.wbufFitsSpec).preRow enc Tryz.prog Tryz.f6 Rows.wbufFitsRow.domain false Rows.wbufFitsRow.laid) (((OpenSpec.ofChange Rows.wbufFitsSpec).at F).post enc Tryz.prog Tryz.f6 false true false false) := by
  obtain ⟨places, hx⟩ := reads os enc
  refine returnsInHanded_of_row (C := Tryz.checked) (s := OpenSpec.ofChange Rows.wbufFitsSpec) own started (by kernel_rfl) Tryz.func6
    (witness_row_at (enc := enc) (C := Tryz.checked) false (laidWorld os) #[.slice none 0 0, .int .i64 0, .int .i64 0, .int .i64 0] (laid_os os) (by kernel_rfl) (by kernel_rfl) (by kernel_rfl)
      (OpenSpec.preRow_of_cond 8 hx (by kernel_rfl) (fun k hk => by cases hk) (by kernel_rfl) (laid_met os _))) ?_
  intro W base args ds gs before hval hW _ _ hsz hL _ _
  exact contract H enc W base args ds gs before hval hW hL
theorem said : Rows.WbufFitsSaid :=
  OpenClaim.holds_of_cond 6 Tryz.f6 rfl rfl rfl rfl rfl rfl rfl ⟨rfl, rfl, rfl, rfl, rfl⟩ rfl rfl rfl rfl rfl (by kernel_rfl) Tryz.func6 (by kernel_rfl)
    (of_decide_eq_true (by kernel_rfl)) (by unfold Func.isWrapper; first | (rw [if_pos (by decide +kernel)]; kernel_rfl) | (rw [if_neg (by decide +kernel)]; exact ⟨rfl, rfl⟩))
    (fun os started H enc _ F => by rw [OpenClaim.pre_eq_preRow]; exact lifted os started H enc F)
set_option maxRecDepth 100000 in
theorem plain (f : FuncId) (fn : Func) (hf : Tryz.pinned.checked.prog.funcNamed "pumice/pumicelaw11.WbufFits" = some f) (hfn : Tryz.pinned.checked.prog.funcs[f]? = some fn) :
    true = Tryz.pinned.checked.prog.looks [] ∧ ∀ (j : Nat) t, fn.params[j]? = some t → Tryz.pinned.checked.prog.wantsStandIn t = false := by
  obtain rfl : f = 6 := Option.some.inj ((show Tryz.prog.funcNamed "pumice/pumicelaw11.WbufFits" = some 6 by kernel_rfl).symm.trans hf) |>.symm
  obtain rfl : fn = Tryz.f6 := (Option.some.inj (Tryz.func6.symm.trans hfn)).symm
  refine ⟨by kernel_rfl, fun j t ht => ?_⟩
  rw [Tryz.params6] at ht
  have hm : t = 54 ∨ t = 3 := by simpa using Array.mem_of_getElem? ht
  rcases hm with rfl | rfl
  · exact (show Tryz.prog.wantsStandIn 54 = false by kernel_rfl)
  · exact (show Tryz.prog.wantsStandIn 3 = false by kernel_rfl)
theorem card : Rows.WbufFitsCardSaid :=
  Claim7.holds_tied_plain_at .later [] _ _ _ _ said (fun _ h => by cases h) (by kernel_rfl) (fun _ h => by cases h) wbufFits_row_tie rfl ⟨rfl, rfl⟩ (by kernel_rfl) rfl plain (by kernel_rfl)
end Go.Proofs.YthffehaokndkeaaGreatDoor.wbufFits

namespace Go.Proofs.YthffehaokndkeaaGreatDoor
theorem wbufFits_holds : Rows.WbufFitsCardSaid := wbufFits.card
#print axioms wbufFits_holds
end Go.Proofs.YthffehaokndkeaaGreatDoor
