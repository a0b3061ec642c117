/-
  Package ebm: level: what stands in the least worn block goes to the most worn one that is Free, if they lie too far apart.
  Package ebm: Wear.
-/
import Derived.Test.YtfcmkkkdccnhgaaGreatDoorKX
import Derived.Test.YtfcmkkkdccnhgaaGreatDoorKN
namespace Go.Proofs.YtfcmkkkdccnhgaaGreatDoor
open Go.RowKit
set_option maxRecDepth 10000

theorem hidP {p : Prop} (h : p) : Hid p := h
set_option maxHeartbeats 4000000 in
theorem mlevel_cold {base : Nat} {w : World} {m : Mg} {c : CS} (h : MLies base w m c) (hlen : m.bl.length ≤ 256) (hc : foreL m.bl false (amongN [4] 0 m.bl) = -1) :
    Calls Tryz.prog 76 #[.pointer (some ⟨m.p, 0, none⟩)] w fun e w' => e = .returned (.tuple #[.bool false, .nilIface]) ∧ Below w.heap.size w w' := by
  have HM : Hid (∀ X, Below w.heap.size w X → MLies base X m c) := fun X hb => h.later hb
  have HLn : Hid (m.bl.length ≤ 256) := hlen
  have k1 := fun X (hb : Below w.heap.size w X) => mfore_1 (h.later hb) hlen
  have k2 := fun X (hb : Below w.heap.size w X) => mfore_2 (h.later hb) hlen
  simp only [hc] at k1
  obtain ⟨g2, hg2⟩ : ∃ g, g = foreL m.bl true (amongN [2] 0 m.bl) := ⟨_, rfl⟩
  rw [← hg2] at k2
  have K1 := hidP k1
  have K2 := hidP k2
  clear hc hg2 hlen
  clear h k1 k2
  go_enter Tryz.func76, Tryz.ntmps76
  go_wp2_with (first
    | (go_at_call 111; refine (K1.out _ (Below.refl _ _)).mono ?_; rintro e w1 ⟨rfl, hb1⟩; have HB1 : Hid (Below w.heap.size w w1) := hb1; clear hb1 K1)
    | (go_at_call 111; refine (K2.out _ HB1.out).mono ?_; rintro e w2 ⟨rfl, hb2⟩; have HB2 : Hid (Below w.heap.size w w2) := Below.after HB1.out hb2; clear hb2))
  have ne := Wd.non w2
  refine quiet_below (by kernel_rfl) ?_
  repeat (first | go_big_quiet_skip | go_big_quiet_step (fail))
  refine wpQuiet_nil ?_
  rintro _ ⟨p4, rfl⟩
  obtain ⟨w4, hw4⟩ : ∃ W, W = p4.v := ⟨_, rfl⟩
  have HB4 : Hid (Below w.heap.size w w4) := by rw [hw4]; exact Below.after HB2.out p4.h
  rw [← hw4]
  clear hw4
  clear p4
  go_wp2
  refine bodyPost_ret (v := .tuple #[.bool false, .nilIface]) ?_ rfl ⟨rfl, HB4.out⟩
  simp [results, Tryz.f76, go_sem]
set_option maxHeartbeats 4000000 in
theorem mlevel_worn {base : Nat} {w : World} {m : Mg} {c : CS} (h : MLies base w m c) (hlen : m.bl.length ≤ 256) (i : Nat) (hc : foreL m.bl false (amongN [4] 0 m.bl) = i) (hw : foreL m.bl true (amongN [2] 0 m.bl) = -1) :
    Calls Tryz.prog 76 #[.pointer (some ⟨m.p, 0, none⟩)] w fun e w' => e = .returned (.tuple #[.bool false, .nilIface]) ∧ Below w.heap.size w w' := by
  have HM : Hid (∀ X, Below w.heap.size w X → MLies base X m c) := fun X hb => h.later hb
  have HLn : Hid (m.bl.length ≤ 256) := hlen
  have k1 := fun X (hb : Below w.heap.size w X) => mfore_1 (h.later hb) hlen
  have k2 := fun X (hb : Below w.heap.size w X) => mfore_2 (h.later hb) hlen
  simp only [hc] at k1
  simp only [hw] at k2
  have K1 := hidP k1
  have K2 := hidP k2
  clear hc hw hlen
  clear h k1 k2
  go_enter Tryz.func76, Tryz.ntmps76
  go_wp2_with (first
    | (go_at_call 111; refine (K1.out _ (Below.refl _ _)).mono ?_; rintro e w1 ⟨rfl, hb1⟩; have HB1 : Hid (Below w.heap.size w w1) := hb1; clear hb1 K1)
    | (go_at_call 111; refine (K2.out _ HB1.out).mono ?_; rintro e w2 ⟨rfl, hb2⟩; have HB2 : Hid (Below w.heap.size w w2) := Below.after HB1.out hb2; clear hb2))
  have ne := Wd.non w2
  have i0 : ¬ (i : Int) < 0 := by omega
  refine quiet_below (by kernel_rfl) ?_
  repeat (first | go_big_quiet_skip | go_big_quiet_step (fail))
  refine wpQuiet_nil ?_
  rintro _ ⟨p4, rfl⟩
  obtain ⟨w4, hw4⟩ : ∃ W, W = p4.v := ⟨_, rfl⟩
  have HB4 : Hid (Below w.heap.size w w4) := by rw [hw4]; exact Below.after HB2.out p4.h
  rw [← hw4]
  clear hw4
  clear p4
  go_wp2
  refine bodyPost_ret (v := .tuple #[.bool false, .nilIface]) ?_ rfl ⟨rfl, HB4.out⟩
  simp [results, Tryz.f76, go_sem]
set_option maxHeartbeats 4000000 in
theorem mlevel_near {base : Nat} {w : World} {m : Mg} {c : CS} (h : MLies base w m c) (hlen : m.bl.length ≤ 256) (i n : Nat) (x y : Bl) (hc : foreL m.bl false (amongN [4] 0 m.bl) = i) (hw : foreL m.bl true (amongN [2] 0 m.bl) = n) (hx : m.bl[i]? = some x) (hy : m.bl[n]? = some y) (hxb : 0 ≤ x.cnt ∧ x.cnt ≤ 2147483647) (hyb : 0 ≤ y.cnt ∧ y.cnt ≤ 2147483647) (hd : y.cnt - x.cnt ≤ 8) :
    Calls Tryz.prog 76 #[.pointer (some ⟨m.p, 0, none⟩)] w fun e w' => e = .returned (.tuple #[.bool false, .nilIface]) ∧ Below w.heap.size w w' := by
  have HM : Hid (∀ X, Below w.heap.size w X → MLies base X m c) := fun X hb => h.later hb
  have HLn : Hid (m.bl.length ≤ 256) := hlen
  have k1 := fun X (hb : Below w.heap.size w X) => mfore_1 (h.later hb) hlen
  have k2 := fun X (hb : Below w.heap.size w X) => mfore_2 (h.later hb) hlen
  simp only [hc] at k1
  simp only [hw] at k2
  have K1 := hidP k1
  have K2 := hidP k2
  have il : (i : Int) < (m.bl.length : Int) := by have := (List.getElem?_eq_some_iff.1 hx).1; omega
  have nl : (n : Int) < (m.bl.length : Int) := by have := (List.getElem?_eq_some_iff.1 hy).1; omega
  have HX : Hid (m.bl[i]? = some x ∧ m.bl[n]? = some y) := ⟨hx, hy⟩
  clear hc hw hx hy hlen
  clear h k1 k2
  go_enter Tryz.func76, Tryz.ntmps76
  go_wp2_with (first
    | (go_at_call 111; refine (K1.out _ (Below.refl _ _)).mono ?_; rintro e w1 ⟨rfl, hb1⟩; have HB1 : Hid (Below w.heap.size w w1) := hb1; clear hb1 K1)
    | (go_at_call 111; refine (K2.out _ HB1.out).mono ?_; rintro e w2 ⟨rfl, hb2⟩; have HB2 : Hid (Below w.heap.size w w2) := Below.after HB1.out hb2; clear hb2))
  have ne := Wd.non w2
  have i0 : ¬ (i : Int) < 0 := by omega
  have n0 : ¬ (n : Int) < 0 := by omega
  have z0 : ∀ p : Wd w2, p.v.cell? ⟨m.p, 1, none⟩ = some (.slice (some ⟨m.bb, 0, none⟩) m.bl.length m.bcap) := fun p => (HM.out _ (Below.after HB2.out p.h)).cells.2.1
  have zi : ∀ p : Wd w2, p.v.cell? ⟨m.bb, i * 6 + 1, none⟩ = some (.int .i64 x.cnt) := fun p => ((HM.out _ (Below.after HB2.out p.h)).blAt HX.out.1).c1
  have zn : ∀ p : Wd w2, p.v.cell? ⟨m.bb, n * 6 + 1, none⟩ = some (.int .i64 y.cnt) := fun p => ((HM.out _ (Below.after HB2.out p.h)).blAt HX.out.2).c1
  refine quiet_below (by kernel_rfl) ?_
  repeat (first | go_big_quiet_skip | go_big_quiet_step (fail))
  refine wpQuiet_nil ?_
  rintro _ ⟨p4, rfl⟩
  obtain ⟨w4, hw4⟩ : ∃ W, W = p4.v := ⟨_, rfl⟩
  have HB4 : Hid (Below w.heap.size w w4) := by rw [hw4]; exact Below.after HB2.out p4.h
  rw [← hw4]
  clear hw4
  clear p4
  clear z0 zi zn
  go_wp2
  refine bodyPost_ret (v := .tuple #[.bool false, .nilIface]) ?_ rfl ⟨rfl, HB4.out⟩
  simp [results, Tryz.f76, go_sem]
set_option maxHeartbeats 4000000 in
theorem mlevel_go {base : Nat} {w : World} {m : Mg} {c : CS} (h : MLies base w m c) (hlen : m.bl.length ≤ 256) (i n : Nat) (x y : Bl) (hc : foreL m.bl false (amongN [4] 0 m.bl) = i) (hw : foreL m.bl true (amongN [2] 0 m.bl) = n) (hx : m.bl[i]? = some x) (hy : m.bl[n]? = some y) (hxb : 0 ≤ x.cnt ∧ x.cnt ≤ 2147483647) (hyb : 0 ≤ y.cnt ∧ y.cnt ≤ 2147483647) (hd : ¬ y.cnt - x.cnt ≤ 8) (m' : Mg) (c' : CS) (kM : ∀ X, Below w.heap.size w X → Calls Tryz.prog 114 #[.pointer (some ⟨m.p, 0, none⟩), .int .i64 (i : Nat), .int .i64 (n : Nat)] X fun e w' => e = .returned .nilIface ∧ Ex base X m c w' m' c') :
    Calls Tryz.prog 76 #[.pointer (some ⟨m.p, 0, none⟩)] w fun e w' => e = .returned (.tuple #[.bool true, .nilIface]) ∧ Ex base w m c w' m' c' := by
  have HM : Hid (∀ X, Below w.heap.size w X → MLies base X m c) := fun X hb => h.later hb
  have HLn : Hid (m.bl.length ≤ 256) := hlen
  have k1 := fun X (hb : Below w.heap.size w X) => mfore_1 (h.later hb) hlen
  have k2 := fun X (hb : Below w.heap.size w X) => mfore_2 (h.later hb) hlen
  simp only [hc] at k1
  simp only [hw] at k2
  have KM : Hid (∀ X, Below w.heap.size w X → Calls Tryz.prog 114 #[.pointer (some ⟨m.p, 0, none⟩), .int .i64 (i : Nat), .int .i64 (n : Nat)] X fun e w' => e = .returned .nilIface ∧ Ex base X m c w' m' c') := kM
  clear kM
  have K1 := hidP k1
  have K2 := hidP k2
  have il : (i : Int) < (m.bl.length : Int) := by have := (List.getElem?_eq_some_iff.1 hx).1; omega
  have nl : (n : Int) < (m.bl.length : Int) := by have := (List.getElem?_eq_some_iff.1 hy).1; omega
  have HX : Hid (m.bl[i]? = some x ∧ m.bl[n]? = some y) := ⟨hx, hy⟩
  clear hc hw hx hy hlen
  clear h k1 k2
  go_enter Tryz.func76, Tryz.ntmps76
  go_wp2_with (first
    | (go_at_call 111; refine (K1.out _ (Below.refl _ _)).mono ?_; rintro e w1 ⟨rfl, hb1⟩; have HB1 : Hid (Below w.heap.size w w1) := hb1; clear hb1 K1)
    | (go_at_call 111; refine (K2.out _ HB1.out).mono ?_; rintro e w2 ⟨rfl, hb2⟩; have HB2 : Hid (Below w.heap.size w w2) := Below.after HB1.out hb2; clear hb2))
  have ne := Wd.non w2
  have i0 : ¬ (i : Int) < 0 := by omega
  have n0 : ¬ (n : Int) < 0 := by omega
  have z0 : ∀ p : Wd w2, p.v.cell? ⟨m.p, 1, none⟩ = some (.slice (some ⟨m.bb, 0, none⟩) m.bl.length m.bcap) := fun p => (HM.out _ (Below.after HB2.out p.h)).cells.2.1
  have zi : ∀ p : Wd w2, p.v.cell? ⟨m.bb, i * 6 + 1, none⟩ = some (.int .i64 x.cnt) := fun p => ((HM.out _ (Below.after HB2.out p.h)).blAt HX.out.1).c1
  have zn : ∀ p : Wd w2, p.v.cell? ⟨m.bb, n * 6 + 1, none⟩ = some (.int .i64 y.cnt) := fun p => ((HM.out _ (Below.after HB2.out p.h)).blAt HX.out.2).c1
  refine quiet_below (by kernel_rfl) ?_
  repeat (first | go_big_quiet_skip | go_big_quiet_step (fail))
  refine wpQuiet_nil ?_
  rintro _ ⟨p4, rfl⟩
  obtain ⟨w4, hw4⟩ : ∃ W, W = p4.v := ⟨_, rfl⟩
  have HB4 : Hid (Below w.heap.size w w4) := by rw [hw4]; exact Below.after HB2.out p4.h
  rw [← hw4]
  clear hw4
  clear p4
  clear z0 zi zn
  go_wp2_with (go_at_call 114; refine (KM.out _ HB4.out).mono ?_; rintro e w5 ⟨rfl, hx5⟩; have HE : Hid (Ex base w4 m c w5 m' c') := hx5; clear hx5)
  refine bodyPost_ret (v := .tuple #[.bool true, .nilIface]) ?_ rfl ⟨rfl, HE.out.back (.of_below HB4.out)⟩
  simp [results, Tryz.f76, go_sem]
end Go.Proofs.YtfcmkkkdccnhgaaGreatDoor
namespace Go.Proofs.YtfcmkkkdccnhgaaGreatDoor
open Go.RowKit Go.Extern.Stop Go.Stop Go.Extern
set_option maxRecDepth 10000

/-- What Wear's closure leaves: the manager, and the box in which it says whether something was moved. -/
structure ExB (base : Nat) (w : World) (m : Mg) (c : CS) (Bv : Nat) (b : Bool) (W : World) (m1 : Mg) (c1 : CS) : Prop where
  ml : MLies base W m1 c1
  p : m1.p = m.p
  bb : m1.bb = m.bb
  kp : Kept (fun k => MFoot m c k ∨ k = Bv) w W
  ft : c1.foot = c.foot
  bv : Row W Bv [.bool b] 4
theorem MLies.off_bool {base : Nat} {w : World} {m : Mg} {c : CS} (h : MLies base w m c) {B : Nat} {cs : List Value} (hr : Row w B cs 4) : ¬ MFoot m c B := by
  rintro (e | e | e)
  · exact hr.ne h.box (by decide) e
  · exact hr.ne h.row (by decide) e
  · exact h.chip.apart hr (by decide) (by decide) (by decide) e
theorem MLies.other {base : Nat} {w : World} {m : Mg} {c : CS} (h : MLies base w m c) {B : Nat} {cs : List Value} (hr : Row w B cs 4) (v : Value) : MLies base (w.setCell ⟨B, 0, none⟩ v) m c := by
  have hk : Kept (fun k => k = B) w (w.setCell ⟨B, 0, none⟩ v) := (Kept.refl (fun k => k = B) w).setCell (p := ⟨B, 0, none⟩) rfl v
  have hn := h.off_bool hr
  exact ⟨h.box.kept hk (fun e => hn (.inl e.symm)), h.row.kept hk (fun e => hn (.inr (.inl e.symm))), h.chip.kept hk (fun k hf e => hn (.inr (.inr (by rw [← e]; exact hf)))) (fun b cs hb e => hr.ne hb (by decide) e.symm), h.len, h.cap, h.low⟩
set_option maxHeartbeats 1000000 in
theorem wear1_any {base : Nat} {w : World} {m : Mg} {c : CS} (Bm Bv : Nat) (b : Bool) (m' : Mg) (c' : CS) (h1 : w.cell? ⟨Bm, 0, none⟩ = some (.pointer (some ⟨m.p, 0, none⟩))) (hr : Row w Bv [.bool false] 4) (hM : MLies base w m c)
    (kL : Calls Tryz.prog 76 #[.pointer (some ⟨m.p, 0, none⟩)] w fun e w' => e = .returned (.tuple #[.bool b, .nilIface]) ∧ Ex base w m c w' m' c') :
    Calls Tryz.prog 75 #[.pointer (some ⟨Bm, 0, none⟩), .pointer (some ⟨Bv, 0, none⟩)] w fun e w' => e = .returned .nilIface ∧ ExB base w m c Bv b w' m' c' := by
  have HR : Hid (Row w Bv [.bool false] 4 ∧ ¬ MFoot m c Bv) := ⟨hr, hM.off_bool hr⟩
  clear hr hM
  go_enter Tryz.func75, Tryz.ntmps75
  go_wp2_with (go_at_call 76; refine kL.mono ?_; rintro e w1 ⟨rfl, hx⟩; have hR1 := HR.out.1.kept hx.kp HR.out.2; have c1 : w1.cell? ⟨Bv, 0, none⟩ = some (.bool false) := hR1.cell (i := 0) rfl; have f1 := hR1.frozen 0; have HX : Hid (Ex base w m c w1 m' c' ∧ Row w1 Bv [.bool false] 4) := ⟨hx, hR1⟩; clear hx hR1)
  go_ret
  have hx := HX.out.1
  exact ⟨rfl, hx.ml.other HX.out.2 _, hx.p, hx.bb, (hx.kp.mono fun _ e => .inl e).setCell (p := ⟨Bv, 0, none⟩) (.inr rfl) _, hx.ft, HX.out.2.set (i := 0) _ (by simp)⟩
set_option maxHeartbeats 1000000 in
theorem mdo_Wear {base : Nat} {w : World} {m : Mg} {c : CS} (h : MLies base w m c) (hl : m.lost = false) (hon : c.on = true) (hsp : spentB c = false) (hg : Typed w) (hgb : 2 < base) (Bm Bv : Nat) (b : Bool) (R : Int × Mg × CS) (hBv : base ≤ Bv)
    (hc : ∀ X, Kept (fun k => k = m.p) w X → MLies base X m c → Calls Tryz.prog 75 #[.pointer (some ⟨Bm, 0, none⟩), .pointer (some ⟨Bv, 0, none⟩)] X fun e w' => ∃ v, e = .returned v ∧ ErrV w' v R.1 ∧ ExB base X m c Bv b w' R.2.1 R.2.2) :
    Calls Tryz.prog 45 #[.pointer (some ⟨m.p, 0, none⟩), .func (.func 75) #[] #[.pointer (some ⟨Bm, 0, none⟩), .pointer (some ⟨Bv, 0, none⟩)]] w fun e w' => e = .returned (.int .i64 R.1) ∧ ExB base w m c Bv b w' (R.2.1.ans R.1) R.2.2 := by
  have k1 := off_any h
  rw [hl, hon, off_same hl hon] at k1
  have HSp : Hid (∀ X, MLies base X m c → Calls Tryz.prog 29 #[.pointer (some ⟨m.p, 0, none⟩)] X fun e w' => e = .returned (.bool false) ∧ Below X.heap.size X w') := fun X hX => by have := mspent_any hX; rw [hsp] at this; exact this
  have HC : Hid (∀ X, Kept (fun k => k = m.p) w X → MLies base X m c → Calls Tryz.prog 75 #[.pointer (some ⟨Bm, 0, none⟩), .pointer (some ⟨Bv, 0, none⟩)] X fun e w' => ∃ v, e = .returned v ∧ ErrV w' v R.1 ∧ ExB base X m c Bv b w' R.2.1 R.2.2) := hc
  have HT : Hid (∀ X v, ExB base w m c Bv b X R.2.1 R.2.2 → ErrV X v R.1 → Calls Tryz.prog 77 #[.pointer (some ⟨m.p, 0, none⟩), v] X fun e w' => e = .returned (.int .i64 R.1) ∧ ExB base w m c Bv b w' (R.2.1.ans R.1) R.2.2) := fun X v hX he => by
    have ht : Typed X := hg.keep hX.kp (by
      rintro (e | e)
      · have := h.foot_ge _ e; omega
      · omega)
    have := answer_any hX.ml he ht hgb
    rw [hX.p] at this
    refine this.mono ?_
    rintro e w' ⟨rfl, hl, hk⟩
    have hne : Bv ≠ m.p := by
      have hn := hX.ml.off_bool hX.bv
      intro e
      exact hn (.inl (by rw [hX.p]; exact e))
    exact ⟨rfl, hl, hX.p, hX.bb, hX.kp.trans (hk.mono fun k e => .inl (.inl e)), hX.ft, hX.bv.kept hk hne⟩
  clear h hl hon hsp hg hgb hc hBv
  go_enter Tryz.func45, Tryz.ntmps45
  go_wp2_with (first
    | (go_at_call 48; refine k1.mono ?_; rintro e w1 ⟨rfl, hl1, hk1⟩; have HL1 : Hid (MLies base w1 m c ∧ Kept (fun k => k = m.p) w w1) := ⟨hl1, hk1⟩; clear hl1 hk1)
    | (go_at_call 29; refine (HSp.out _ HL1.out.1).mono ?_; rintro e w2 ⟨rfl, hb2⟩; have HL2 : Hid (MLies base w2 m c ∧ Kept (fun k => k = m.p) w w2) := ⟨HL1.out.1.later hb2, HL1.out.2.trans (.of_below hb2)⟩; clear hb2)
    | (go_at_call 75; refine (HC.out _ HL2.out.2 HL2.out.1).mono ?_; rintro e w3 ⟨v3, rfl, he3, hx3⟩; have kA := HT.out w3 v3 ⟨hx3.ml, hx3.p, hx3.bb, (HL2.out.2.mono fun _ hk => .inl (.inl hk)).trans hx3.kp, hx3.ft, hx3.bv⟩ he3; clear he3 hx3)
    | (go_at_call 77; refine kA.mono ?_; rintro e w4 ⟨rfl, hx4⟩; have HX4 : Hid (ExB base w m c Bv b w4 (R.2.1.ans R.1) R.2.2) := hx4; clear hx4))
  go_ret
  exact ⟨rfl, HX4.out⟩
set_option maxHeartbeats 1000000 in
theorem mwear_may {base : Nat} {w : World} {m : Mg} {c : CS} (b : Bool) (R : Int × Mg × CS)
    (hD : ∀ X Bm Bv, Below w.heap.size w X → X.cell? ⟨Bm, 0, none⟩ = some (.pointer (some ⟨m.p, 0, none⟩)) → Row X Bv [.bool false] 4 → w.heap.size ≤ Bm → w.heap.size ≤ Bv → Calls Tryz.prog 45 #[.pointer (some ⟨m.p, 0, none⟩), .func (.func 75) #[] #[.pointer (some ⟨Bm, 0, none⟩), .pointer (some ⟨Bv, 0, none⟩)]] X fun e w' => e = .returned (.int .i64 R.1) ∧ ExB base X m c Bv b w' (R.2.1.ans R.1) R.2.2) :
    Calls Tryz.prog 36 #[.pointer (some ⟨m.p, 0, none⟩)] w fun e w' => e = .returned (.tuple #[.bool b, .int .i64 R.1]) ∧ Ex base w m c w' (R.2.1.ans R.1) R.2.2 := by
  obtain ⟨W3, hW3, hb3, r0, r1⟩ := box2 w (.pointer (some ⟨m.p, 0, none⟩)) (.bool false) 33 4
  have kD := hD W3 w.heap.size (w.heap.size + 1) hb3 (r0.cell (i := 0) rfl) r1 (Nat.le_refl _) (by omega)
  have HB3 : Hid (Below w.heap.size w W3) := hb3
  clear hD r0 r1 hb3
  go_enter Tryz.func36, Tryz.ntmps36
  go_wp2_with fail
  rw [← hW3]
  clear hW3
  go_wp2_with (go_at_call 45; refine kD.mono ?_; rintro e w5 ⟨rfl, hx⟩; have y1 : w5.cell? ⟨w.heap.size + 1, 0, none⟩ = some (.bool b) := hx.bv.cell (i := 0) rfl; have HX : Hid (ExB base W3 m c (w.heap.size + 1) b w5 (R.2.1.ans R.1) R.2.2) := hx; clear hx)
  have hk := (Kept.of_below (S := fun k => MFoot m c k ∨ k = w.heap.size + 1) HB3.out).trans HX.out.kp
  refine bodyPost_ret (v := .tuple #[.bool b, .int .i64 R.1]) ?_ rfl ⟨rfl, HX.out.ml, HX.out.p, HX.out.bb, ⟨hk.os, hk.tape, hk.output, hk.size, fun k hlt hn => hk.block k hlt (by
    rintro (e | e)
    · exact hn e
    · omega)⟩, HX.out.ft⟩
  simp [results, Tryz.f36, go_sem]
theorem fore_is {t : Nat} {m : Mg} {c : CS} {P : List (List (List Nat))} (h : MRep t m c P) (up : Bool) (st : Int) (hst : st = 2 ∨ st = 4) : foreL m.bl up (amongN [st] 0 m.bl) = -1 ∨ ∃ (i : Nat) (x : Bl), foreL m.bl up (amongN [st] 0 m.bl) = i ∧ m.bl[i]? = some x ∧ x.st = st ∧ 0 ≤ x.cnt ∧ x.cnt ≤ 2147483647 := by
  rcases foreL_mem m.bl up (amongN [st] 0 m.bl) with e | ⟨i, hi, e⟩
  · exact .inl e
  · obtain ⟨x, hx, hc⟩ := amongN_mem _ hi
    have hs : x.st = st := by simpa using hc
    have hil : i < c.gb := by rw [← h.rb.lb]; exact (List.getElem?_eq_some_iff.1 hx).1
    obtain ⟨b, y, p, _, hy, _, hk, _⟩ := h.rb.at hil
    rw [hx] at hy
    cases hy
    obtain ⟨k, hk1, hk2, _⟩ := bok_live hk (by rcases hst with e2 | e2 <;> rw [hs, e2] <;> decide)
    exact .inr ⟨i, x, e, hx, hs, by omega, by omega⟩
theorem wear_go {base t : Nat} {w : World} {m : Mg} {c : CS} {P : List (List (List Nat))} (h : Ms base t w m c P) (ht : t < 2147483647) :
    Calls Tryz.prog 36 #[.pointer (some ⟨m.p, 0, none⟩)] w fun e w' => ∃ b, e = .returned (.tuple #[.bool b, .int .i64 0]) ∧ Done base (t + 1) w m c (cont m.bl P) w' := by
  have hg := h.rp.rb.geo
  have hlen : m.bl.length ≤ 256 := by rw [h.rp.rb.lb]; omega
  have fin : ∀ (b : Bool) (m' : Mg) (c' : CS) (P' : List (List (List Nat))), MRep (t + 1) m' c' P' → (∀ l, cont m'.bl P' l = cont m.bl P l) → Gm c c' → (∀ X, MLies base X m c → Calls Tryz.prog 76 #[.pointer (some ⟨m.p, 0, none⟩)] X fun e w' => e = .returned (.tuple #[.bool b, .nilIface]) ∧ Ex base X m c w' m' c') →
      Calls Tryz.prog 36 #[.pointer (some ⟨m.p, 0, none⟩)] w fun e w' => ∃ b, e = .returned (.tuple #[.bool b, .int .i64 0]) ∧ Done base (t + 1) w m c (cont m.bl P) w' := by
    intro b m' c' P' hr hc hgm hL
    refine (mwear_may (base := base) (m := m) (c := c) b (0, m', c') (fun X Bm Bv hb y0 rv b0 b1 => ?_)).mono ?_
    · have hX := h.later hb
      refine mdo_Wear hX.ml h.rp.lost h.rp.rb.on h.spent hX.ty h.gb Bm Bv b (0, m', c') (by have := h.ml.box.lt; have := h.ml.low.1; omega) (fun Y hk hY => ?_)
      have hfm : ∀ B, w.heap.size ≤ B → ¬ (fun k => k = m.p) B := fun B hB e => by have := h.ml.box.lt; omega
      refine (wear1_any Bm Bv b m' c' (cell_kept hk (hfm Bm b0) y0) (rv.kept hk (hfm Bv b1)) hY (hL Y hY)).mono ?_
      rintro e w' ⟨rfl, hx⟩
      exact ⟨_, rfl, .inl ⟨rfl, rfl⟩, hx⟩
    · rintro e w' ⟨rfl, hx⟩
      rw [Mg.ans_no hr.lost (by show (0 : Int) ≠ 6; decide)] at hx
      exact ⟨b, rfl, Done.of h hx hr hgm hc⟩
  have no : (∀ X, MLies base X m c → Calls Tryz.prog 76 #[.pointer (some ⟨m.p, 0, none⟩)] X fun e w' => e = .returned (.tuple #[.bool false, .nilIface]) ∧ Below X.heap.size X w') →
      Calls Tryz.prog 36 #[.pointer (some ⟨m.p, 0, none⟩)] w fun e w' => ∃ b, e = .returned (.tuple #[.bool b, .int .i64 0]) ∧ Done base (t + 1) w m c (cont m.bl P) w' := by
    intro hL
    refine fin false m c P (h.rp.mono (by omega)) (fun _ => rfl) (Gm.refl c) (fun X hX => (hL X hX).mono ?_)
    rintro e w' ⟨rfl, hb⟩
    exact ⟨rfl, (Ex.refl hX).later hb⟩
  rcases fore_is h.rp false 4 (.inr rfl) with hc | ⟨i, x, hc, hx, h4, hxb⟩
  · exact no (fun X hX => mlevel_cold hX hlen hc)
  · rcases fore_is h.rp true 2 (.inl rfl) with hw | ⟨n, y, hw, hy, h2, hyb⟩
    · exact no (fun X hX => mlevel_worn hX hlen i hc hw)
    · by_cases hd : y.cnt - x.cnt ≤ 8
      · exact no (fun X hX => mlevel_near hX hlen i n x y hc hw hx hy hxb hyb hd)
      · obtain ⟨leb, u, q, n', m2, c2, m', c', P', e1, e2, e3, e4, e5, e6, e7, e8, e9, e10, e11, e12, e13, e14⟩ := move_ok h.rp hx h4 hy h2 ht
        have hb := h.rp.bud
        have hfs := h.rp.rb.room
        refine fin true m' c' P' e11 e12 e13 (fun X hX => mlevel_go hX hlen i n x y hc hw hx hy hxb hyb hd m' c' (fun Y hY => ?_))
        exact mmove_go (hX.later hY) i n leb u q x y hx (by rw [h4]; decide) e1 e2 hy h2 h.rp.rb.on (by omega) e7 (by omega) e5 (by omega) n' m2 m' c2 c' e8 e9 e3 e4 e10 e14.1 e14.2.1
end Go.Proofs.YtfcmkkkdccnhgaaGreatDoor
