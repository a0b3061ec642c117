/-
  One page more of a logical block.
  One page more of a logical block that is full, or that stands nowhere.
  What holds at each try of a page, of a manager that is right.
-/
import Derived.Test.YtkfecngkdlajgaaGreatDoorKH
namespace Go.Proofs.YtkfecngkdlajgaaGreatDoor
open Go.RowKit
set_option maxRecDepth 10000

/-- What must hold at each try of a page. -/
def ExtV (data : List Nat) : Nat → Mg → CS → Nat → Prop
  | 0, _, _, _ => False
  | f + 1, m, c, n => ∃ (leb u : Nat) (o : Bl), m.bl[n]? = some o ∧ o.st ≠ 2 ∧ o.leb = leb ∧ o.used = u ∧ u ≤ 63 ∧ leb ≤ 255 ∧ m.seq + 258 < 18446744073709551616 ∧ 64 ≤ c.gz ∧
    ((c.programM n (2 + (u : Int)) data).1 = 5 → (c.programM n (2 + (u : Int)) data).2.on = true ∧ (∀ i : Nat, i < u → ((c.programM n (2 + (u : Int)) data).2.read n (2 + (i : Int))).2 = 0) ∧
      ((rescueM m (c.programM n (2 + (u : Int)) data).2 n).2.1 = 0 → ∃ n' : Nat, (rescueM m (c.programM n (2 + (u : Int)) data).2 n).1 = n' ∧ ExtV data f (rescueM m (c.programM n (2 + (u : Int)) data).2 n).2.2.1 (rescueM m (c.programM n (2 + (u : Int)) data).2 n).2.2.2 n'))
/-- What is known of a manager while a page is tried. -/
structure Ex (base : Nat) (w : World) (m : Mg) (c : CS) (W : World) (m1 : Mg) (c1 : CS) : Prop where
  ml : MLies base W m1 c1
  p : m1.p = m.p
  bb : m1.bb = m.bb
  kp : Kept (MFoot m c) w W
  ft : c1.foot = c.foot
theorem Ex.refl {base : Nat} {w : World} {m : Mg} {c : CS} (h : MLies base w m c) : Ex base w m c w m c := ⟨h, rfl, rfl, Kept.refl _ _, rfl⟩
theorem Ex.later {base : Nat} {w : World} {m : Mg} {c : CS} {W W' : World} {m1 : Mg} {c1 : CS} (h : Ex base w m c W m1 c1) (hb : Below W.heap.size W W') : Ex base w m c W' m1 c1 := ⟨h.ml.later hb, h.p, h.bb, h.kp.trans (.of_below hb), h.ft⟩
theorem Ex.back {base : Nat} {w w0 : World} {m : Mg} {c : CS} {W : World} {m1 : Mg} {c1 : CS} (h : Ex base w0 m c W m1 c1) (hb : Kept (MFoot m c) w w0) : Ex base w m c W m1 c1 := ⟨h.ml, h.p, h.bb, hb.trans h.kp, h.ft⟩
def EPost (base : Nat) (w : World) (m : Mg) (c : CS) (r : Int × Mg × CS) (e : Ending) (w' : World) : Prop := ∃ v, e = .returned v ∧ ErrV w' v r.1 ∧ Ex base w m c w' r.2.1 r.2.2
theorem MLies.used {base : Nat} {w : World} {m : Mg} {c : CS} (h : MLies base w m c) {i : Nat} {o : Bl} (hi : m.bl[i]? = some o) (x : Int) : MLies base (w.setCell ⟨m.bb, i * 6 + 3, none⟩ (.int .i64 x)) (m.put i { o with used := x }) c := by
  refine h.wroteB ((Kept.refl (fun k => k = m.bb) w).setCell (p := ⟨m.bb, i * 6 + 3, none⟩) rfl _) rfl rfl rfl rfl rfl (by simp [Mg.put]) ?_
  have hil := (List.getElem?_eq_some_iff.1 hi).1
  have := h.row.set (i := i * 6 + 3) (.int .i64 x) (by rw [flat_len blCells 6 bl_len]; omega)
  rw [flat_set blCells 6 bl_len 3 (by omega) (.int .i64 x) { o with used := x } m.bl i o hi rfl] at this
  exact this
theorem extM_S {data : List Nat} {f : Nat} {m : Mg} {c : CS} {n u : Nat} {o : Bl} (ho : m.bl[n]? = some o) (hu : o.used = u) : extM data (f + 1) m c n = if (c.programM n (2 + (u : Int)) data).1 = 0 then (0, m.put n { o with used := (u : Int) + 1 }, (c.programM n (2 + (u : Int)) data).2)
    else if (c.programM n (2 + (u : Int)) data).1 = 5 then (if (rescueM m (c.programM n (2 + (u : Int)) data).2 n).2.1 = 0 then extM data f (rescueM m (c.programM n (2 + (u : Int)) data).2 n).2.2.1 (rescueM m (c.programM n (2 + (u : Int)) data).2 n).2.2.2 (rescueM m (c.programM n (2 + (u : Int)) data).2 n).1.toNat else ((rescueM m (c.programM n (2 + (u : Int)) data).2 n).2.1, (rescueM m (c.programM n (2 + (u : Int)) data).2 n).2.2))
    else ((c.programM n (2 + (u : Int)) data).1, m, (c.programM n (2 + (u : Int)) data).2) := by
  conv => lhs; unfold extM
  rw [ho]
  simp only [Option.getD_some, hu]
/-- The loop of extend. -/
def ExGo (base : Nat) (w : World) (m : Mg) (c : CS) (data : List Nat) (X : Int × Mg × CS) (wr : World) (n f : Nat) : Prop :=
  ∃ m1 c1, Ex base w m c wr m1 c1 ∧ X = extM data f m1 c1 n ∧ ExtV data f m1 c1 n
set_option maxHeartbeats 4000000 in
theorem mextend_found {base : Nat} {w : World} {m : Mg} {c : CS} (h : MLies base w m c) (leb : Int) (i fuel dc : Nat) (a : Option Addr) (data : List Nat) (hd : Dt (MFoot m c) w a data) (hf : findI m.bl leb = i) (o : Bl) (ho : m.bl[i]? = some o) (hcl : o.closed = false) (hus : o.used ≠ (c.gp : Int) - 2) (hgp : 2 ≤ c.gp) (hV : ExtV data fuel m c i) :
    Calls Tryz.prog 213 #[.pointer (some ⟨m.p, 0, none⟩), .int .i64 leb, .slice a data.length dc] w (EPost base w m c (extM data fuel m c i)) := by
  obtain ⟨_, c1, _, _⟩ := h.cells
  have hgs := h.chip.good.gs
  have hlen := h.len
  have k1 := find_any m.bl.length m.bcap m.bl (some ⟨m.bb, 0, none⟩) leb rfl (by omega) w h.lrow
  rw [hf] at k1
  have HM : Hid (MLies base w m c) := h
  have HPg : Hid (∀ W, Below w.heap.size w W → Calls Tryz.prog 74 #[.pointer (some ⟨m.p, 0, none⟩)] W fun e w' => e = .returned (.int .i64 ((c.gp : Int) - 2)) ∧ Below W.heap.size W w') := fun W hb => mpages_any (h.later hb) hgp
  have n0 : ¬ (i : Int) < 0 := by omega
  have n1 : (i : Int) < (m.bl.length : Int) := by have := (List.getElem?_eq_some_iff.1 ho).1; omega
  have e1 : (o.used == (c.gp : Int) - 2) = false := by simp [hus]
  have HO : Hid (m.bl[i]? = some o ∧ o.closed = false) := ⟨ho, hcl⟩
  have HD : Hid (Dt (MFoot m c) w a data) := hd
  have HV : Hid (ExtV data fuel m c i) := hV
  obtain ⟨X, hX⟩ : ∃ X, X = extM data fuel m c i := ⟨_, rfl⟩
  rw [← hX]
  have HX : Hid (X = extM data fuel m c i) := hX
  clear h hgs hlen hf ho hcl hus hgp hd hV hX
  go_enter Tryz.func213, Tryz.ntmps213
  go_wp2_with (first
    | (go_at_call 77; refine k1.mono ?_; rintro e w1 ⟨rfl, hb⟩; have HB1 : Hid (Below w.heap.size w w1) := hb; have hm1 := HM.out.later hb; have d1 := hm1.cells.2.1; obtain ⟨g0, g1, g2, g3, g4, g5⟩ := hm1.blAt HO.out.1; rw [HO.out.2] at g5; clear hb hm1 c1 k1))
  obtain ⟨W2, hW2⟩ : ∃ W2, W2 = w1.alloc (.cells #[.int .i64 o.st, .int .i64 o.cnt, .int .i64 o.leb, .int .i64 o.used, .int .u64 o.seq, .bool false] 156) := ⟨_, rfl⟩
  have HR2 : Hid (Row W2 w1.heap.size [.int .i64 o.st, .int .i64 o.cnt, .int .i64 o.leb, .int .i64 o.used, .int .u64 o.seq, .bool false] 156) := by rw [hW2]; exact Row.new w1 [_, _, _, _, _, _] _
  have HB2 : Hid (Below w.heap.size w W2) := by rw [hW2]; exact Below.after HB1.out (below_new w1 _)
  rw [← hW2]
  clear hW2 d1 g0 g1 g2 g3 g4 g5
  have ne := Wd.non W2
  have z3 : ∀ p : Wd W2, p.v.cell? ⟨w1.heap.size, 3, none⟩ = some (.int .i64 o.used) := fun p => (HR2.out.later p.h).cell (i := 3) rfl
  have z5 : ∀ p : Wd W2, p.v.cell? ⟨w1.heap.size, 5, none⟩ = some (.bool false) := fun p => (HR2.out.later p.h).cell (i := 5) rfl
  have cP := fun p : Wd W2 => quiet_call p (HPg.out p.v (Below.after HB2.out p.h))
  refine quiet_below (by kernel_rfl) ?_
  repeat (first | go_big_quiet_skip | go_big_quiet_step (first | (go_at_call 74; exact cP _)))
  refine wpQuiet_nil ?_
  rintro _ ⟨p3, rfl⟩
  obtain ⟨w3, hw3⟩ : ∃ W, W = p3.v := ⟨_, rfl⟩
  have HB3 : Hid (Below w.heap.size w w3) := by rw [hw3]; exact Below.after HB2.out p3.h
  rw [← hw3]
  clear hw3
  clear p3
  clear z3 z5 cP ne HR2 HB2
  go_wp2
  go_loopg [7] fuel (fun kx s7 wr => ∃ n : Nat, s7 = .int .i64 (n : Nat) ∧ Hid (ExGo base w m c data X wr n kx))
  case atStart => exact ⟨i, rfl, ⟨m, c, (Ex.refl HM.out).later HB3.out, HX.out, HV.out⟩⟩
  case round =>
    obtain ⟨n, rfl, HG⟩ := hrel
    obtain ⟨m1, c1, hex, hX, hV⟩ := HG.out
    clear HG HX HV n0 n1 e1 HO
    cases gk with
    | zero => exact hV.elim
    | succ f =>
      obtain ⟨lb, u, o1, ho1, hst, hol, hou, hu, hlb, hsq, hgz, h5⟩ := hV
      rw [extM_S ho1 hou] at hX
      have hml := hex.ml
      have hd1 := hml.cells.2.1
      rw [hex.p] at hd1
      obtain ⟨g0, g1, g2, g3, g4, g5⟩ := hml.blAt ho1
      rw [hou] at g3
      have q0 : ¬ (n : Int) < 0 := by omega
      have q1 : (n : Int) < (m1.bl.length : Int) := by have := (List.getElem?_eq_some_iff.1 ho1).1; omega
      have u0 : (0 : Int) ≤ (u : Int) := by omega
      have u1 : (u : Int) ≤ 63 := by omega
      have hmf := MFoot_eq hex.p hex.bb hex.ft
      have hdt : Dt (MFoot m1 c1) wr a data := by rw [hmf]; exact HD.out.kept hex.kp
      have kp := mprogram_any hml (n : Nat) (2 + (u : Int)) a data.length dc data rfl hdt.brow hdt.lt hdt.foot
      rw [hex.p] at kp
      obtain ⟨r, hr⟩ : ∃ r, r = c1.programM n (2 + (u : Int)) data := ⟨_, rfl⟩
      rw [← hr] at kp hX h5
      have HEx : Hid (Ex base w m c wr m1 c1) := hex
      have HO1 : Hid (m1.bl[n]? = some o1 ∧ o1.used = u) := ⟨ho1, hou⟩
      have HXX : Hid (X = if r.1 = 0 then (0, m1.put n { o1 with used := (u : Int) + 1 }, r.2) else if r.1 = 5 then (if (rescueM m1 r.2 n).2.1 = 0 then extM data f (rescueM m1 r.2 n).2.2.1 (rescueM m1 r.2 n).2.2.2 (rescueM m1 r.2 n).1.toNat else ((rescueM m1 r.2 n).2.1, (rescueM m1 r.2 n).2.2)) else (r.1, m1, r.2)) := hX
      have HR5 : Hid (r.1 = 5 → r.2.on = true ∧ (∀ i : Nat, i < u → (r.2.read n (2 + (i : Int))).2 = 0) ∧ ((rescueM m1 r.2 n).2.1 = 0 → ∃ n' : Nat, (rescueM m1 r.2 n).1 = n' ∧ ExtV data f (rescueM m1 r.2 n).2.2.1 (rescueM m1 r.2 n).2.2.2 n')) := h5
      have HF : Hid (o1.st ≠ 2 ∧ o1.leb = lb ∧ u ≤ 64 ∧ m1.seq + 258 < 18446744073709551616 ∧ lb ≤ 255 ∧ 64 ≤ c1.gz ∧ r.2.gz = c1.gz) := ⟨hst, hol, by omega, hsq, hlb, hgz, by rw [hr]; exact (programM_keep c1 n (2 + (u : Int)) data).1⟩
      obtain ⟨mb, hmb⟩ : ∃ mb, mb = m1.bb := ⟨_, rfl⟩
      have HMB : Hid (mb = m1.bb) := hmb
      rw [← hmb] at hd1 g0 g1 g2 g3 g4 g5
      clear hX h5 hr hst hol hou hu hlb hsq hgz hml hmf hdt hex ho1 hmb
      by_cases h0 : r.1 = 0
      · have HX0 : Hid (X = (0, m1.put n { o1 with used := (u : Int) + 1 }, r.2) ∧ r.1 = 0) := ⟨by rw [HXX.out, if_pos h0], h0⟩
        clear h0 HXX HR5
        go_wp2_with (go_at_call 170; refine kp.mono ?_; rintro e w5 ⟨v, rfl, he, hl, hk, hf⟩; rw [HX0.out.2] at he; obtain rfl := he.nil; have HL : Hid (MLies base w5 m1 r.2 ∧ Kept c1.foot wr w5 ∧ r.2.foot = c1.foot) := ⟨hl, hk, hf⟩; have t1 := hl.cells.2.1; rw [HEx.out.p, ← HMB.out] at t1; have t3 := (hl.blAt HO1.out.1).c3; rw [HO1.out.2, ← HMB.out] at t3; have fz := hl.row.frozen; rw [← HMB.out] at fz; clear he hl hk hf)
        have HP : Hid (MLies base (w5.setCell ⟨mb, n * 6 + 3, none⟩ (.int .i64 ((u : Int) + 1))) (m1.put n { o1 with used := (u : Int) + 1 }) r.2 ∧ Kept (MFoot m c) w (w5.setCell ⟨mb, n * 6 + 3, none⟩ (.int .i64 ((u : Int) + 1)))) := by
          have hmf := MFoot_eq HEx.out.p HEx.out.bb HEx.out.ft
          refine ⟨by rw [HMB.out]; exact HL.out.1.used HO1.out.1 _, (HEx.out.kp.trans (HL.out.2.1.mono fun _ hk => .inr (.inr (HEx.out.ft ▸ hk)))).setCell (p := ⟨mb, n * 6 + 3, none⟩) (.inr (.inl ?_)) _⟩
          show mb = m.bb
          rw [HMB.out]; exact HEx.out.bb
        go_ret
        rw [HX0.out.1]
        exact ⟨_, rfl, .inl ⟨rfl, rfl⟩, HP.out.1, HEx.out.p, HEx.out.bb, HP.out.2, HL.out.2.2.trans HEx.out.ft⟩
      · by_cases h5 : r.1 = 5
        · obtain ⟨ho5, hrd5, hnx5⟩ := HR5.out h5
          have e5 : (r.1 == 5) = true := by simp [h5]
          have HX1 : Hid (X = if (rescueM m1 r.2 n).2.1 = 0 then extM data f (rescueM m1 r.2 n).2.2.1 (rescueM m1 r.2 n).2.2.2 (rescueM m1 r.2 n).1.toNat else ((rescueM m1 r.2 n).2.1, (rescueM m1 r.2 n).2.2)) := by show X = _; rw [HXX.out, if_neg h0, if_pos h5]
          have HRs : Hid (∀ W, MLies base W m1 r.2 → Calls Tryz.prog 222 #[.pointer (some ⟨m.p, 0, none⟩), .int .i64 (n : Nat)] W (fun e w' => ∃ v, e = .returned (.tuple #[.int .i64 (rescueM m1 r.2 n).1, v]) ∧ ErrV w' v (rescueM m1 r.2 n).2.1 ∧ MLies base w' (rescueM m1 r.2 n).2.2.1 (rescueM m1 r.2 n).2.2.2 ∧ Kept (MFoot m1 r.2) W w' ∧ (rescueM m1 r.2 n).2.2.2.foot = r.2.foot ∧ (rescueM m1 r.2 n).2.2.1.p = m1.p ∧ (rescueM m1 r.2 n).2.2.1.bb = m1.bb)) := fun W hW => by
            obtain ⟨z1, z2, z3, z4, z5, z6, z7⟩ := HF.out
            have := mrescue_any hW n lb u o1 HO1.out.1 z1 z2 HO1.out.2 ho5 z3 hrd5 z4 z5 (by rw [z7]; exact z6)
            rw [HEx.out.p] at this
            rw [HEx.out.p]
            exact this
          have HNx : Hid ((rescueM m1 r.2 n).2.1 = 0 → ∃ n' : Nat, (rescueM m1 r.2 n).1 = n' ∧ ExtV data f (rescueM m1 r.2 n).2.2.1 (rescueM m1 r.2 n).2.2.2 n') := hnx5
          have HR0 : Hid (r.1 ≠ 0) := h0
          obtain ⟨R, hR⟩ : ∃ R, R = rescueM m1 r.2 n := ⟨_, rfl⟩
          rw [← hR] at HX1 HRs HNx
          clear h0 h5 HR5 HXX ho5 hrd5 hnx5 hR
          by_cases hR0 : R.2.1 = 0
          · obtain ⟨n', hn', hV'⟩ := HNx.out hR0
            have HN' : Hid (ExtV data f R.2.2.1 R.2.2.2 n' ∧ X = extM data f R.2.2.1 R.2.2.2 n' ∧ R.2.1 = 0) := ⟨hV', by rw [HX1.out, if_pos hR0, hn', Int.toNat_natCast], hR0⟩
            rw [hn'] at HRs
            clear hn' hV' hR0 HX1 HNx
            go_wp2_with (first
              | (go_at_call 170; refine kp.mono ?_; rintro e w5 ⟨v, rfl, he, hl, hk, hf⟩; obtain ⟨B, rfl⟩ := he.some HR0.out; have kI := Is_any he 5 (by decide); rw [e5] at kI; have HL : Hid (MLies base w5 m1 r.2 ∧ Kept c1.foot wr w5 ∧ r.2.foot = c1.foot) := ⟨hl, hk, hf⟩; clear he hl hk hf)
              | (go_at_call 62; refine kI.mono ?_; rintro e w6 ⟨rfl, rfl⟩)
              | (go_at_call 222; refine (HRs.out _ HL.out.1).mono ?_; rintro e w7 ⟨v7, rfl, he7, hl7, hk7, hf7, hp7, hb7⟩; rw [HN'.out.2.2] at he7; obtain rfl := he7.nil; have HL7 : Hid (MLies base w7 R.2.2.1 R.2.2.2 ∧ Kept (MFoot m1 r.2) w5 w7 ∧ R.2.2.2.foot = r.2.foot ∧ R.2.2.1.p = m1.p ∧ R.2.2.1.bb = m1.bb) := ⟨hl7, hk7, hf7, hp7, hb7⟩; clear he7 hl7 hk7 hf7 hp7 hb7))
            go_roundg f
            case measure => omega
            case rel =>
              obtain ⟨y1, y2, y3, y4, y5⟩ := HL7.out
              have hmf := MFoot_eq HEx.out.p HEx.out.bb (HL.out.2.2.trans HEx.out.ft)
              exact ⟨n', rfl, ⟨R.2.2.1, R.2.2.2, ⟨y1, y4.trans HEx.out.p, y5.trans HEx.out.bb, (HEx.out.kp.trans (HL.out.2.1.mono fun _ hk => .inr (.inr (HEx.out.ft ▸ hk)))).trans (hmf ▸ y2), (y3.trans HL.out.2.2).trans HEx.out.ft⟩, HN'.out.2.1, HN'.out.1⟩⟩
          · have HN' : Hid (X = (R.2.1, R.2.2) ∧ R.2.1 ≠ 0) := ⟨by rw [HX1.out, if_neg hR0], hR0⟩
            clear hR0 HX1 HNx
            go_wp2_with (first
              | (go_at_call 170; refine kp.mono ?_; rintro e w5 ⟨v, rfl, he, hl, hk, hf⟩; obtain ⟨B, rfl⟩ := he.some HR0.out; have kI := Is_any he 5 (by decide); rw [e5] at kI; have HL : Hid (MLies base w5 m1 r.2 ∧ Kept c1.foot wr w5 ∧ r.2.foot = c1.foot) := ⟨hl, hk, hf⟩; clear he hl hk hf)
              | (go_at_call 62; refine kI.mono ?_; rintro e w6 ⟨rfl, rfl⟩)
              | (go_at_call 222; refine (HRs.out _ HL.out.1).mono ?_; rintro e w7 ⟨v7, rfl, he7, hl7, hk7, hf7, hp7, hb7⟩; obtain ⟨B7, rfl⟩ := he7.some HN'.out.2; have HL7 : Hid (MLies base w7 R.2.2.1 R.2.2.2 ∧ Kept (MFoot m1 r.2) w5 w7 ∧ R.2.2.2.foot = r.2.foot ∧ R.2.2.1.p = m1.p ∧ R.2.2.1.bb = m1.bb ∧ ErrV w7 (.iface 283 (.pointer (some ⟨B7, 0, none⟩))) R.2.1) := ⟨hl7, hk7, hf7, hp7, hb7, he7⟩; clear he7 hl7 hk7 hf7 hp7 hb7))
            go_ret
            obtain ⟨y1, y2, y3, y4, y5, y6⟩ := HL7.out
            have hmf := MFoot_eq HEx.out.p HEx.out.bb (HL.out.2.2.trans HEx.out.ft)
            rw [HN'.out.1]
            exact ⟨_, rfl, y6, ⟨y1, y4.trans HEx.out.p, y5.trans HEx.out.bb, (HEx.out.kp.trans (HL.out.2.1.mono fun _ hk => .inr (.inr (HEx.out.ft ▸ hk)))).trans (hmf ▸ y2), (y3.trans HL.out.2.2).trans HEx.out.ft⟩⟩
        · have e5 : (r.1 == 5) = false := by simp [h5]
          have HX1 : Hid (X = (r.1, m1, r.2) ∧ r.1 ≠ 0) := ⟨by rw [HXX.out, if_neg h0, if_neg h5], h0⟩
          clear h0 h5 HR5 HXX
          go_wp2_with (first
            | (go_at_call 170; refine kp.mono ?_; rintro e w5 ⟨v, rfl, he, hl, hk, hf⟩; obtain ⟨B, rfl⟩ := he.some HX1.out.2; have kI := Is_any he 5 (by decide); rw [e5] at kI; have HL : Hid (MLies base w5 m1 r.2 ∧ Kept c1.foot wr w5 ∧ r.2.foot = c1.foot ∧ ErrV w5 (.iface 283 (.pointer (some ⟨B, 0, none⟩))) r.1) := ⟨hl, hk, hf, he⟩; clear he hl hk hf)
            | (go_at_call 62; refine kI.mono ?_; rintro e w6 ⟨rfl, rfl⟩))
          go_ret
          rw [HX1.out.1]
          exact ⟨_, rfl, HL.out.2.2.2, ⟨HL.out.1, HEx.out.p, HEx.out.bb, HEx.out.kp.trans (HL.out.2.1.mono fun _ hk => .inr (.inr (HEx.out.ft ▸ hk))), HL.out.2.2.1.trans HEx.out.ft⟩⟩
end Go.Proofs.YtkfecngkdlajgaaGreatDoor
namespace Go.Proofs.YtkfecngkdlajgaaGreatDoor
open Go.RowKit
set_option maxRecDepth 10000

@[local go_sem] theorem run_store_func3 (P : Program) (w : World) (a : Addr) (m : Mode) (f : Fn) (x y : Array Value) : (store a (.func f x y) m).run P w = stored P w a (.func f x y) m := run_store P w a _ m rfl
theorem grown_at (leb : Int) (a : Option Addr) (n cap : Nat) (w : World) :
    Calls Tryz.prog 221 #[.int .i64 leb, .slice a n cap] w fun e w' => ∃ B, e = .returned (.agg #[.int .i64 leb, .int .i64 1, .int .i64 0, .func (.func 223) #[] #[.pointer (some ⟨B, 0, none⟩)]]) ∧ w'.cell? ⟨B, 0, none⟩ = some (.slice a n cap) ∧ Below w.heap.size w w' ∧ w.heap.size ≤ B := by
  go_enter Tryz.func221, Tryz.ntmps221
  go_wp2
  refine bodyPost_ret (v := .agg #[.int .i64 leb, .int .i64 1, .int .i64 0, .func (.func 223) #[] #[.pointer (some ⟨w.heap.size, 0, none⟩)]]) ?_ rfl ⟨w.heap.size, rfl, ?_, Below.after (below_new w _) (below_new _ _), Nat.le_refl _⟩
  · simp [results, Tryz.f221, go_sem]
  · exact ((Row.new w [.slice a n cap] 56).later (below_new _ _)).cell (i := 0) rfl
theorem MFoot_new {base : Nat} {w : World} {m : Mg} {c : CS} (h : MLies base w m c) {B : Nat} (hB : w.heap.size ≤ B) : ¬ MFoot m c B := fun hf => by
  rcases hf with rfl | rfl | hf
  · have := h.box.lt; omega
  · have := h.row.lt; omega
  · have := h.chip.foot_lt hf; omega
theorem feeds_grown {base : Nat} {w w1 : World} {m : Mg} {c : CS} (h : MLies base w m c) (B k cap : Nat) (a : Option Addr) (data : List Nat) (hk : k = data.length) (hd : Dt (MFoot m c) w1 a data) (hB : w1.cell? ⟨B, 0, none⟩ = some (.slice a k cap)) (hBw : w.heap.size ≤ B) (leb p q : Int) :
    Feeds base w1 m c none [data] (.agg #[.int .i64 leb, .int .i64 p, .int .i64 q, .func (.func 223) #[] #[.pointer (some ⟨B, 0, none⟩)]]) := by
  intro W m' c' n i x hW h2 h3 hkp hp hon' hx
  have hi : i = 0 ∧ x = data := by
    cases i with
    | zero => simp at hx; exact ⟨rfl, hx.symm⟩
    | succ i => simp at hx
  obtain ⟨rfl, rfl⟩ := hi
  have hd' := hd.kept hkp
  have hf : x = [] ∨ ∀ b o, a = some ⟨b, o, none⟩ → ¬ c'.foot b := by rw [hp.foot]; exact hd'.foot
  have := transfer_grown hW n B 0 (by omega) leb p q a k cap x (cell_kept hkp (MFoot_new h hBw) hB) hk hd'.brow hd'.lt hf
  rw [h2] at this
  exact this
set_option maxHeartbeats 2000000 in
theorem mextend_new {base : Nat} {w : World} {m : Mg} {c : CS} (h : MLies base w m c) (leb dc : Nat) (a : Option Addr) (data : List Nat) (hd : Dt (MFoot m c) w a data) (hf : findI m.bl (leb : Nat) = -1) (hs : m.seq + 258 < 18446744073709551616) (hle : leb ≤ 255) (hz : 64 ≤ c.gz) :
    Calls Tryz.prog 213 #[.pointer (some ⟨m.p, 0, none⟩), .int .i64 (leb : Nat), .slice a data.length dc] w (EPost base w m c (settleM leb 0 [data] m c).2) := by
  obtain ⟨_, c1, _, _⟩ := h.cells
  have hgs := h.chip.good.gs
  have hlen := h.len
  have k1 := find_any m.bl.length m.bcap m.bl (some ⟨m.bb, 0, none⟩) (leb : Nat) rfl (by omega) w h.lrow
  rw [hf] at k1
  have kg := fun W => grown_at (leb : Nat) a data.length dc W
  have HSt : Hid (∀ W1 W B, Below w.heap.size w W1 → Below W1.heap.size W1 W → W.cell? ⟨B, 0, none⟩ = some (.slice a data.length dc) → W1.heap.size ≤ B → Calls Tryz.prog 78 #[.pointer (some ⟨m.p, 0, none⟩), .agg #[.int .i64 (leb : Nat), .int .i64 1, .int .i64 0, .func (.func 223) #[] #[.pointer (some ⟨B, 0, none⟩)]]] W (LPost base W m c none (settleM leb 0 [data] m c))) := fun W1 W B hb1 hb h1 h3 => by
    have hF := feeds_grown (w := W1) (w1 := W) (h.later hb1) B data.length dc a data rfl (hd.kept (.of_below (Below.after hb1 hb))) h1 h3 leb 1 0
    have hly : Ly base W m c none W m c := ⟨h.later (Below.after hb1 hb), rfl, rfl, Kept.refl _ _, Pass.refl _ _, fun k hk => by cases hk⟩
    exact msettle_any hly leb 0 [data] (.func (.func 223) #[] #[.pointer (some ⟨B, 0, none⟩)]) hs hle (by omega) hz (by simp) hF
  obtain ⟨S, hS⟩ : ∃ S, S = settleM leb 0 [data] m c := ⟨_, rfl⟩
  rw [← hS] at HSt ⊢
  obtain ⟨dl, hdl⟩ : ∃ dl, dl = data.length := ⟨_, rfl⟩
  rw [← hdl] at HSt kg ⊢
  clear h hgs hlen hf hd hs hle hz hS hdl
  go_enter Tryz.func213, Tryz.ntmps213
  go_wp2_with (first
    | (go_at_call 77; refine k1.mono ?_; rintro e w1 ⟨rfl, hb⟩; have HB1 : Hid (Below w.heap.size w w1) := hb; clear hb c1 k1)
    | (go_at_call 221; refine (kg w1).mono ?_; rintro e w2 ⟨B, rfl, q1, q2⟩; have HQ : Hid (Below w1.heap.size w1 w2) := q2.1; have kS := HSt.out w1 w2 B HB1.out q2.1 q1 q2.2; clear q1 q2)
    | (go_at_call 78; refine kS.mono ?_; rintro e w3 ⟨v, rfl, he, hl⟩; have HL : Hid (Ly base w2 m c none w3 S.2.2.1 S.2.2.2 ∧ ErrV w3 v S.2.1) := ⟨hl, he⟩; clear he hl))
  go_ret
  exact ⟨v, rfl, HL.out.2, ⟨HL.out.1.ml, HL.out.1.p, HL.out.1.bb, (Kept.of_below (Below.after HB1.out HQ.out)).trans HL.out.1.kp, HL.out.1.ps.foot⟩⟩
end Go.Proofs.YtkfecngkdlajgaaGreatDoor
namespace Go.Proofs.YtkfecngkdlajgaaGreatDoor
open Go.RowKit
set_option maxRecDepth 10000

set_option maxHeartbeats 1000000 in
theorem extV_ok (data : List Nat) : ∀ (fuel t : Nat) (m : Mg) (c : CS) (P : List (List (List Nat))) (n : Nat) (x : Bl) (p : List (List Nat)), MRep t m c P → m.bl[n]? = some x → x.st = 4 → P[n]? = some p → 2 + p.length < c.gp → data.length ≤ c.gz → c.fs.length < fuel → t < 4611686018427387904 → ExtV data fuel m c n
  | 0, t, m, c, P, n, x, p, h, hx, hs, hp, hl, hd, hf, ht => by omega
  | fuel + 1, t, m, c, P, n, x, p, h, hx, hs, hp, hl, hd, hf, ht => by
    obtain ⟨b, p0, hb, hp0, hk, hpl, hnx⟩ := h.mapped hx hs
    rw [hp] at hp0
    cases hp0
    obtain ⟨k, leb, seq, must, rfl, k1, k2, k3, k4, k5, k6, k7, k8, k9, k10⟩ := bok_mapped hk hs
    have hnl : n < c.gb := by rw [← h.rb.lb]; exact (List.getElem?_eq_some_iff.1 hx).1
    have e2 : ((2 + p.length : Nat) : Int) = 2 + (p.length : Int) := by omega
    have tls : ∀ (v : Pg) (nx : Int) i l, i < 2 + p.length → Tl c.gz b i l → Tl c.gz { b with pgs := b.pgs.set (2 + p.length) v, next := nx } i l := fun v nx i l hi ⟨q, h1, h2⟩ => ⟨q, by show (b.pgs.set _ _)[i]? = _; rw [List.getElem?_set_ne (by omega)]; exact h1, h2⟩
    have hgeo := h.rb.geo
    have hbud := h.bud
    refine ⟨leb, p.length, _, hx, by show (4 : Int) ≠ 2; decide, rfl, rfl, by omega, k5, by omega, hgeo.2.2.2.2.1, fun h5 => ?_⟩
    rcases progM_cases (p := 2 + p.length) (d := data) h.rb.on hb k3 (by rw [hnx, e2]) hl hd h.rb.fs with ⟨c1, e1, u1⟩ | ⟨c1, f, r, hfr, e1, u1⟩
    · rw [e2] at e1
      rw [e1] at h5
      exact absurd h5 (by show (0 : Int) ≠ 5; decide)
    · rw [e2] at e1
      rw [e1]
      simp only
      have g := u1.gm (fun q => absurd q.1 (by rw [hfr]; simp))
      have sm := u1.same
      have hfl : c.fs.length = r.length + 1 := by rw [hfr]; simp
      have hr1 : RB m.bl c1 P := by
        have hroom := h.rb.room
        have e3 : m.bl.set n ⟨4, k, leb, p.length, seq, false⟩ = m.bl := set_self hx
        have e4 : P.set n p = P := set_self hp
        have := h.rb.upd (x := ⟨4, k, leb, p.length, seq, false⟩) (p := p) hx u1 (BOk.mapped k leb seq must p k1 k2 k3 (tls _ _ _ _ (by omega) k4) k5 k6 k7 (tls _ _ _ _ (by omega) k8) (fun i l hi => tls _ _ _ _ (by have := (List.getElem?_eq_some_iff.1 hi).1; omega) (k9 i l hi)) k10) (by simpa using hpl) (fun f hx => by rw [hfr]; simp [hx]) (by rw [e3]; omega)
        rwa [e3, e4] at this
      have hcp : copyL c1 n p.length = p := copyL_eq hr1.on (u1.at hb) (fun i l hi => by rw [g.gz]; exact tls _ _ _ _ (by have := (List.getElem?_eq_some_iff.1 hi).1; omega) (k9 i l hi))
      have hb0 := h.bud
      obtain ⟨n', m2, c2, P2, s1, s2, s3, s4, s5, s6, s7⟩ := settle_ok (leb := leb) (must := p.length) (L := p) (m := m) hr1 k5 (Nat.le_refl _) (by rw [g.gp]; omega) (fun d hd => by rw [k10 d hd, g.gz]; exact Nat.le_refl _) (by
        have := free_room hr1 h.uq h.sp (fun i x hi h4 => by rw [g.gr, g.gb]; exact h.lb i x hi h4)
        omega) (by rw [sm.2.2.2.2.2.1]; omega)
      obtain ⟨hne, a1, a2, a3⟩ := s3.ne hx (by show (4 : Int) ≠ 2; decide)
      have a3' := (a3 (by show (4 : Int) ≠ 1; decide)).trans (u1.at hb)
      have u3 := mark_upd0 a3' s2.on
      have g3 := u3.gm0
      have hrs : rescueM m c1 n = ((n' : Int), 0, m2.put n badBl, (c2.mark n).2) := by
        unfold rescueM
        rw [hx]
        simp only [Option.getD_some, Int.toNat_natCast]
        rw [hcp, s1]
        simp only [if_pos]
      have hc1 := cntS_set (st := 1) a1 badBl
      simp [badBl] at hc1
      have hr3 : RB (m2.bl.set n badBl) (c2.mark n).2 (P2.set n []) := s2.upd a1 u3 (.bad rfl) (by show (b.pgs.set _ _).length = _; rw [s5.gp, g.gp]; simpa using hpl) (fun _ q => q) (by
        have hroom := h.rb.room
        rw [sm.2.2.2.2.2.1] at s7
        rw [s5.gr, g.gr]
        simp [badBl]
        omega)
      have hnl2 : n < m2.bl.length := (List.getElem?_eq_some_iff.1 a1).1
      have hself : (m2.bl.set n badBl)[n]? = some badBl := List.getElem?_set_self hnl2
      have hoth : ∀ (j : Nat) y, (m2.bl.set n badBl)[j]? = some y → y.st ≠ 1 → j ≠ n ∧ m2.bl[j]? = some y := fun j y hy h1 => by
        by_cases hj : j = n
        · subst hj
          rw [hself] at hy
          cases hy
          exact absurd rfl h1
        · exact ⟨hj, by rwa [List.getElem?_set_ne (fun e => hj e.symm)] at hy⟩
      obtain ⟨kk, ss, z1, z2, z3, z4⟩ := s3.new
      have hn3 : (m2.bl.set n badBl)[n']? = some ⟨4, kk, leb, p.length, ss, false⟩ := by
        rw [List.getElem?_set_ne hne]; exact z2
      have hfp : p.map (fillP c.gz) = p := by
        have : ∀ l ∈ p, fillP c.gz l = id l := fun l hl => fillP_full (k10 l hl)
        rw [List.map_congr_left this, List.map_id]
      have hpn : (P2.set n [])[n']? = some p := by
        rw [List.getElem?_set_ne hne, s3.pg, g.gz, hfp]
      obtain ⟨uq3, hc3⟩ := shift (P := P) (P' := P2.set n []) h.uq h.len (leb : Int) n' ⟨4, kk, leb, p.length, ss, false⟩ p hn3 rfl rfl hpn
        (fun j y hj hy h4 => by
          obtain ⟨q1, q2⟩ := hoth j y hy (by rw [h4]; decide)
          obtain ⟨r1, r2, _⟩ := s3.back hj q2 (by rw [h4]; decide)
          refine ⟨r1, fun e => q1 (h.uq j n y _ r1 hx h4 rfl e), ?_⟩
          rw [List.getElem?_set_ne (fun e => q1 e.symm)]; exact r2)
        (fun j y hy h4 he => by
          obtain ⟨q1, q2, _⟩ := s3.ne hy (by rw [h4]; decide)
          have hj : j ≠ n := by
            rintro rfl
            rw [hx] at hy
            cases hy
            exact he rfl
          exact ⟨q1, by rw [List.getElem?_set_ne (fun e => hj e.symm)]; exact q2⟩)
      have hr3' : MRep t (m2.put n badBl) (c2.mark n).2 (P2.set n []) := by
        refine ⟨hr3, ?_, uq3, ?_, ?_, ?_, ?_, ?_, s3.st.2.2.2.trans h.lost, by rw [g3.wrong, s5.wrong, g.wrong]; exact h.wrong⟩
        · intro i b' y q _ hb' hy hq h4
          obtain ⟨q1, q2⟩ := hoth i y hy (by rw [h4]; decide)
          rw [u3.other q1] at hb'
          rw [List.getElem?_set_ne (fun e => q1 e.symm)] at hq
          by_cases hi : i = n'
          · subst hi
            obtain ⟨bb, w1, w2⟩ := s3.bk
            rw [w1] at hb'
            rw [s3.pg] at hq
            cases hb'
            cases hq
            rw [w2, List.length_map]
          · obtain ⟨r1, r2, r3⟩ := s3.back hi q2 (by rw [h4]; decide)
            rw [r3, u1.other q1] at hb'
            rw [r2] at hq
            exact h.wh i b' y q (by simp) hb' r1 hq h4
        · intro i y hy h3
          obtain ⟨q1, q2⟩ := hoth i y hy (by rw [h3]; decide)
          by_cases hi : i = n'
          · subst hi
            rw [z2] at q2
            cases q2
            exact absurd h3 (by show (4 : Int) ≠ 3; decide)
          · exact h.sp i y (s3.back hi q2 (by rw [h3]; decide)).1 h3
        · intro i y hy h4
          rw [g3.gr, g3.gb, s5.gr, s5.gb, g.gr, g.gb]
          obtain ⟨q1, q2⟩ := hoth i y hy (by rw [h4]; decide)
          by_cases hi : i = n'
          · subst hi
            rw [z2] at q2
            cases q2
            have := h.lb n _ hx rfl
            exact this
          · exact h.lb i y (s3.back hi q2 (by rw [h4]; decide)).1 h4
        · intro i y hy h4
          obtain ⟨q1, q2⟩ := hoth i y hy (by rw [h4]; decide)
          show y.seq ≤ (m2.seq : Int)
          by_cases hi : i = n'
          · subst hi
            rw [z2] at q2
            cases q2
            show (ss : Int) ≤ _
            omega
          · have := h.sq i y (s3.back hi q2 (by rw [h4]; decide)).1 h4
            omega
        · intro i y hy
          by_cases h1 : y.st = 1
          · have hil : i < (c2.mark n).2.gb := by rw [← hr3.lb]; exact (List.getElem?_eq_some_iff.1 hy).1
            obtain ⟨b', y', q, _, hy', _, hk', _⟩ := hr3.at hil
            have : y' = y := Option.some.inj (hy'.symm.trans hy)
            subst this
            cases hk' with
            | bad _ => show (0 : Int) ≤ _; omega
            | free => simp at h1
            | spoilt => simp at h1
            | mapped => simp at h1
          · obtain ⟨q1, q2⟩ := hoth i y hy h1
            by_cases hi : i = n'
            · subst hi
              rw [z2] at q2
              cases q2
              have := h.cb _ _ z1
              exact this
            · exact h.cb i y (s3.back hi q2 h1).1
        · rw [u3.same.2.2.2.2.2.1]
          show m2.seq + _ ≤ _
          rw [sm.2.2.2.2.2.1] at s4
          omega
      refine ⟨hr1.on, fun i hi => ?_, fun _ => ⟨n', by rw [hrs], ?_⟩⟩
      · have ht1 := (tls ⟨2, []⟩ (((2 + p.length : Nat) : Int) + 1) _ _ (by omega) (k9 i _ (List.getElem?_eq_getElem hi)))
        rw [← g.gz] at ht1
        have := ht1.read hr1.on (u1.at hb)
        rw [show ((2 + i : Nat) : Int) = 2 + (i : Int) by omega] at this
        rw [this]
      · rw [hrs]
        exact extV_ok data fuel t (m2.put n badBl) (c2.mark n).2 (P2.set n []) n' _ p hr3' hn3 rfl hpn (by rw [g3.gp, s5.gp, g.gp]; exact hl) (by rw [g3.gz, s5.gz, g.gz]; exact hd) (by rw [u3.same.2.2.2.2.2.1]; rw [sm.2.2.2.2.2.1] at s6; omega) ht
end Go.Proofs.YtkfecngkdlajgaaGreatDoor
