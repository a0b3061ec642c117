/-
  Sync of a log.
  Open of a log: what lies in memory behind it.
-/
import Derived.Test.YtkfecngkdlajgaaGreatDoorQF
import Derived.Test.YtkfecngkdlajgaaGreatDoorQI
namespace Go.Proofs.YtkfecngkdlajgaaGreatDoor
open Go.RowKit Go.Extern.Stop Go.Stop Go.Extern
set_option maxRecDepth 10000

set_option maxHeartbeats 2000000 in
theorem sync_none {base t : Nat} {w : World} {m : Mg} {c : CS} {P : List (List (List Nat))} {l : Lm} (h : ML base t w m c P l) (hk : keptN c.gz l = 0) :
    Calls Tryz.prog 108 #[.pointer (some ⟨l.p, 0, none⟩)] w fun e w' => e = .returned (.int .i64 0) ∧ Below w.heap.size w w' := by
  have k := kept_any h
  rw [hk] at k
  clear h hk
  go_enter Tryz.func108, Tryz.ntmps108
  go_wp2_with (go_at_call 151; refine k.mono ?_; rintro e w1 ⟨⟨a1, k1, rfl⟩, hb⟩; have HB : Hid (Below w.heap.size w w1) := hb; clear hb)
  go_ret
  exact ⟨rfl, HB.out⟩
theorem SdP.app {base t : Nat} {w w9 : World} {m : Mg} {c : CS} {P : List (List (List Nat))} {l : Lm} {d : List Nat} (hM : ML base t w m c P l) (hsp : l.sp = false) (h : SdP base t w m c P l d (d.length / c.gz) w9)
    (hd : ∃ r, d = l.data ++ r) (hmd : d.length % c.gz ≠ c.gz - 1) (hfr : FrOk d 0 d.length l.fs) : AppP base t w m c P l d l.fs w9 := by
  obtain ⟨X, wa, m', c', P', h1, h2, h3, h4⟩ := h
  exact ⟨m', c', P', l.fv, hM.after hsp h1 hd hmd hfr h2 h3 (fun k hk => hM.ge k hk), h1.gm, h1.p, h1.ft, h4, h1.els, fun k e => .inl e⟩
set_option maxHeartbeats 8000000 in
theorem sync_yes {base t : Nat} {w : World} {m : Mg} {c : CS} {P : List (List (List Nat))} {l : Lm} (h : ML base t w m c P l) (hsp : l.sp = false) (ht : t < 1900000000) (hk : 1 ≤ keptN c.gz l) :
    Calls Tryz.prog 108 #[.pointer (some ⟨l.p, 0, none⟩)] w fun e w' => e = .returned (.int .i64 0) ∧ AppP base t w m c P l (synD c.gz l.data) l.fs w' := by
  have kK := kept_any h
  obtain ⟨_, hd1, hd2, _⟩ := h.size
  have hg := h.ms.rp.rb.geo
  have HM : Hid (ML base t w m c P l) := h
  have HSp : Hid (∀ X, Below w.heap.size w X → Calls Tryz.prog 46 #[.pointer (some ⟨m.p, 0, none⟩)] X fun e w' => e = .returned (.bool false) ∧ Below X.heap.size X w') := fun X hb => by
    have := mspent_any (h.later hb).ms.ml
    rw [h.ms.spent] at this
    exact this
  have HEn : Hid (∀ X d, LWr base t w m c P l d X → Calls Tryz.prog 147 #[.pointer (some ⟨l.p, 0, none⟩)] X fun e w' => e = .returned (.int .i64 (l.data.length : Nat)) ∧ X = w') := fun X d hb => end_any hb.la
  have HPg : Hid (∀ X d, LWr base t w m c P l d X → Calls Tryz.prog 67 #[.pointer (some ⟨m.p, 0, none⟩)] X fun e w' => e = .returned (.int .i64 (c.gz : Nat)) ∧ Below X.heap.size X w') := fun X d hb => mpage_any hb.ms.ml
  obtain ⟨n0, hn0⟩ : ∃ n, n = l.data.length := ⟨_, rfl⟩
  obtain ⟨gz, hgz⟩ : ∃ gz, gz = c.gz := ⟨_, rfl⟩
  have HN0 : Hid (n0 = l.data.length ∧ gz = c.gz) := (⟨hn0, hgz⟩ : _ ∧ _)
  have hga : 64 ≤ gz ∧ gz ≤ 512 ∧ 8 ≤ c.gp ∧ c.gp ≤ 64 := by omega
  obtain ⟨e2, he2⟩ : ∃ e2, e2 = rup gz n0 := ⟨_, rfl⟩
  have hb1 := rup_ge (page := gz) n0 (by omega)
  have hb2 : rup gz n0 ≤ gz * (c.gp - 2) := rup_fit (by omega) (by rw [Nat.mul_comm, hgz, ← h.cap]; omega)
  have hcap : gz * (c.gp - 2) = l.dcap := by rw [h.cap, Nat.mul_comm, hgz]
  have hm0 := rup_mod (page := gz) (by omega) n0
  have hl2 := synD_length (page := gz) (by omega) l.data
  rw [hcap, ← he2] at hb2
  rw [← he2] at hb1 hm0
  rw [← hn0, ← he2] at hl2
  have HD : Hid (synD gz l.data = l.data ++ List.replicate (e2 - n0) 255 ∧ (synD gz l.data).length = e2 ∧ e2 % gz = 0) := by
    refine (⟨?_, hl2, hm0⟩ : _ ∧ _ ∧ _)
    unfold synD; rw [he2, hn0]
  have HE : Hid (n0 ≤ e2 ∧ e2 ≤ l.dcap ∧ l.dcap ≤ 31744) := (⟨hb1.1, hb2, hd2⟩ : _ ∧ _)
  rw [← hn0] at HEn
  rw [← hgz] at HPg
  have q2 : (e2 : Int) ≤ 31744 := by omega
  have HSP : Hid (l.sp = false) := hsp
  have HFl : Hid (∀ X, LWr base t w m c P l l.data X → Calls Tryz.prog 148 #[.slice (some ⟨l.db, 0, none⟩) n0 l.dcap, .int .i64 (e2 : Nat)] X fun e w' => e = .returned (.slice (some ⟨l.db, 0, none⟩) e2 l.dcap) ∧ LWr base t w m c P l (synD gz l.data) w') := fun X hX => by
    have k := filled_any l.db l.dcap l.data e2 X hX.la.dat (by omega) hb2 (by omega)
    rw [← HN0.out.1] at k
    refine k.mono ?_
    rintro e w' ⟨rfl, ho, hk⟩
    refine ⟨rfl, hX.more HM.out.ge hk ?_ ?_⟩
    · rw [HD.out.2.1, HD.out.1]; exact ho
    · rw [HD.out.1]
      intro x hx
      rcases List.mem_append.1 hx with q | q
      · exact hX.la.lt x q
      · have := (List.mem_replicate.1 q).2; omega
  have HSt : Hid (∀ X, LWr base t w m c P l (synD gz l.data) X → Calls Tryz.prog 150 #[.pointer (some ⟨l.p, 0, none⟩), .slice (some ⟨l.db, 0, none⟩) e2 l.dcap] X fun e w' => e = .returned (.int .i64 0) ∧ SdP base t w m c P l (synD gz l.data) ((synD gz l.data).length / c.gz) w') := fun X hX => by
    have hlo := HM.out.lo HSP.out
    have k := settle_any hX.ms hX.la HM.out.mp HM.out.ap HM.out.leb HM.out.cap HM.out.np (by rw [HD.out.2.1]; omega) ht
    rw [HD.out.2.1] at k
    refine k.mono ?_
    rintro e w' ⟨rfl, hs⟩
    refine ⟨rfl, hX.settled HM.out.ge HM.out.ap ?_⟩
    rw [HD.out.2.1]
    exact hs
  have kB : ∀ X, Calls Tryz.prog 152 #[.int .i64 (n0 : Nat), .int .i64 (gz : Nat)] X fun e w' => e = .returned (.int .i64 (e2 : Nat)) ∧ X = w' := fun X => by
    have k := round_any n0 gz X (by omega) (by omega) (by omega)
    rw [← he2] at k
    exact k
  have HMP : Hid (l.mp = m.p) := h.mp
  obtain ⟨kn, hkn⟩ : ∃ kn, kn = keptN c.gz l := ⟨_, rfl⟩
  rw [← hkn] at kK hk
  have hk' : (1 : Int) ≤ (kn : Int) := by omega
  have hk2 : ¬ (kn : Int) = 0 := by omega
  have hkn2 : kn ≤ n0 := by rw [hkn, hn0]; unfold keptN; omega
  clear h hd1 hd2 hg hn0 hgz he2 hb1 hb2 hcap hga hsp hm0 hl2 hkn
  go_enter Tryz.func108, Tryz.ntmps108
  go_wp2_with (first
    | (go_at_call 151; refine kK.mono ?_; rintro e w1 ⟨⟨a1, k1, rfl⟩, hb1⟩; have B1 : Hid (Below w.heap.size w w1) := hb1; have c0 := (HM.out.later hb1).la.cells.1; rw [HMP.out] at c0; clear hb1)
    | (go_at_call 46; refine (HSp.out _ B1.out).mono ?_; rintro e w2 ⟨rfl, hb2⟩; have HW2 : Hid (LWr base t w m c P l l.data w2.drew) := HM.out.wr (Below.after B1.out hb2).drew; have b0 := HW2.out.la.cells.1; have b2 := HW2.out.la.cells.2.2.1; rw [HMP.out] at b0; rw [← HN0.out.1] at b2; have b3 := (HM.out.later (Below.after B1.out hb2)).la.cells.1; rw [HMP.out] at b3; clear c0))
  go_region_with (first
    | (go_at_call 147; refine (HEn.out _ _ HW2.out).mono ?_; rintro e w3 ⟨rfl, rfl⟩)
    | (go_at_call 67; refine (HPg.out _ _ HW2.out).mono ?_; rintro e w4 ⟨rfl, hb4⟩; have HW4 : Hid (LWr base t w m c P l l.data w4) := HW2.out.later hb4; have d0 := HW4.out.la.cells.1; have d2 := HW4.out.la.cells.2.2.1; rw [HMP.out] at d0; rw [← HN0.out.1] at d2; clear hb4)
    | (go_at_call 152; refine (kB _).mono ?_; rintro e w5 ⟨rfl, rfl⟩)
    | (go_at_call 148; refine (HFl.out _ HW4.out).mono ?_; rintro e w6 ⟨rfl, hw6⟩; have HW6 : Hid (LWr base t w m c P l (synD gz l.data) w6) := hw6; have g0 := HW6.out.la.cells.1; rw [HMP.out] at g0; clear hw6)
    | (go_at_call 150; refine (HSt.out _ HW6.out).mono ?_; rintro e w7 ⟨rfl, hs7⟩; have HS7 : Hid (SdP base t w m c P l (synD gz l.data) ((synD gz l.data).length / c.gz) w7) := hs7; have s0 := HS7.out.la.cells.1; rw [show (l.nu (synD gz l.data) l.fs l.fv ((synD gz l.data).length / c.gz)).p = l.p from rfl, show (l.nu (synD gz l.data) l.fs l.fv ((synD gz l.data).length / c.gz)).mp = l.mp from rfl, HMP.out] at s0; clear hs7))
  all_goals
    go_wp2
    go_ret
    refine ⟨by rfl, ?_⟩
    rw [← HN0.out.2]
    refine HS7.out.app HM.out HSP.out ⟨_, HD.out.1⟩ ?_ ?_
    · rw [HD.out.2.1, ← HN0.out.2, HD.out.2.2]; have := HM.out.ms.rp.rb.geo; have := HN0.out.2; omega
    · rw [HN0.out.2]; exact FrOk.syn (by have := HM.out.ms.rp.rb.geo; omega) HM.out.fr
end Go.Proofs.YtkfecngkdlajgaaGreatDoor
namespace Go.Proofs.YtkfecngkdlajgaaGreatDoor
open Go.RowKit Go.Shelf Go.Extern.Stop Go.Stop Go.Extern
set_option maxRecDepth 10000

theorem wpIn_then_false {F : Fence} {n : Nat} {P : Program} {c : Code} {K : Act → World → Prop} {Q : Exit → Act → World → Prop} {a : Act} {w : World}
    (h : Code.wpIn F n P c (Exit.then K (fun _ _ _ => False)) a w) : Code.wpIn F n P c (Exit.then K Q) a w :=
  Code.wpIn_mono (fun e a w hq => by cases e <;> first | exact hq | exact hq.elim) h
theorem owns_cut {w : World} {base g D n : Nat} {xs : List Value} (h : w.ownsRow base 5 1 (.slice (some ⟨g, 0, none⟩) n D) n xs) (q : Nat) (hq : q ≤ n) : w.ownsRow base 5 1 (.slice (some ⟨g, 0, none⟩) q D) q (xs.take q) := by
  have hl := h.1
  refine ⟨by simp; omega, ?_⟩
  rcases h.2 with ⟨e, _⟩ | ⟨g', cap, cur, e, h1, h2, h3, h4, h5, h6⟩
  · cases e
  · cases e
    refine .inr ⟨g, D, cur, rfl, h1, h2, by omega, h4, h5, ?_⟩
    rw [← h6, List.take_take, Nat.min_eq_left (by omega), Nat.mul_one]
/-- What Open leaves: a log with these bytes and frames. -/
structure OpenP (base t : Nat) (w : World) (m : Mg) (c : CS) (P : List (List (List Nat))) (leb : Nat) (l : Lm) (w' : World) : Prop where
  ml : ML base t w' m c P l
  lb : l.leb = leb
  fs : l.fs = (rdr c.gz ((cont m.bl P leb).getD []).flatten (((cont m.bl P leb).getD []).flatten.length + 1) 0).1
  dl : l.data = ((cont m.bl P leb).getD []).flatten.take (rdr c.gz ((cont m.bl P leb).getD []).flatten (((cont m.bl P leb).getD []).flatten.length + 1) 0).2.1
  sp : l.sp = (rdr c.gz ((cont m.bl P leb).getD []).flatten (((cont m.bl P leb).getD []).flatten.length + 1) 0).2.2
  kp : Kept (fun k => k = m.p) w w'
  nu : ∀ k, LFoot l k → w.heap.size ≤ k
theorem opened {base t : Nat} {w w2 F : World} {m : Mg} {c : CS} {P : List (List (List Nat))} {leb D g p b0 np q : Nat} {b : List Nat} {fv : Value} {fs : List Fm} {sp : Bool} (h2 : Ldd base t w m c P D g b w2) (hmp : m.p < w.heap.size) (hb : b = ((cont m.bl P leb).getD []).flatten) (hD : D = (c.gp - 2) * c.gz) (hnp : np = ((cont m.bl P leb).getD []).length) (hleb : (leb : Int) + c.gr + 2 < c.gb)
    (hrow : Row F p [.pointer (some ⟨m.p, 0, none⟩), .int .i64 (leb : Nat), .slice (some ⟨g, 0, none⟩) q D, .int .i64 (np : Nat), fv, .bool sp] 166) (hfr : F.ownsRow b0 173 2 fv fs.length (fs.flatMap (fCells g))) (hbl : Below w2.heap.size w2 F) (hp : w2.heap.size ≤ p) (hb0 : w2.heap.size ≤ b0)
    (hfs : fs = (rdr c.gz b (b.length + 1) 0).1) (hq : q = (rdr c.gz b (b.length + 1) 0).2.1) (hsp : sp = (rdr c.gz b (b.length + 1) 0).2.2) : OpenP base t w m c P leb ⟨p, m.p, leb, g, D, fv, b.take q, fs, np, sp⟩ F := by
  have hgeo := h2.ms.rp.rb.geo
  have hpg := h2.ms.pages leb
  have hN : b.length = c.gz * np := by rw [hb, hnp]; exact flat_lens fun x hx => (hpg x hx).1
  have hlt : ∀ x ∈ b, x < 256 := fun x hx => by
    rw [hb] at hx
    obtain ⟨y, hy, hxy⟩ := List.mem_flatten.1 hx
    exact (hpg y hy).2 x hxy
  have ro := rdr_ok c.gz (by omega) b _ hN (b.length + 1) 0 (Nat.zero_le _) (by simp; omega)
  have ra := rdr_all c.gz (by omega) b _ hN (b.length + 1) 0 (Nat.zero_le _) (by omega)
  rw [← hfs, ← hq] at ro
  rw [← hsp, ← hq] at ra
  have hql : (b.take q).length = q := by rw [List.length_take]; have := ro.2.2.1; omega
  have hms := h2.ms.later hbl
  have hdat := owns_cut (lown_low (owns_later h2.row hbl) (Nat.zero_le w.heap.size)) q ro.2.2.1
  have hla : LAt F ⟨p, m.p, leb, g, D, fv, b.take q, fs, np, sp⟩ (b.take q) := by
    refine ⟨?_, ?_, lown_low hfr (Nat.zero_le _), fun x hx => hlt x (List.mem_of_mem_take hx)⟩
    · show Row F p [_, _, .slice _ (b.take q).length D, _, _, _] _
      rw [hql]; exact hrow
    · rw [hql, List.map_take]; exact hdat
  have hg := (lown_row h2.row (g := g) rfl).1
  have hw := h2.kp.size
  have hnu : ∀ k, LFoot ⟨p, m.p, leb, g, D, fv, b.take q, fs, np, sp⟩ k → w.heap.size ≤ k := by
    rintro k (e | e | e)
    · have : k = p := e
      omega
    · have : k = g := e
      omega
    · have := (lown_row hfr e).1
      omega
  have hlow := h2.ms.ml.low.1
  refine ⟨⟨hms, hla, rfl, fun k hk => ?_, fun k hk => ?_, hleb, hD, hnp, ?_, fun e => ?_, fun _ => ?_, fun e => ?_, ?_⟩, rfl, by rw [← hb]; exact hfs, by rw [← hb, ← hq], by rw [← hb]; exact hsp, h2.kp.trans (.of_below hbl), hnu⟩
  · obtain ⟨cs, t', hr, hn⟩ := hla.typed k hk
    exact hms.ml.off' hr hn
  · have := hnu k hk
    omega
  · show (b.take q).length % c.gz ≠ _
    rw [hql]; exact ro.2.2.2
  · have e2 := ra e
    show np * c.gz ≤ (b.take q).length ∧ (b.take q).length < (np + 1) * c.gz
    have e3 : np * c.gz = c.gz * np := Nat.mul_comm _ _
    exact ⟨by rw [hql, e2, hN, e3]; exact Nat.le_refl _, by rw [hql, e2, hN, Nat.add_mul, Nat.one_mul, e3]; omega⟩
  · show (b.take q).length ≤ np * c.gz
    rw [hql, Nat.mul_comm, ← hN]; exact ro.2.2.1
  · have e2 := ra e
    show ((cont m.bl P leb).getD []).flatten = (b.take q).take (np * c.gz)
    rw [← hb, e2, List.take_length, Nat.mul_comm, ← hN, List.take_length]
  · show FrOk (b.take q) 0 (b.take q).length fs
    rw [hql]; exact ro.1.cut
/-- Behind the loop the bytes and what was met are laid, and the block of the rounds' deferred calls is shut. -/
theorem opi_fin {w2 W : World} {mp b0 p g leb np D' q D : Nat} {fv : Value} {fs : List Fm} {sp : Bool} (h : Opi w2 mp b0 p (p + 1) g leb np fv fs W) (hD : b0 ≤ D') (hd : W.heap[D']? = some (.deferred (some []))) (hp : p < b0) (hp2 : w2.heap.size ≤ p) :
    ((W.drew.setCell ⟨p, 2, none⟩ (.slice (some ⟨g, 0, none⟩) q D)).setCell ⟨p, 5, none⟩ (.bool sp)).heap[D']? = some (.deferred (some [])) ∧
    Row (((W.drew.setCell ⟨p, 2, none⟩ (.slice (some ⟨g, 0, none⟩) q D)).setCell ⟨p, 5, none⟩ (.bool sp)).putObj D' (.deferred none)) p [.pointer (some ⟨mp, 0, none⟩), .int .i64 (leb : Nat), .slice (some ⟨g, 0, none⟩) q D, .int .i64 (np : Nat), fv, .bool sp] 166 ∧
    (((W.drew.setCell ⟨p, 2, none⟩ (.slice (some ⟨g, 0, none⟩) q D)).setCell ⟨p, 5, none⟩ (.bool sp)).putObj D' (.deferred none)).ownsRow b0 173 2 fv fs.length (fs.flatMap (fCells g)) ∧
    Below w2.heap.size w2 (((W.drew.setCell ⟨p, 2, none⟩ (.slice (some ⟨g, 0, none⟩) q D)).setCell ⟨p, 5, none⟩ (.bool sp)).putObj D' (.deferred none)) := by
  have k1 : Kept (fun k => k = p) W ((W.drew.setCell ⟨p, 2, none⟩ (.slice (some ⟨g, 0, none⟩) q D)).setCell ⟨p, 5, none⟩ (.bool sp)) := Kept.setCell (S := fun k => k = p) (Kept.setCell (S := fun k => k = p) ((Kept.refl _ W).drew) (p := ⟨p, 2, none⟩) rfl _) (p := ⟨p, 5, none⟩) rfl _
  have hdl := (Array.getElem?_eq_some_iff.1 hd).1
  have hd2 := (k1.block D' hdl (by omega)).trans hd
  have k2 := kept_put ((W.drew.setCell ⟨p, 2, none⟩ (.slice (some ⟨g, 0, none⟩) q D)).setCell ⟨p, 5, none⟩ (.bool sp)) D' (.deferred none)
  have r1 := ((h.lb.later (Below.refl _ W).drew).set (i := 2) (.slice (some ⟨g, 0, none⟩) q D) (by simp [oCells])).set (i := 5) (.bool sp) (by simp [oCells])
  refine ⟨hd2, ?_, ?_, ?_⟩
  · exact Row.kept (cs := [.pointer (some ⟨mp, 0, none⟩), .int .i64 (leb : Nat), .slice (some ⟨g, 0, none⟩) q D, .int .i64 (np : Nat), fv, .bool sp]) r1 k2 (by omega)
  · refine owns_kept (owns_kept h.frs k1 (fun k e => ?_)) k2 (fun k e => ?_)
    · have := (lown_row h.frs e).1
      omega
    · intro e2
      obtain ⟨_, cs, hr⟩ := lown_row h.frs e
      rw [e2] at hr
      have := row_cells' hr hd
      cases this
  · refine h.kp.trans ⟨k2.os.trans k1.os, k2.tape.trans k1.tape, k2.output.trans k1.output, Nat.le_trans k1.size k2.size, fun k hk => ?_⟩
    have hkW : k < W.heap.size := Nat.lt_of_lt_of_le hk h.kp.size
    rw [k2.block k (Nat.lt_of_lt_of_le hkW k1.size) (by omega)]
    exact k1.block k hkW (by omega)
end Go.Proofs.YtkfecngkdlajgaaGreatDoor
