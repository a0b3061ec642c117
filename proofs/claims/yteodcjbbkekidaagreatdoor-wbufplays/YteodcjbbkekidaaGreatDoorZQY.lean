/-
  A log beside the document's, whatever fails beneath: what a step leaves of both; the log opened anew.
-/
import Derived.Test.YteodcjbbkekidaaGreatDoorZQV
import Derived.Test.YteodcjbbkekidaaGreatDoorZQX
namespace Go.Proofs.YteodcjbbkekidaaGreatDoor
open Go.RowKit Go.Extern.Stop Go.Stop Go.Extern
set_option maxRecDepth 10000

theorem DAt.keepN {S : Nat → Prop} {B : Nat} {w w' : World} {d : Dl} (h : DAt B w d) (hk : Kept S w w') (h1 : ¬ S d.p) (h2 : ∀ g, d.fv.ownBlock = some g → ¬ S g) (h3 : ∀ b cs, ¬ d.no b → Row w b cs 5 → ¬ S b) : DAt B w' d := by
  refine ⟨h.low, h.box.kept hk h1, ?_, h.pg, h.ps, h.en, h.ct⟩
  obtain ⟨vs, q1, q2, q3, q4⟩ := h.frs
  refine ⟨vs, q1, owns_kept q2 hk h2, fun q hq => owns_kept (q3 q hq) hk fun g hg => ?_, q4⟩
  obtain ⟨hb, cs, hr⟩ := lown_row (q3 q hq) hg
  exact h3 g cs (q4 q hq g hg) hr
/-- The document's blocks are no business of a log's. -/
theorem DAt.offN {base t B : Nat} {w w' : World} {m : Mg} {c : CS} {P : List (List (List Nat))} {l : Lm} {d : Dl} (h : DAt B w d) (hl : ML base t w m c P l) (hp : d.no l.db) (hk : Kept (fun k => MFoot m c k ∨ LFoot l k) w w') : DAt B w' d := by
  obtain ⟨ds, hdb⟩ := hl.la.datRow
  refine h.keepN hk ?_ (fun g hg => ?_) (fun b cs hb hr => ?_)
  · rintro (e | e | e | e)
    · exact hl.ms.ml.off' h.box ⟨by decide, by decide, by decide, by decide, by decide, by decide⟩ e
    · exact h.box.ne hl.la.box (by decide) e
    · exact h.box.ne hdb (by decide) e
    · obtain ⟨cs, hr⟩ := hl.la.frsRow e
      exact h.box.ne hr (by decide) rfl
  · obtain ⟨hbg, cs, hr⟩ := h.frsRow hg
    rintro (e | e | e | e)
    · exact hl.ms.ml.off' hr ⟨by decide, by decide, by decide, by decide, by decide, by decide⟩ e
    · exact hr.ne hl.la.box (by decide) e
    · exact hr.ne hdb (by decide) e
    · obtain ⟨cs', hr'⟩ := hl.la.frsRow e
      exact hr.ne hr' (by decide) rfl
  · rintro (e | e | e | e)
    · exact hl.ms.ml.off' hr ⟨by decide, by decide, by decide, by decide, by decide, by decide⟩ e
    · exact hr.ne hl.la.box (by decide) e
    · exact hb (by rw [e]; exact hp)
    · obtain ⟨cs', hr'⟩ := hl.la.frsRow e
      exact hr.ne hr' (by decide) rfl
/-- A log and the document's. -/
structure Pw (base B t : Nat) (w0 w : World) (m : Mg) (c : CS) (L : List (List (List Nat))) (l : Lm) (d : Dl) (gp gz leb mp : Nat) : Prop where
  ml : ML base t w m c L l
  gl : Hd.Glb w
  hb : 0 < base
  bB : base ≤ B
  bl : Below base w0 w
  num : c.gp = gp ∧ c.gz = gz
  sx : l.sp = false
  tn : t ≤ l.np + 300
  lb : l.leb = leb
  mp : m.p = mp
  la : Laid gz l.data l.fs
  ad : DAt B w d
  dg : d.page = gz ∧ d.pages = gp - 2 ∧ d.br = false
  no : d.no l.db
  nl : ∀ k, d.no k → k < w.heap.size
theorem Pw.base_le {base B t : Nat} {w0 w : World} {m : Mg} {c : CS} {L : List (List (List Nat))} {l : Lm} {d : Dl} {gp gz leb mp : Nat} (h : Pw base B t w0 w m c L l d gp gz leb mp) : base ≤ w.heap.size := by
  have h1 := h.ml.ms.ml.low.1
  have h2 := h.ml.ms.ml.box.lt
  omega
theorem Pw.later {base B t : Nat} {w0 w w' : World} {m : Mg} {c : CS} {L : List (List (List Nat))} {l : Lm} {d : Dl} {gp gz leb mp : Nat} (h : Pw base B t w0 w m c L l d gp gz leb mp) (hb : Below w.heap.size w w') : Pw base B t w0 w' m c L l d gp gz leb mp :=
  ⟨h.ml.later hb, h.gl.later hb, h.hb, h.bB, h.bl.trans (hb.mono h.base_le), h.num, h.sx, h.tn, h.lb, h.mp, h.la, h.ad.later hb, h.dg, h.no, fun k e => Nat.lt_of_lt_of_le (h.nl k e) hb.size⟩
theorem Pw.tl {base B t : Nat} {w0 w : World} {m : Mg} {c : CS} {L : List (List (List Nat))} {l : Lm} {d : Dl} {gp gz leb mp : Nat} (h : Pw base B t w0 w m c L l d gp gz leb mp) : l.np ≤ 62 ∧ t < 900000 := by
  have h1 := h.ml.np
  have h2 := h.ml.ms.page_le l.leb
  have h3 := h.ml.ms.rp.rb.geo
  have h4 := h.tn
  omega
theorem Pw.app {base B t : Nat} {w0 w w' : World} {m : Mg} {c : CS} {L : List (List (List Nat))} {l : Lm} {d : Dl} {gp gz leb mp : Nat} {dd : List Nat} {fs : List Fm} (h : Pw base B t w0 w m c L l d gp gz leb mp) (ha : AppP base t w m c L l dd fs w') (hd : l.data.length ≤ dd.length) (hla : Laid gz dd fs) :
    ∃ t' m' c' L' l', l'.p = l.p ∧ l'.fs = fs ∧ l'.data.length = dd.length ∧ Pw base B t' w0 w' m' c' L' l' d gp gz leb mp := by
  obtain ⟨m', c', P', fv, h1, h2, h3, h4, h5, h6, h7⟩ := ha
  have hft : ∀ k, MFoot m c k ∨ LFoot l k → base ≤ k := fun k e => e.elim (fun e => h.ml.ms.ml.foot_ge k e) (fun e => h.ml.ge k e)
  have hg := h.ml.ms.rp.rb.geo
  have hN : l.np ≤ dd.length / c.gz := (Nat.le_div_iff_mul_le (by omega)).2 (by have := h.ml.lo h.sx; omega)
  refine ⟨_, m', c', P', l.nu dd fs fv (dd.length / c.gz), rfl, rfl, rfl, h1, Glb.kp h.gl h5 (fun e => by have := hft _ e; have := h.hb; omega), h.hb, h.bB,
    h.bl.trans ⟨h5.os, h5.tape, h5.output, h5.size, fun k hk => h5.block k (by have := h.base_le; omega) (fun e => by have := hft _ e; omega)⟩, ⟨h2.gp.trans h.num.1, h2.gz.trans h.num.2⟩, h.sx, ?_, h.lb, h3.trans h.mp, hla, h.ad.offN h.ml h.no h5, h.dg, h.no, fun k e => Nat.lt_of_lt_of_le (h.nl k e) h5.size⟩
  show _ ≤ dd.length / c.gz + 300
  have := h.tn
  omega
theorem Pw.doc {base B t : Nat} {w0 w w' : World} {m : Mg} {c : CS} {L : List (List (List Nat))} {l : Lm} {d d' : Dl} {gp gz leb mp : Nat} (h : Pw base B t w0 w m c L l d gp gz leb mp) (hd : DAt B w' d') (hk : Kept (fun k => k = d.p ∨ d.fv.ownBlock = some k) w w')
    (hg : d'.page = d.page ∧ d'.pages = d.pages ∧ d'.br = d.br ∧ d'.no = d.no) : Pw base B t w0 w' m c L l d' gp gz leb mp := by
  have hS : ∀ k, (k = d.p ∨ d.fv.ownBlock = some k) → B ≤ k ∧ ∃ cs t, Row w k cs t ∧ NoMg t ∧ (t = 92 ∨ t = 97) := by
    rintro k (rfl | e)
    · exact ⟨h.ad.low, _, _, h.ad.box, ⟨by decide, by decide, by decide, by decide, by decide, by decide⟩, .inl rfl⟩
    · obtain ⟨hb, cs, hr⟩ := h.ad.frsRow e
      exact ⟨hb, _, _, hr, ⟨by decide, by decide, by decide, by decide, by decide, by decide⟩, .inr rfl⟩
  have hbase : ∀ k, (k = d.p ∨ d.fv.ownBlock = some k) → base ≤ k := fun k e => Nat.le_trans h.bB (hS k e).1
  have hlog : ∀ k, LFoot l k → ¬ (k = d.p ∨ d.fv.ownBlock = some k) := by
    intro k hlk e
    obtain ⟨_, cs, t', hr, _, ht⟩ := hS k e
    rcases hlk with q | q | q
    · subst q
      have := row_type hr h.ml.la.box
      rcases ht with ht | ht <;> (rw [this] at ht; exact absurd ht (by decide))
    · subst q
      obtain ⟨cs', hr'⟩ := h.ml.la.datRow
      have := row_type hr hr'
      rcases ht with ht | ht <;> (rw [this] at ht; exact absurd ht (by decide))
    · obtain ⟨cs', hr'⟩ := h.ml.la.frsRow q
      have := row_type hr hr'
      rcases ht with ht | ht <;> (rw [this] at ht; exact absurd ht (by decide))
  have hT : ∀ k, (k = d.p ∨ d.fv.ownBlock = some k) → ∃ cs t, Row w k cs t ∧ NoMg t := fun k e => by
    obtain ⟨_, cs, t', hr, hn, _⟩ := hS k e
    exact ⟨cs, t', hr, hn⟩
  refine ⟨h.ml.beside hk hT hbase hlog, Glb.kp h.gl hk (fun e => by have := hbase _ e; have := h.hb; omega), h.hb, h.bB,
    h.bl.trans ⟨hk.os, hk.tape, hk.output, hk.size, fun k hk2 => hk.block k (by have := h.base_le; omega) (fun e => by have := hbase _ e; omega)⟩, h.num, h.sx, h.tn, h.lb, h.mp, h.la, hd, ?_, by rw [hg.2.2.2]; exact h.no, fun k e => Nat.lt_of_lt_of_le (h.nl k (by rw [← hg.2.2.2]; exact e)) hk.size⟩
  rw [hg.1, hg.2.1, hg.2.2.1]
  exact h.dg
/-- The log and the document's, as the walk knows of them. -/
def PW (base B : Nat) (w0 w : World) (gp gz leb mp lp dp : Nat) (X P : List Fm × Nat) : Prop :=
  ∃ t m c L l d, Pw base B t w0 w m c L l d gp gz leb mp ∧ l.p = lp ∧ d.p = dp ∧ (l.fs, l.data.length) = X ∧ (d.fs, d.e) = P
theorem PW.later {base B : Nat} {w0 w w' : World} {gp gz leb mp lp dp : Nat} {X P : List Fm × Nat} (h : PW base B w0 w gp gz leb mp lp dp X P) (hb : Below w.heap.size w w') : PW base B w0 w' gp gz leb mp lp dp X P := by
  obtain ⟨t, m, c, L, l, d, h, e⟩ := h
  exact ⟨t, m, c, L, l, d, h.later hb, e⟩
theorem PW.bl {base B : Nat} {w0 w : World} {gp gz leb mp lp dp : Nat} {X P : List Fm × Nat} (h : PW base B w0 w gp gz leb mp lp dp X P) : Below base w0 w := by
  obtain ⟨t, m, c, L, l, d, h, e⟩ := h
  exact h.bl
/-- What Append answers: the place, the errno. -/
def aps (cap : Nat) (X : List Fm × Nat) (p : List Nat) : Nat × Int := if p.length = 0 ∨ 1024 < p.length then (0, 22) else if cap < X.2 + (6 + p.length) then (0, 28) else (X.2, 0)
theorem pw_append {base B : Nat} {w0 w : World} {gp gz leb mp lp dp : Nat} {X P : List Fm × Nat} (h : PW base B w0 w gp gz leb mp lp dp X P) (a : Option Addr) (k cap : Nat) (p : List Nat) (hl : BArg w a k cap p) :
    Calls Tryz.prog 15 #[.pointer (some ⟨lp, 0, none⟩), .slice a k cap] w fun e w' => e = .returned (.tuple #[.int .i64 ((aps ((gp - 2) * gz) X p).1 : Nat), .int .i64 (aps ((gp - 2) * gz) X p).2]) ∧ PW base B w0 w' gp gz leb mp lp dp (stp ((gp - 2) * gz) gz X p) P := by
  obtain ⟨t, m, c, L, l, d, h, rfl, rfl, rfl, rfl⟩ := h
  have hk := hl.len_eq
  subst hk
  have hr : Hd.BRow w a p := hl.row
  unfold aps stp
  by_cases hb : p.length = 0 ∨ 1024 < p.length
  · rw [if_pos hb, if_pos (by rcases hb with e | e; exact .inl e; exact .inr (.inl e))]
    refine (append_bad l.p a cap p.length w hb).mono ?_
    rintro e w' ⟨rfl, hw⟩
    exact ⟨rfl, t, m, c, L, l, d, h.later hw, rfl, rfl, rfl, rfl⟩
  · rw [if_neg hb]
    have hs := h.ml.size
    have hcap : l.dcap = (gp - 2) * gz := by have := h.ml.cap; rw [h.num.1, h.num.2] at this; exact this
    by_cases hroom : roomI l < (p.length : Int)
    · have hfull : (gp - 2) * gz < l.data.length + (6 + p.length) := by
        unfold roomI at hroom
        rw [h.sx] at hroom
        simp only [Bool.false_eq_true, if_false] at hroom
        rw [← hcap]
        omega
      rw [if_pos hfull, if_pos (.inr (.inr hfull))]
      refine (append_full h.ml a cap p hl.lt hr (by omega) (by omega) hroom).mono ?_
      rintro e w' ⟨rfl, hw⟩
      exact ⟨rfl, t, m, c, L, l, d, h.later hw, rfl, rfl, rfl, rfl⟩
    · have hfit : l.data.length + (6 + p.length) ≤ l.dcap := by
        unfold roomI at hroom
        rw [h.sx] at hroom
        simp only [Bool.false_eq_true, if_false] at hroom
        omega
      rw [if_neg (by rw [← hcap]; show ¬ l.dcap < l.data.length + (6 + p.length); omega), if_neg (by rw [← hcap]; rintro (e | e | e) <;> first | (exact hb (.inl e)) | (exact hb (.inr e)) | (have e' : l.dcap < l.data.length + (6 + p.length) := e; omega))]
      refine (append_yes h.ml h.sx h.tl.2 a cap p hl.lt hr (by omega) (by omega) hfit).mono ?_
      rintro e w' ⟨rfl, ha⟩
      obtain ⟨t', m', c', P', l', q1, q2, q3, q4⟩ := h.app ha (by rw [appD_length]; have := bgn_le c.gz (l.data.length + (6 + p.length)); omega) (by rw [h.num.2]; exact .app p h.la (by omega) (by omega))
      refine ⟨rfl, t', m', c', P', l', d, q4, q1, rfl, ?_, rfl⟩
      rw [q2, q3, appD_length, h.num.2]
theorem pw_sync {base B : Nat} {w0 w : World} {gp gz leb mp lp dp : Nat} {X P : List Fm × Nat} (h : PW base B w0 w gp gz leb mp lp dp X P) :
    Calls Tryz.prog 18 #[.pointer (some ⟨lp, 0, none⟩)] w fun e w' => e = .returned (.int .i64 0) ∧ PW base B w0 w' gp gz leb mp lp dp (X.1, rup gz X.2) P := by
  obtain ⟨t, m, c, L, l, d, h, rfl, rfl, rfl, rfl⟩ := h
  have hg := h.ml.ms.rp.rb.geo
  by_cases hk : keptN c.gz l = 0
  · refine (sync_none h.ml hk).mono ?_
    rintro e w' ⟨rfl, hw⟩
    refine ⟨rfl, t, m, c, L, l, d, h.later hw, rfl, rfl, ?_, rfl⟩
    have hlo := h.ml.lo h.sx
    have e1 : rup gz l.data.length = l.data.length := by
      unfold keptN at hk
      unfold rup
      rw [if_pos]
      rw [← h.num.2]
      have : l.data.length = l.np * c.gz := by omega
      rw [this]; exact Nat.mul_mod_left _ _
    rw [e1]
  · refine (sync_yes h.ml h.sx h.tl.2 (by omega)).mono ?_
    rintro e w' ⟨rfl, ha⟩
    obtain ⟨t', m', c', P', l', q1, q2, q3, q4⟩ := h.app ha (by rw [synD_length (by omega)]; exact (rup_ge _ (by omega)).1) (by rw [h.num.2]; exact .syn h.la)
    refine ⟨rfl, t', m', c', P', l', d, q4, q1, rfl, ?_, rfl⟩
    rw [q2, q3, synD_length (by omega), h.num.2]
theorem pw_dappend {base B : Nat} {w0 w : World} {gp gz leb mp lp dp : Nat} {X P : List Fm × Nat} (h : PW base B w0 w gp gz leb mp lp dp X P) (a : Option Addr) (k cap : Nat) (p : List Nat) (hl : BArg w a k cap p) :
    Calls Tryz.prog 16 #[.pointer (some ⟨dp, 0, none⟩), .slice a k cap] w fun e w' => e = .returned (.tuple #[.int .i64 ((aps ((gp - 2) * gz) P p).1 : Nat), .int .i64 (aps ((gp - 2) * gz) P p).2]) ∧ PW base B w0 w' gp gz leb mp lp dp X (stp ((gp - 2) * gz) gz P p) := by
  obtain ⟨t, m, c, L, l, d, h, rfl, rfl, rfl, rfl⟩ := h
  have hk := hl.len_eq
  have hcap : d.page * d.pages = (gp - 2) * gz := by rw [h.dg.1, h.dg.2.1, Nat.mul_comm]
  unfold aps stp
  by_cases hb : k = 0 ∨ 1024 < k
  · have hb' : p.length = 0 ∨ 1024 < p.length := by rw [← hk]; exact hb
    rw [if_pos hb', if_pos (by rcases hb' with e | e; exact .inl e; exact .inr (.inl e))]
    refine (dappend_bad d.p a k cap w hb).mono ?_
    rintro e w' ⟨rfl, hw⟩
    exact ⟨rfl, t, m, c, L, l, d, h.later hw, rfl, rfl, rfl, rfl⟩
  · have hb' : ¬ (p.length = 0 ∨ 1024 < p.length) := by rw [← hk]; exact hb
    rw [if_neg hb']
    by_cases hroom : d.page * d.pages < d.e + 6 + k
    · have hfull : (gp - 2) * gz < d.e + (6 + p.length) := by omega
      rw [if_pos hfull, if_pos (.inr (.inr hfull))]
      refine (dappend_full h.ad a k cap p hl (by omega) (by omega) (.inr hroom)).mono ?_
      rintro e w' ⟨rfl, hw⟩
      exact ⟨rfl, t, m, c, L, l, d, h.later hw, rfl, rfl, rfl, rfl⟩
    · rw [if_neg (by show ¬ (gp - 2) * gz < d.e + (6 + p.length); omega), if_neg (by rintro (e | e | e) <;> first | (exact hb' (.inl e)) | (exact hb' (.inr e)) | (have e' : (gp - 2) * gz < d.e + (6 + p.length) := e; omega))]
      refine (dappend_yes h.ad a k cap p hl (by omega) (by omega) h.dg.2.2 (by omega) h.nl).mono ?_
      rintro e w' ⟨rfl, d', q1, q2, q3, qn, q4, q5, q6, q7, q8, q9⟩
      refine ⟨rfl, t, m, c, L, l, d', h.doc q7 q8 ⟨q2, q3, q4.trans h.dg.2.2.symm, qn⟩, rfl, q1, rfl, ?_⟩
      rw [q5, q6, hk, h.dg.1]
theorem pw_dsync {base B : Nat} {w0 w : World} {gp gz leb mp lp dp : Nat} {X P : List Fm × Nat} (h : PW base B w0 w gp gz leb mp lp dp X P) :
    Calls Tryz.prog 17 #[.pointer (some ⟨dp, 0, none⟩)] w fun e w' => e = .returned (.tuple #[]) ∧ PW base B w0 w' gp gz leb mp lp dp X (P.1, rup gz P.2) := by
  obtain ⟨t, m, c, L, l, d, h, rfl, rfl, rfl, rfl⟩ := h
  refine (dsync_any h.ad).mono ?_
  rintro e w' ⟨rfl, q1, q2⟩
  refine ⟨rfl, t, m, c, L, l, d.at (rup d.page d.e), h.doc q1 (q2.mono fun _ e => .inl e) ⟨rfl, rfl, rfl, rfl⟩, rfl, rfl, rfl, ?_⟩
  show (d.fs, rup d.page d.e) = _
  rw [h.dg.1]
theorem pw_same {base B : Nat} {w0 w : World} {gp gz leb mp lp dp : Nat} {X P : List Fm × Nat} (h : PW base B w0 w gp gz leb mp lp dp X P) (he : X = P) :
    Calls Tryz.prog 19 #[.pointer (some ⟨lp, 0, none⟩), .pointer (some ⟨dp, 0, none⟩)] w fun e w' => e = .returned (.bool true) ∧ PW base B w0 w' gp gz leb mp lp dp X P := by
  have h0 := h
  obtain ⟨t, m, c, L, l, d, h, rfl, rfl, rfl, rfl⟩ := h
  have hcap : l.dcap = d.page * d.pages := by rw [h.ml.cap, h.num.1, h.num.2, h.dg.1, h.dg.2.1, Nat.mul_comm]
  refine (alike_any h.ml h.ad ⟨congrArg Prod.fst he, congrArg Prod.snd he, h.sx.trans h.dg.2.2.symm, hcap⟩).mono ?_
  rintro e w' ⟨rfl, hw⟩
  exact ⟨rfl, h0.later hw⟩
/-- The errno that Read says. -/
def rds (X : List Fm × Nat) (pos : Int) : Int := if isAt pos X.1 = true then 0 else 22
theorem pw_read {base B : Nat} {w0 w : World} {gp gz leb mp lp dp : Nat} {X P : List Fm × Nat} (h : PW base B w0 w gp gz leb mp lp dp X P) (pos : Int) :
    Calls Tryz.prog 20 #[.pointer (some ⟨lp, 0, none⟩), .int .i64 pos] w fun e w' => ∃ v, e = .returned (.tuple #[v, .int .i64 (rds X pos)]) ∧ PW base B w0 w' gp gz leb mp lp dp X P := by
  have h0 := h
  obtain ⟨t, m, c, L, l, d, h, rfl, rfl, rfl, rfl⟩ := h
  unfold rds
  cases hi : isAt pos l.fs with
  | false =>
    refine (read_no h.ml pos hi).mono ?_
    rintro e w' ⟨rfl, hw⟩
    exact ⟨.slice none 0 0, by simp, h0.later hw⟩
  | true =>
    have hx : ∃ x, l.fs[ahdF pos l.fs]? = some x ∧ (x.1 : Int) = pos := by
      unfold isAt at hi
      cases hq : l.fs[ahdF pos l.fs]? with
      | none => rw [hq] at hi; cases hi
      | some x => rw [hq] at hi; exact ⟨x, rfl, by simpa using hi⟩
    obtain ⟨x, hx, he⟩ := hx
    refine (read_yes h.ml pos x hx he).mono ?_
    rintro e w' ⟨v, rfl, ho⟩
    exact ⟨v, by simp, h0.later ho.2⟩
theorem pw_dread {base B : Nat} {w0 w : World} {gp gz leb mp lp dp : Nat} {X P : List Fm × Nat} (h : PW base B w0 w gp gz leb mp lp dp X P) (he : X = P) (pos : Int) :
    Calls Tryz.prog 21 #[.pointer (some ⟨dp, 0, none⟩), .int .i64 pos] w fun e w' => ∃ v, e = .returned (.tuple #[v, .int .i64 (rds X pos)]) ∧ PW base B w0 w' gp gz leb mp lp dp X P := by
  have h0 := h
  obtain ⟨t, m, c, L, l, d, h, rfl, rfl, rfl, rfl⟩ := h
  have e1 : l.fs = d.fs := congrArg Prod.fst he
  refine (dread_any h.ad pos).mono ?_
  rintro e w' ⟨hw, hq⟩
  unfold rds
  rcases hq with ⟨k, x, v, hk, hxp, rfl, _⟩ | ⟨hn, rfl⟩
  · refine ⟨v, ?_, h0.later hw⟩
    have hk' : l.fs[k]? = some x := by rw [e1]; exact hk
    have hi : isAt pos l.fs = true := by
      unfold isAt
      rw [← hxp, ahdF_at h.ml.fr.rise hk', hk']
      simp
    show _ = Ending.returned (.tuple #[v, .int .i64 (if isAt pos l.fs = true then 0 else 22)])
    rw [if_pos hi]
  · refine ⟨.slice none 0 0, ?_, h0.later hw⟩
    have hi : isAt pos l.fs = false := by
      unfold isAt
      cases hq : l.fs[ahdF pos l.fs]? with
      | none => rfl
      | some x => simpa using hn x (by rw [← e1]; exact List.mem_of_getElem? hq)
    show _ = Ending.returned (.tuple #[.slice none 0 0, .int .i64 (if isAt pos l.fs = true then 0 else 22)])
    rw [hi]
    rfl
theorem DAt.bar {B : Nat} {w : World} {d : Dl} (h : DAt B w d) (b : Nat) (hb : w.heap.size ≤ b) : DAt B w { d with no := fun k => d.no k ∨ k = b } := by
  refine ⟨h.low, h.box, ?_, h.pg, h.ps, h.en, h.ct⟩
  obtain ⟨vs, q1, q2, q3, q4⟩ := h.frs
  refine ⟨vs, q1, q2, q3, fun q hq g hg => ?_⟩
  rintro (e | e)
  · exact q4 q hq g hg e
  · obtain ⟨_, cs, hr⟩ := lown_row (q3 q hq) hg
    have := hr.lt
    omega
/-- The log opened anew, behind a Sync. -/
theorem pw_open {base B : Nat} {w0 w : World} {gp gz leb mp lp dp : Nat} {X P : List Fm × Nat} (h : PW base B w0 w gp gz leb mp lp dp X P) (hX : X.2 % gz = 0) :
    Calls Tryz.prog 13 #[.pointer (some ⟨mp, 0, none⟩), .int .i64 (leb : Nat)] w fun e w' => ∃ lp', e = .returned (.tuple #[.pointer (some ⟨lp', 0, none⟩), .int .i64 0]) ∧ PW base B w0 w' gp gz leb mp lp' dp X P := by
  obtain ⟨t, m, c, L, l, d, h, rfl, rfl, rfl, rfl⟩ := h
  have hg := h.ml.ms.rp.rb.geo
  have hlb := h.lb
  have hmp := h.mp
  subst hmp
  subst hlb
  refine (open_any h.ml.ms l.leb h.ml.leb).mono ?_
  rintro e w2 ⟨l2, rfl, ho⟩
  have hgz : c.gz = gz := h.num.2
  have hlo := h.ml.lo h.sx
  have hfull : l.data.length = l.np * c.gz := by
    have hX' : l.data.length % c.gz = 0 := by rw [hgz]; exact hX
    have hd := Nat.div_add_mod l.data.length c.gz
    rw [hX', Nat.add_zero] at hd
    have q1 : l.data.length / c.gz < l.np + 1 := (Nat.div_lt_iff_lt_mul (by omega)).2 hlo.2
    have q2 : l.np ≤ l.data.length / c.gz := (Nat.le_div_iff_mul_le (by omega)).2 hlo.1
    have q3 : l.data.length / c.gz = l.np := by omega
    rw [q3, Nat.mul_comm] at hd
    exact hd.symm
  have hcon : ((cont m.bl L l.leb).getD []).flatten = l.data := by
    rw [h.ml.con h.sx, ← hfull]
    exact List.take_length
  have hw := Laid.whole (by omega) h.la (l.data.length + 1) (by omega)
  have h1 := ho.fs
  have h2 := ho.dl
  have h3 := ho.sp
  rw [hcon, hgz, hw] at h1 h2 h3
  rw [List.take_length] at h2
  have hmb : base ≤ m.p := h.ml.ms.ml.low.1
  have hbs := h.base_le
  have hbl : Below base w w2 := ⟨ho.kp.os, ho.kp.tape, ho.kp.output, ho.kp.size, fun k hk => ho.kp.block k (by omega) (by omega)⟩
  have hnp : l2.np = l.np := by
    have q1 := ho.ml.np
    have q2 := h.ml.np
    rw [show (l2.leb : Int) = (l.leb : Int) by rw [ho.lb]] at q1
    rw [q1, q2]
  have hmt : ∀ {k : Nat} {cs : List Value} {ty : TypeId}, Row w k cs ty → NoMg ty → ¬ k = m.p := fun hr hn e => h.ml.ms.ml.off' hr hn (by rw [e]; exact .inl rfl)
  have hnew : w.heap.size ≤ l2.db := ho.nu _ (.inr (.inl rfl))
  have had2 : DAt B w2 { d with no := fun k => d.no k ∨ k = l2.db } := by
    refine (h.ad.bar l2.db hnew).keepN ho.kp ?_ (fun g hg => ?_) (fun b cs hb hr => ?_)
    · exact hmt h.ad.box ⟨by decide, by decide, by decide, by decide, by decide, by decide⟩
    · obtain ⟨_, cs, hr⟩ := h.ad.frsRow hg
      exact hmt hr ⟨by decide, by decide, by decide, by decide, by decide, by decide⟩
    · exact hmt hr ⟨by decide, by decide, by decide, by decide, by decide, by decide⟩
  have hdb2 : l2.db < w2.heap.size := by
    obtain ⟨cs, hr⟩ := ho.ml.la.datRow
    exact hr.lt
  refine ⟨l2.p, rfl, t, m, c, L, l2, { d with no := fun k => d.no k ∨ k = l2.db }, ⟨ho.ml, Glb.kp h.gl ho.kp (by have := h.hb; omega), h.hb, h.bB, h.bl.trans hbl, h.num, h3, by rw [hnp]; exact h.tn, ho.lb, rfl, by rw [h1, h2]; exact h.la, had2, h.dg, .inr rfl, fun k e => ?_⟩, rfl, rfl, by rw [h1, h2], rfl⟩
  rcases e with e | e
  · have := h.nl k e
    have := ho.kp.size
    omega
  · rw [e]; exact hdb2
theorem pw_chip {base B : Nat} {w0 w : World} {gp gz leb mp lp dp : Nat} {X P : List Fm × Nat} (h : PW base B w0 w gp gz leb mp lp dp X P) :
    Calls Tryz.prog 11 #[.pointer (some ⟨mp, 0, none⟩)] w fun e w' => ∃ cp, e = .returned (.pointer (some ⟨cp, 0, none⟩)) ∧ w = w' ∧ Calls Tryz.prog 22 #[.pointer (some ⟨cp, 0, none⟩)] w fun e w' => e = .returned (.int .i64 0) ∧ w = w' := by
  obtain ⟨t, m, c, L, l, d, h, rfl, rfl, rfl, rfl⟩ := h
  have hmp := h.mp
  subst hmp
  refine (mchip_any h.ml.ms.ml).mono ?_
  rintro e w' ⟨rfl, rfl⟩
  refine ⟨c.p, rfl, rfl, ?_⟩
  have := wrong_any h.ml.ms.ml.chip
  rw [h.ml.ms.rp.wrong] at this
  exact this
/-- Both logs of a new manager. -/
theorem PW.made {w0 w w1 w2 : World} {gp gz t leb : Nat} {m : Mg} {c : CS} {L : List (List (List Nat))} {l : Lm} {d : Dl} (hA : Al w0.heap.size t w0 gz w m c L (fun _ => none)) (ht : t ≤ 300) (hc : c.gp = gp) (ho : OpenP w0.heap.size t w m c L leb l w1) (hd : DAt w1.heap.size w2 d) (hb : Below w1.heap.size w1 w2) (hno : d.no = fun k => k = l.db)
    (gd : d.page = gz ∧ d.pages = gp - 2 ∧ d.fs = [] ∧ d.e = 0 ∧ d.br = false) : PW w0.heap.size w1.heap.size w0 w2 gp gz leb m.p l.p d.p ([], 0) ([], 0) := by
  have hcc : (cont m.bl L leb).getD [] = [] := by rw [hA.fn]; rfl
  have h1 := ho.fs
  have h2 := ho.dl
  have h3 := ho.sp
  rw [hcc] at h1 h2 h3
  have hfs : l.fs = [] := by rw [h1]; rfl
  have hda : l.data = [] := by rw [h2]; rfl
  have hmb : w0.heap.size ≤ m.p := hA.ms.ml.low.1
  have hbw : w0.heap.size ≤ w.heap.size := hA.kp.size
  have hk : Below w0.heap.size w0 w1 := ⟨ho.kp.os.trans hA.kp.os, ho.kp.tape.trans hA.kp.tape, ho.kp.output.trans hA.kp.output, Nat.le_trans hbw ho.kp.size, fun k hk => (ho.kp.block k (by omega) (by omega)).trans (hA.kp.block k hk (by omega))⟩
  have hdb : l.db < w1.heap.size := by
    obtain ⟨cs, hr⟩ := ho.ml.la.datRow
    exact hr.lt
  refine ⟨t, m, c, L, l, d, ⟨ho.ml.later hb, (Glb.kp hA.gl ho.kp (by have := hA.hb; omega)).later hb, hA.hb, hk.size, hk.trans (hb.mono hk.size), ⟨hc, hA.z⟩, by rw [h3]; rfl, by omega, ho.lb, rfl, by rw [hfs, hda]; exact .nil, hd, ⟨gd.1, gd.2.1, gd.2.2.2.2⟩, by rw [hno], fun k e => ?_⟩, rfl, rfl, by rw [hfs, hda]; rfl, by rw [gd.2.2.1, gd.2.2.2.1]⟩
  rw [hno] at e
  have e' : k = l.db := e
  have := hb.size
  omega
end Go.Proofs.YteodcjbbkekidaaGreatDoor
