/-
  Two logs of one manager, each beside a log of the document's: what a step of the one leaves of the others.
-/
import Derived.Test.YteodcjbbkekidaaGreatDoorQR
import Derived.Test.YteodcjbbkekidaaGreatDoorQU
namespace Go.Proofs.YteodcjbbkekidaaGreatDoor
open Go.RowKit Go.Extern.Stop Go.Stop Go.Extern
set_option maxRecDepth 10000

/-- A manager's log behind what was done to another one. -/
theorem ML.other {S : Nat → Prop} {base t t' : Nat} {w w' : World} {m m' : Mg} {c c' : CS} {P P' : List (List (List Nat))} {l : Lm} (h : ML base t w m c P l) (hms : Ms base t' w' m' c' P') (hg : Gm c c') (hp : m'.p = m.p) (hf : MFoot m' c' = MFoot m c)
    (hk : Kept S w w') (hS : ∀ k, LFoot l k → ¬ S k) (hc : cont m'.bl P' (l.leb : Nat) = cont m.bl P (l.leb : Nat)) : ML base t' w' m' c' P' l := by
  refine ⟨hms, h.la.kept hk hS, h.mp.trans hp.symm, fun k e => by rw [hf]; exact h.ap k e, h.ge, ?_, ?_, ?_, ?_, ?_, ?_, ?_, h.fr⟩
  · rw [hg.gr, hg.gb]; exact h.leb
  · rw [hg.gp, hg.gz]; exact h.cap
  · rw [hc]; exact h.np
  · rw [hg.gz]; exact h.md
  · rw [hg.gz]; exact h.lo
  · rw [hg.gz]; exact h.hi
  · rw [hg.gz, hc]; exact h.con
/-- .. behind writes that are no business of the manager's. -/
theorem ML.beside {S : Nat → Prop} {base t : Nat} {w w' : World} {m : Mg} {c : CS} {P : List (List (List Nat))} {l : Lm} (h : ML base t w m c P l) (hk : Kept S w w') (hS : ∀ k, S k → ∃ cs t, Row w k cs t ∧ NoMg t) (hb : ∀ k, S k → base ≤ k) (hn : ∀ k, LFoot l k → ¬ S k) : ML base t w' m c P l :=
  ⟨h.ms.beside hk hS hb, h.la.kept hk hn, h.mp, h.ap, h.ge, h.leb, h.cap, h.np, h.md, h.lo, h.hi, h.con, h.fr⟩
theorem DAt.keep {S : Nat → Prop} {B : Nat} {w w' : World} {d : Dl} (h : DAt B w d) (hk : Kept S w w') (h1 : ¬ S d.p) (h2 : ∀ g, d.fv.ownBlock = some g → ¬ S g) (h3 : ∀ b cs, B ≤ b → Row w b cs 5 → ¬ S b) : DAt B w' d := by
  refine ⟨h.low, h.box.kept hk h1, ?_, h.pg, h.ps, h.en, h.ct⟩
  obtain ⟨vs, q1, q2, q3, q4⟩ := h.frs
  refine ⟨vs, q1, owns_kept q2 hk h2, fun q hq => owns_kept (q3 q hq) hk fun g hg => ?_, q4⟩
  obtain ⟨hb, cs, hr⟩ := lown_row (q3 q hq) hg
  exact h3 g cs hb hr
theorem DAt.frsRow {B : Nat} {w : World} {d : Dl} (h : DAt B w d) {g : Nat} (hg : d.fv.ownBlock = some g) : B ≤ g ∧ ∃ cs, Row w g cs 97 := by
  obtain ⟨vs, q1, q2, q3, _⟩ := h.frs
  exact lown_row q2 hg
/-- What an appended payload makes of a log's frames and its end. -/
def stp (cap gz : Nat) (X : List Fm × Nat) (p : List Nat) : List Fm × Nat :=
  if p.length = 0 ∨ 1024 < p.length ∨ cap < X.2 + (6 + p.length) then X else (X.1 ++ [(X.2, p)], bgn gz (X.2 + (6 + p.length)))
/-- Two logs of a manager, and two of the document's. -/
structure Tw (base B t : Nat) (w0 w : World) (m : Mg) (c : CS) (P : List (List (List Nat))) (lx ly : Lm) (dx dy : Dl) (gp gz : Nat) : Prop where
  mx : ML base t w m c P lx
  my : ML base t w m c P ly
  gl : Hd.Glb w
  hb : 0 < base
  bB : base ≤ B
  bl : Below base w0 w
  num : c.gp = gp ∧ c.gz = gz
  sx : lx.sp = false
  sy : ly.sp = false
  tn : t ≤ lx.np + ly.np + 1
  nl : lx.leb ≠ ly.leb
  ap : ∀ k, LFoot lx k → ¬ LFoot ly k
  px : lx.db < B
  py : ly.db < B
  ax : DAt B w dx
  ay : DAt B w dy
  gx : dx.page = gz ∧ dx.pages = gp - 2 ∧ dx.br = false ∧ dx.no = fun _ => False
  gy : dy.page = gz ∧ dy.pages = gp - 2 ∧ dy.br = false ∧ dy.no = fun _ => False
  np : dx.p ≠ dy.p
  nf : ∀ g, dx.fv.ownBlock = some g → dy.fv.ownBlock ≠ some g
theorem Tw.swap {base B t : Nat} {w0 w : World} {m : Mg} {c : CS} {P : List (List (List Nat))} {lx ly : Lm} {dx dy : Dl} {gp gz : Nat} (h : Tw base B t w0 w m c P lx ly dx dy gp gz) : Tw base B t w0 w m c P ly lx dy dx gp gz :=
  ⟨h.my, h.mx, h.gl, h.hb, h.bB, h.bl, h.num, h.sy, h.sx, by have := h.tn; omega, fun e => h.nl e.symm, fun k e1 e2 => h.ap k e2 e1, h.py, h.px, h.ay, h.ax, h.gy, h.gx, fun e => h.np e.symm, fun g e1 e2 => h.nf g e2 e1⟩
theorem Tw.base_le {base B t : Nat} {w0 w : World} {m : Mg} {c : CS} {P : List (List (List Nat))} {lx ly : Lm} {dx dy : Dl} {gp gz : Nat} (h : Tw base B t w0 w m c P lx ly dx dy gp gz) : base ≤ w.heap.size := by
  have h1 := h.mx.ms.ml.low.1
  have h2 := h.mx.ms.ml.box.lt
  omega
theorem Tw.later {base B t : Nat} {w0 w w' : World} {m : Mg} {c : CS} {P : List (List (List Nat))} {lx ly : Lm} {dx dy : Dl} {gp gz : Nat} (h : Tw base B t w0 w m c P lx ly dx dy gp gz) (hb : Below w.heap.size w w') : Tw base B t w0 w' m c P lx ly dx dy gp gz :=
  ⟨h.mx.later hb, h.my.later hb, h.gl.later hb, h.hb, h.bB, h.bl.trans (hb.mono h.base_le), h.num, h.sx, h.sy, h.tn, h.nl, h.ap, h.px, h.py, h.ax.later hb, h.ay.later hb, h.gx, h.gy, h.np, h.nf⟩
theorem Tw.tl {base B t : Nat} {w0 w : World} {m : Mg} {c : CS} {P : List (List (List Nat))} {lx ly : Lm} {dx dy : Dl} {gp gz : Nat} (h : Tw base B t w0 w m c P lx ly dx dy gp gz) : lx.np ≤ 62 ∧ t < 900000 := by
  have h1 := h.mx.np
  have h2 := h.mx.ms.page_le lx.leb
  have h3 := h.mx.ms.rp.rb.geo
  have h5 := h.my.np
  have h6 := h.my.ms.page_le ly.leb
  have h4 := h.tn
  omega
/-- The document's blocks are no business of a log's. -/
theorem DAt.off {base t B : Nat} {w w' : World} {m : Mg} {c : CS} {P : List (List (List Nat))} {l : Lm} {d : Dl} (h : DAt B w d) (hl : ML base t w m c P l) (hp : l.db < B) (hk : Kept (fun k => MFoot m c k ∨ LFoot l k) w w') : DAt B w' d := by
  refine h.keep hk ?_ (fun g hg => ?_) (fun b cs hb hr => ?_)
  · rintro (e | e | e | e)
    · exact hl.ms.ml.off' h.box ⟨by decide, by decide, by decide, by decide, by decide, by decide⟩ e
    · exact h.box.ne hl.la.box (by decide) e
    · have := h.low; omega
    · obtain ⟨cs, hr⟩ := hl.la.frsRow e
      exact h.box.ne hr (by decide) rfl
  · obtain ⟨hbg, cs, hr⟩ := h.frsRow hg
    rintro (e | e | e | e)
    · exact hl.ms.ml.off' hr ⟨by decide, by decide, by decide, by decide, by decide, by decide⟩ e
    · exact hr.ne hl.la.box (by decide) e
    · omega
    · obtain ⟨cs', hr'⟩ := hl.la.frsRow e
      exact hr.ne hr' (by decide) rfl
  · rintro (e | e | e | e)
    · exact hl.ms.ml.off' hr ⟨by decide, by decide, by decide, by decide, by decide, by decide⟩ e
    · exact hr.ne hl.la.box (by decide) e
    · omega
    · obtain ⟨cs', hr'⟩ := hl.la.frsRow e
      exact hr.ne hr' (by decide) rfl
/-- What a step of the first log leaves. -/
theorem Tw.app {base B t : Nat} {w0 w w' : World} {m : Mg} {c : CS} {P : List (List (List Nat))} {lx ly : Lm} {dx dy : Dl} {gp gz : Nat} {d : List Nat} {fs : List Fm} (h : Tw base B t w0 w m c P lx ly dx dy gp gz) (ha : AppP base t w m c P lx d fs w') (hd : lx.data.length ≤ d.length) :
    ∃ t' m' c' P' l', l'.p = lx.p ∧ l'.fs = fs ∧ l'.data.length = d.length ∧ Tw base B t' w0 w' m' c' P' l' ly dx dy gp gz := by
  obtain ⟨m', c', P', fv, h1, h2, h3, h4, h5, h6, h7⟩ := ha
  have hft : ∀ k, MFoot m c k ∨ LFoot lx k → base ≤ k := fun k e => e.elim (fun e => h.mx.ms.ml.foot_ge k e) (fun e => h.mx.ge k e)
  have hg := h.mx.ms.rp.rb.geo
  have hN : lx.np ≤ d.length / c.gz := (Nat.le_div_iff_mul_le (by omega)).2 (by have := h.mx.lo h.sx; omega)
  have hoff : ∀ k, LFoot ly k → ¬ (MFoot m c k ∨ LFoot lx k) := fun k e q => q.elim (fun q => h.my.ap k e q) (fun q => h.ap k q e)
  refine ⟨_, m', c', P', lx.nu d fs fv (d.length / c.gz), rfl, rfl, rfl, h1, h.my.other h1.ms h2 h3 h4 h5 hoff (h6 _ (fun e => h.nl (by omega))), Glb.kp h.gl h5 (fun e => by have := hft _ e; have := h.hb; omega), h.hb, h.bB,
    h.bl.trans ⟨h5.os, h5.tape, h5.output, h5.size, fun k hk => h5.block k (by have := h.base_le; omega) (fun e => by have := hft _ e; omega)⟩, ⟨h2.gp.trans h.num.1, h2.gz.trans h.num.2⟩, h.sx, h.sy, ?_, h.nl, ?_, h.px, h.py, h.ax.off h.mx h.px h5, h.ay.off h.mx h.px h5, h.gx, h.gy, h.np, h.nf⟩
  · show _ ≤ d.length / c.gz + ly.np + 1
    have := h.tn
    omega
  · rintro k (e | e | e) q
    · exact h.ap k (.inl e) q
    · exact h.ap k (.inr (.inl e)) q
    · rcases h7 k e with e | e
      · exact h.ap k (.inr (.inr e)) q
      · obtain ⟨cs, t', hr, _⟩ := h.my.la.typed k q
        have := hr.lt
        omega
/-- What writes of the document's first log leave. -/
theorem Tw.doc {base B t : Nat} {w0 w w' : World} {m : Mg} {c : CS} {P : List (List (List Nat))} {lx ly : Lm} {dx dy d' : Dl} {gp gz : Nat} (h : Tw base B t w0 w m c P lx ly dx dy gp gz) (hd : DAt B w' d') (hk : Kept (fun k => k = dx.p ∨ dx.fv.ownBlock = some k) w w')
    (hp : d'.p = dx.p) (hg : d'.page = dx.page ∧ d'.pages = dx.pages ∧ d'.br = dx.br ∧ d'.no = dx.no) (hf : ∀ k, d'.fv.ownBlock = some k → dx.fv.ownBlock = some k ∨ w.heap.size ≤ k) : Tw base B t w0 w' m c P lx ly d' dy gp gz := by
  have hS : ∀ k, (k = dx.p ∨ dx.fv.ownBlock = some k) → B ≤ k ∧ ∃ cs t, Row w k cs t ∧ NoMg t ∧ (t = 92 ∨ t = 97) := by
    rintro k (rfl | e)
    · exact ⟨h.ax.low, _, _, h.ax.box, ⟨by decide, by decide, by decide, by decide, by decide, by decide⟩, .inl rfl⟩
    · obtain ⟨hb, cs, hr⟩ := h.ax.frsRow e
      exact ⟨hb, _, _, hr, ⟨by decide, by decide, by decide, by decide, by decide, by decide⟩, .inr rfl⟩
  have hbase : ∀ k, (k = dx.p ∨ dx.fv.ownBlock = some k) → base ≤ k := fun k e => Nat.le_trans h.bB (hS k e).1
  have hlog : ∀ (l : Lm), LAt w l l.data → ∀ k, LFoot l k → ¬ (k = dx.p ∨ dx.fv.ownBlock = some k) := by
    intro l hl k hlk e
    obtain ⟨_, cs, t', hr, _, ht⟩ := hS k e
    rcases hlk with q | q | q
    · subst q
      have := row_type hr hl.box
      rcases ht with ht | ht <;> (rw [this] at ht; exact absurd ht (by decide))
    · subst q
      obtain ⟨cs', hr'⟩ := hl.datRow
      have := row_type hr hr'
      rcases ht with ht | ht <;> (rw [this] at ht; exact absurd ht (by decide))
    · obtain ⟨cs', hr'⟩ := hl.frsRow q
      have := row_type hr hr'
      rcases ht with ht | ht <;> (rw [this] at ht; exact absurd ht (by decide))
  have hT : ∀ k, (k = dx.p ∨ dx.fv.ownBlock = some k) → ∃ cs t, Row w k cs t ∧ NoMg t := fun k e => by
    obtain ⟨_, cs, t', hr, hn, _⟩ := hS k e
    exact ⟨cs, t', hr, hn⟩
  have hay : DAt B w' dy := by
    refine h.ay.keep hk ?_ (fun g hg => ?_) (fun b cs hb hr e => ?_)
    · rintro (e | e)
      · exact h.np e.symm
      · obtain ⟨_, cs, hr⟩ := h.ax.frsRow e
        exact h.ay.box.ne hr (by decide) rfl
    · rintro (e | e)
      · obtain ⟨_, cs, hr⟩ := h.ay.frsRow hg
        exact hr.ne h.ax.box (by decide) e
      · exact h.nf g e hg
    · obtain ⟨_, cs', t', hr', _, ht⟩ := hS b e
      have := row_type hr hr'
      rcases ht with ht | ht <;> (rw [← this] at ht; exact absurd ht (by decide))
  refine ⟨h.mx.beside hk hT hbase (hlog _ h.mx.la), h.my.beside hk hT hbase (hlog _ h.my.la), Glb.kp h.gl hk (fun e => by have := hbase _ e; have := h.hb; omega), h.hb, h.bB,
    h.bl.trans ⟨hk.os, hk.tape, hk.output, hk.size, fun k hk2 => hk.block k (by have := h.base_le; omega) (fun e => by have := hbase _ e; omega)⟩, h.num, h.sx, h.sy, h.tn, h.nl, h.ap, h.px, h.py, hd, hay, ?_, h.gy, ?_, ?_⟩
  · rw [hg.1, hg.2.1, hg.2.2.1, hg.2.2.2]; exact h.gx
  · rw [hp]; exact h.np
  · intro g e1 e2
    rcases hf g e1 with e | e
    · exact h.nf g e e2
    · obtain ⟨_, cs, hr⟩ := h.ay.frsRow e2
      have := hr.lt
      omega
/-- The four logs, as the walk knows of them: where they lie, and what each has. -/
def TW (base B : Nat) (w0 w : World) (gp gz xp yp pp qp : Nat) (X Y P Q : List Fm × Nat) : Prop :=
  ∃ t m c L lx ly dx dy, Tw base B t w0 w m c L lx ly dx dy gp gz ∧ lx.p = xp ∧ ly.p = yp ∧ dx.p = pp ∧ dy.p = qp ∧ (lx.fs, lx.data.length) = X ∧ (ly.fs, ly.data.length) = Y ∧ (dx.fs, dx.e) = P ∧ (dy.fs, dy.e) = Q
theorem TW.swap {base B : Nat} {w0 w : World} {gp gz xp yp pp qp : Nat} {X Y P Q : List Fm × Nat} (h : TW base B w0 w gp gz xp yp pp qp X Y P Q) : TW base B w0 w gp gz yp xp qp pp Y X Q P := by
  obtain ⟨t, m, c, L, lx, ly, dx, dy, h, e1, e2, e3, e4, e5, e6, e7, e8⟩ := h
  exact ⟨t, m, c, L, ly, lx, dy, dx, h.swap, e2, e1, e4, e3, e6, e5, e8, e7⟩
theorem TW.later {base B : Nat} {w0 w w' : World} {gp gz xp yp pp qp : Nat} {X Y P Q : List Fm × Nat} (h : TW base B w0 w gp gz xp yp pp qp X Y P Q) (hb : Below w.heap.size w w') : TW base B w0 w' gp gz xp yp pp qp X Y P Q := by
  obtain ⟨t, m, c, L, lx, ly, dx, dy, h, e⟩ := h
  exact ⟨t, m, c, L, lx, ly, dx, dy, h.later hb, e⟩
theorem TW.bl {base B : Nat} {w0 w : World} {gp gz xp yp pp qp : Nat} {X Y P Q : List Fm × Nat} (h : TW base B w0 w gp gz xp yp pp qp X Y P Q) : Below base w0 w := by
  obtain ⟨t, m, c, L, lx, ly, dx, dy, h, e⟩ := h
  exact h.bl
theorem tw_append {base B : Nat} {w0 w : World} {gp gz xp yp pp qp : Nat} {X Y P Q : List Fm × Nat} (h : TW base B w0 w gp gz xp yp pp qp X Y P Q) (a : Option Addr) (k cap : Nat) (p : List Nat) (hl : BArg w a k cap p) :
    Calls Tryz.prog 15 #[.pointer (some ⟨xp, 0, none⟩), .slice a k cap] w fun e w' => (∃ u v, e = .returned (.tuple #[u, v])) ∧ TW base B w0 w' gp gz xp yp pp qp (stp ((gp - 2) * gz) gz X p) Y P Q := by
  obtain ⟨t, m, c, L, lx, ly, dx, dy, h, rfl, rfl, rfl, rfl, rfl, rfl, rfl, rfl⟩ := h
  have hk := hl.len_eq
  subst hk
  have hr : Hd.BRow w a p := hl.row
  by_cases hb : p.length = 0 ∨ 1024 < p.length
  · refine (append_bad lx.p a cap p.length w hb).mono ?_
    rintro e w' ⟨rfl, hw⟩
    refine ⟨⟨_, _, rfl⟩, t, m, c, L, lx, ly, dx, dy, h.later hw, rfl, rfl, rfl, rfl, ?_, rfl, rfl, rfl⟩
    unfold stp
    rw [if_pos (by rcases hb with e | e; exact .inl e; exact .inr (.inl e))]
  · have hs := h.mx.size
    have hcap : lx.dcap = (gp - 2) * gz := by have := h.mx.cap; rw [h.num.1, h.num.2] at this; exact this
    by_cases hroom : roomI lx < (p.length : Int)
    · refine (append_full h.mx a cap p hl.lt hr (by omega) (by omega) hroom).mono ?_
      rintro e w' ⟨rfl, hw⟩
      refine ⟨⟨_, _, rfl⟩, t, m, c, L, lx, ly, dx, dy, h.later hw, rfl, rfl, rfl, rfl, ?_, rfl, rfl, rfl⟩
      unfold stp
      rw [if_pos]
      refine .inr (.inr ?_)
      unfold roomI at hroom
      rw [h.sx] at hroom
      simp only [Bool.false_eq_true, if_false] at hroom
      rw [← hcap]
      show lx.dcap < lx.data.length + (6 + p.length)
      omega
    · have hfit : lx.data.length + (6 + p.length) ≤ lx.dcap := by
        unfold roomI at hroom
        rw [h.sx] at hroom
        simp only [Bool.false_eq_true, if_false] at hroom
        omega
      refine (append_yes h.mx h.sx h.tl.2 a cap p hl.lt hr (by omega) (by omega) hfit).mono ?_
      rintro e w' ⟨rfl, ha⟩
      obtain ⟨t', m', c', P', l', q1, q2, q3, q4⟩ := h.app ha (by rw [appD_length]; have := bgn_le c.gz (lx.data.length + (6 + p.length)); omega)
      refine ⟨⟨_, _, rfl⟩, t', m', c', P', l', ly, dx, dy, q4, q1, rfl, rfl, rfl, ?_, rfl, rfl, rfl⟩
      unfold stp
      rw [if_neg (by rw [← hcap]; rintro (e | e | e) <;> first | (exact hb (.inl e)) | (exact hb (.inr e)) | (have e' : lx.dcap < lx.data.length + (6 + p.length) := e; omega)), q2, q3, appD_length, h.num.2]
theorem tw_sync {base B : Nat} {w0 w : World} {gp gz xp yp pp qp : Nat} {X Y P Q : List Fm × Nat} (h : TW base B w0 w gp gz xp yp pp qp X Y P Q) :
    Calls Tryz.prog 18 #[.pointer (some ⟨xp, 0, none⟩)] w fun e w' => e = .returned (.int .i64 0) ∧ TW base B w0 w' gp gz xp yp pp qp (X.1, rup gz X.2) Y P Q := by
  obtain ⟨t, m, c, L, lx, ly, dx, dy, h, rfl, rfl, rfl, rfl, rfl, rfl, rfl, rfl⟩ := h
  have hg := h.mx.ms.rp.rb.geo
  by_cases hk : keptN c.gz lx = 0
  · refine (sync_none h.mx hk).mono ?_
    rintro e w' ⟨rfl, hw⟩
    refine ⟨rfl, t, m, c, L, lx, ly, dx, dy, h.later hw, rfl, rfl, rfl, rfl, ?_, rfl, rfl, rfl⟩
    have hlo := h.mx.lo h.sx
    have e1 : rup gz lx.data.length = lx.data.length := by
      unfold keptN at hk
      unfold rup
      rw [if_pos]
      rw [← h.num.2]
      have : lx.data.length = lx.np * c.gz := by omega
      rw [this]; exact Nat.mul_mod_left _ _
    rw [e1]
  · refine (sync_yes h.mx h.sx h.tl.2 (by omega)).mono ?_
    rintro e w' ⟨rfl, ha⟩
    obtain ⟨t', m', c', P', l', q1, q2, q3, q4⟩ := h.app ha (by rw [synD_length (by omega)]; exact (rup_ge _ (by omega)).1)
    refine ⟨rfl, t', m', c', P', l', ly, dx, dy, q4, q1, rfl, rfl, rfl, ?_, rfl, rfl, rfl⟩
    rw [q2, q3, synD_length (by omega), h.num.2]
theorem tw_dappend {base B : Nat} {w0 w : World} {gp gz xp yp pp qp : Nat} {X Y P Q : List Fm × Nat} (h : TW base B w0 w gp gz xp yp pp qp X Y P Q) (a : Option Addr) (k cap : Nat) (p : List Nat) (hl : BArg w a k cap p) :
    Calls Tryz.prog 16 #[.pointer (some ⟨pp, 0, none⟩), .slice a k cap] w fun e w' => (∃ u v, e = .returned (.tuple #[u, v])) ∧ TW base B w0 w' gp gz xp yp pp qp X Y (stp ((gp - 2) * gz) gz P p) Q := by
  obtain ⟨t, m, c, L, lx, ly, dx, dy, h, rfl, rfl, rfl, rfl, rfl, rfl, rfl, rfl⟩ := h
  have hk := hl.len_eq
  have hcap : dx.page * dx.pages = (gp - 2) * gz := by rw [h.gx.1, h.gx.2.1, Nat.mul_comm]
  by_cases hb : k = 0 ∨ 1024 < k
  · refine (dappend_bad dx.p a k cap w hb).mono ?_
    rintro e w' ⟨rfl, hw⟩
    refine ⟨⟨_, _, rfl⟩, t, m, c, L, lx, ly, dx, dy, h.later hw, rfl, rfl, rfl, rfl, rfl, rfl, ?_, rfl⟩
    unfold stp
    rw [if_pos (by rw [← hk]; rcases hb with e | e; exact .inl e; exact .inr (.inl e))]
  · by_cases hroom : dx.page * dx.pages < dx.e + 6 + k
    · refine (dappend_full h.ax a k cap p hl (by omega) (by omega) (.inr hroom)).mono ?_
      rintro e w' ⟨rfl, hw⟩
      refine ⟨⟨_, _, rfl⟩, t, m, c, L, lx, ly, dx, dy, h.later hw, rfl, rfl, rfl, rfl, rfl, rfl, ?_, rfl⟩
      unfold stp
      rw [if_pos]
      refine .inr (.inr ?_)
      show (gp - 2) * gz < dx.e + (6 + p.length)
      omega
    · refine (dappend_yes h.ax a k cap p hl (by omega) (by omega) h.gx.2.2.1 (by omega) (by rw [h.gx.2.2.2]; exact fun k e => e.elim)).mono ?_
      rintro e w' ⟨rfl, d', q1, q2, q3, qn, q4, q5, q6, q7, q8, q9⟩
      refine ⟨⟨_, _, rfl⟩, t, m, c, L, lx, ly, d', dy, h.doc q7 q8 q1 ⟨q2, q3, q4.trans h.gx.2.2.1.symm, qn⟩ q9, rfl, rfl, q1, rfl, rfl, rfl, ?_, rfl⟩
      unfold stp
      rw [if_neg (by rw [← hk]; rintro (e | e | e) <;> first | (exact hb (.inl e)) | (exact hb (.inr e)) | (have e' : (gp - 2) * gz < dx.e + (6 + k) := e; omega)), q5, q6, hk, h.gx.1]
theorem tw_dsync {base B : Nat} {w0 w : World} {gp gz xp yp pp qp : Nat} {X Y P Q : List Fm × Nat} (h : TW base B w0 w gp gz xp yp pp qp X Y P Q) :
    Calls Tryz.prog 17 #[.pointer (some ⟨pp, 0, none⟩)] w fun e w' => e = .returned (.tuple #[]) ∧ TW base B w0 w' gp gz xp yp pp qp X Y (P.1, rup gz P.2) Q := by
  obtain ⟨t, m, c, L, lx, ly, dx, dy, h, rfl, rfl, rfl, rfl, rfl, rfl, rfl, rfl⟩ := h
  refine (dsync_any h.ax).mono ?_
  rintro e w' ⟨rfl, q1, q2⟩
  refine ⟨rfl, t, m, c, L, lx, ly, dx.at (rup dx.page dx.e), dy, h.doc q1 (q2.mono fun _ e => .inl e) rfl ⟨rfl, rfl, rfl, rfl⟩ (fun k e => .inl e), rfl, rfl, rfl, rfl, rfl, rfl, ?_, rfl⟩
  show (dx.fs, rup dx.page dx.e) = _
  rw [h.gx.1]
theorem tw_same {base B : Nat} {w0 w : World} {gp gz xp yp pp qp : Nat} {X Y P Q : List Fm × Nat} (h : TW base B w0 w gp gz xp yp pp qp X Y P Q) (he : X = P) :
    Calls Tryz.prog 19 #[.pointer (some ⟨xp, 0, none⟩), .pointer (some ⟨pp, 0, none⟩)] w fun e w' => e = .returned (.bool true) ∧ TW base B w0 w' gp gz xp yp pp qp X Y P Q := by
  have h0 := h
  obtain ⟨t, m, c, L, lx, ly, dx, dy, h, rfl, rfl, rfl, rfl, rfl, rfl, rfl, rfl⟩ := h
  have e1 : lx.fs = dx.fs := congrArg Prod.fst he
  have e2 : lx.data.length = dx.e := congrArg Prod.snd he
  have hcap : lx.dcap = dx.page * dx.pages := by rw [h.mx.cap, h.num.1, h.num.2, h.gx.1, h.gx.2.1, Nat.mul_comm]
  refine (alike_any h.mx h.ax ⟨e1, e2, h.sx.trans h.gx.2.2.1.symm, hcap⟩).mono ?_
  rintro e w' ⟨rfl, hw⟩
  exact ⟨rfl, h0.later hw⟩
/-- The first log of a new manager's; the logical block it has. -/
theorem open_one {w w' : World} {gb gp gz gr : Nat} {m : Mg} {c : CS} {P : List (List (List Nat))} (h : New w gb gp gz gr m c P w') (hE : 0 < w.heap.size) (leb : Nat) (hleb : (leb : Int) + gr + 2 < gb) :
    Calls Tryz.prog 13 #[.pointer (some ⟨m.p, 0, none⟩), .int .i64 (leb : Nat)] w' fun e w2 => ∃ l, e = .returned (.tuple #[.pointer (some ⟨l.p, 0, none⟩), .int .i64 0]) ∧ l.leb = leb ∧ Lg w.heap.size 1 w w2 m c P l gp gz [] 0 := by
  refine (open_any h.al.ms leb (by rw [h.num.1, h.num.2.2.2]; exact hleb)).mono ?_
  rintro e w2 ⟨l, rfl, ho⟩
  have hc : (cont m.bl P leb).getD [] = [] := by rw [h.al.fn]; rfl
  have h1 := ho.fs
  have h2 := ho.dl
  have h3 := ho.sp
  rw [hc] at h1 h2 h3
  have hmb : w.heap.size ≤ m.p := h.al.ms.ml.low.1
  have hk : ∀ k, k < w.heap.size → w2.heap[k]? = w'.heap[k]? := fun k hk => ho.kp.block k (Nat.lt_of_lt_of_le hk h.bl.size) (by omega)
  have hnp : l.np = 0 := by
    have := ho.ml.np
    rw [show (l.leb : Int) = (leb : Int) by rw [ho.lb], hc] at this
    exact this
  refine ⟨l, rfl, ho.lb, ho.ml, Glb.kp h.al.gl ho.kp (by omega), hE, h.bl.trans ⟨ho.kp.os, ho.kp.tape, ho.kp.output, ho.kp.size, hk⟩, ⟨h.num.2.1, h.num.2.2.1⟩, ?_, ?_, ?_, by omega⟩
  · rw [h1]; rfl
  · rw [h2]; rfl
  · rw [h3]; rfl
/-- A second log of the manager's that has just one. -/
theorem open_two {w : World} {gp gz : Nat} {base : Nat} {w0 : World} {m : Mg} {c : CS} {P : List (List (List Nat))} {l : Lm} (h : Lg base 1 w0 w m c P l gp gz [] 0) (leb : Nat) (hleb : (leb : Int) + c.gr + 2 < c.gb) (hc : (cont m.bl P leb).getD [] = []) :
    Calls Tryz.prog 13 #[.pointer (some ⟨m.p, 0, none⟩), .int .i64 (leb : Nat)] w fun e w2 => ∃ l2, e = .returned (.tuple #[.pointer (some ⟨l2.p, 0, none⟩), .int .i64 0]) ∧ l2.leb = leb ∧ Lg base 1 w0 w2 m c P l gp gz [] 0 ∧ Lg base 1 w0 w2 m c P l2 gp gz [] 0 ∧ (∀ k, LFoot l k → ¬ LFoot l2 k) := by
  refine (open_any h.ml.ms leb hleb).mono ?_
  rintro e w2 ⟨l2, rfl, ho⟩
  have h1 := ho.fs
  have h2 := ho.dl
  have h3 := ho.sp
  rw [hc] at h1 h2 h3
  have hmb : base ≤ m.p := h.ml.ms.ml.low.1
  have hbs := h.base_le
  have hbl : Below base w w2 := ⟨ho.kp.os, ho.kp.tape, ho.kp.output, ho.kp.size, fun k hk => ho.kp.block k (by omega) (by omega)⟩
  have hnp : l2.np = 0 := by
    have := ho.ml.np
    rw [show (l2.leb : Int) = (leb : Int) by rw [ho.lb], hc] at this
    exact this
  have hlt : ∀ k, LFoot l k → k < w.heap.size := fun k e => by
    obtain ⟨cs, t', hr, _⟩ := h.ml.la.typed k e
    exact hr.lt
  have hmf : ∀ k, LFoot l k → ¬ k = m.p := fun k e q => h.ml.ap k e (by rw [q]; exact .inl rfl)
  have hl1 : ML base 1 w2 m c P l := ⟨ho.ml.ms, h.ml.la.kept ho.kp hmf, h.ml.mp, h.ml.ap, h.ml.ge, h.ml.leb, h.ml.cap, h.ml.np, h.ml.md, h.ml.lo, h.ml.hi, h.ml.con, h.ml.fr⟩
  have hgl : Hd.Glb w2 := Glb.kp h.gl ho.kp (by have := h.hb; omega)
  refine ⟨l2, rfl, ho.lb, ⟨hl1, hgl, h.hb, h.bl.trans hbl, h.num, h.fs, h.len, h.sp, h.tn⟩, ⟨ho.ml, hgl, h.hb, h.bl.trans hbl, h.num, ?_, ?_, ?_, by omega⟩, fun k e q => ?_⟩
  · rw [h1]; rfl
  · rw [h2]; rfl
  · rw [h3]; rfl
  · have := hlt k e
    have := ho.nu k q
    omega
/-- Both logs, and the two of the document's that were opened behind them. -/
theorem TW.made {base : Nat} {w0 w w1 w2 : World} {gp gz : Nat} {m : Mg} {c : CS} {P : List (List (List Nat))} {lx ly : Lm} {dx dy : Dl} (hx : Lg base 1 w0 w m c P lx gp gz [] 0) (hy : Lg base 1 w0 w m c P ly gp gz [] 0) (hap : ∀ k, LFoot lx k → ¬ LFoot ly k) (hn : lx.leb ≠ ly.leb)
    (h1 : DAt w.heap.size w1 dx) (b1 : Below w.heap.size w w1) (h2 : DAt w1.heap.size w2 dy) (b2 : Below w1.heap.size w1 w2) (gx : dx.page = gz ∧ dx.pages = gp - 2 ∧ dx.fs = [] ∧ dx.e = 0 ∧ dx.br = false ∧ dx.no = fun _ => False) (gy : dy.page = gz ∧ dy.pages = gp - 2 ∧ dy.fs = [] ∧ dy.e = 0 ∧ dy.br = false ∧ dy.no = fun _ => False) :
    TW base w.heap.size w0 w2 gp gz lx.p ly.p dx.p dy.p ([], 0) ([], 0) ([], 0) ([], 0) := by
  have hb := Below.after b1 b2
  have hbs := hx.base_le
  have kx : DAt w.heap.size w2 dx := h1.later b2
  have ky : DAt w.heap.size w2 dy := by
    obtain ⟨vs, q1, q2, q3, q4⟩ := h2.frs
    exact ⟨Nat.le_trans b1.size h2.low, h2.box, ⟨vs, q1, lown_low q2 b1.size, fun q hq => lown_low (q3 q hq) b1.size, q4⟩, h2.pg, h2.ps, h2.en, h2.ct⟩
  have hdb : ∀ l, Lg base 1 w0 w m c P l gp gz [] 0 → l.db < w.heap.size := fun l hl => by
    obtain ⟨cs, hr⟩ := hl.ml.la.datRow
    exact hr.lt
  refine ⟨1, m, c, P, lx, ly, dx, dy, ⟨hx.ml.later hb, hy.ml.later hb, hx.gl.later hb, hx.hb, hbs, hx.bl.trans (hb.mono hbs), hx.num, hx.sp, hy.sp, by omega, hn, hap, hdb _ hx, hdb _ hy, kx, ky, ⟨gx.1, gx.2.1, gx.2.2.2.2⟩, ⟨gy.1, gy.2.1, gy.2.2.2.2⟩, ?_, ?_⟩, rfl, rfl, rfl, rfl, ?_, ?_, ?_, ?_⟩
  · have q1 := h1.box.lt
    have q2 := h2.low
    omega
  · intro g e1 e2
    obtain ⟨_, cs, hr⟩ := h1.frsRow e1
    have q1 := hr.lt
    have q2 := (h2.frsRow e2).1
    omega
  · rw [hx.fs, hx.len]
  · rw [hy.fs, hy.len]
  · rw [gx.2.2.1, gx.2.2.2.1]
  · rw [gy.2.2.1, gy.2.2.2.1]
end Go.Proofs.YteodcjbbkekidaaGreatDoor
