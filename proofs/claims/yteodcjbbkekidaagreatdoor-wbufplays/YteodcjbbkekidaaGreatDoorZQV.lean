/-
  Two logs of one manager, each beside a log of the document's: what a step of the one leaves of the others.
-/
import Derived.Test.YteodcjbbkekidaaGreatDoorZQR
import Derived.Test.YteodcjbbkekidaaGreatDoorZQU
namespace Go.Proofs.YteodcjbbkekidaaGreatDoor
open Go.RowKit Go.Extern.Stop Go.Stop Go.Extern
set_option maxRecDepth 10000

/-- A manager's log behind what was done to another one. -/
theorem ML.other {S : Nat → Prop} {base t t' : Nat} {w w' : World} {m m' : Mg} {c c' : CS} {P P' : List (List (List Nat))} {l : Lm} (h : ML base t w m c P l) (hms : Ms base t' w' m' c' P') (hg : Gm c c') (hp : m'.p = m.p) (hf : MFoot m' c' = MFoot m c)
    (hk : Kept S w w') (hS : ∀ k, LFoot l k → ¬ S k) (hc : cont m'.bl P' (l.leb : Nat) = cont m.bl P (l.leb : Nat)) : ML base t' w' m' c' P' l := by
  refine ⟨hms, h.la.kept hk hS, h.mp.trans hp.symm, fun k e => by rw [hf]; exact h.ap k e, h.ge, ?_, ?_, ?_, ?_, ?_, ?_, ?_, h.fr⟩
  · rw [hg.gr, hg.gb]; exact h.leb
  · rw [hg.gp, hg.gz]; exact h.cap
  · rw [hc]; exact h.np
  · rw [hg.gz]; exact h.md
  · rw [hg.gz]; exact h.lo
  · rw [hg.gz]; exact h.hi
  · rw [hg.gz, hc]; exact h.con
/-- .. behind writes that are no business of the manager's. -/
theorem ML.beside {S : Nat → Prop} {base t : Nat} {w w' : World} {m : Mg} {c : CS} {P : List (List (List Nat))} {l : Lm} (h : ML base t w m c P l) (hk : Kept S w w') (hS : ∀ k, S k → ∃ cs t, Row w k cs t ∧ NoMg t) (hb : ∀ k, S k → base ≤ k) (hn : ∀ k, LFoot l k → ¬ S k) : ML base t w' m c P l :=
  ⟨h.ms.beside hk hS hb, h.la.kept hk hn, h.mp, h.ap, h.ge, h.leb, h.cap, h.np, h.md, h.lo, h.hi, h.con, h.fr⟩
theorem DAt.keep {S : Nat → Prop} {B : Nat} {w w' : World} {d : Dl} (h : DAt B w d) (hk : Kept S w w') (h1 : ¬ S d.p) (h2 : ∀ g, d.fv.ownBlock = some g → ¬ S g) (h3 : ∀ b cs, B ≤ b → Row w b cs 5 → ¬ S b) : DAt B w' d := by
  refine ⟨h.low, h.box.kept hk h1, ?_, h.pg, h.ps, h.en, h.ct⟩
  obtain ⟨vs, q1, q2, q3, q4⟩ := h.frs
  refine ⟨vs, q1, owns_kept q2 hk h2, fun q hq => owns_kept (q3 q hq) hk fun g hg => ?_, q4⟩
  obtain ⟨hb, cs, hr⟩ := lown_row (q3 q hq) hg
  exact h3 g cs hb hr
theorem DAt.frsRow {B : Nat} {w : World} {d : Dl} (h : DAt B w d) {g : Nat} (hg : d.fv.ownBlock = some g) : B ≤ g ∧ ∃ cs, Row w g cs 97 := by
  obtain ⟨vs, q1, q2, q3, _⟩ := h.frs
  exact lown_row q2 hg
/-- What an appended payload makes of a log's frames and its end. -/
def stp (cap gz : Nat) (X : List Fm × Nat) (p : List Nat) : List Fm × Nat :=
  if p.length = 0 ∨ 1024 < p.length ∨ cap < X.2 + (6 + p.length) then X else (X.1 ++ [(X.2, p)], bgn gz (X.2 + (6 + p.length)))
/-- Two logs of a manager, and two of the document's. -/
structure Tw (base B t : Nat) (w0 w : World) (m : Mg) (c : CS) (P : List (List (List Nat))) (lx ly : Lm) (dx dy : Dl) (gp gz : Nat) : Prop where
  mx : ML base t w m c P lx
  my : ML base t w m c P ly
  gl : Hd.Glb w
  hb : 0 < base
  bB : base ≤ B
  bl : Below base w0 w
  num : c.gp = gp ∧ c.gz = gz
  sx : lx.sp = false
  sy : ly.sp = false
  tn : t ≤ lx.np + ly.np + 1
  nl : lx.leb ≠ ly.leb
  ap : ∀ k, LFoot lx k → ¬ LFoot ly k
  px : lx.db < B
  py : ly.db < B
  ax : DAt B w dx
  ay : DAt B w dy
  gx : dx.page = gz ∧ dx.pages = gp - 2 ∧ dx.br = false ∧ dx.no = fun _ => False
  gy : dy.page = gz ∧ dy.pages = gp - 2 ∧ dy.br = false ∧ dy.no = fun _ => False
  np : dx.p ≠ dy.p
  nf : ∀ g, dx.fv.ownBlock = some g → dy.fv.ownBlock ≠ some g
theorem Tw.base_le {base B t : Nat} {w0 w : World} {m : Mg} {c : CS} {P : List (List (List Nat))} {lx ly : Lm} {dx dy : Dl} {gp gz : Nat} (h : Tw base B t w0 w m c P lx ly dx dy gp gz) : base ≤ w.heap.size := by
  have h1 := h.mx.ms.ml.low.1
  have h2 := h.mx.ms.ml.box.lt
  omega
theorem Tw.later {base B t : Nat} {w0 w w' : World} {m : Mg} {c : CS} {P : List (List (List Nat))} {lx ly : Lm} {dx dy : Dl} {gp gz : Nat} (h : Tw base B t w0 w m c P lx ly dx dy gp gz) (hb : Below w.heap.size w w') : Tw base B t w0 w' m c P lx ly dx dy gp gz :=
  ⟨h.mx.later hb, h.my.later hb, h.gl.later hb, h.hb, h.bB, h.bl.trans (hb.mono h.base_le), h.num, h.sx, h.sy, h.tn, h.nl, h.ap, h.px, h.py, h.ax.later hb, h.ay.later hb, h.gx, h.gy, h.np, h.nf⟩
theorem Tw.tl {base B t : Nat} {w0 w : World} {m : Mg} {c : CS} {P : List (List (List Nat))} {lx ly : Lm} {dx dy : Dl} {gp gz : Nat} (h : Tw base B t w0 w m c P lx ly dx dy gp gz) : lx.np ≤ 62 ∧ t < 900000 := by
  have h1 := h.mx.np
  have h2 := h.mx.ms.page_le lx.leb
  have h3 := h.mx.ms.rp.rb.geo
  have h5 := h.my.np
  have h6 := h.my.ms.page_le ly.leb
  have h4 := h.tn
  omega
/-- The document's blocks are no business of a log's. -/
theorem DAt.off {base t B : Nat} {w w' : World} {m : Mg} {c : CS} {P : List (List (List Nat))} {l : Lm} {d : Dl} (h : DAt B w d) (hl : ML base t w m c P l) (hp : l.db < B) (hk : Kept (fun k => MFoot m c k ∨ LFoot l k) w w') : DAt B w' d := by
  refine h.keep hk ?_ (fun g hg => ?_) (fun b cs hb hr => ?_)
  · rintro (e | e | e | e)
    · exact hl.ms.ml.off' h.box ⟨by decide, by decide, by decide, by decide, by decide, by decide⟩ e
    · exact h.box.ne hl.la.box (by decide) e
    · have := h.low; omega
    · obtain ⟨cs, hr⟩ := hl.la.frsRow e
      exact h.box.ne hr (by decide) rfl
  · obtain ⟨hbg, cs, hr⟩ := h.frsRow hg
    rintro (e | e | e | e)
    · exact hl.ms.ml.off' hr ⟨by decide, by decide, by decide, by decide, by decide, by decide⟩ e
    · exact hr.ne hl.la.box (by decide) e
    · omega
    · obtain ⟨cs', hr'⟩ := hl.la.frsRow e
      exact hr.ne hr' (by decide) rfl
  · rintro (e | e | e | e)
    · exact hl.ms.ml.off' hr ⟨by decide, by decide, by decide, by decide, by decide, by decide⟩ e
    · exact hr.ne hl.la.box (by decide) e
    · omega
    · obtain ⟨cs', hr'⟩ := hl.la.frsRow e
      exact hr.ne hr' (by decide) rfl
/-- What a step of the first log leaves. -/
theorem Tw.app {base B t : Nat} {w0 w w' : World} {m : Mg} {c : CS} {P : List (List (List Nat))} {lx ly : Lm} {dx dy : Dl} {gp gz : Nat} {d : List Nat} {fs : List Fm} (h : Tw base B t w0 w m c P lx ly dx dy gp gz) (ha : AppP base t w m c P lx d fs w') (hd : lx.data.length ≤ d.length) :
    ∃ t' m' c' P' l', l'.p = lx.p ∧ l'.fs = fs ∧ l'.data.length = d.length ∧ Tw base B t' w0 w' m' c' P' l' ly dx dy gp gz := by
  obtain ⟨m', c', P', fv, h1, h2, h3, h4, h5, h6, h7⟩ := ha
  have hft : ∀ k, MFoot m c k ∨ LFoot lx k → base ≤ k := fun k e => e.elim (fun e => h.mx.ms.ml.foot_ge k e) (fun e => h.mx.ge k e)
  have hg := h.mx.ms.rp.rb.geo
  have hN : lx.np ≤ d.length / c.gz := (Nat.le_div_iff_mul_le (by omega)).2 (by have := h.mx.lo h.sx; omega)
  have hoff : ∀ k, LFoot ly k → ¬ (MFoot m c k ∨ LFoot lx k) := fun k e q => q.elim (fun q => h.my.ap k e q) (fun q => h.ap k q e)
  refine ⟨_, m', c', P', lx.nu d fs fv (d.length / c.gz), rfl, rfl, rfl, h1, h.my.other h1.ms h2 h3 h4 h5 hoff (h6 _ (fun e => h.nl (by omega))), Glb.kp h.gl h5 (fun e => by have := hft _ e; have := h.hb; omega), h.hb, h.bB,
    h.bl.trans ⟨h5.os, h5.tape, h5.output, h5.size, fun k hk => h5.block k (by have := h.base_le; omega) (fun e => by have := hft _ e; omega)⟩, ⟨h2.gp.trans h.num.1, h2.gz.trans h.num.2⟩, h.sx, h.sy, ?_, h.nl, ?_, h.px, h.py, h.ax.off h.mx h.px h5, h.ay.off h.mx h.px h5, h.gx, h.gy, h.np, h.nf⟩
  · show _ ≤ d.length / c.gz + ly.np + 1
    have := h.tn
    omega
  · rintro k (e | e | e) q
    · exact h.ap k (.inl e) q
    · exact h.ap k (.inr (.inl e)) q
    · rcases h7 k e with e | e
      · exact h.ap k (.inr (.inr e)) q
      · obtain ⟨cs, t', hr, _⟩ := h.my.la.typed k q
        have := hr.lt
        omega
/-- What writes of the document's first log leave. -/
theorem Tw.doc {base B t : Nat} {w0 w w' : World} {m : Mg} {c : CS} {P : List (List (List Nat))} {lx ly : Lm} {dx dy d' : Dl} {gp gz : Nat} (h : Tw base B t w0 w m c P lx ly dx dy gp gz) (hd : DAt B w' d') (hk : Kept (fun k => k = dx.p ∨ dx.fv.ownBlock = some k) w w')
    (hp : d'.p = dx.p) (hg : d'.page = dx.page ∧ d'.pages = dx.pages ∧ d'.br = dx.br ∧ d'.no = dx.no) (hf : ∀ k, d'.fv.ownBlock = some k → dx.fv.ownBlock = some k ∨ w.heap.size ≤ k) : Tw base B t w0 w' m c P lx ly d' dy gp gz := by
  have hS : ∀ k, (k = dx.p ∨ dx.fv.ownBlock = some k) → B ≤ k ∧ ∃ cs t, Row w k cs t ∧ NoMg t ∧ (t = 92 ∨ t = 97) := by
    rintro k (rfl | e)
    · exact ⟨h.ax.low, _, _, h.ax.box, ⟨by decide, by decide, by decide, by decide, by decide, by decide⟩, .inl rfl⟩
    · obtain ⟨hb, cs, hr⟩ := h.ax.frsRow e
      exact ⟨hb, _, _, hr, ⟨by decide, by decide, by decide, by decide, by decide, by decide⟩, .inr rfl⟩
  have hbase : ∀ k, (k = dx.p ∨ dx.fv.ownBlock = some k) → base ≤ k := fun k e => Nat.le_trans h.bB (hS k e).1
  have hlog : ∀ (l : Lm), LAt w l l.data → ∀ k, LFoot l k → ¬ (k = dx.p ∨ dx.fv.ownBlock = some k) := by
    intro l hl k hlk e
    obtain ⟨_, cs, t', hr, _, ht⟩ := hS k e
    rcases hlk with q | q | q
    · subst q
      have := row_type hr hl.box
      rcases ht with ht | ht <;> (rw [this] at ht; exact absurd ht (by decide))
    · subst q
      obtain ⟨cs', hr'⟩ := hl.datRow
      have := row_type hr hr'
      rcases ht with ht | ht <;> (rw [this] at ht; exact absurd ht (by decide))
    · obtain ⟨cs', hr'⟩ := hl.frsRow q
      have := row_type hr hr'
      rcases ht with ht | ht <;> (rw [this] at ht; exact absurd ht (by decide))
  have hT : ∀ k, (k = dx.p ∨ dx.fv.ownBlock = some k) → ∃ cs t, Row w k cs t ∧ NoMg t := fun k e => by
    obtain ⟨_, cs, t', hr, hn, _⟩ := hS k e
    exact ⟨cs, t', hr, hn⟩
  have hay : DAt B w' dy := by
    refine h.ay.keep hk ?_ (fun g hg => ?_) (fun b cs hb hr e => ?_)
    · rintro (e | e)
      · exact h.np e.symm
      · obtain ⟨_, cs, hr⟩ := h.ax.frsRow e
        exact h.ay.box.ne hr (by decide) rfl
    · rintro (e | e)
      · obtain ⟨_, cs, hr⟩ := h.ay.frsRow hg
        exact hr.ne h.ax.box (by decide) e
      · exact h.nf g e hg
    · obtain ⟨_, cs', t', hr', _, ht⟩ := hS b e
      have := row_type hr hr'
      rcases ht with ht | ht <;> (rw [← this] at ht; exact absurd ht (by decide))
  refine ⟨h.mx.beside hk hT hbase (hlog _ h.mx.la), h.my.beside hk hT hbase (hlog _ h.my.la), Glb.kp h.gl hk (fun e => by have := hbase _ e; have := h.hb; omega), h.hb, h.bB,
    h.bl.trans ⟨hk.os, hk.tape, hk.output, hk.size, fun k hk2 => hk.block k (by have := h.base_le; omega) (fun e => by have := hbase _ e; omega)⟩, h.num, h.sx, h.sy, h.tn, h.nl, h.ap, h.px, h.py, hd, hay, ?_, h.gy, ?_, ?_⟩
  · rw [hg.1, hg.2.1, hg.2.2.1, hg.2.2.2]; exact h.gx
  · rw [hp]; exact h.np
  · intro g e1 e2
    rcases hf g e1 with e | e
    · exact h.nf g e e2
    · obtain ⟨_, cs, hr⟩ := h.ay.frsRow e2
      have := hr.lt
      omega
end Go.Proofs.YteodcjbbkekidaaGreatDoor
