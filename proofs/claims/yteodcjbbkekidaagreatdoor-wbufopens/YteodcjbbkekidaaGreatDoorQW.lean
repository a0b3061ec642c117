/-
  The document's log while it is opened of pages, and the bytes that it reads.
  What stands between two rounds of the document's Open of pages.
-/
import Derived.Test.YteodcjbbkekidaaGreatDoorQU
import Derived.Test.YteodcjbbkekidaaGreatDoorQI
namespace Go.Proofs.YteodcjbbkekidaaGreatDoor
open Go.RowKit Go.Extern.Stop Go.Stop Go.Extern
set_option maxRecDepth 10000

structure DO (base : Nat) (w0 w : World) (d : Dl) (g cb : Nat) (b : List Nat) : Prop where
  low : base ≤ d.p
  box : Row w d.p (dlCells d) 92
  frs : DBk base d.no w d.fv d.fs
  dat : w.ownsRow base 5 1 (.slice (some ⟨g, 0, none⟩) b.length cb) b.length (b.map u8v)
  bel : Below base w0 w
theorem DO.bs {base : Nat} {w0 w : World} {d : Dl} {g cb : Nat} {b : List Nat} (h : DO base w0 w d g cb b) : base ≤ w.heap.size := by
  have h1 := h.low
  have h2 := h.box.lt
  omega
theorem DO.later {base : Nat} {w0 w w' : World} {d : Dl} {g cb : Nat} {b : List Nat} (h : DO base w0 w d g cb b) (hb : Below w.heap.size w w') : DO base w0 w' d g cb b :=
  ⟨h.low, h.box.later hb, h.frs.later hb, owns_later h.dat hb, h.bel.trans (hb.mono h.bs)⟩
theorem DO.row {base : Nat} {w0 w : World} {d : Dl} {g cb : Nat} {b : List Nat} (h : DO base w0 w d g cb b) : ∃ cs, Row w g cs 5 := (lown_row h.dat rfl).2
theorem DO.cells {base : Nat} {w0 w : World} {d : Dl} {g cb : Nat} {b : List Nat} (h : DO base w0 w d g cb b) : w.cell? ⟨d.p, 0, none⟩ = some (.int .i64 (d.page : Nat)) ∧ w.cell? ⟨d.p, 1, none⟩ = some (.int .i64 (d.pages : Nat)) ∧ w.cell? ⟨d.p, 2, none⟩ = some d.fv ∧ w.cell? ⟨d.p, 3, none⟩ = some (.int .i64 (d.e : Nat)) ∧ w.cell? ⟨d.p, 4, none⟩ = some (.bool d.br) :=
  ⟨h.box.cell (i := 0) rfl, h.box.cell (i := 1) rfl, h.box.cell (i := 2) rfl, h.box.cell (i := 3) rfl, h.box.cell (i := 4) rfl⟩
theorem DO.byte {base : Nat} {w0 w : World} {d : Dl} {g cb : Nat} {b : List Nat} (h : DO base w0 w d g cb b) (i : Nat) (hi : i < b.length) : w.cell? ⟨g, i, none⟩ = some (.int .u8 ((b.getD i 0 : Nat) : Int)) := by
  rw [h.dat.cellAt i (by simpa using hi)]
  simp [u8v, hi, List.getD]
theorem DO.piece {base : Nat} {w0 w : World} {d : Dl} {g cb : Nat} {b : List Nat} (h : DO base w0 w d g cb b) (i n : Nat) : Hd.BRow w (some ⟨g, i, none⟩) ((b.drop i).take n) := by
  refine .inr ⟨g, i, rfl, fun k hk => ?_⟩
  simp only [List.length_take, List.length_drop] at hk
  rw [h.byte (i + k) (by omega)]
  simp only [List.getD, List.getElem?_take, List.getElem?_drop]
  rw [if_pos (by omega)]
theorem DO.rest {base : Nat} {w0 w : World} {d : Dl} {g cb : Nat} {b : List Nat} (h : DO base w0 w d g cb b) (i : Nat) : Hd.BRow w (some ⟨g, i, none⟩) (b.drop i) := by
  have := h.piece i (b.length - i)
  rw [List.take_of_length_le (by simp)] at this
  exact this
theorem DO.cap {base : Nat} {w0 w : World} {d : Dl} {g cb : Nat} {b : List Nat} (h : DO base w0 w d g cb b) : b.length ≤ cb ∧ cb ≤ maxLen := by
  rcases h.dat.2 with ⟨e, _⟩ | ⟨g', cap, cur, e, _, _, h1, h2, _⟩
  · cases e
  · cases e; exact ⟨h1, h2⟩
/-- Behind a write of the log's box. -/
theorem DO.boxed {base : Nat} {w0 w : World} {d d' : Dl} {g cb i : Nat} {b : List Nat} {v : Value} (h : DO base w0 w d g cb b) (hp : d'.p = d.p) (hf : d'.fs = d.fs ∧ d'.fv = d.fv ∧ d'.no = d.no) (hi : i < 5) (hc : (dlCells d).set i v = dlCells d') : DO base w0 (w.setCell ⟨d.p, i, none⟩ v) d' g cb b := by
  have hk : Kept (fun k => k = d.p) w (w.setCell ⟨d.p, i, none⟩ v) := (Kept.refl (fun k => k = d.p) w).setCell (p := ⟨d.p, i, none⟩) rfl _
  refine ⟨by rw [hp]; exact h.low, ?_, ?_, ?_, h.bel.setCell h.low _⟩
  · have := h.box.set (i := i) v (by simpa [dlCells] using hi)
    rw [hc] at this
    rw [hp]
    exact this
  · rw [hf.1, hf.2.1, hf.2.2]
    exact dbk_kept h.frs hk (fun k cs t hb hr => by subst hb; exact row_type hr h.box)
  · refine owns_kept h.dat hk fun k e q => ?_
    obtain ⟨_, cs, hr⟩ := lown_row h.dat e
    exact hr.ne h.box (by decide) q
theorem DO.setE {base : Nat} {w0 w : World} {d : Dl} {g cb : Nat} {b : List Nat} (h : DO base w0 w d g cb b) (n : Nat) : DO base w0 (w.setCell ⟨d.p, 3, none⟩ (.int .i64 (n : Nat))) { d with e := n } g cb b :=
  h.boxed rfl ⟨rfl, rfl, rfl⟩ (by omega) rfl
theorem DO.setB {base : Nat} {w0 w : World} {d : Dl} {g cb : Nat} {b : List Nat} (h : DO base w0 w d g cb b) (n : Bool) : DO base w0 (w.setCell ⟨d.p, 4, none⟩ (.bool n)) { d with br := n } g cb b :=
  h.boxed rfl ⟨rfl, rfl, rfl⟩ (by omega) rfl
/-- One frame more. -/
theorem DO.push {base : Nat} {w0 X Y : World} {d : Dl} {gg cc g cb : Nat} {b l : List Nat} {v1 : Value} {vs : List Value} (h : DO base w0 X d g cb b)
    (h1 : vs.length = d.fs.length) (h2 : X.ownsRow base 97 2 d.fv d.fs.length ((d.fs.zip vs).flatMap fzCells)) (h3 : ∀ q ∈ d.fs.zip vs, X.ownsRow base 5 1 q.2 q.1.2.length (q.1.2.map u8v)) (h4 : ∀ q ∈ d.fs.zip vs, ∀ g, q.2.ownBlock = some g → ¬ d.no g) (h5 : ∀ g, v1.ownBlock = some g → ¬ d.no g)
    (ho : X.ownsRow base 5 1 v1 l.length (l.map u8v)) (hg : X.grownBy Y d.fv.ownBlock) (hown : Y.ownsRow base 97 2 (.slice (some ⟨gg, 0, none⟩) (d.fs.length + 1) cc) (d.fs.length + 1) ((d.fs.zip vs).flatMap fzCells ++ [.int .i64 (d.e : Nat), v1])) :
    (Y.cell? ⟨d.p, 2, none⟩ = some d.fv ∧ Y.frozen? ⟨d.p, 2, none⟩ = false) ∧ DO base w0 (Y.setCell ⟨d.p, 2, none⟩ (.slice (some ⟨gg, 0, none⟩) (d.fs.length + 1) cc)) { d with fv := .slice (some ⟨gg, 0, none⟩) (d.fs.length + 1) cc, fs := d.fs ++ [(d.e, l)] } g cb b := by
  have kg : Kept (fun k => d.fv.ownBlock = some k) X Y := ⟨hg.os, hg.tape, hg.output, hg.size, fun k hk hn => hg.block k hk (fun e => hn e.symm)⟩
  have hnp : ¬ d.fv.ownBlock = some d.p := fun e => by
    obtain ⟨_, cs, hr⟩ := lown_row h2 e
    exact hr.ne h.box (by decide) rfl
  have bY : Row Y d.p (dlCells d) 92 := h.box.kept kg hnp
  have fY : DBk base d.no Y (.slice (some ⟨gg, 0, none⟩) (d.fs.length + 1) cc) (d.fs ++ [(d.e, l)]) := DBk.push h1 h2 h3 h4 h5 ho hg hown
  have kZ : Kept (fun k => k = d.p) Y (Y.setCell ⟨d.p, 2, none⟩ (.slice (some ⟨gg, 0, none⟩) (d.fs.length + 1) cc)) := (Kept.refl (fun k => k = d.p) Y).setCell (p := ⟨d.p, 2, none⟩) rfl _
  refine ⟨⟨bY.cell (i := 2) rfl, bY.frozen 2⟩, h.low, bY.set (i := 2) _ (by simp [dlCells]), dbk_kept fY kZ (fun k cs t hb hr => by subst hb; exact row_type hr bY), ?_, ?_⟩
  · have hd : Y.ownsRow base 5 1 (.slice (some ⟨g, 0, none⟩) b.length cb) b.length (b.map u8v) := by
      refine owns_kept h.dat kg fun k e q => ?_
      obtain ⟨_, cs, hr⟩ := lown_row h.dat e
      obtain ⟨_, cs', hr'⟩ := lown_row h2 q
      exact hr.ne hr' (by decide) rfl
    refine owns_kept hd kZ fun k e q => ?_
    obtain ⟨_, cs, hr⟩ := lown_row hd e
    exact hr.ne bY (by decide) q
  · refine Below.setCell (h.bel.grown hg h.bs fun k hk => ?_) h.low _
    exact (lown_row h2 hk).1
theorem DO.done {base : Nat} {w0 w : World} {d : Dl} {g cb : Nat} {b : List Nat} (h : DO base w0 w d g cb b) (pg : 2 ≤ d.page ∧ d.page ≤ 512) (ps : d.pages ≤ 64) (en : d.e ≤ d.page * d.pages) (ct : d.fs.length * 7 ≤ d.e) : DAt base w d :=
  ⟨h.low, h.box, h.frs, pg, ps, en, ct⟩
end Go.Proofs.YteodcjbbkekidaaGreatDoor
namespace Go.Proofs.YteodcjbbkekidaaGreatDoor
open Go.RowKit Go.Extern.Stop Go.Stop Go.Extern
set_option maxRecDepth 10000

theorem mrk_bytes {b : List Nat} {q : Nat} (h : q + 1 < b.length) : mrk b q = ((b.getD q 0 == 255) && (b.getD (q + 1) 0 == 255)) := by
  unfold mrk blk
  have e : (b.drop q).take 2 = [b.getD q 0, b.getD (q + 1) 0] := by
    have h0 : q < b.length := by omega
    have e1 := List.drop_eq_getElem_cons h0
    have e2 := List.drop_eq_getElem_cons h
    rw [e1, e2]
    show [b[q], b[q + 1]] = _
    simp [List.getD, h, h0]
  rw [e]
  simp
theorem DO.setE' {base : Nat} {w0 w : World} {d : Dl} {g cb p : Nat} {b : List Nat} (h : DO base w0 w d g cb b) (hp : d.p = p) (n : Nat) : DO base w0 (w.setCell ⟨p, 3, none⟩ (.int .i64 (n : Nat))) { d with e := n } g cb b := by
  subst hp
  exact h.setE n
theorem DO.setB' {base : Nat} {w0 w : World} {d : Dl} {g cb p : Nat} {b : List Nat} (h : DO base w0 w d g cb b) (hp : d.p = p) (n : Bool) : DO base w0 (w.setCell ⟨p, 4, none⟩ (.bool n)) { d with br := n } g cb b := by
  subst hp
  exact h.setB n
theorem DO.push' {base : Nat} {w0 X Y : World} {d : Dl} {gg cc g cb p q : Nat} {b l : List Nat} {v1 : Value} {vs : List Value} (h : DO base w0 X d g cb b) (hp : d.p = p) (hq : q = d.e)
    (h1 : vs.length = d.fs.length) (h2 : X.ownsRow base 97 2 d.fv d.fs.length ((d.fs.zip vs).flatMap fzCells)) (h3 : ∀ q ∈ d.fs.zip vs, X.ownsRow base 5 1 q.2 q.1.2.length (q.1.2.map u8v)) (h4 : ∀ q ∈ d.fs.zip vs, ∀ g, q.2.ownBlock = some g → ¬ d.no g) (h5 : ∀ g, v1.ownBlock = some g → ¬ d.no g)
    (ho : X.ownsRow base 5 1 v1 l.length (l.map u8v)) (hg : X.grownBy Y d.fv.ownBlock) (hown : Y.ownsRow base 97 2 (.slice (some ⟨gg, 0, none⟩) (d.fs.length + 1) cc) (d.fs.length + 1) ((d.fs.zip vs).flatMap fzCells ++ [.int .i64 (q : Nat), v1])) :
    (Y.cell? ⟨p, 2, none⟩ = some d.fv ∧ Y.frozen? ⟨p, 2, none⟩ = false) ∧ DO base w0 (Y.setCell ⟨p, 2, none⟩ (.slice (some ⟨gg, 0, none⟩) (d.fs.length + 1) cc)) { d with fv := .slice (some ⟨gg, 0, none⟩) (d.fs.length + 1) cc, fs := d.fs ++ [(d.e, l)] } g cb b := by
  subst hp hq
  exact h.push h1 h2 h3 h4 h5 ho hg hown
structure DRd (w W : World) (page pages : Nat) (b : List Nat) (g cb : Nat) (d : Dl) (f : Nat) : Prop where
  o : DO w.heap.size w W d g cb b
  pg : d.page = page ∧ d.pages = pages
  br : d.br = false
  no : d.no = fun _ => False
  le : d.e ≤ b.length
  md : d.e % page ≠ page - 1
  ct : d.fs.length * 7 ≤ d.e
  fl : b.length < f + d.e
  eq : rdr page b (b.length + 1) 0 = (d.fs ++ (rdr page b f d.e).1, (rdr page b f d.e).2)
/-- What Open leaves. -/
def OpD (w W : World) (page pages : Nat) (b : List Nat) (d : Dl) : Prop :=
  d.page = page ∧ d.pages = pages ∧ d.fs = (rdr page b (b.length + 1) 0).1 ∧ d.e = (rdr page b (b.length + 1) 0).2.1 ∧ d.br = (rdr page b (b.length + 1) 0).2.2 ∧ DAt w.heap.size W d ∧ Below w.heap.size w W
/-- The pages' bytes. -/
structure DGe (page pages N : Nat) (b : List Nat) : Prop where
  p : 2 ≤ page ∧ page ≤ 512
  s : pages ≤ 64
  n : b.length = page * N
  m : N ≤ pages
  lt : ∀ x ∈ b, x < 256
theorem DGe.le {page pages N : Nat} {b : List Nat} (h : DGe page pages N b) : b.length ≤ page * pages ∧ b.length ≤ 32768 := by
  have h1 := Nat.mul_le_mul_left page h.m
  have h2 := Nat.mul_le_mul h.p.2 h.s
  have := h.n
  omega
theorem DRd.later {w W W' : World} {page pages : Nat} {b : List Nat} {g cb : Nat} {d : Dl} {f : Nat} (h : DRd w W page pages b g cb d f) (hb : Below W.heap.size W W') : DRd w W' page pages b g cb d f :=
  ⟨h.o.later hb, h.pg, h.br, h.no, h.le, h.md, h.ct, h.fl, h.eq⟩
theorem DRd.next {w W : World} {page pages N : Nat} {b : List Nat} {g cb : Nat} {d : Dl} {f : Nat} (h : DRd w W page pages b g cb d f) (hg : DGe page pages N b) (hq : d.e < b.length) : d.e + 1 < b.length := by
  rcases Nat.lt_or_ge (d.e + 1) b.length with k | k
  · exact k
  · exfalso
    have h2 := hg.n
    have h3 := hg.p
    obtain ⟨M, rfl⟩ : ∃ M, N = M + 1 := ⟨N - 1, by rcases N with _ | N; (rw [Nat.mul_zero] at h2; omega); omega⟩
    rw [Nat.mul_add, Nat.mul_one] at h2
    refine h.md ?_
    have e : d.e = page * M + (page - 1) := by omega
    rw [e, Nat.mul_add_mod]
    exact Nat.mod_eq_of_lt (by omega)
theorem DRd.stop {w W W' : World} {page pages N : Nat} {b : List Nat} {g cb : Nat} {d : Dl} {f : Nat} (h : DRd w W page pages b g cb d f) (hg : DGe page pages N b) (hq : b.length ≤ d.e) (o : DO w.heap.size w W' { d with br := false } g cb b) : OpD w W' page pages b { d with br := false } := by
  have e := h.eq
  rw [rdr_end hq] at e
  have hl := hg.le
  refine ⟨h.pg.1, h.pg.2, by rw [e]; simp, by rw [e], by rw [e], o.done (by show 2 ≤ d.page ∧ d.page ≤ 512; rw [h.pg.1]; exact hg.p) (by show d.pages ≤ 64; rw [h.pg.2]; exact hg.s) ?_ h.ct, o.bel⟩
  show d.e ≤ d.page * d.pages
  rw [h.pg.1, h.pg.2]
  have := h.le
  omega
theorem DRd.skip {w W W' : World} {page pages N : Nat} {b : List Nat} {g cb : Nat} {d : Dl} {f : Nat} (h : DRd w W page pages b g cb d f) (hg : DGe page pages N b) (hq : d.e < b.length) (hm : mrk b d.e = true) (ho : okS page b d.e = true) (o : DO w.heap.size w W' { d with e := rup page (d.e + 1) } g cb b) : DRd w W' page pages b g cb { d with e := rup page (d.e + 1) } (f - 1) := by
  obtain ⟨f, rfl⟩ : ∃ f', f = f' + 1 := ⟨f - 1, by have := h.fl; omega⟩
  have e := h.eq
  rw [rdr_skip hq hm ho] at e
  have g1 := rup_ge (page := page) (d.e + 1) (by have := hg.p; omega)
  have g2 : rup page (d.e + 1) ≤ b.length := by rw [hg.n]; exact rup_fit (by have := hg.p; omega) (by have := hg.n; omega)
  have hct := h.ct
  have hfl := h.fl
  refine ⟨o, h.pg, h.br, h.no, g2, ?_, by show d.fs.length * 7 ≤ rup page (d.e + 1); omega, by show _ < f + 1 - 1 + rup page (d.e + 1); omega, e⟩
  show rup page (d.e + 1) % page ≠ page - 1
  rw [rup_mod (by have := hg.p; omega)]
  have := hg.p
  omega
theorem DRd.bad {w W W' : World} {page pages N : Nat} {b : List Nat} {g cb : Nat} {d : Dl} {f : Nat} (h : DRd w W page pages b g cb d f) (hg : DGe page pages N b) (hq : d.e < b.length) (hm : mrk b d.e = true ∧ okS page b d.e = false ∨ mrk b d.e = false ∧ isF b d.e = false) (o : DO w.heap.size w W' { d with br := true } g cb b) : OpD w W' page pages b { d with br := true } := by
  obtain ⟨f, rfl⟩ : ∃ f', f = f' + 1 := ⟨f - 1, by have := h.fl; omega⟩
  have e := h.eq
  have e2 : rdr page b (f + 1) d.e = ([], d.e, true) := by
    rcases hm with ⟨q1, q2⟩ | ⟨q1, q2⟩
    · exact rdr_skip_no hq q1 q2
    · exact rdr_none hq q1 q2
  rw [e2] at e
  have hl := hg.le
  refine ⟨h.pg.1, h.pg.2, by rw [e]; simp, by rw [e], by rw [e], o.done (by show 2 ≤ d.page ∧ d.page ≤ 512; rw [h.pg.1]; exact hg.p) (by show d.pages ≤ 64; rw [h.pg.2]; exact hg.s) ?_ h.ct, o.bel⟩
  show d.e ≤ d.page * d.pages
  rw [h.pg.1, h.pg.2]
  have := h.le
  omega
theorem frame_fits {page pages N : Nat} {b : List Nat} {q : Nat} (hg : DGe page pages N b) (hf : isF b q = true) : bgn page (fend b q) ≤ b.length ∧ fend b q ≤ b.length ∧ q + 7 ≤ fend b q := by
  have k := isF_facts hf
  refine ⟨by rw [hg.n]; exact bgn_fit hg.p.1 (by rw [← hg.n]; exact k.2.1), k.2.1, by omega⟩
theorem DRd.frame {w W W' : World} {page pages N : Nat} {b : List Nat} {g cb : Nat} {d : Dl} {f : Nat} {v : Value} (h : DRd w W page pages b g cb d f) (hg : DGe page pages N b) (hq : d.e < b.length) (hm : mrk b d.e = false) (hf : isF b d.e = true) (ho : okF page b d.e = true)
    (o : DO w.heap.size w W' { d with fv := v, fs := d.fs ++ [(d.e, Hd.bodyL (b.drop d.e))], e := bgn page (fend b d.e) } g cb b) : DRd w W' page pages b g cb { d with fv := v, fs := d.fs ++ [(d.e, Hd.bodyL (b.drop d.e))], e := bgn page (fend b d.e) } (f - 1) := by
  obtain ⟨f, rfl⟩ : ∃ f', f = f' + 1 := ⟨f - 1, by have := h.fl; omega⟩
  have e := h.eq
  rw [rdr_frame hq hm hf ho] at e
  have k := frame_fits hg hf
  have k1 := bgn_le page (fend b d.e)
  have hct := h.ct
  have hfl := h.fl
  refine ⟨o, h.pg, h.br, h.no, k.1, bgn_mod hg.p.1 _, ?_, ?_, ?_⟩
  · show (d.fs ++ [(d.e, Hd.bodyL (b.drop d.e))]).length * 7 ≤ bgn page (fend b d.e)
    rw [List.length_append, List.length_singleton]
    omega
  · show _ < f + 1 - 1 + bgn page (fend b d.e)
    omega
  · show _ = ((d.fs ++ [(d.e, Hd.bodyL (b.drop d.e))]) ++ (rdr page b f (bgn page (fend b d.e))).1, (rdr page b f (bgn page (fend b d.e))).2)
    rw [e, List.append_assoc]
    rfl
theorem DRd.torn {w W W' : World} {page pages N : Nat} {b : List Nat} {g cb : Nat} {d : Dl} {f : Nat} {v : Value} (h : DRd w W page pages b g cb d f) (hg : DGe page pages N b) (hq : d.e < b.length) (hm : mrk b d.e = false) (hf : isF b d.e = true) (ho : okF page b d.e = false)
    (o : DO w.heap.size w W' { d with fv := v, fs := d.fs ++ [(d.e, Hd.bodyL (b.drop d.e))], e := bgn page (fend b d.e), br := true } g cb b) : OpD w W' page pages b { d with fv := v, fs := d.fs ++ [(d.e, Hd.bodyL (b.drop d.e))], e := bgn page (fend b d.e), br := true } := by
  obtain ⟨f, rfl⟩ : ∃ f', f = f' + 1 := ⟨f - 1, by have := h.fl; omega⟩
  have e := h.eq
  rw [rdr_frame_no hq hm hf ho] at e
  have k := frame_fits hg hf
  have k1 := bgn_le page (fend b d.e)
  have hl := hg.le
  have hct := h.ct
  refine ⟨h.pg.1, h.pg.2, by rw [e], by rw [e], by rw [e], o.done (by show 2 ≤ d.page ∧ d.page ≤ 512; rw [h.pg.1]; exact hg.p) (by show d.pages ≤ 64; rw [h.pg.2]; exact hg.s) ?_ ?_, o.bel⟩
  · show bgn page (fend b d.e) ≤ d.page * d.pages
    rw [h.pg.1, h.pg.2]
    omega
  · show (d.fs ++ [(d.e, Hd.bodyL (b.drop d.e))]).length * 7 ≤ bgn page (fend b d.e)
    rw [List.length_append, List.length_singleton]
    omega
/-- The filling behind a frame is at most one byte. -/
theorem okF_byte {page : Nat} {b : List Nat} {q : Nat} (hb : bgn page (fend b q) ≤ b.length) : okF page b q = (decide (bgn page (fend b q) = fend b q) || (b.getD (bgn page (fend b q) - 1) 0 == 255)) := by
  unfold okF blk
  rcases bgn_le page (fend b q) with ⟨h1, h2⟩
  by_cases e : bgn page (fend b q) = fend b q
  · rw [e]; simp
  · have e1 : bgn page (fend b q) = fend b q + 1 := by omega
    have hl : fend b q < b.length := by omega
    have e2 := List.drop_eq_getElem_cons hl
    rw [e1, show fend b q + 1 - fend b q = 1 by omega, show fend b q + 1 - 1 = fend b q by omega, e2]
    show ([b[fend b q]] : List Nat).all (· == 255) = _
    simp [List.getD, hl]
end Go.Proofs.YteodcjbbkekidaaGreatDoor
