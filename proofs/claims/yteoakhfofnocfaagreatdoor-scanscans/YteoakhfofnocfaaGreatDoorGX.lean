/-
  What Program does with the document's chip.
  Program of the document's chip, where the operation begins: by its fault.
  Program of the document's chip, where the operation begins: by its fault.
-/
import Derived.Test.YteoakhfofnocfaaGreatDoorGW
import Derived.Deep.RegionHeld3
import Derived.Deep.RegionLaw
namespace Go.Proofs.YteoakhfofnocfaaGreatDoor
open Go.RowKit
set_option maxRecDepth 10000

/-- The document's chip behind a call: what it is now, and what stayed. -/
structure DPost (base : Nat) (w w' : World) (d : DS) (a : AS) (d' : DS) : Prop where
  lies : DLies base w' d'
  kept : Kept d.foot w w'
  foot : ∀ k, d'.foot k → d.foot k ∨ w.heap.size ≤ k
  abs : d'.abs = a
  pl : d'.p = d.p
  pa : d'.pa = d.pa ∧ d'.plan = d.plan
theorem DPost.same {base : Nat} {w : World} {d : DS} (h : DLies base w d) : DPost base w w d d.abs d := ⟨h, Kept.refl _ _, fun _ x => .inl x, rfl, rfl, rfl, rfl⟩

theorem d_prog_err {base : Nat} {w : World} {d : DS} (h : DLies base w d) (block page : Int) (a : Option Addr) (m dc : Nat) (data : List Nat)
    (he : d.off = true ∨ (d.off = false ∧ d.at block = none)) :
    Calls Tryz.prog 37 #[.pointer (some ⟨d.p, 0, none⟩), .int .i64 block, .int .i64 page, .slice a m dc] w fun e w' => e = .returned (.int .i64 (d.abs.program block page data).1) ∧ DPost base w w' d (d.abs.program block page data).2 d := by
  have ha := d_asked h block
  obtain ⟨x, hx, hx0, hr⟩ : ∃ x : Int, d.asked block = x ∧ ¬ x = 0 ∧ d.abs.program block page data = (x, d.abs) := by
    rcases he with ho | ⟨ho, hb⟩
    · exact ⟨6, by unfold DS.asked; rw [if_pos ho], by decide, by unfold AS.program; rw [if_pos (show d.abs.off = true from ho)]⟩
    · refine ⟨22, by unfold DS.asked; rw [if_neg (by rw [ho]; decide), hb], by decide, ?_⟩
      unfold AS.program
      rw [if_neg (show ¬ d.abs.off = true by show ¬ d.off = true; rw [ho]; decide), abs_at, hb]
      rfl
  rw [hx] at ha
  rw [hr]
  have hx1 : (x == 0) = false := by simpa using hx0
  have hx2 : (x != 0) = true := by simpa using hx0
  have fin := DPost.same h
  generalize d.p = p at ha ⊢
  clear h hx hx0 hr he
  go_enter Tryz.func37, Tryz.ntmps37
  go_wp2_with (go_at_call 82; refine ha.mono ?_; rintro e w' ⟨rfl, rfl⟩)
  go_ret
  exact ⟨rfl, fin⟩
theorem prog_some {d : DS} {block : Int} {b : DBk} (ho : d.off = false) (hb : d.at block = some b) (page : Int) (data : List Nat) : d.abs.program block page data =
    (if ¬ (0 ≤ page ∧ page < d.gp) ∨ d.gz < data.length then (22, d.abs) else if b.bad = true ∨ page ≠ b.next then (1, { d.abs with wrong := wrap64 (d.wrong + 1) })
    else (d.flt.says, { d.abs.begun with bks := d.abs.bks.set block.toNat (b.abs.programmed data d.flt.ext) })) := by
  unfold AS.program
  rw [if_neg (show ¬ d.abs.off = true by show ¬ d.off = true; rw [ho]; decide), abs_at, hb]
  rfl
theorem asked_ok {d : DS} {block : Int} {b : DBk} (ho : d.off = false) (hb : d.at block = some b) : d.asked block = 0 := by
  unfold DS.asked; rw [if_neg (by rw [ho]; decide), hb]

set_option maxHeartbeats 2000000 in
theorem d_prog_shape {base : Nat} {w : World} {d : DS} (h : DLies base w d) (block page : Int) (a : Option Addr) (m dc : Nat) (data : List Nat) (hm : m = data.length) {b : DBk} (ho : d.off = false) (hb : d.at block = some b)
    (hs : ¬ (0 ≤ page ∧ page < d.gp) ∨ d.gz < data.length) :
    Calls Tryz.prog 37 #[.pointer (some ⟨d.p, 0, none⟩), .int .i64 block, .int .i64 page, .slice a m dc] w fun e w' => e = .returned (.int .i64 (d.abs.program block page data).1) ∧ DPost base w w' d (d.abs.program block page data).2 d := by
  have ha := d_asked h block
  rw [asked_ok ho hb] at ha
  rw [prog_some ho hb, if_pos hs]
  have c1 : w.cell? ⟨d.p, 1, none⟩ = some (.int .i64 d.gp) := h.chip.cell (by rfl)
  have c2 : w.cell? ⟨d.p, 2, none⟩ = some (.int .i64 d.gz) := h.chip.cell (by rfl)
  have fin := DPost.same h
  have hs' : page < 0 ∨ (¬ page < 0 ∧ (d.gp : Int) ≤ page) ∨ (¬ page < 0 ∧ ¬ (d.gp : Int) ≤ page ∧ (d.gz : Int) < (m : Int)) := by
    rw [hm]; rcases hs with q | q <;> omega
  generalize d.p = p at ha c1 c2 ⊢
  generalize d.gp = gp at c1 hs'
  generalize d.gz = gz at c2 hs'
  clear h hb ho hs
  rcases hs' with q | ⟨q1, q2⟩ | ⟨q1, q2, q3⟩
  all_goals
    go_enter Tryz.func37, Tryz.ntmps37
    go_wp2_with (go_at_call 82; refine ha.mono ?_; rintro e w' ⟨rfl, rfl⟩)
    go_ret
    exact ⟨rfl, fin⟩

/-- What is known where the call goes on: the block's place, its cells, the page's. -/
structure PAt (base : Nat) (w : World) (d : DS) (i j : Nat) (b : DBk) : Prop where
  c1 : w.cell? ⟨d.p, 1, none⟩ = some (.int .i64 d.gp)
  c2 : w.cell? ⟨d.p, 2, none⟩ = some (.int .i64 d.gz)
  c4 : w.cell? ⟨d.p, 4, none⟩ = some (.slice (some ⟨d.q, 0, none⟩) d.bks.length d.qcap)
  at_ : DAt w d.q (i * 4) b
  il : (i : Int) < (d.bks.length : Int)
  jl : (j : Int) < (d.gp : Int)
theorem PAt.of {base : Nat} {w : World} {d : DS} (h : DLies base w d) {i j : Nat} {b : DBk} (hb : d.bks[i]? = some b) (hj : j < d.gp) : PAt base w d i j b :=
  ⟨h.chip.cell (by rfl), h.chip.cell (by rfl), h.chip.cell (by rfl), DAt.of h.bks hb, by have := (List.getElem?_eq_some_iff.1 hb).1; omega, by omega⟩

set_option maxHeartbeats 2000000 in
theorem d_prog_wrong {base : Nat} {w : World} {d : DS} (h : DLies base w d) (i : Nat) (page : Int) (a : Option Addr) (m dc : Nat) (data : List Nat) (hm : m = data.length) {b : DBk} (ho : d.off = false) (hb : d.at i = some b)
    (hs : ¬ (¬ (0 ≤ page ∧ page < d.gp) ∨ d.gz < data.length)) (hw : b.bad = true ∨ page ≠ b.next) :
    Calls Tryz.prog 37 #[.pointer (some ⟨d.p, 0, none⟩), .int .i64 i, .int .i64 page, .slice a m dc] w fun e w' => e = .returned (.int .i64 (d.abs.program i page data).1) ∧ DPost base w w' d (d.abs.program i page data).2 { d with wrong := wrap64 (d.wrong + 1) } := by
  have ha := d_asked h i
  rw [asked_ok ho hb] at ha
  rw [prog_some ho hb, if_neg hs, if_pos hw]
  obtain ⟨j, rfl⟩ : ∃ j : Nat, page = j := ⟨page.toNat, by omega⟩
  obtain ⟨hb1, _⟩ := dat_some hb
  have hP := PAt.of h (j := j) hb1 (by omega)
  simp only [Int.toNat_natCast] at hP
  have c9 : w.cell? ⟨d.p, 9, none⟩ = some (.int .i64 d.wrong) := h.chip.cell (by rfl)
  have f9 := h.chip.frozen 9
  have fin : ∀ W, W = w.setCell ⟨d.p, 9, none⟩ (.int .i64 (wrap64 (d.wrong + 1))) → DPost base w W d { d.abs with wrong := wrap64 (d.wrong + 1) } { d with wrong := wrap64 (d.wrong + 1) } := by
    rintro W rfl
    obtain ⟨r1, r2, r3⟩ := h.step0 (d' := { d with wrong := wrap64 (d.wrong + 1) }) rfl rfl ⟨rfl, rfl⟩ rfl ⟨h.good.len, h.good.plen, h.good.qc, h.good.gs, h.good.dat, h.good.pln⟩ ((Kept.refl (fun k => k = d.p) w).setCell (p := ⟨d.p, 9, none⟩) rfl _) (h.chip.set (i := 9) (.int .i64 (wrap64 (d.wrong + 1))) (by simp [dsCells]))
    exact ⟨r1, r2, fun k hk => .inl (by rw [← r3]; exact hk), rfl, rfl, rfl, rfl⟩
  obtain ⟨c1, c2, c4, ⟨_, d1, d2, _⟩, hil, hjl⟩ := hP
  have q1 : ¬ (j : Int) < 0 := by omega
  have q2 : ¬ (d.gp : Int) ≤ (j : Int) := by omega
  have q3 : ¬ (d.gz : Int) < (m : Int) := by omega
  have hw' : b.bad = true ∨ (b.bad = false ∧ ((j : Int) != b.next) = true) := by
    by_cases hbb : b.bad = true
    · exact .inl hbb
    · rcases hw with q | q
      · exact absurd q hbb
      · exact .inr ⟨by simpa using hbb, by simpa using q⟩
  clear hb ho hs hw h hb1 hm
  generalize d.p = p at *
  generalize d.q = q at *
  rcases hw' with e | ⟨e1, e2⟩
  · rw [e] at d2
    clear e
    go_enter Tryz.func37, Tryz.ntmps37
    go_wp2_with (go_at_call 82; refine ha.mono ?_; rintro e w' ⟨rfl, rfl⟩)
    go_ret
    exact ⟨rfl, fin _ rfl⟩
  · rw [e1] at d2
    clear e1
    go_enter Tryz.func37, Tryz.ntmps37
    go_wp2_with (go_at_call 82; refine ha.mono ?_; rintro e w' ⟨rfl, rfl⟩)
    go_ret
    exact ⟨rfl, fin _ rfl⟩

/-- The block behind a program that left the page np. -/
def DBk.prog (b : DBk) (j : Nat) (np : DPg) : DBk := { b with pgs := b.pgs.set j np, next := b.next + 1 }
def DS.progd (d : DS) (i j : Nat) (b : DBk) (np : DPg) : DS := { d.counted with bks := d.bks.set i (b.prog j np) }
theorem dp_set {W : World} {r j : Nat} {l : List DPg} {p : DPg} (np : DPg) {t : TypeId} (h : Row W r (l.flatMap dpCells) t) (hj : l[j]? = some p) :
    Row (((W.setCell ⟨r, j * 3, none⟩ (.bool np.done)).setCell ⟨r, j * 3 + 1, none⟩ (.bool np.spoilt)).setCell ⟨r, j * 3 + 2, none⟩ (.slice np.da np.dl np.dc)) r ((l.set j np).flatMap dpCells) t := by
  have hlen := flat_len dpCells 3 dp_len l
  have hlt := (List.getElem?_eq_some_iff.1 hj).1
  have h1 := h.set (i := j * 3) (.bool np.done) (by omega)
  have e1 := flat_set dpCells 3 dp_len 0 (by decide) (.bool np.done) { p with done := np.done } l j p hj rfl
  rw [Nat.add_zero] at e1
  rw [e1] at h1
  have hj1 : (l.set j { p with done := np.done })[j]? = some { p with done := np.done } := by rw [List.getElem?_set_self hlt]
  have hlen1 := flat_len dpCells 3 dp_len (l.set j { p with done := np.done })
  rw [List.length_set] at hlen1
  have h2 := h1.set (i := j * 3 + 1) (.bool np.spoilt) (by omega)
  rw [flat_set dpCells 3 dp_len 1 (by decide) (.bool np.spoilt) { p with done := np.done, spoilt := np.spoilt } _ j _ hj1 rfl] at h2
  rw [List.set_set] at h2
  have hj2 : (l.set j { p with done := np.done, spoilt := np.spoilt })[j]? = some { p with done := np.done, spoilt := np.spoilt } := by rw [List.getElem?_set_self hlt]
  have hlen2 := flat_len dpCells 3 dp_len (l.set j { p with done := np.done, spoilt := np.spoilt })
  rw [List.length_set] at hlen2
  have h3 := h2.set (i := j * 3 + 2) (.slice np.da np.dl np.dc) (by omega)
  rw [flat_set dpCells 3 dp_len 2 (by decide) (.slice np.da np.dl np.dc) np _ j _ hj2 rfl, List.set_set] at h3
  exact h3
/-- The chip behind a program, where the page and the block's count are stored. -/
theorem prog_lies {base : Nat} {w1 : World} {d : DS} (h1 : DLies base w1 d.counted) {i j : Nat} {b : DBk} (hb : d.bks[i]? = some b) (hj : j < d.gp) (hnx : b.next = (j : Int)) (np : DPg) (hok : DOk w1 np) (hnl : np.data.length ≤ d.gz) :
    DLies base ((((w1.setCell ⟨b.r, j * 3, none⟩ (.bool np.done)).setCell ⟨b.r, j * 3 + 1, none⟩ (.bool np.spoilt)).setCell ⟨b.r, j * 3 + 2, none⟩ (.slice np.da np.dl np.dc)).setCell ⟨d.q, i * 4 + 1, none⟩ (.int .i64 (b.next + 1))) (d.progd i j b np) ∧
    Kept d.foot w1 ((((w1.setCell ⟨b.r, j * 3, none⟩ (.bool np.done)).setCell ⟨b.r, j * 3 + 1, none⟩ (.bool np.spoilt)).setCell ⟨b.r, j * 3 + 2, none⟩ (.slice np.da np.dl np.dc)).setCell ⟨d.q, i * 4 + 1, none⟩ (.int .i64 (b.next + 1))) ∧ (d.progd i j b np).foot = d.foot := by
  have hbm : b ∈ d.bks := List.mem_of_getElem? hb
  have hpl := h1.good.plen b hbm
  have hjb : j < b.pgs.length := by have := hpl.1; show j < _; rw [this]; exact hj
  obtain ⟨hrow, hoks⟩ := h1.pgs b hbm
  have hk : Kept (fun k => k = d.p ∨ k = d.q ∨ k = b.r) w1 ((((w1.setCell ⟨b.r, j * 3, none⟩ (.bool np.done)).setCell ⟨b.r, j * 3 + 1, none⟩ (.bool np.spoilt)).setCell ⟨b.r, j * 3 + 2, none⟩ (.slice np.da np.dl np.dc)).setCell ⟨d.q, i * 4 + 1, none⟩ (.int .i64 (b.next + 1))) :=
    ((((Kept.refl _ w1).setCell (p := ⟨b.r, j * 3, none⟩) (.inr (.inr rfl)) _).setCell (p := ⟨b.r, j * 3 + 1, none⟩) (.inr (.inr rfl)) _).setCell (p := ⟨b.r, j * 3 + 2, none⟩) (.inr (.inr rfl)) _).setCell (p := ⟨d.q, i * 4 + 1, none⟩) (.inr (.inl rfl)) _
  have hch : Row w1 d.p (dsCells d.counted) 84 := h1.chip
  have hpr : d.p ≠ b.r := h1.chip.ne hrow (by decide)
  have hpq : d.p ≠ d.q := h1.chip.ne h1.bks (by decide)
  have hqr : d.q ≠ b.r := h1.bks.ne hrow (by decide)
  have g1 : Row ((((w1.setCell ⟨b.r, j * 3, none⟩ (.bool np.done)).setCell ⟨b.r, j * 3 + 1, none⟩ (.bool np.spoilt)).setCell ⟨b.r, j * 3 + 2, none⟩ (.slice np.da np.dl np.dc)).setCell ⟨d.q, i * 4 + 1, none⟩ (.int .i64 (b.next + 1))) d.p (dsCells (d.progd i j b np)) 84 := by
    have : dsCells (d.progd i j b np) = dsCells d.counted := by simp [dsCells, DS.progd]; rfl
    rw [this]
    exact (((hch.other _ _ hpr).other _ _ hpr).other _ _ hpr).other _ _ hpq
  have g2 := db_next (b.prog j np) (((h1.bks.other ⟨b.r, j * 3, none⟩ (.bool np.done) hqr).other ⟨b.r, j * 3 + 1, none⟩ (.bool np.spoilt) hqr).other ⟨b.r, j * 3 + 2, none⟩ (.slice np.da np.dl np.dc) hqr) hb (by simp [dbCells, DBk.prog])
  have g3 := (dp_set np hrow (List.getElem?_eq_getElem hjb)).other ⟨d.q, i * 4 + 1, none⟩ (.int .i64 (b.next + 1)) (fun e => hqr e.symm)
  have hu : ∀ x cs, Row w1 x cs 5 → ¬ (x = d.p ∨ x = d.q ∨ x = b.r) := by
    rintro x cs hx (e | e | e)
    · exact hx.ne h1.chip (by decide) e
    · exact hx.ne h1.bks (by decide) e
    · exact hx.ne hrow (by decide) e
  refine h1.step (d' := d.progd i j b np) rfl rfl ⟨rfl, rfl⟩ hb rfl rfl ?_ hk g1 g2 g3 ?_
  · refine DGood.set (d := d.counted) (b' := b.prog j np) h1.good ?_ ?_
    · refine ⟨?_, hpl.2.1, hpl.2.2.1, ?_, ?_⟩
      · rw [show (b.prog j np).pgs = b.pgs.set j np from rfl, List.length_set]; exact hpl.1
      · show 0 ≤ b.next + 1; omega
      · show b.next + 1 ≤ _; rw [hnx]; show (j : Int) + 1 ≤ (d.gp : Int); omega
    · intro p hp
      rcases List.mem_or_eq_of_mem_set hp with hp | rfl
      · exact h1.good.dat b hbm p hp
      · exact hnl
  · intro p hp
    rcases List.mem_or_eq_of_mem_set hp with hp | rfl
    · exact (hoks p hp).kept hk hu
    · exact hok.kept hk hu
theorem abs_progd (d : DS) (i j : Nat) (b : DBk) (np : DPg) : (d.progd i j b np).abs = { d.abs with ops := wrap64 (d.ops + 1), bks := d.abs.bks.set i (b.prog j np).abs } := by
  simp [DS.progd, DS.abs, DS.counted, List.map_set]
/-- The told chip, as the document tells it. -/
theorem tell_abs (d : DS) (f : Flt) : (d.tell f).2.abs = { d.abs with off := if f.kind = 1 then true else d.off } ∧ (d.tell f).1 = f.says := by
  unfold DS.tell Flt.says
  split
  · exact ⟨rfl, rfl⟩
  · split
    · exact ⟨rfl, rfl⟩
    · exact ⟨rfl, rfl⟩
theorem tell_foot (d : DS) (f : Flt) : (d.tell f).2.foot = d.foot ∧ (d.tell f).2.p = d.p ∧ (d.tell f).2.pa = d.pa ∧ (d.tell f).2.plan = d.plan := by
  unfold DS.tell
  split
  · exact ⟨rfl, rfl, rfl, rfl⟩
  · split
    · exact ⟨rfl, rfl, rfl, rfl⟩
    · exact ⟨rfl, rfl, rfl, rfl⟩
end Go.Proofs.YteoakhfofnocfaaGreatDoor
namespace Go.Proofs.YteoakhfofnocfaaGreatDoor
open Go.RowKit
set_option maxRecDepth 10000

/-- What is known when the operation has begun. -/
structure After (w1 : World) (d : DS) (i j : Nat) (b : DBk) : Prop where
  c1 : w1.cell? ⟨d.p, 1, none⟩ = some (.int .i64 d.gp)
  c4 : w1.cell? ⟨d.p, 4, none⟩ = some (.slice (some ⟨d.q, 0, none⟩) d.bks.length d.qcap)
  at_ : DAt w1 d.q (i * 4) b
  z1 : w1.frozen? ⟨d.q, i * 4 + 1, none⟩ = false
  z20 : w1.frozen? ⟨b.r, j * 3, none⟩ = false
  z21 : w1.frozen? ⟨b.r, j * 3 + 1, none⟩ = false
  z22 : w1.frozen? ⟨b.r, j * 3 + 2, none⟩ = false
  r_lt : b.r < w1.heap.size
  q_lt : d.q < w1.heap.size
  p_lt : d.p < w1.heap.size
  u : ∃ v0 v1 v2, w1.cell? ⟨b.r, j * 3, none⟩ = some v0 ∧ w1.cell? ⟨b.r, j * 3 + 1, none⟩ = some v1 ∧ w1.cell? ⟨b.r, j * 3 + 2, none⟩ = some v2
theorem After.of {base : Nat} {w1 : World} {d : DS} {i j : Nat} {b : DBk} (h1 : DLies base w1 d.counted) (hb : d.bks[i]? = some b) (hj : j < d.gp) : After w1 d i j b := by
  have hbm : b ∈ d.bks := List.mem_of_getElem? hb
  have hr := (h1.pgs b hbm).1
  have hjb : j < b.pgs.length := by have := (h1.good.plen b hbm).1; rw [this]; exact hj
  exact ⟨h1.chip.cell (by rfl), h1.chip.cell (by rfl), DAt.of h1.bks hb, h1.bks.frozen _, hr.frozen _, hr.frozen _, hr.frozen _, hr.lt, h1.bks.lt, h1.chip.lt, _, _, _, hr.cell (flat_get dpCells 3 dp_len 0 (by decide) b.pgs j _ (List.getElem?_eq_getElem hjb)), hr.cell (flat_get dpCells 3 dp_len 1 (by decide) b.pgs j _ (List.getElem?_eq_getElem hjb)), hr.cell (flat_get dpCells 3 dp_len 2 (by decide) b.pgs j _ (List.getElem?_eq_getElem hjb))⟩
def blank : DPg := ⟨true, true, none, 0, 0, []⟩
theorem blank_ok (w : World) : DOk w blank := ⟨rfl, by simp [blank], .inl rfl, fun _ => ⟨rfl, rfl⟩, .inl rfl⟩
theorem prog_abs (b : DBk) (j : Nat) (np : DPg) : (b.prog j np).abs = { b.abs with pgs := b.abs.pgs.set j np.abs, next := b.next + 1 } := by
  simp [DBk.prog, DBk.abs, List.map_set]
/-- How the ways end: the chip told, behind what was stored. -/
theorem ends {base : Nat} {w w1 W W' : World} {d : DS} {i j : Nat} {b : DBk} {np : DPg} (x kd td : Int) (hf : d.flt = ⟨x, kd, td⟩) (data : List Nat)
    (hx : b.abs.programmed data d.flt.ext = { b.abs with pgs := b.abs.pgs.set j np.abs, next := b.next + 1 })
    (h0 : Kept (fun k => k = d.p) w w1) (h1 : Kept d.foot w1 W) (hfoot : (d.progd i j b np).foot = d.foot) (h2 : Kept (d.progd i j b np).foot W W') (f : Flt) (hk : f.kind = kd) (h3 : DLies base W' ((d.progd i j b np).tell f).2) :
    DPost base w W' d { d.abs.begun with bks := d.abs.bks.set i (b.abs.programmed data d.flt.ext) } ((d.progd i j b np).tell f).2 := by
  obtain ⟨t1, t2, t3, t4⟩ := tell_foot (d.progd i j b np) f
  refine ⟨h3, ?_, ?_, ?_, t2, t3, t4⟩
  · rw [hfoot] at h2
    exact ((h0.mono (fun k e => .inl e)).trans h1).trans h2
  · intro k hk
    rw [t1, hfoot] at hk
    exact .inl hk
  · rw [(tell_abs _ f).1, abs_progd, prog_abs b j, hx, hk]
    have : d.abs.flt.kind = kd := by rw [abs_flt, hf]
    simp only [AS.begun, this]
    rfl
theorem spoil_abs (b : DBk) (j : Nat) (hnx : b.next = (j : Int)) (data : List Nat) : b.abs.programmed data 1 = { b.abs with pgs := b.abs.pgs.set j blank.abs, next := b.next + 1 } := by
  unfold ABk.programmed
  rw [if_neg (by decide), if_pos rfl]
  have : b.abs.next.toNat = j := by show b.next.toNat = j; rw [hnx]; simp
  rw [this]
  rfl
theorem data_abs (b : DBk) (j : Nat) (hnx : b.next = (j : Int)) (np : DPg) (hs : np.spoilt = false) : b.abs.programmed np.data 2 = { b.abs with pgs := b.abs.pgs.set j np.abs, next := b.next + 1 } := by
  unfold ABk.programmed
  rw [if_neg (by decide), if_neg (by decide)]
  have : b.abs.next.toNat = j := by show b.next.toNat = j; rw [hnx]; simp
  rw [this]
  have e : np.abs = ⟨false, np.data⟩ := by unfold DPg.abs; rw [hs]
  rw [e]
  rfl

set_option maxHeartbeats 4000000 in
theorem d_prog11 {base : Nat} {w : World} {d : DS} (h : DLies base w d) (i j : Nat) (a : Option Addr) (m dc : Nat) (data : List Nat) {b : DBk} (ho : d.off = false) (hb : d.bks[i]? = some b) (hj : j < d.gp) (hz : m ≤ d.gz)
    (hbad : b.bad = false) (hnx : b.next = (j : Int)) (x : Int) (hf : d.flt = ⟨x, 1, 1⟩) :
    Calls Tryz.prog 37 #[.pointer (some ⟨d.p, 0, none⟩), .int .i64 i, .int .i64 j, .slice a m dc] w fun e w' => ∃ d', e = .returned (.int .i64 d.flt.says) ∧ DPost base w w' d { d.abs.begun with bks := d.abs.bks.set i (b.abs.programmed data d.flt.ext) } d' := by
  have hat : d.at i = some b := by unfold DS.at; rw [if_neg (by omega)]; simpa using hb
  have ha := d_asked h i
  rw [asked_ok ho hat] at ha
  have hfl := d_fault h
  rw [hf] at hfl
  have hbm : b ∈ d.bks := List.mem_of_getElem? hb
  have hplen := h.good.plen b hbm
  have HG : Hid (∀ w1, DLies base w1 d.counted → After w1 d i j b) := fun w1 h1 => After.of h1 hb hj
  have hqr : ¬ d.q = b.r := h.bks.ne (h.pgs b hbm).1 (by decide)
  have hrq : ¬ b.r = d.q := fun e => hqr e.symm
  have HB : Hid (d.bks[i]? = some b) := hb
  have hcap := h.good.gs
  obtain ⟨c1, c2, c4, ⟨_, d1, d2, _⟩, hil, hjl⟩ := PAt.of h (j := j) hb hj
  rw [hbad] at d2
  rw [hnx] at d1
  have hjj : ((j : Int) != (j : Int)) = false := by simp
  have q1 : ¬ (j : Int) < 0 := by omega
  have q2 : ¬ (d.gp : Int) ≤ (j : Int) := by omega
  have q3 : ¬ (d.gz : Int) < (m : Int) := by omega
  have hjp : (j : Int) < (b.pgs.length : Int) := by omega
  have hwr : wrap64 ((j : Int) + 1) = (j : Int) + 1 := by unfold wrap64; omega
  have HNX : Hid (b.next = (j : Int)) := hnx
  have HBA : Hid (b.bad = false) := hbad
  have HF : Hid (d.flt = ⟨x, 1, 1⟩) := hf
  have HJ : Hid (j < d.gp) := hj
  clear hb hat ho hbm hplen hnx hbad h hf hj hcap
  go_enter Tryz.func37, Tryz.ntmps37
  go_wp2_with (first
    | (go_at_call 82; refine ha.mono ?_; rintro e w' ⟨rfl, rfl⟩)
    | (go_at_call 83; refine hfl.mono ?_; rintro e w1 ⟨rfl, hd1, hk1⟩; obtain ⟨g1, g4, ⟨e0, e1, e2, _⟩, z1, z20, z21, z22, z3, z4, z5, v0, v1, v2, u0, u1, u2⟩ := HG.out w1 hd1; rw [HNX.out] at e1; rw [HBA.out] at e2; have HD1 : Hid (DLies _ _ _) := hd1; have HK1 : Hid (Kept _ _ _) := hk1; clear hd1 hk1)
    | (go_at_call 84; obtain ⟨L5, K5, F5⟩ := prog_lies HD1.out HB.out HJ.out HNX.out blank (blank_ok _) (Nat.zero_le _); rw [HNX.out] at L5 K5; have L6 := L5.later (below_new _ (Obj.cells #[.int .i64 x, .int .i64 1, .int .i64 1] 121)); have K6 := K5.alloc (Obj.cells #[.int .i64 x, .int .i64 1, .int .i64 1] 121); have T6 := d_told L6 ⟨x, 1, 1⟩; have HK6 : Hid (Kept _ _ _) := K6; have HF5 : Hid (DS.foot _ = DS.foot _) := F5; clear L5 K5 L6 K6 F5; go_must (refine T6.mono ?_); rintro e w3 ⟨rfl, hl3, hk3⟩; have HL3 : Hid (DLies _ _ _) := hl3; have HK3 : Hid (Kept _ _ _) := hk3; clear hl3 hk3 T6))
  go_ret
  refine ⟨_, ?_, ends x 1 1 HF.out data ?_ HK1.out HK6.out HF5.out HK3.out ⟨x, 1, 1⟩ rfl HL3.out⟩
  · rw [HF.out, ← (tell_abs (d.progd i j b blank) ⟨x, 1, 1⟩).2]; rfl
  · rw [HF.out]; exact spoil_abs b j HNX.out data

set_option maxHeartbeats 4000000 in
theorem d_prog20 {base : Nat} {w : World} {d : DS} (h : DLies base w d) (i j : Nat) (a : Option Addr) (m dc : Nat) (data : List Nat) {b : DBk} (ho : d.off = false) (hb : d.bks[i]? = some b) (hj : j < d.gp) (hz : m ≤ d.gz)
    (hbad : b.bad = false) (hnx : b.next = (j : Int)) (x : Int) (hf : d.flt = ⟨x, 2, 0⟩) :
    Calls Tryz.prog 37 #[.pointer (some ⟨d.p, 0, none⟩), .int .i64 i, .int .i64 j, .slice a m dc] w fun e w' => ∃ d', e = .returned (.int .i64 d.flt.says) ∧ DPost base w w' d { d.abs.begun with bks := d.abs.bks.set i (b.abs.programmed data d.flt.ext) } d' := by
  have hat : d.at i = some b := by unfold DS.at; rw [if_neg (by omega)]; simpa using hb
  have ha := d_asked h i
  rw [asked_ok ho hat] at ha
  have hfl := d_fault h
  rw [hf] at hfl
  have hbm : b ∈ d.bks := List.mem_of_getElem? hb
  have hplen := h.good.plen b hbm
  have HG : Hid (∀ w1, DLies base w1 d.counted → After w1 d i j b) := fun w1 h1 => After.of h1 hb hj
  have hqr : ¬ d.q = b.r := h.bks.ne (h.pgs b hbm).1 (by decide)
  have hrq : ¬ b.r = d.q := fun e => hqr e.symm
  have HB : Hid (d.bks[i]? = some b) := hb
  have hcap := h.good.gs
  obtain ⟨c1, c2, c4, ⟨_, d1, d2, _⟩, hil, hjl⟩ := PAt.of h (j := j) hb hj
  rw [hbad] at d2
  rw [hnx] at d1
  have hjj : ((j : Int) != (j : Int)) = false := by simp
  have q1 : ¬ (j : Int) < 0 := by omega
  have q2 : ¬ (d.gp : Int) ≤ (j : Int) := by omega
  have q3 : ¬ (d.gz : Int) < (m : Int) := by omega
  have hjp : (j : Int) < (b.pgs.length : Int) := by omega
  have hwr : wrap64 ((j : Int) + 1) = (j : Int) + 1 := by unfold wrap64; omega
  have HNX : Hid (b.next = (j : Int)) := hnx
  have HBA : Hid (b.bad = false) := hbad
  have HF : Hid (d.flt = ⟨x, 2, 0⟩) := hf
  have HJ : Hid (j < d.gp) := hj
  clear hb hat ho hbm hplen hnx hbad h hf hj hcap
  go_enter Tryz.func37, Tryz.ntmps37
  go_wp2_with (first
    | (go_at_call 82; refine ha.mono ?_; rintro e w' ⟨rfl, rfl⟩)
    | (go_at_call 83; refine hfl.mono ?_; rintro e w1 ⟨rfl, hd1, hk1⟩; obtain ⟨g1, g4, ⟨e0, e1, e2, _⟩, z1, z20, z21, z22, z3, z4, z5, v0, v1, v2, u0, u1, u2⟩ := HG.out w1 hd1; rw [HNX.out] at e1; rw [HBA.out] at e2; have HD1 : Hid (DLies _ _ _) := hd1; have HK1 : Hid (Kept _ _ _) := hk1; clear hd1 hk1)
    | (go_at_call 84; obtain ⟨L5, K5, F5⟩ := prog_lies HD1.out HB.out HJ.out HNX.out blank (blank_ok _) (Nat.zero_le _); rw [HNX.out] at L5 K5; have L6 := L5.later (below_new _ (Obj.cells #[.int .i64 x, .int .i64 2, .int .i64 1] 121)); have K6 := K5.alloc (Obj.cells #[.int .i64 x, .int .i64 2, .int .i64 1] 121); have T6 := d_told L6 ⟨x, 2, 1⟩; have HK6 : Hid (Kept _ _ _) := K6; have HF5 : Hid (DS.foot _ = DS.foot _) := F5; clear L5 K5 L6 K6 F5; go_must (refine T6.mono ?_); rintro e w3 ⟨rfl, hl3, hk3⟩; have HL3 : Hid (DLies _ _ _) := hl3; have HK3 : Hid (Kept _ _ _) := hk3; clear hl3 hk3 T6))
  go_ret
  refine ⟨_, ?_, ends x 2 0 HF.out data ?_ HK1.out HK6.out HF5.out HK3.out ⟨x, 2, 1⟩ rfl HL3.out⟩
  · rw [HF.out, ← (tell_abs (d.progd i j b blank) ⟨x, 2, 0⟩).2]; rfl
  · rw [HF.out]; exact spoil_abs b j HNX.out data

set_option maxHeartbeats 4000000 in
theorem d_prog10 {base : Nat} {w : World} {d : DS} (h : DLies base w d) (i j : Nat) (a : Option Addr) (m dc : Nat) (data : List Nat) {b : DBk} (ho : d.off = false) (hb : d.bks[i]? = some b) (hj : j < d.gp) (hz : m ≤ d.gz)
    (hbad : b.bad = false) (hnx : b.next = (j : Int)) (x : Int) (hf : d.flt = ⟨x, 1, 0⟩) :
    Calls Tryz.prog 37 #[.pointer (some ⟨d.p, 0, none⟩), .int .i64 i, .int .i64 j, .slice a m dc] w fun e w' => ∃ d', e = .returned (.int .i64 d.flt.says) ∧ DPost base w w' d { d.abs.begun with bks := d.abs.bks.set i (b.abs.programmed data d.flt.ext) } d' := by
  have hat : d.at i = some b := by unfold DS.at; rw [if_neg (by omega)]; simpa using hb
  have ha := d_asked h i
  rw [asked_ok ho hat] at ha
  have hfl := d_fault h
  rw [hf] at hfl
  have hbm : b ∈ d.bks := List.mem_of_getElem? hb
  have hplen := h.good.plen b hbm
  have HG : Hid (∀ w1, DLies base w1 d.counted → After w1 d i j b) := fun w1 h1 => After.of h1 hb hj
  have hqr : ¬ d.q = b.r := h.bks.ne (h.pgs b hbm).1 (by decide)
  have hrq : ¬ b.r = d.q := fun e => hqr e.symm
  have HB : Hid (d.bks[i]? = some b) := hb
  have hcap := h.good.gs
  obtain ⟨c1, c2, c4, ⟨_, d1, d2, _⟩, hil, hjl⟩ := PAt.of h (j := j) hb hj
  rw [hbad] at d2
  rw [hnx] at d1
  have hjj : ((j : Int) != (j : Int)) = false := by simp
  have q1 : ¬ (j : Int) < 0 := by omega
  have q2 : ¬ (d.gp : Int) ≤ (j : Int) := by omega
  have q3 : ¬ (d.gz : Int) < (m : Int) := by omega
  have hjp : (j : Int) < (b.pgs.length : Int) := by omega
  have hwr : wrap64 ((j : Int) + 1) = (j : Int) + 1 := by unfold wrap64; omega
  have HNX : Hid (b.next = (j : Int)) := hnx
  have HBA : Hid (b.bad = false) := hbad
  have HF : Hid (d.flt = ⟨x, 1, 0⟩) := hf
  have HJ : Hid (j < d.gp) := hj
  clear hb hat ho hbm hplen hnx hbad h hf hj hcap
  go_enter Tryz.func37, Tryz.ntmps37
  go_wp2_with (first
    | (go_at_call 82; refine ha.mono ?_; rintro e w' ⟨rfl, rfl⟩)
    | (go_at_call 83; refine hfl.mono ?_; rintro e w1 ⟨rfl, hd1, hk1⟩; obtain ⟨g1, g4, ⟨e0, e1, e2, _⟩, z1, z20, z21, z22, z3, z4, z5, v0, v1, v2, u0, u1, u2⟩ := HG.out w1 hd1; rw [HNX.out] at e1; rw [HBA.out] at e2; have HD1 : Hid (DLies _ _ _) := hd1; have HK1 : Hid (Kept _ _ _) := hk1; clear hd1 hk1)
    | (go_at_call 84; have L6 := HD1.out.later (below_new w1 (Obj.cells #[.int .i64 x, .int .i64 1, .int .i64 0] 121)); have T6 := d_told L6 ⟨x, 1, 0⟩; clear L6; go_must (refine T6.mono ?_); rintro e w3 ⟨rfl, hl3, hk3⟩; have HL3 : Hid (DLies _ _ _) := hl3; have HK3 : Hid (Kept _ _ _) := hk3; clear hl3 hk3 T6))
  go_ret
  obtain ⟨t1, t2, t3, t4⟩ := tell_foot d.counted ⟨x, 1, 0⟩
  refine ⟨(d.counted.tell ⟨x, 1, 0⟩).2, ?_, HL3.out, ?_, ?_, ?_, t2, t3, t4⟩
  · rw [HF.out]; rfl
  · exact ((HK1.out.mono (fun k e => .inl e)).alloc _).trans HK3.out
  · intro k hk; rw [t1] at hk; exact .inl hk
  · rw [(tell_abs _ _).1]
    have e1 : b.abs.programmed data d.flt.ext = b.abs := by rw [HF.out]; rfl
    have e2 : d.abs.bks.set i b.abs = d.abs.bks := set_self (by show (d.bks.map DBk.abs)[i]? = _; rw [List.getElem?_map, HB.out]; rfl)
    have e3 : d.abs.flt.kind = 1 := by rw [abs_flt, HF.out]
    rw [e1, e2]
    simp only [AS.begun, e3]
    rfl
end Go.Proofs.YteoakhfofnocfaaGreatDoor
namespace Go.Proofs.YteoakhfofnocfaaGreatDoor
open Go.RowKit
set_option maxRecDepth 10000

theorem step_append_bytes {w : World} {ops : Array Oper} {o : Oper} {a : Act} {K : Act → World → Prop} {Q : Exit → Act → World → Prop} {E : Prop} (hgd : o.guard = none) (s x : Operand)
    (ho : o.op = .call { callee := .builtin .append, args := #[s, x], argTypes := #[35, 35] })
    (base : Nat) (v : Value) (n : Nat) (xs : List Value) (hs : a.eval s = v) (hown : w.ownsRow base 5 1 v n xs)
    (ao : Option Addr) (m c : Nat) (M : List Nat) (hx : a.eval x = .slice ao m c) (hM : m = M.length) (hr : BRow w ao M) (hnil : ao = none → m = 0 ∧ c = 0)
    (h63 : n + m ≤ maxLen) (hbytes : (n + m) * 1 ≤ 140737488355328) (hbase : base ≤ w.heap.size)
    (h : ∀ v' w', w'.ownsRow base 5 1 v' (n + m) (xs ++ M.map u8v) → w.grownBy w' v.ownBlock → K (a.put o.dst v') w') :
    if Region.wanted o (yielded ops a.tmps) = true then Oper.wp Tryz.prog o a w K Q else E := by
  have hw : Region.wanted o (yielded ops a.tmps) = true := by simp [Region.wanted, hgd]
  rw [if_pos hw]
  obtain ⟨i0, hi, hz0, hz1, hz2⟩ := info_parts info8
  cases ao with
  | none =>
    obtain ⟨rfl, rfl⟩ := hnil rfl
    have hM0 : M = [] := List.eq_nil_of_length_eq_zero hM.symm
    subst hM0
    have hrun := run_append_owned_none (P := Tryz.prog) (w := w) base 35 o.type 5 i0 1 Tryz.underlying35 hi v n xs hown
    unfold Oper.wp
    simp [execOp, ho, resolve, invoke, builtin, hs, hx, hrun, Result.andThen]
    exact h v w (by simpa using hown) ⟨rfl, rfl, rfl, Nat.le_refl _, fun _ _ _ => rfl⟩
  | some ad =>
    obtain ⟨v', w', hrun, r1, r2, _⟩ := run_append_own (P := Tryz.prog) w base 35 o.type 5 i0 (.int .u8 0) 1 1 Tryz.underlying35 hi hz0 hz1 hz2 rfl (by omega) v n xs hown ad m c (M.map u8v) (by simp [hM]) (cells_any hr) (u8v_one _) h63 hbytes hbase
    unfold Oper.wp
    simp [execOp, ho, resolve, invoke, builtin, hs, hx, hrun, Result.andThen]
    exact h v' w' r1 r2

/-- What is known behind the copy of the data. -/
structure Laid4 (base : Nat) (w1 w4 : World) (d : DS) (data : List Nat) (na : Option Addr) (m ncap : Nat) (x kd : Int) : Prop where
  lies : DLies base w4 d.counted
  bel : Below w1.heap.size w1 w4
  row : BRow w4 na data
  nil : na = none → m = 0 ∧ ncap = 0
  apart : data = [] ∨ ∀ b o, na = some ⟨b, o, none⟩ → ∃ cs, Row w4 b cs 5
  flt : Row w4 w1.heap.size [.int .i64 x, .int .i64 kd, .int .i64 2] 121
theorem laid4 {base : Nat} {w1 w4 : World} {d : DS} (h1 : DLies base w1 d.counted) (data : List Nat) (m : Nat) (hm : m = data.length) (x kd : Int) (v4 : Value)
    (hown : w4.ownsRow (w1.heap.size + 1) 5 1 v4 (0 + m) ([] ++ data.map u8v))
    (hgr : ((w1.alloc (Obj.cells #[.int .i64 x, .int .i64 kd, .int .i64 2] 121)).alloc (Obj.cells #[] 5)).drew.grownBy w4 (Value.ownBlock (.slice (some ⟨w1.heap.size + 1, 0, none⟩) 0 0))) :
    ∃ na ncap, v4 = .slice na m ncap ∧ Laid4 base w1 w4 d data na m ncap x kd := by
  have hb0 : Below w1.heap.size w1 ((w1.alloc (Obj.cells #[.int .i64 x, .int .i64 kd, .int .i64 2] 121)).alloc (Obj.cells #[] 5)).drew := (Below.after (below_new _ _) (below_new _ _)).drew
  have hb : Below w1.heap.size w1 w4 := hb0.grown hgr (by show _ ≤ ((w1.alloc _).alloc _).heap.size; simp; omega) (fun k hk => by simp [Value.ownBlock] at hk; omega)
  rw [Nat.zero_add, List.nil_append] at hown
  obtain ⟨na, ncap, rfl, hrow, hnil, _, _⟩ := own_shape' hm hown
  refine ⟨na, ncap, rfl, h1.later hb, hb, hrow, hnil, ?_, ?_⟩
  · by_cases he : data = []
    · exact .inl he
    · refine .inr fun b o e => ?_
      obtain ⟨g, cap, e2, _, _, _, hr⟩ := Row.of_owns hown (by rw [hm]; exact List.length_pos_iff.2 he)
      simp only [Value.slice.injEq] at e2
      rw [e] at e2
      obtain ⟨e3, _⟩ := e2
      simp only [Option.some.injEq, Addr.mk.injEq] at e3
      rw [e3.1]
      exact ⟨_, hr⟩
  · have h0 : Row ((w1.alloc (Obj.cells #[.int .i64 x, .int .i64 kd, .int .i64 2] 121)).alloc (Obj.cells #[] 5)).drew w1.heap.size [.int .i64 x, .int .i64 kd, .int .i64 2] 121 := ((Row.new w1 [_, _, _] _).alloc _).drew
    exact h0.same (hgr.block _ h0.lt (by simp [Value.ownBlock]))
theorem brow_kept {S : Nat → Prop} {w w' : World} {a : Option Addr} {l : List Nat} (h : BRow w a l) (hk : Kept S w w') (hs : l = [] ∨ ∀ k o, a = some ⟨k, o, none⟩ → ¬ S k) : BRow w' a l := by
  rcases h with e | ⟨b, off, e, hc⟩
  · exact .inl e
  · rcases hs with q | q
    · exact .inl q
    · refine .inr ⟨b, off, e, fun i hi => ?_⟩
      have h1 := hc i hi
      rw [World.cell?_of_block (w := w) (hk.block b (World.block_lt_of_cell? w _ h1) (q b off e))]
      exact h1

set_option maxHeartbeats 4000000 in
theorem d_prog12 {base : Nat} {w : World} {d : DS} (h : DLies base w d) (i j : Nat) (a : Option Addr) (m dc : Nat) (data : List Nat) {b : DBk} (ho : d.off = false) (hb : d.bks[i]? = some b) (hj : j < d.gp) (hz : m ≤ d.gz)
    (hbad : b.bad = false) (hnx : b.next = (j : Int)) (x : Int) (hf : d.flt = ⟨x, 1, 2⟩) (hm : m = data.length) (hd : BRow w a data) (hd2 : ∀ y ∈ data, y < 256) (hnil : a = none → m = 0 ∧ dc = 0) (hap : data = [] ∨ ∀ k o, a = some ⟨k, o, none⟩ → ¬ k = d.p) :
    Calls Tryz.prog 37 #[.pointer (some ⟨d.p, 0, none⟩), .int .i64 i, .int .i64 j, .slice a m dc] w fun e w' => ∃ d', e = .returned (.int .i64 d.flt.says) ∧ DPost base w w' d { d.abs.begun with bks := d.abs.bks.set i (b.abs.programmed data d.flt.ext) } d' := by
  have hat : d.at i = some b := by unfold DS.at; rw [if_neg (by omega)]; simpa using hb
  have ha := d_asked h i
  rw [asked_ok ho hat] at ha
  have hfl := d_fault h
  rw [hf] at hfl
  have hbm : b ∈ d.bks := List.mem_of_getElem? hb
  have hplen := h.good.plen b hbm
  have HG : Hid (∀ w1, DLies base w1 d.counted → After w1 d i j b) := fun w1 h1 => After.of h1 hb hj
  have hqr : ¬ d.q = b.r := h.bks.ne (h.pgs b hbm).1 (by decide)
  have hrq : ¬ b.r = d.q := fun e => hqr e.symm
  have HB : Hid (d.bks[i]? = some b) := hb
  have hcap := h.good.gs
  have HMD : Hid (m = data.length) := hm
  have HRD : Hid (∀ w1, Kept (fun k => k = d.p) w w1 → BRow w1 a data) := fun w1 hk => brow_kept hd hk hap
  have HLT : Hid (∀ y ∈ data, y < 256) := hd2
  have HNIL : Hid (a = none → m = 0 ∧ dc = 0) := hnil
  have HZ : Hid (data.length ≤ d.gz) := by show _ ≤ _; omega
  have hm512 : m ≤ 512 := by omega
  clear hm hd hd2 hnil hap
  obtain ⟨c1, c2, c4, ⟨_, d1, d2, _⟩, hil, hjl⟩ := PAt.of h (j := j) hb hj
  rw [hbad] at d2
  rw [hnx] at d1
  have hjj : ((j : Int) != (j : Int)) = false := by simp
  have q1 : ¬ (j : Int) < 0 := by omega
  have q2 : ¬ (d.gp : Int) ≤ (j : Int) := by omega
  have q3 : ¬ (d.gz : Int) < (m : Int) := by omega
  have hjp : (j : Int) < (b.pgs.length : Int) := by omega
  have hwr : wrap64 ((j : Int) + 1) = (j : Int) + 1 := by unfold wrap64; omega
  have HNX : Hid (b.next = (j : Int)) := hnx
  have HBA : Hid (b.bad = false) := hbad
  have HF : Hid (d.flt = ⟨x, 1, 2⟩) := hf
  have HJ : Hid (j < d.gp) := hj
  clear hb hat ho hbm hplen hnx hbad h hf hj hcap
  go_enter Tryz.func37, Tryz.ntmps37
  go_wp2_with (first
    | (go_at_call 82; refine ha.mono ?_; rintro e w' ⟨rfl, rfl⟩)
    | (go_at_call 83; refine hfl.mono ?_; rintro e w1 ⟨rfl, hd1, hk1⟩; obtain ⟨g1, g4, ⟨e0, e1, e2, _⟩, z1, z20, z21, z22, z3, z4, z5, v0, v1, v2, u0, u1, u2⟩ := HG.out w1 hd1; rw [HNX.out] at e1; rw [HBA.out] at e2; have HD1 : Hid (DLies _ _ _) := hd1; have HK1 : Hid (Kept _ _ _) := hk1; clear hd1 hk1))
  have hFr : ¬ w1.heap.size = b.r := by omega
  have hFq : ¬ w1.heap.size = d.q := by omega
  have hrF : ¬ b.r = w1.heap.size := by omega
  have hqF : ¬ d.q = w1.heap.size := by omega
  have HW : Hid (BRow ((w1.alloc (Obj.cells #[.int .i64 x, .int .i64 1, .int .i64 2] 121)).alloc (Obj.cells #[] 5)).drew a data) := ((HRD.out w1 HK1.out).later (below_new _ (Obj.cells #[.int .i64 x, .int .i64 1, .int .i64 2] 121))).later (below_new _ (Obj.cells #[] 5)).drew
  have HOE : Hid (((w1.alloc (Obj.cells #[.int .i64 x, .int .i64 1, .int .i64 2] 121)).alloc (Obj.cells #[] 5)).drew.ownsRow (w1.heap.size + 1) 5 1 (.slice (some ⟨w1.heap.size + 1, 0, none⟩) 0 0) 0 []) := by
    have := own_empty (w1.alloc (Obj.cells #[.int .i64 x, .int .i64 1, .int .i64 2] 121)) (w1.heap.size + 1) (by simp)
    simp only [World.size_alloc] at this
    exact this
  go_region_law (refine step_append_bytes rfl (.tmp 92) (.tmp 93) rfl (w1.heap.size + 1) (.slice (some ⟨w1.heap.size + 1, 0, none⟩) 0 0) 0 [] (by simp [Act.eval]) HOE.out a m dc data (by simp [Act.eval]) HMD.out HW.out HNIL.out (by unfold maxLen; omega) (by omega) (by show _ ≤ ((w1.alloc _).alloc _).heap.size; simp) ?_; intro v4 w4 hown4 hgrow4; obtain ⟨na, ncap, rfl, L4⟩ := laid4 HD1.out data m HMD.out x 1 v4 hown4 hgrow4; have HL4 : Hid (Laid4 _ _ _ _ _ _ _ _ _ _) := L4; obtain ⟨j1, j4, ⟨j0, j2, j3, _⟩, y1, y20, y21, y22, y3, y4, y5, s0, s1, s2, t0, t1, t2⟩ := HG.out w4 L4.lies; rw [HNX.out] at j2; have r0 := L4.flt.cell (i := 0) rfl; have r1 := L4.flt.cell (i := 1) rfl; have r2 := L4.flt.cell (i := 2) rfl; have r3 := L4.flt.lt; clear hown4 hgrow4 L4)
  all_goals
    go_wp2_with (go_at_call 84; obtain ⟨L5, K5, F5⟩ := prog_lies HL4.out.lies HB.out HJ.out HNX.out ⟨true, false, na, m, ncap, data⟩ ⟨HMD.out, HLT.out, HL4.out.row, HL4.out.nil, HL4.out.apart⟩ HZ.out; rw [HNX.out] at L5 K5; have T6 := d_told L5 ⟨x, 1, 2⟩; have HK6 : Hid (Kept _ _ _) := (Kept.of_below HL4.out.bel).trans K5; have HF5 : Hid (DS.foot _ = DS.foot _) := F5; clear L5 K5 F5; go_must (refine T6.mono ?_); rintro e w3 ⟨rfl, hl3, hk3⟩; have HL3 : Hid (DLies _ _ _) := hl3; have HK3 : Hid (Kept _ _ _) := hk3; clear hl3 hk3 T6)
    go_ret
    refine ⟨_, ?_, ends x 1 2 HF.out data ?_ HK1.out HK6.out HF5.out HK3.out ⟨x, 1, 2⟩ rfl HL3.out⟩
    · rw [HF.out, ← (tell_abs (d.progd i j b ⟨true, false, na, m, ncap, data⟩) ⟨x, 1, 2⟩).2]; rfl
    · rw [HF.out]; exact data_abs b j HNX.out ⟨true, false, na, m, ncap, data⟩ rfl

set_option maxHeartbeats 4000000 in
theorem d_prog02 {base : Nat} {w : World} {d : DS} (h : DLies base w d) (i j : Nat) (a : Option Addr) (m dc : Nat) (data : List Nat) {b : DBk} (ho : d.off = false) (hb : d.bks[i]? = some b) (hj : j < d.gp) (hz : m ≤ d.gz)
    (hbad : b.bad = false) (hnx : b.next = (j : Int)) (x : Int) (hf : d.flt = ⟨x, 0, 2⟩) (hm : m = data.length) (hd : BRow w a data) (hd2 : ∀ y ∈ data, y < 256) (hnil : a = none → m = 0 ∧ dc = 0) (hap : data = [] ∨ ∀ k o, a = some ⟨k, o, none⟩ → ¬ k = d.p) :
    Calls Tryz.prog 37 #[.pointer (some ⟨d.p, 0, none⟩), .int .i64 i, .int .i64 j, .slice a m dc] w fun e w' => ∃ d', e = .returned (.int .i64 d.flt.says) ∧ DPost base w w' d { d.abs.begun with bks := d.abs.bks.set i (b.abs.programmed data d.flt.ext) } d' := by
  have hat : d.at i = some b := by unfold DS.at; rw [if_neg (by omega)]; simpa using hb
  have ha := d_asked h i
  rw [asked_ok ho hat] at ha
  have hfl := d_fault h
  rw [hf] at hfl
  have hbm : b ∈ d.bks := List.mem_of_getElem? hb
  have hplen := h.good.plen b hbm
  have HG : Hid (∀ w1, DLies base w1 d.counted → After w1 d i j b) := fun w1 h1 => After.of h1 hb hj
  have hqr : ¬ d.q = b.r := h.bks.ne (h.pgs b hbm).1 (by decide)
  have hrq : ¬ b.r = d.q := fun e => hqr e.symm
  have HB : Hid (d.bks[i]? = some b) := hb
  have hcap := h.good.gs
  have HMD : Hid (m = data.length) := hm
  have HRD : Hid (∀ w1, Kept (fun k => k = d.p) w w1 → BRow w1 a data) := fun w1 hk => brow_kept hd hk hap
  have HLT : Hid (∀ y ∈ data, y < 256) := hd2
  have HNIL : Hid (a = none → m = 0 ∧ dc = 0) := hnil
  have HZ : Hid (data.length ≤ d.gz) := by show _ ≤ _; omega
  have hm512 : m ≤ 512 := by omega
  clear hm hd hd2 hnil hap
  obtain ⟨c1, c2, c4, ⟨_, d1, d2, _⟩, hil, hjl⟩ := PAt.of h (j := j) hb hj
  rw [hbad] at d2
  rw [hnx] at d1
  have hjj : ((j : Int) != (j : Int)) = false := by simp
  have q1 : ¬ (j : Int) < 0 := by omega
  have q2 : ¬ (d.gp : Int) ≤ (j : Int) := by omega
  have q3 : ¬ (d.gz : Int) < (m : Int) := by omega
  have hjp : (j : Int) < (b.pgs.length : Int) := by omega
  have hwr : wrap64 ((j : Int) + 1) = (j : Int) + 1 := by unfold wrap64; omega
  have HNX : Hid (b.next = (j : Int)) := hnx
  have HBA : Hid (b.bad = false) := hbad
  have HF : Hid (d.flt = ⟨x, 0, 2⟩) := hf
  have HJ : Hid (j < d.gp) := hj
  clear hb hat ho hbm hplen hnx hbad h hf hj hcap
  go_enter Tryz.func37, Tryz.ntmps37
  go_wp2_with (first
    | (go_at_call 82; refine ha.mono ?_; rintro e w' ⟨rfl, rfl⟩)
    | (go_at_call 83; refine hfl.mono ?_; rintro e w1 ⟨rfl, hd1, hk1⟩; obtain ⟨g1, g4, ⟨e0, e1, e2, _⟩, z1, z20, z21, z22, z3, z4, z5, v0, v1, v2, u0, u1, u2⟩ := HG.out w1 hd1; rw [HNX.out] at e1; rw [HBA.out] at e2; have HD1 : Hid (DLies _ _ _) := hd1; have HK1 : Hid (Kept _ _ _) := hk1; clear hd1 hk1))
  have hFr : ¬ w1.heap.size = b.r := by omega
  have hFq : ¬ w1.heap.size = d.q := by omega
  have hrF : ¬ b.r = w1.heap.size := by omega
  have hqF : ¬ d.q = w1.heap.size := by omega
  have HW : Hid (BRow ((w1.alloc (Obj.cells #[.int .i64 x, .int .i64 0, .int .i64 2] 121)).alloc (Obj.cells #[] 5)).drew a data) := ((HRD.out w1 HK1.out).later (below_new _ (Obj.cells #[.int .i64 x, .int .i64 0, .int .i64 2] 121))).later (below_new _ (Obj.cells #[] 5)).drew
  have HOE : Hid (((w1.alloc (Obj.cells #[.int .i64 x, .int .i64 0, .int .i64 2] 121)).alloc (Obj.cells #[] 5)).drew.ownsRow (w1.heap.size + 1) 5 1 (.slice (some ⟨w1.heap.size + 1, 0, none⟩) 0 0) 0 []) := by
    have := own_empty (w1.alloc (Obj.cells #[.int .i64 x, .int .i64 0, .int .i64 2] 121)) (w1.heap.size + 1) (by simp)
    simp only [World.size_alloc] at this
    exact this
  go_region_law (refine step_append_bytes rfl (.tmp 92) (.tmp 93) rfl (w1.heap.size + 1) (.slice (some ⟨w1.heap.size + 1, 0, none⟩) 0 0) 0 [] (by simp [Act.eval]) HOE.out a m dc data (by simp [Act.eval]) HMD.out HW.out HNIL.out (by unfold maxLen; omega) (by omega) (by show _ ≤ ((w1.alloc _).alloc _).heap.size; simp) ?_; intro v4 w4 hown4 hgrow4; obtain ⟨na, ncap, rfl, L4⟩ := laid4 HD1.out data m HMD.out x 0 v4 hown4 hgrow4; have HL4 : Hid (Laid4 _ _ _ _ _ _ _ _ _ _) := L4; obtain ⟨j1, j4, ⟨j0, j2, j3, _⟩, y1, y20, y21, y22, y3, y4, y5, s0, s1, s2, t0, t1, t2⟩ := HG.out w4 L4.lies; rw [HNX.out] at j2; have r0 := L4.flt.cell (i := 0) rfl; have r1 := L4.flt.cell (i := 1) rfl; have r2 := L4.flt.cell (i := 2) rfl; have r3 := L4.flt.lt; clear hown4 hgrow4 L4)
  all_goals
    go_wp2_with (go_at_call 84; obtain ⟨L5, K5, F5⟩ := prog_lies HL4.out.lies HB.out HJ.out HNX.out ⟨true, false, na, m, ncap, data⟩ ⟨HMD.out, HLT.out, HL4.out.row, HL4.out.nil, HL4.out.apart⟩ HZ.out; rw [HNX.out] at L5 K5; have T6 := d_told L5 ⟨x, 0, 2⟩; have HK6 : Hid (Kept _ _ _) := (Kept.of_below HL4.out.bel).trans K5; have HF5 : Hid (DS.foot _ = DS.foot _) := F5; clear L5 K5 F5; go_must (refine T6.mono ?_); rintro e w3 ⟨rfl, hl3, hk3⟩; have HL3 : Hid (DLies _ _ _) := hl3; have HK3 : Hid (Kept _ _ _) := hk3; clear hl3 hk3 T6)
    go_ret
    refine ⟨_, ?_, ends x 0 2 HF.out data ?_ HK1.out HK6.out HF5.out HK3.out ⟨x, 0, 2⟩ rfl HL3.out⟩
    · rw [HF.out, ← (tell_abs (d.progd i j b ⟨true, false, na, m, ncap, data⟩) ⟨x, 0, 2⟩).2]; rfl
    · rw [HF.out]; exact data_abs b j HNX.out ⟨true, false, na, m, ncap, data⟩ rfl

theorem set_toNat (i : Nat) : (i : Int).toNat = i := Int.toNat_natCast i
/-- Program of the document's chip, whole. -/
theorem d_program {base : Nat} {w : World} {d : DS} (h : DLies base w d) (block page : Int) (a : Option Addr) (m dc : Nat) (data : List Nat) (hm : m = data.length) (hd : BRow w a data) (hd2 : ∀ y ∈ data, y < 256) (hnil : a = none → m = 0 ∧ dc = 0) (hap : data = [] ∨ ∀ k o, a = some ⟨k, o, none⟩ → ¬ k = d.p) :
    Calls Tryz.prog 37 #[.pointer (some ⟨d.p, 0, none⟩), .int .i64 block, .int .i64 page, .slice a m dc] w fun e w' => ∃ d', e = .returned (.int .i64 (d.abs.program block page data).1) ∧ DPost base w w' d (d.abs.program block page data).2 d' := by
  by_cases he : d.off = true ∨ (d.off = false ∧ d.at block = none)
  · refine (d_prog_err h block page a m dc data he).mono ?_
    rintro e w' ⟨h1, h2⟩
    exact ⟨d, h1, h2⟩
  · have ho : d.off = false := by cases hh : d.off with | true => exact absurd (.inl hh) he | false => rfl
    obtain ⟨b, hb⟩ : ∃ b, d.at block = some b := by
      cases hh : d.at block with
      | none => exact absurd (.inr ⟨ho, hh⟩) he
      | some b => exact ⟨b, rfl⟩
    by_cases hs : ¬ (0 ≤ page ∧ page < d.gp) ∨ d.gz < data.length
    · refine (d_prog_shape h block page a m dc data hm ho hb hs).mono ?_
      rintro e w' ⟨h1, h2⟩
      exact ⟨d, h1, h2⟩
    · obtain ⟨hb1, hb2⟩ := dat_some hb
      obtain ⟨i, rfl⟩ : ∃ i : Nat, block = i := ⟨block.toNat, by omega⟩
      by_cases hw : b.bad = true ∨ page ≠ b.next
      · refine (d_prog_wrong h i page a m dc data hm ho hb hs hw).mono ?_
        rintro e w' ⟨h1, h2⟩
        exact ⟨_, h1, h2⟩
      · rw [prog_some ho hb, if_neg hs, if_neg hw]
        obtain ⟨j, rfl⟩ : ∃ j : Nat, page = j := ⟨page.toNat, by omega⟩
        rw [set_toNat] at hb1
        simp only [set_toNat]
        have hbad : b.bad = false := by cases hh : b.bad with | true => exact absurd (.inl hh) hw | false => rfl
        have hnx : b.next = (j : Int) := Classical.byContradiction fun q => hw (.inr (fun e => q e.symm))
        have hj : j < d.gp := by omega
        have hz : m ≤ d.gz := by omega
        have hor : d.flt = ⟨0, 0, 2⟩ ∨ d.flt.ok := by
          rcases findF_or (wrap64 (wrap64 (d.ops + 1) - d.since)) d.plan with q | q
          · exact .inl q
          · exact .inr (h.good.pln.2.2.1 _ q)
        rcases hor with e | ⟨_, ⟨k1, t⟩ | ⟨k1, t⟩⟩
        · exact d_prog02 h i j a m dc data ho hb1 hj hz hbad hnx 0 e hm hd hd2 hnil hap
        · have hfl : d.flt = ⟨d.flt.num, 1, d.flt.torn⟩ := by rw [← k1]
          rcases t with t | t | t
          · rw [t] at hfl; exact d_prog10 h i j a m dc data ho hb1 hj hz hbad hnx _ hfl
          · rw [t] at hfl; exact d_prog11 h i j a m dc data ho hb1 hj hz hbad hnx _ hfl
          · rw [t] at hfl; exact d_prog12 h i j a m dc data ho hb1 hj hz hbad hnx _ hfl hm hd hd2 hnil hap
        · have hfl : d.flt = ⟨d.flt.num, 2, d.flt.torn⟩ := by rw [← k1]
          rw [t] at hfl
          exact d_prog20 h i j a m dc data ho hb1 hj hz hbad hnx _ hfl
end Go.Proofs.YteoakhfofnocfaaGreatDoor
