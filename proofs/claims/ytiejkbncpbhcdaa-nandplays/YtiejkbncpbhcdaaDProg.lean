/-
  What Program does with the document's chip.
-/
import Derived.Test.YtiejkbncpbhcdaaDAbs
import Derived.Deep.RegionHeld3
namespace Go.Proofs.Ytiejkbncpbhcdaa
open Go.RowKit

/-- The document's chip behind a call: what it is now, and what stayed. -/
structure DPost (base : Nat) (w w' : World) (d : DS) (a : AS) (d' : DS) : Prop where
  lies : DLies base w' d'
  kept : Kept d.foot w w'
  foot : ∀ k, d'.foot k → d.foot k ∨ w.heap.size ≤ k
  abs : d'.abs = a
  pl : d'.p = d.p
  pa : d'.pa = d.pa ∧ d'.plan = d.plan
theorem DPost.same {base : Nat} {w : World} {d : DS} (h : DLies base w d) : DPost base w w d d.abs d := ⟨h, Kept.refl _ _, fun _ x => .inl x, rfl, rfl, rfl, rfl⟩

theorem d_prog_err {base : Nat} {w : World} {d : DS} (h : DLies base w d) (block page : Int) (a : Option Addr) (m dc : Nat) (data : List Nat)
    (he : d.off = true ∨ (d.off = false ∧ d.at block = none)) :
    Calls Try.prog 32 #[.pointer (some ⟨d.p, 0, none⟩), .int .i64 block, .int .i64 page, .slice a m dc] w fun e w' => e = .returned (.int .i64 (d.abs.program block page data).1) ∧ DPost base w w' d (d.abs.program block page data).2 d := by
  have ha := d_asked h block
  obtain ⟨x, hx, hx0, hr⟩ : ∃ x : Int, d.asked block = x ∧ ¬ x = 0 ∧ d.abs.program block page data = (x, d.abs) := by
    rcases he with ho | ⟨ho, hb⟩
    · exact ⟨6, by unfold DS.asked; rw [if_pos ho], by decide, by unfold AS.program; rw [if_pos (show d.abs.off = true from ho)]⟩
    · refine ⟨22, by unfold DS.asked; rw [if_neg (by rw [ho]; decide), hb], by decide, ?_⟩
      unfold AS.program
      rw [if_neg (show ¬ d.abs.off = true by show ¬ d.off = true; rw [ho]; decide), abs_at, hb]
      rfl
  rw [hx] at ha
  rw [hr]
  have hx1 : (x == 0) = false := by simpa using hx0
  have hx2 : (x != 0) = true := by simpa using hx0
  have fin := DPost.same h
  generalize d.p = p at ha ⊢
  clear h hx hx0 hr he
  go_enter Try.func32, Try.ntmps32
  go_wp2_with (go_at_call 63; refine ha.mono ?_; rintro e w' ⟨rfl, rfl⟩)
  go_ret
  exact ⟨rfl, fin⟩
theorem prog_some {d : DS} {block : Int} {b : DBk} (ho : d.off = false) (hb : d.at block = some b) (page : Int) (data : List Nat) : d.abs.program block page data =
    (if ¬ (0 ≤ page ∧ page < d.gp) ∨ d.gz < data.length then (22, d.abs) else if b.bad = true ∨ page ≠ b.next then (1, { d.abs with wrong := wrap64 (d.wrong + 1) })
    else (d.flt.says, { d.abs.begun with bks := d.abs.bks.set block.toNat (b.abs.programmed data d.flt.ext) })) := by
  unfold AS.program
  rw [if_neg (show ¬ d.abs.off = true by show ¬ d.off = true; rw [ho]; decide), abs_at, hb]
  rfl
theorem asked_ok {d : DS} {block : Int} {b : DBk} (ho : d.off = false) (hb : d.at block = some b) : d.asked block = 0 := by
  unfold DS.asked; rw [if_neg (by rw [ho]; decide), hb]

set_option maxHeartbeats 2000000 in
theorem d_prog_shape {base : Nat} {w : World} {d : DS} (h : DLies base w d) (block page : Int) (a : Option Addr) (m dc : Nat) (data : List Nat) (hm : m = data.length) {b : DBk} (ho : d.off = false) (hb : d.at block = some b)
    (hs : ¬ (0 ≤ page ∧ page < d.gp) ∨ d.gz < data.length) :
    Calls Try.prog 32 #[.pointer (some ⟨d.p, 0, none⟩), .int .i64 block, .int .i64 page, .slice a m dc] w fun e w' => e = .returned (.int .i64 (d.abs.program block page data).1) ∧ DPost base w w' d (d.abs.program block page data).2 d := by
  have ha := d_asked h block
  rw [asked_ok ho hb] at ha
  rw [prog_some ho hb, if_pos hs]
  have c1 : w.cell? ⟨d.p, 1, none⟩ = some (.int .i64 d.gp) := h.chip.cell (by rfl)
  have c2 : w.cell? ⟨d.p, 2, none⟩ = some (.int .i64 d.gz) := h.chip.cell (by rfl)
  have fin := DPost.same h
  have hs' : page < 0 ∨ (¬ page < 0 ∧ (d.gp : Int) ≤ page) ∨ (¬ page < 0 ∧ ¬ (d.gp : Int) ≤ page ∧ (d.gz : Int) < (m : Int)) := by
    rw [hm]; rcases hs with q | q <;> omega
  generalize d.p = p at ha c1 c2 ⊢
  generalize d.gp = gp at c1 hs'
  generalize d.gz = gz at c2 hs'
  clear h hb ho hs
  rcases hs' with q | ⟨q1, q2⟩ | ⟨q1, q2, q3⟩
  all_goals
    go_enter Try.func32, Try.ntmps32
    go_wp2_with (go_at_call 63; refine ha.mono ?_; rintro e w' ⟨rfl, rfl⟩)
    go_ret
    exact ⟨rfl, fin⟩

/-- What is known where the call goes on: the block's place, its cells, the page's. -/
structure PAt (base : Nat) (w : World) (d : DS) (i j : Nat) (b : DBk) : Prop where
  c1 : w.cell? ⟨d.p, 1, none⟩ = some (.int .i64 d.gp)
  c2 : w.cell? ⟨d.p, 2, none⟩ = some (.int .i64 d.gz)
  c4 : w.cell? ⟨d.p, 4, none⟩ = some (.slice (some ⟨d.q, 0, none⟩) d.bks.length d.qcap)
  at_ : DAt w d.q (i * 4) b
  il : (i : Int) < (d.bks.length : Int)
  jl : (j : Int) < (d.gp : Int)
theorem PAt.of {base : Nat} {w : World} {d : DS} (h : DLies base w d) {i j : Nat} {b : DBk} (hb : d.bks[i]? = some b) (hj : j < d.gp) : PAt base w d i j b :=
  ⟨h.chip.cell (by rfl), h.chip.cell (by rfl), h.chip.cell (by rfl), DAt.of h.bks hb, by have := (List.getElem?_eq_some_iff.1 hb).1; omega, by omega⟩

set_option maxHeartbeats 2000000 in
theorem d_prog_wrong {base : Nat} {w : World} {d : DS} (h : DLies base w d) (i : Nat) (page : Int) (a : Option Addr) (m dc : Nat) (data : List Nat) (hm : m = data.length) {b : DBk} (ho : d.off = false) (hb : d.at i = some b)
    (hs : ¬ (¬ (0 ≤ page ∧ page < d.gp) ∨ d.gz < data.length)) (hw : b.bad = true ∨ page ≠ b.next) :
    Calls Try.prog 32 #[.pointer (some ⟨d.p, 0, none⟩), .int .i64 i, .int .i64 page, .slice a m dc] w fun e w' => e = .returned (.int .i64 (d.abs.program i page data).1) ∧ DPost base w w' d (d.abs.program i page data).2 { d with wrong := wrap64 (d.wrong + 1) } := by
  have ha := d_asked h i
  rw [asked_ok ho hb] at ha
  rw [prog_some ho hb, if_neg hs, if_pos hw]
  obtain ⟨j, rfl⟩ : ∃ j : Nat, page = j := ⟨page.toNat, by omega⟩
  obtain ⟨hb1, _⟩ := dat_some hb
  have hP := PAt.of h (j := j) hb1 (by omega)
  simp only [Int.toNat_natCast] at hP
  have c9 : w.cell? ⟨d.p, 9, none⟩ = some (.int .i64 d.wrong) := h.chip.cell (by rfl)
  have f9 := h.chip.frozen 9
  have fin : ∀ W, W = w.setCell ⟨d.p, 9, none⟩ (.int .i64 (wrap64 (d.wrong + 1))) → DPost base w W d { d.abs with wrong := wrap64 (d.wrong + 1) } { d with wrong := wrap64 (d.wrong + 1) } := by
    rintro W rfl
    obtain ⟨r1, r2, r3⟩ := h.step0 (d' := { d with wrong := wrap64 (d.wrong + 1) }) rfl rfl ⟨rfl, rfl⟩ rfl ⟨h.good.len, h.good.plen, h.good.qc, h.good.gs, h.good.dat, h.good.pln⟩ ((Kept.refl (fun k => k = d.p) w).setCell (p := ⟨d.p, 9, none⟩) rfl _) (h.chip.set (i := 9) (.int .i64 (wrap64 (d.wrong + 1))) (by simp [dsCells]))
    exact ⟨r1, r2, fun k hk => .inl (by rw [← r3]; exact hk), rfl, rfl, rfl, rfl⟩
  obtain ⟨c1, c2, c4, ⟨_, d1, d2, _⟩, hil, hjl⟩ := hP
  have q1 : ¬ (j : Int) < 0 := by omega
  have q2 : ¬ (d.gp : Int) ≤ (j : Int) := by omega
  have q3 : ¬ (d.gz : Int) < (m : Int) := by omega
  have hw' : b.bad = true ∨ (b.bad = false ∧ ((j : Int) != b.next) = true) := by
    by_cases hbb : b.bad = true
    · exact .inl hbb
    · rcases hw with q | q
      · exact absurd q hbb
      · exact .inr ⟨by simpa using hbb, by simpa using q⟩
  clear hb ho hs hw h hb1 hm
  generalize d.p = p at *
  generalize d.q = q at *
  rcases hw' with e | ⟨e1, e2⟩
  · rw [e] at d2
    clear e
    go_enter Try.func32, Try.ntmps32
    go_wp2_with (go_at_call 63; refine ha.mono ?_; rintro e w' ⟨rfl, rfl⟩)
    go_ret
    exact ⟨rfl, fin _ rfl⟩
  · rw [e1] at d2
    clear e1
    go_enter Try.func32, Try.ntmps32
    go_wp2_with (go_at_call 63; refine ha.mono ?_; rintro e w' ⟨rfl, rfl⟩)
    go_ret
    exact ⟨rfl, fin _ rfl⟩

/-- The block behind a program that left the page np. -/
def DBk.prog (b : DBk) (j : Nat) (np : DPg) : DBk := { b with pgs := b.pgs.set j np, next := b.next + 1 }
def DS.progd (d : DS) (i j : Nat) (b : DBk) (np : DPg) : DS := { d.counted with bks := d.bks.set i (b.prog j np) }
theorem dp_set {W : World} {r j : Nat} {l : List DPg} {p : DPg} (np : DPg) {t : TypeId} (h : Row W r (l.flatMap dpCells) t) (hj : l[j]? = some p) :
    Row (((W.setCell ⟨r, j * 3, none⟩ (.bool np.done)).setCell ⟨r, j * 3 + 1, none⟩ (.bool np.spoilt)).setCell ⟨r, j * 3 + 2, none⟩ (.slice np.da np.dl np.dc)) r ((l.set j np).flatMap dpCells) t := by
  have hlen := flat_len dpCells 3 dp_len l
  have hlt := (List.getElem?_eq_some_iff.1 hj).1
  have h1 := h.set (i := j * 3) (.bool np.done) (by omega)
  have e1 := flat_set dpCells 3 dp_len 0 (by decide) (.bool np.done) { p with done := np.done } l j p hj rfl
  rw [Nat.add_zero] at e1
  rw [e1] at h1
  have hj1 : (l.set j { p with done := np.done })[j]? = some { p with done := np.done } := by rw [List.getElem?_set_self hlt]
  have hlen1 := flat_len dpCells 3 dp_len (l.set j { p with done := np.done })
  rw [List.length_set] at hlen1
  have h2 := h1.set (i := j * 3 + 1) (.bool np.spoilt) (by omega)
  rw [flat_set dpCells 3 dp_len 1 (by decide) (.bool np.spoilt) { p with done := np.done, spoilt := np.spoilt } _ j _ hj1 rfl] at h2
  rw [List.set_set] at h2
  have hj2 : (l.set j { p with done := np.done, spoilt := np.spoilt })[j]? = some { p with done := np.done, spoilt := np.spoilt } := by rw [List.getElem?_set_self hlt]
  have hlen2 := flat_len dpCells 3 dp_len (l.set j { p with done := np.done, spoilt := np.spoilt })
  rw [List.length_set] at hlen2
  have h3 := h2.set (i := j * 3 + 2) (.slice np.da np.dl np.dc) (by omega)
  rw [flat_set dpCells 3 dp_len 2 (by decide) (.slice np.da np.dl np.dc) np _ j _ hj2 rfl, List.set_set] at h3
  exact h3
/-- The chip behind a program, where the page and the block's count are stored. -/
theorem prog_lies {base : Nat} {w1 : World} {d : DS} (h1 : DLies base w1 d.counted) {i j : Nat} {b : DBk} (hb : d.bks[i]? = some b) (hj : j < d.gp) (hnx : b.next = (j : Int)) (np : DPg) (hok : DOk w1 np) (hnl : np.data.length ≤ d.gz) :
    DLies base ((((w1.setCell ⟨b.r, j * 3, none⟩ (.bool np.done)).setCell ⟨b.r, j * 3 + 1, none⟩ (.bool np.spoilt)).setCell ⟨b.r, j * 3 + 2, none⟩ (.slice np.da np.dl np.dc)).setCell ⟨d.q, i * 4 + 1, none⟩ (.int .i64 (b.next + 1))) (d.progd i j b np) ∧
    Kept d.foot w1 ((((w1.setCell ⟨b.r, j * 3, none⟩ (.bool np.done)).setCell ⟨b.r, j * 3 + 1, none⟩ (.bool np.spoilt)).setCell ⟨b.r, j * 3 + 2, none⟩ (.slice np.da np.dl np.dc)).setCell ⟨d.q, i * 4 + 1, none⟩ (.int .i64 (b.next + 1))) ∧ (d.progd i j b np).foot = d.foot := by
  have hbm : b ∈ d.bks := List.mem_of_getElem? hb
  have hpl := h1.good.plen b hbm
  have hjb : j < b.pgs.length := by have := hpl.1; show j < _; rw [this]; exact hj
  obtain ⟨hrow, hoks⟩ := h1.pgs b hbm
  have hk : Kept (fun k => k = d.p ∨ k = d.q ∨ k = b.r) w1 ((((w1.setCell ⟨b.r, j * 3, none⟩ (.bool np.done)).setCell ⟨b.r, j * 3 + 1, none⟩ (.bool np.spoilt)).setCell ⟨b.r, j * 3 + 2, none⟩ (.slice np.da np.dl np.dc)).setCell ⟨d.q, i * 4 + 1, none⟩ (.int .i64 (b.next + 1))) :=
    ((((Kept.refl _ w1).setCell (p := ⟨b.r, j * 3, none⟩) (.inr (.inr rfl)) _).setCell (p := ⟨b.r, j * 3 + 1, none⟩) (.inr (.inr rfl)) _).setCell (p := ⟨b.r, j * 3 + 2, none⟩) (.inr (.inr rfl)) _).setCell (p := ⟨d.q, i * 4 + 1, none⟩) (.inr (.inl rfl)) _
  have hch : Row w1 d.p (dsCells d.counted) 61 := h1.chip
  have hpr : d.p ≠ b.r := h1.chip.ne hrow (by decide)
  have hpq : d.p ≠ d.q := h1.chip.ne h1.bks (by decide)
  have hqr : d.q ≠ b.r := h1.bks.ne hrow (by decide)
  have g1 : Row ((((w1.setCell ⟨b.r, j * 3, none⟩ (.bool np.done)).setCell ⟨b.r, j * 3 + 1, none⟩ (.bool np.spoilt)).setCell ⟨b.r, j * 3 + 2, none⟩ (.slice np.da np.dl np.dc)).setCell ⟨d.q, i * 4 + 1, none⟩ (.int .i64 (b.next + 1))) d.p (dsCells (d.progd i j b np)) 61 := by
    have : dsCells (d.progd i j b np) = dsCells d.counted := by simp [dsCells, DS.progd]; rfl
    rw [this]
    exact (((hch.other _ _ hpr).other _ _ hpr).other _ _ hpr).other _ _ hpq
  have g2 := db_next (b.prog j np) (((h1.bks.other ⟨b.r, j * 3, none⟩ (.bool np.done) hqr).other ⟨b.r, j * 3 + 1, none⟩ (.bool np.spoilt) hqr).other ⟨b.r, j * 3 + 2, none⟩ (.slice np.da np.dl np.dc) hqr) hb (by simp [dbCells, DBk.prog])
  have g3 := (dp_set np hrow (List.getElem?_eq_getElem hjb)).other ⟨d.q, i * 4 + 1, none⟩ (.int .i64 (b.next + 1)) (fun e => hqr e.symm)
  have hu : ∀ x cs, Row w1 x cs 5 → ¬ (x = d.p ∨ x = d.q ∨ x = b.r) := by
    rintro x cs hx (e | e | e)
    · exact hx.ne h1.chip (by decide) e
    · exact hx.ne h1.bks (by decide) e
    · exact hx.ne hrow (by decide) e
  refine h1.step (d' := d.progd i j b np) rfl rfl ⟨rfl, rfl⟩ hb rfl rfl ?_ hk g1 g2 g3 ?_
  · refine DGood.set (d := d.counted) (b' := b.prog j np) h1.good ?_ ?_
    · refine ⟨?_, hpl.2.1, hpl.2.2.1, ?_, ?_⟩
      · rw [show (b.prog j np).pgs = b.pgs.set j np from rfl, List.length_set]; exact hpl.1
      · show 0 ≤ b.next + 1; omega
      · show b.next + 1 ≤ _; rw [hnx]; show (j : Int) + 1 ≤ (d.gp : Int); omega
    · intro p hp
      rcases List.mem_or_eq_of_mem_set hp with hp | rfl
      · exact h1.good.dat b hbm p hp
      · exact hnl
  · intro p hp
    rcases List.mem_or_eq_of_mem_set hp with hp | rfl
    · exact (hoks p hp).kept hk hu
    · exact hok.kept hk hu
theorem abs_progd (d : DS) (i j : Nat) (b : DBk) (np : DPg) : (d.progd i j b np).abs = { d.abs with ops := wrap64 (d.ops + 1), bks := d.abs.bks.set i (b.prog j np).abs } := by
  simp [DS.progd, DS.abs, DS.counted, List.map_set]
/-- The told chip, as the document tells it. -/
theorem tell_abs (d : DS) (f : Flt) : (d.tell f).2.abs = { d.abs with off := if f.kind = 1 then true else d.off } ∧ (d.tell f).1 = f.says := by
  unfold DS.tell Flt.says
  split
  · exact ⟨rfl, rfl⟩
  · split
    · exact ⟨rfl, rfl⟩
    · exact ⟨rfl, rfl⟩
theorem tell_foot (d : DS) (f : Flt) : (d.tell f).2.foot = d.foot ∧ (d.tell f).2.p = d.p ∧ (d.tell f).2.pa = d.pa ∧ (d.tell f).2.plan = d.plan := by
  unfold DS.tell
  split
  · exact ⟨rfl, rfl, rfl, rfl⟩
  · split
    · exact ⟨rfl, rfl, rfl, rfl⟩
    · exact ⟨rfl, rfl, rfl, rfl⟩
end Go.Proofs.Ytiejkbncpbhcdaa
