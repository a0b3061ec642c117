/-
  Clone: a chip that is the same, in memory of its own.
-/
import Derived.Test.YtiejkbncpbhcdaaDCl
import Derived.Deep.RegionWith
namespace Go.Proofs.Ytiejkbncpbhcdaa
open Go.RowKit

/-- A block without its places. -/
def Bk.core (b : Bk) : List Pg × Int × Int × Bool := (b.pgs, b.next, b.erases, b.bad)
theorem core_abs {b b' : Bk} (h : b.core = b'.core) : b.abs = b'.abs ∧ b.pgs = b'.pgs ∧ b.next = b'.next := by
  simp only [Bk.core, Prod.mk.injEq] at h
  obtain ⟨h1, h2, h3, h4⟩ := h
  exact ⟨by simp [Bk.abs, h1, h2, h3, h4], h1, h2⟩
theorem core_mem {l m : List Bk} (h : l.map Bk.core = m.map Bk.core) {b : Bk} (hb : b ∈ l) : ∃ b0 ∈ m, b.core = b0.core := by
  have : b.core ∈ m.map Bk.core := by rw [← h]; exact List.mem_map.2 ⟨b, hb, rfl⟩
  obtain ⟨b0, h1, h2⟩ := List.mem_map.1 this
  exact ⟨b0, h1, h2.symm⟩
theorem core_map {l m : List Bk} (h : l.map Bk.core = m.map Bk.core) : l.map Bk.abs = m.map Bk.abs := by
  have key : ∀ l : List Bk, l.map Bk.abs = (l.map Bk.core).map (fun t => (⟨t.1.map Pg.abs, t.2.1, t.2.2.2, t.2.2.1⟩ : ABk)) := fun l => by rw [List.map_map]; rfl
  rw [key, key, h]
/-- The clone, as far as it is made. -/
structure Cl (w wr : World) (c : CS) (fa : Option Addr) (fc P g gc : Nat) (done : List Bk) : Prop where
  chip : Row wr P (csCells { c with q := g, qcap := gc } fa fc) 52
  bks : Row wr g ((done ++ c.bks.drop done.length).flatMap bkCells) 57
  pgs : ∀ b ∈ done, Row wr b.r (b.pgs.flatMap pgCells) 75 ∧ w.heap.size ≤ b.r ∧ b.pgs.length ≤ b.cap ∧ b.cap ≤ maxLen
  nd : (done.map Bk.r).Nodup
  core : done.map Bk.core = (c.bks.take done.length).map Bk.core
  low : w.heap.size ≤ P ∧ w.heap.size ≤ g
  cap : c.bks.length ≤ gc ∧ gc ≤ maxLen
  bel : Below w.heap.size w wr
theorem Cl.step {w wr w1 : World} {c : CS} {fa : Option Addr} {fc P g gc : Nat} {done : List Bk} (h : Cl w wr c fa fc P g gc done) {b0 : Bk} (hb0 : c.bks[done.length]? = some b0) (hb1 : Below wr.heap.size wr w1) (r n cp : Nat) (hn : n = b0.pgs.length)
    (hr1 : Row w1 r (b0.pgs.flatMap pgCells) 75) (hc : n ≤ cp ∧ cp ≤ maxLen ∧ wr.heap.size ≤ r) :
    Cl w (w1.setCell ⟨g, done.length * 4, none⟩ (.slice (some ⟨r, 0, none⟩) n cp)) c fa fc P g gc (done ++ [{ b0 with r := r, cap := cp }]) := by
  subst hn
  have hbk := h.bks.later hb1
  have hlt := (List.getElem?_eq_some_iff.1 hb0).1
  have hL : (done ++ c.bks.drop done.length)[done.length]? = some b0 := by
    rw [List.getElem?_append_right (Nat.le_refl _), Nat.sub_self, List.getElem?_drop, Nat.add_zero]; exact hb0
  have hdrop : c.bks.drop done.length = b0 :: c.bks.drop (done.length + 1) := by
    rw [List.drop_eq_getElem_cons hlt]
    rw [(List.getElem?_eq_some_iff.1 hb0).2]
  have hlen : (done ++ [({ b0 with r := r, cap := cp } : Bk)]).length = done.length + 1 := by simp
  have hsz := h.bel.size
  refine ⟨(h.chip.later hb1).other _ _ ((h.chip.later hb1).ne hbk (by decide)), ?_, ?_, ?_, ?_, h.low, h.cap, ?_⟩
  · rw [hlen]
    have hl4 := flat_len bkCells 4 bk_len (done ++ c.bks.drop done.length)
    have hll : done.length < (done ++ c.bks.drop done.length).length := (List.getElem?_eq_some_iff.1 hL).1
    have := hbk.set (i := done.length * 4 + 0) (.slice (some ⟨r, 0, none⟩) b0.pgs.length cp) (by omega)
    rw [flat_set bkCells 4 bk_len 0 (by decide) _ ({ b0 with r := r, cap := cp } : Bk) _ done.length b0 hL rfl] at this
    have e : (done ++ c.bks.drop done.length).set done.length ({ b0 with r := r, cap := cp } : Bk) = (done ++ [({ b0 with r := r, cap := cp } : Bk)]) ++ c.bks.drop (done.length + 1) := by
      rw [hdrop, List.set_append_right _ _ (Nat.le_refl _), Nat.sub_self]
      simp
    rw [e] at this
    exact this
  · intro b hb
    rcases List.mem_append.1 hb with hb | hb
    · obtain ⟨p1, p2, p3, p4⟩ := h.pgs b hb
      exact ⟨(p1.later hb1).other _ _ ((p1.later hb1).ne hbk (by decide)), p2, p3, p4⟩
    · simp at hb
      subst hb
      exact ⟨hr1.other _ _ (hr1.ne hbk (by decide)), by show w.heap.size ≤ r; omega, hc.1, hc.2.1⟩
  · rw [List.map_append, List.nodup_append]
    refine ⟨h.nd, by simp, ?_⟩
    intro x hx y hy e
    obtain ⟨b, hb, rfl⟩ := List.mem_map.1 hx
    simp at hy
    have := (h.pgs b hb).1.lt
    omega
  · rw [hlen, List.map_append, h.core, List.take_succ_eq_append_getElem hlt, List.map_append, (List.getElem?_eq_some_iff.1 hb0).2]
    rfl
  · exact (Below.after h.bel hb1).setCell (p := ⟨g, done.length * 4, none⟩) h.low.2 _
/-- The clone behind the call. -/
structure Twin (w w' : World) (c c' : CS) : Prop where
  lies : Lies w.heap.size w' c'
  bel : Below w.heap.size w w'
  geo : c'.gb = c.gb ∧ c'.gp = c.gp ∧ c'.gz = c.gz ∧ c'.gr = c.gr
  bks : c'.bks.map Bk.core = c.bks.map Bk.core
  on : c'.on = c.on
  ops : c'.ops = c.ops
  wrong : c'.wrong = c.wrong
  steps : c'.steps = c.steps
  fs : c'.fs = c.fs
theorem Rel.twin {w w' : World} {c c' : CS} {k : Nat} {a : AS} (h : Rel k c a) (t : Twin w w' c c') : Rel k c' a := by
  obtain ⟨g1, g2, g3, g4⟩ := t.geo
  refine ⟨⟨by rw [g1]; exact h.geo.1, by rw [g2]; exact h.geo.2.1, by rw [g3]; exact h.geo.2.2.1, by rw [g4]; exact h.geo.2.2.2⟩, by rw [core_map t.bks]; exact h.bks, by rw [t.on]; exact h.on, by rw [t.ops]; exact h.ops, by rw [t.wrong]; exact h.wrong, h.low, by rw [t.steps]; exact h.steps, by rw [t.fs]; exact h.sorted, fun f => by rw [t.fs, t.steps]; exact h.mem f, h.ok, ?_, by rw [t.fs]; exact h.short⟩
  intro b hb
  obtain ⟨b0, h0, e⟩ := core_mem t.bks hb
  rw [(core_abs e).2.1, g2]
  exact h.plen b0 h0
theorem Cl.twin {w wr w2 : World} {base : Nat} {c : CS} {fa : Option Addr} {fc P g gc : Nat} {done : List Bk} (h : Cl w wr c fa fc P g gc done) (hd : done.length = c.bks.length) (hg : Good c) (_ : base ≤ w.heap.size) (hb2 : Below wr.heap.size wr w2) (na : Option Addr) (m nc : Nat) (hm : m = c.fs.length) (hf : Flts w2 na nc c.fs) :
    Twin w (w2.setCell ⟨P, 8, none⟩ (.slice na m nc)) c { c with p := P, q := g, qcap := gc, bks := done } := by
  have hcore : done.map Bk.core = c.bks.map Bk.core := by have := h.core; rw [hd, List.take_length] at this; exact this
  have hch := h.chip.later hb2
  have hbk := h.bks.later hb2
  rw [hd, List.drop_length, List.append_nil] at hbk
  have hk : Kept (fun k => k = P) w2 (w2.setCell ⟨P, 8, none⟩ (.slice na m nc)) := (Kept.refl (fun k => k = P) w2).setCell (p := ⟨P, 8, none⟩) rfl _
  refine ⟨⟨⟨na, nc, ?_, hf.kept hk ?_⟩, hbk.other _ _ (hbk.ne hch (by decide)), ?_, h.nd, ?_, ?_⟩, ?_, ⟨rfl, rfl, rfl, rfl⟩, hcore, rfl, rfl, rfl, rfl, rfl⟩
  · have := hch.set (i := 8) (.slice na m nc) (by simp [csCells])
    rw [hm]
    rw [hm] at this
    have e : (csCells { c with q := g, qcap := gc } fa fc).set 8 (.slice na c.fs.length nc) = csCells { c with p := P, q := g, qcap := gc, bks := done } na nc := by simp [csCells, hd]
    rw [e] at this
    exact this
  · intro b cs hr e
    exact hr.ne hch (by decide) e
  · intro b hb
    have := (h.pgs b hb).1.later hb2
    exact this.other _ _ (this.ne hch (by decide))
  · rintro k (rfl | rfl | hk)
    · exact h.low.1
    · exact h.low.2
    · obtain ⟨b, hb, rfl⟩ := List.mem_map.1 hk
      exact (h.pgs b hb).2.1
  · refine ⟨hd.trans hg.len, ?_, ⟨by rw [← hg.len]; exact h.cap.1, h.cap.2⟩, hg.gs, ?_, hg.fok⟩
    · intro b hb
      obtain ⟨b0, h0, e⟩ := core_mem hcore hb
      obtain ⟨_, e1, e2⟩ := core_abs e
      obtain ⟨q1, q2, q3, q4, q5⟩ := hg.plen b0 h0
      obtain ⟨_, _, p3, p4⟩ := h.pgs b hb
      rw [e1] at p3
      exact ⟨by rw [e1]; exact q1, by show c.gp ≤ b.cap; omega, p4, by rw [e2]; exact q4, by rw [e2]; exact q5⟩
    · intro b hb
      obtain ⟨b0, h0, e⟩ := core_mem hcore hb
      rw [(core_abs e).2.1]
      exact hg.dat b0 h0
  · exact (Below.after h.bel hb2).setCell (p := ⟨P, 8, none⟩) h.low.1 _
def ClonePost (w : World) (c : CS) (e : Ending) (w' : World) : Prop := ∃ c', e = .returned (.pointer (some ⟨c'.p, 0, none⟩)) ∧ Twin w w' c c'
theorem Cl.start {w w1 : World} {c : CS} {fa : Option Addr} {fc g gc n m : Nat} (hn : n = c.bks.length) (hm : m = c.fs.length) (hgc : n ≤ gc ∧ gc ≤ maxLen) (W : World) (hW : W = w.alloc (.cells #[.int .i64 c.gb, .int .i64 c.gp, .int .i64 c.gz, .int .i64 c.gr, .slice (some ⟨c.q, 0, none⟩) n c.qcap, .bool c.on, .int .i64 c.ops, .int .i64 c.wrong, .slice fa m fc, .int .i64 c.steps] 52)) (hg : W.heap.size ≤ g) (hr : Row w1 g (c.bks.flatMap bkCells) 57) (hb : Below W.heap.size W w1) :
    Cl w (w1.setCell ⟨w.heap.size, 4, none⟩ (.slice (some ⟨g, 0, none⟩) n gc)) c fa fc w.heap.size g gc [] := by
  subst hn hm
  have hch : Row W w.heap.size (csCells c fa fc) 52 := by rw [hW]; exact Row.new w (csCells c fa fc) _
  have h1 := hch.later hb
  have hsz : W.heap.size = w.heap.size + 1 := by rw [hW]; simp
  have hbW : Below w.heap.size w W := by rw [hW]; exact below_new w _
  refine ⟨h1.set (i := 4) _ (by simp [csCells]), ?_, by simp, by simp, by simp, ⟨Nat.le_refl _, by omega⟩, hgc, (Below.after hbW hb).setCell (p := ⟨w.heap.size, 4, none⟩) (Nat.le_refl _) _⟩
  simpa using hr.other _ _ (hr.ne h1 (by decide))
theorem Cl.round {base : Nat} {w wr : World} {c : CS} {fa : Option Addr} {fc P g gc : Nat} {done : List Bk} (h : Cl w wr c fa fc P g gc done) (hl : Lies base w c) {b0 : Bk} (hb0 : c.bks[done.length]? = some b0) (k pn n : Nat) (hk : k = done.length) (hn : n = c.bks.length) (hpn : pn = b0.pgs.length) :
    (wr.cell? ⟨P, 4, none⟩ = some (.slice (some ⟨g, 0, none⟩) n gc) ∧ wr.cell? ⟨g, k * 4, none⟩ = some (.slice (some ⟨b0.r, 0, none⟩) pn b0.cap) ∧ wr.frozen? ⟨g, k * 4, none⟩ = false ∧ g < wr.heap.size) ∧
    ∀ W, Below wr.heap.size wr W → Calls Try.prog 27 #[.slice (some ⟨b0.r, 0, none⟩) pn b0.cap] W fun e w2 => ∃ r cp, e = .returned (.slice (some ⟨r, 0, none⟩) pn cp) ∧ w2.cell? ⟨P, 4, none⟩ = some (.slice (some ⟨g, 0, none⟩) n gc) ∧ w2.cell? ⟨g, k * 4, none⟩ = some (.slice (some ⟨b0.r, 0, none⟩) pn b0.cap) ∧ w2.frozen? ⟨g, k * 4, none⟩ = false ∧ g < w2.heap.size ∧
      Hid (Cl w (w2.setCell ⟨g, k * 4, none⟩ (.slice (some ⟨r, 0, none⟩) pn cp)) c fa fc P g gc (done ++ [{ b0 with r := r, cap := cp }])) := by
  have hmem : b0 ∈ c.bks := List.mem_of_getElem? hb0
  obtain ⟨q1, q2, q3, q4, q5⟩ := hl.good.plen b0 hmem
  have hgs := hl.good.gs
  have hL : (done ++ c.bks.drop done.length)[done.length]? = some b0 := by
    rw [List.getElem?_append_right (Nat.le_refl _), Nat.sub_self, List.getElem?_drop, Nat.add_zero]; exact hb0
  have key : ∀ W, Below wr.heap.size wr W → W.cell? ⟨P, 4, none⟩ = some (.slice (some ⟨g, 0, none⟩) n gc) ∧ W.cell? ⟨g, k * 4, none⟩ = some (.slice (some ⟨b0.r, 0, none⟩) pn b0.cap) ∧ W.frozen? ⟨g, k * 4, none⟩ = false ∧ g < W.heap.size := fun W hb => by
    have h4 := (h.chip.later hb).cell (i := 4) rfl
    have hg := (At.of (h.bks.later hb) hL).list
    rw [← hk, ← hpn] at hg
    refine ⟨by rw [h4, hn], hg, (h.bks.later hb).frozen _, (h.bks.later hb).lt⟩
  refine ⟨key wr (Below.refl _ _), fun W hb => ?_⟩
  refine (clone_pgs b0.r b0.cap pn b0.pgs W hpn (by omega) (by omega) ((hl.pgs b0 hmem).later (Below.after h.bel hb))).mono ?_
  rintro e w2 ⟨r, cp, rfl, ⟨g1, g2, g3⟩, hr, hb2⟩
  have hbb := Below.after hb hb2
  obtain ⟨y1, y2, y3, y4⟩ := key w2 hbb
  refine ⟨r, cp, rfl, y1, y2, y3, y4, ?_⟩
  have := h.step hb0 hbb r pn cp hpn hr ⟨g1, g2, Nat.le_trans hb.size g3⟩
  rw [← hk] at this
  exact this
theorem Cl.later {w wr W : World} {c : CS} {fa : Option Addr} {fc P g gc : Nat} {done : List Bk} (h : Cl w wr c fa fc P g gc done) (hb : Below wr.heap.size wr W) : Cl w W c fa fc P g gc done :=
  ⟨h.chip.later hb, h.bks.later hb, fun b hm => ⟨(h.pgs b hm).1.later hb, (h.pgs b hm).2⟩, h.nd, h.core, h.low, h.cap, Below.after h.bel hb⟩
set_option maxHeartbeats 8000000 in
theorem clone_any {base : Nat} {w : World} {c : CS} (h : Lies base w c) (p : Nat) (hp : c.p = p) (h256 : c.fs.length ≤ 256) :
    Calls Try.prog 10 #[.pointer (some ⟨p, 0, none⟩)] w fun e w' => ClonePost w c e w' := by
  subst hp
  obtain ⟨fa, fc, hrow, hfl⟩ := h.chip
  obtain ⟨n, hn⟩ : ∃ n, n = c.bks.length := ⟨_, rfl⟩
  obtain ⟨m, hm⟩ : ∃ m, m = c.fs.length := ⟨_, rfl⟩
  have c0 : w.cell? ⟨c.p, 0, none⟩ = some (.int .i64 c.gb) := hrow.cell (by rfl)
  have c1 : w.cell? ⟨c.p, 1, none⟩ = some (.int .i64 c.gp) := hrow.cell (by rfl)
  have c2 : w.cell? ⟨c.p, 2, none⟩ = some (.int .i64 c.gz) := hrow.cell (by rfl)
  have c3 : w.cell? ⟨c.p, 3, none⟩ = some (.int .i64 c.gr) := hrow.cell (by rfl)
  have c4 : w.cell? ⟨c.p, 4, none⟩ = some (.slice (some ⟨c.q, 0, none⟩) n c.qcap) := by rw [hn]; exact hrow.cell (by rfl)
  have c5 : w.cell? ⟨c.p, 5, none⟩ = some (.bool c.on) := hrow.cell (by rfl)
  have c6 : w.cell? ⟨c.p, 6, none⟩ = some (.int .i64 c.ops) := hrow.cell (by rfl)
  have c7 : w.cell? ⟨c.p, 7, none⟩ = some (.int .i64 c.wrong) := hrow.cell (by rfl)
  have c8 : w.cell? ⟨c.p, 8, none⟩ = some (.slice fa m fc) := by rw [hm]; exact hrow.cell (by rfl)
  have c9 : w.cell? ⟨c.p, 9, none⟩ = some (.int .i64 c.steps) := hrow.cell (by rfl)
  have hpl := hrow.lt
  have hgs := h.good.gs
  have hlen := h.good.len
  have HN : Hid (n = c.bks.length) := hn
  have HM : Hid (m = c.fs.length) := hm
  have HL : Hid (Lies base w c) := h
  have HF : Hid (Flts w fa fc c.fs) := hfl
  have HS : Hid (base ≤ w.heap.size) := h.size
  have hn1 : 1 ≤ n := by omega
  have hn2 : n ≤ 256 := by omega
  have hm2 : m ≤ 256 := by omega
  obtain ⟨WA, hWA⟩ : ∃ W, W = w.alloc (.cells #[.int .i64 c.gb, .int .i64 c.gp, .int .i64 c.gz, .int .i64 c.gr, .slice (some ⟨c.q, 0, none⟩) n c.qcap, .bool c.on, .int .i64 c.ops, .int .i64 c.wrong, .slice fa m fc, .int .i64 c.steps] 52) := ⟨_, rfl⟩
  have HWA : Hid (WA = w.alloc (.cells #[.int .i64 c.gb, .int .i64 c.gp, .int .i64 c.gz, .int .i64 c.gr, .slice (some ⟨c.q, 0, none⟩) n c.qcap, .bool c.on, .int .i64 c.ops, .int .i64 c.wrong, .slice fa m fc, .int .i64 c.steps] 52)) := hWA
  have hbq : Row WA c.q (c.bks.flatMap bkCells) 57 := by rw [hWA]; exact h.bks.alloc _
  have kB := clone_bks c.q c.qcap n c.bks WA hn hn1 hn2 hbq
  rw [hWA] at kB
  clear h hrow hfl hn hm hbq hWA hlen hgs h256
  go_enter Try.func10, Try.ntmps10
  go_wp2_with (go_at_call 26; refine kB.mono ?_; rintro e w1 ⟨g, gc, rfl, hg, hr1, hb1⟩; have HC1 : Hid (Cl _ _ _ _ _ _ _ _ _) := Cl.start (fa := fa) (fc := fc) HN.out HM.out ⟨hg.1, hg.2.1⟩ _ rfl hg.2.2 hr1 hb1; have hX := (HL.out.later (below_new w (.cells #[.int .i64 c.gb, .int .i64 c.gp, .int .i64 c.gz, .int .i64 c.gr, .slice (some ⟨c.q, 0, none⟩) n c.qcap, .bool c.on, .int .i64 c.ops, .int .i64 c.wrong, .slice fa m fc, .int .i64 c.steps] 52))).later hb1; have hY := (Row.new w [.int .i64 c.gb, .int .i64 c.gp, .int .i64 c.gz, .int .i64 c.gr, .slice (some ⟨c.q, 0, none⟩) n c.qcap, .bool c.on, .int .i64 c.ops, .int .i64 c.wrong, .slice fa m fc, .int .i64 c.steps] 52).later hb1; have y4 := hY.cell (i := 4) rfl; have z4 := hY.frozen 4; have yl := hY.lt; clear hX hY hg hr1 hb1)
  obtain ⟨W0, hW0⟩ : ∃ W, W = w1.setCell ⟨w.heap.size, 4, none⟩ (.slice (some ⟨g, 0, none⟩) n gc) := ⟨_, rfl⟩
  rw [← hW0] at HC1 ⊢
  clear hW0 y4 z4 yl kB HWA c0 c1 c2 c3 c4 c5 c6 c7 c9
  have hPlt : w.heap.size < W0.heap.size := HC1.out.chip.lt
  obtain ⟨P, hP⟩ : ∃ P, P = w.heap.size := ⟨_, rfl⟩
  have HP : Hid (P = w.heap.size) := hP
  rw [← hP] at HC1 ⊢
  clear hP hPlt
  go_loopg [19] n (fun gm i wr => ∃ done : List Bk, done.length ≤ n ∧ gm = n - done.length ∧ i = .int .i64 done.length ∧ Hid (Cl w wr c fa fc P g gc done))
  case atStart => exact ⟨[], by simp, by simp, rfl, HC1⟩
  case round =>
    obtain ⟨done, hle, rfl, rfl, hM⟩ := hrel
    clear HC1
    obtain ⟨k, hk⟩ : ∃ k, k = done.length := ⟨_, rfl⟩
    have HK : Hid (k = done.length) := hk
    by_cases hlt : done.length < n
    · obtain ⟨b0, hb0⟩ : ∃ b0, c.bks[done.length]? = some b0 := ⟨_, List.getElem?_eq_getElem (by rw [← HN.out]; exact hlt)⟩
      obtain ⟨pn, hpn⟩ : ∃ pn, pn = b0.pgs.length := ⟨_, rfl⟩
      obtain ⟨⟨x4, v0, f0, gl⟩, kP⟩ := hM.out.round HL.out hb0 k pn n hk HN.out hpn
      have hPl := hM.out.chip.lt
      rw [← hk] at hlt ⊢
      have hki : (k : Int) < (n : Int) := by omega
      clear hk hb0 hpn hle
      go_wp2
      go_region_with (go_at_call 27; refine (kP wr.drew (Below.refl _ _).drew).mono ?_; rintro e w2 ⟨r, cp, rfl, t4, t0, tf, tl, HX⟩)
      all_goals go_wp2
      all_goals go_roundg (n - (k + 1))
      all_goals first
        | (show n - (k + 1) < n - done.length; have := HK.out; omega)
        | exact ⟨_, by have := HK.out; simp; omega, by have := HK.out; simp; omega, by have := HK.out; simp; omega, HX⟩
    · have hki : ¬ (k : Int) < (n : Int) := by omega
      have hdn : done.length = c.bks.length := by have := HN.out; omega
      have HDN : Hid (done.length = c.bks.length) := hdn
      have d8 : wr.cell? ⟨c.p, 8, none⟩ = some (.slice fa m fc) := by rw [hM.out.bel.cell (p := ⟨c.p, 8, none⟩) hpl]; exact c8
      have hfr : FRow wr fa c.fs := frow_later HF.out.row hM.out.bel
      have kF := clone_flts fa m fc c.fs wr HM.out hm2 hfr
      have hPl := hM.out.chip.lt
      rw [← hk]
      clear hk hle hdn hfr hlt
      go_wp2_with (go_at_call 28; refine kF.mono ?_; rintro e w2 ⟨na, nc, rfl, hf2, hb2⟩; have HT : Hid (Twin _ _ _ _) := hM.out.twin HDN.out HL.out.good HS.out hb2 na m nc HM.out hf2; have hch := hM.out.chip.later hb2; have t8 := hch.cell (i := 8) rfl; have z8 := hch.frozen 8; have tl := hch.lt; clear hch hf2 hb2)
      go_ret
      exact ⟨_, rfl, HT.out⟩
end Go.Proofs.Ytiejkbncpbhcdaa
