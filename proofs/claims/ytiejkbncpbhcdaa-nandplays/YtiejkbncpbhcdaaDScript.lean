/-
  Both chips made anew; scripts.
-/
import Derived.Test.YtiejkbncpbhcdaaDDoes
import Derived.Test.YtiejkbncpbhcdaaDLooks
import Derived.Test.YtiejkbncpbhcdaaDClone
namespace Go.Proofs.Ytiejkbncpbhcdaa
open Go.RowKit

theorem DLies.lower {base B : Nat} {w : World} {d : DS} (h : DLies base w d) (hB : B ≤ base) : DLies B w d := ⟨h.chip, h.bks, h.pgs, h.nd, fun k hk => Nat.le_trans hB (h.low k hk), h.plan, h.good⟩
theorem map_const' {α β : Type} (f : α → β) (x : β) (h : ∀ a, f a = x) : ∀ l : List α, l.map f = List.replicate l.length x
  | [] => rfl
  | a :: l => by rw [List.map_cons, h, map_const' f x h l, List.length_cons, List.replicate_succ]
/-- The document's chip, new. -/
def newD (gb gp gz gr P q qc : Nat) (a : Option Addr) (m cap : Nat) (l : List Flt) (rs : List Nat) : DS := ⟨P, q, qc, gb, gp, gz, gr, rs.map (freshD gp), false, a, m, cap, l, 0, 0, 0⟩
theorem Rel.new (gb gp gz gr p q : Nat) (s l : List Flt) (rs rs2 : List Nat) (P q2 qc : Nat) (a : Option Addr) (m cap : Nat) (h1 : rs.length = gb) (h2 : rs2.length = gb) (hp : s.Perm l) (hs : s.Pairwise (fun x y => x.num < y.num)) (hl : planOk l) (h256 : l.length ≤ 256) :
    Rel 0 (newC gb gp gz gr p q s rs) (newD gb gp gz gr P q2 qc a m cap l rs2).abs := by
  refine ⟨⟨rfl, rfl, rfl, rfl⟩, ?_, rfl, rfl, rfl, ⟨Int.le_refl _, Int.le_refl _, Int.le_refl _⟩, rfl, hs, fun f => ?_, hl, ?_, by show s.length ≤ 256; rw [hp.length_eq]; exact h256⟩
  · show (rs.map (freshB gp)).map Bk.abs = (rs2.map (freshD gp)).map DBk.abs
    rw [List.map_map, List.map_map, map_const' (Bk.abs ∘ freshB gp) ⟨List.replicate gp ⟨false, []⟩, 0, false, 0⟩ (fun r => by simp [freshB, Bk.abs, Pg.abs]), map_const' (DBk.abs ∘ freshD gp) ⟨List.replicate gp ⟨false, []⟩, 0, false, 0⟩ (fun r => by simp [freshD, DBk.abs, DPg.abs, zeroP]), h1, h2]
  · show f ∈ s ↔ f ∈ l ∧ 0 < f.num
    rw [hp.mem_iff]
    exact ⟨fun q => ⟨q, by have := (hl.1 f q).1; omega⟩, fun q => q.1⟩
  · intro b hb
    obtain ⟨r, _, rfl⟩ := List.mem_map.1 (show b ∈ rs.map (freshB gp) from hb)
    simp [freshB, newC]
theorem brings_of {w wr : World} {a : Option Addr} {n cap : Nat} {l : List OpD} {o : OpD} (h : OArg w a n cap l) (ho : o ∈ l) (hb : Below w.heap.size w wr) : Brings w.heap.size wr o := by
  obtain ⟨hd, hf⟩ := h.each o ho
  have o1 : o.data = [] ∨ Old w.heap.size o.da := by
    rcases hd.row with e | ⟨b, off, e, hc⟩
    · exact .inl e
    · cases hdl : o.data with
      | nil => exact .inl rfl
      | cons x t =>
        refine .inr fun b2 o2 e2 => ?_
        rw [e] at e2
        cases e2
        exact World.block_lt_of_cell? w _ (hc 0 (by rw [hdl]; simp))
  have o2 : o.plan = [] ∨ Old w.heap.size o.pa := by
    rcases hf.row with e | ⟨b, off, e, hc⟩
    · exact .inl e
    · cases hdl : o.plan with
      | nil => exact .inl rfl
      | cons x t =>
        refine .inr fun b2 o2 e2 => ?_
        rw [e] at e2
        cases e2
        exact World.block_lt_of_cell? w _ (hc 0 x (by rw [hdl]; rfl)).1
  exact ⟨hd.len_eq, brow_below hd.row o1 hb, hd.lt, hd.nil, o1, hf.len_eq, by have := hf.le; have := hf.max; unfold maxLen at this; omega, frow_below hf.row o2 hb, hf.nil, o2⟩
/-- Both chips, and what there was. -/
structure St (w wr : World) (p q k : Nat) (c : CS) (d : DS) : Prop where
  duo : Duo w.heap.size wr c d k
  p : c.p = p
  q : d.p = q
  below : Below w.heap.size w wr
theorem St.later {w wr W : World} {p q k : Nat} {c : CS} {d : DS} (h : St w wr p q k c d) (hb : Below wr.heap.size wr W) : St w W p q k c d := ⟨h.duo.later hb, h.p, h.q, Below.after h.below hb⟩
theorem St.went {w wr W : World} {p q k m : Nat} {c c' : CS} {d d' : DS} (h : St w wr p q k c d) (hw : Went w.heap.size wr W p q m c' d') : St w W p q m c' d' := ⟨hw.duo, hw.p, hw.q, h.below.trans hw.below⟩
/-- The cells of a step of a script that came in. -/
theorem op_cells {w : World} {a : Option Addr} {n cap : Nat} {l : List OpD} (h : OArg w a n cap l) {k : Nat} {o : OpD} (ho : l[k]? = some o) : ∃ b off, a = some ⟨b, off, none⟩ ∧ b < w.heap.size ∧ ∀ W, Below w.heap.size w W → W.cell? ⟨b, off + k * 5, none⟩ = some (.int .i64 o.kind) ∧ W.cell? ⟨b, off + k * 5 + 1, none⟩ = some (.int .i64 o.block) ∧ W.cell? ⟨b, off + k * 5 + 2, none⟩ = some (.int .i64 o.page) ∧ W.cell? ⟨b, off + k * 5 + 3, none⟩ = some (.slice o.da o.dl o.dc) ∧ W.cell? ⟨b, off + k * 5 + 4, none⟩ = some (.slice o.pa o.pl o.pc) := by
  rcases h.row with e | ⟨b, off, rfl, hcs⟩
  · subst e; simp at ho
  · obtain ⟨g0, g1, g2, g3, g4⟩ := hcs k o ho
    have hbw : b < w.heap.size := World.block_lt_of_cell? w _ g0
    refine ⟨b, off, rfl, hbw, fun W hW => ?_⟩
    rw [hW.cell (p := ⟨b, off + k * 5, none⟩) hbw, hW.cell (p := ⟨b, off + k * 5 + 1, none⟩) hbw, hW.cell (p := ⟨b, off + k * 5 + 2, none⟩) hbw, hW.cell (p := ⟨b, off + k * 5 + 3, none⟩) hbw, hW.cell (p := ⟨b, off + k * 5 + 4, none⟩) hbw]
    exact ⟨g0, g1, g2, g3, g4⟩
end Go.Proofs.Ytiejkbncpbhcdaa
