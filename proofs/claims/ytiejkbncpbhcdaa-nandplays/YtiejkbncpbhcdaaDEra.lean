/-
  What Erase does with the document's chip: the memory behind it.
-/
import Derived.Test.YtiejkbncpbhcdaaDProgC
namespace Go.Proofs.Ytiejkbncpbhcdaa
open Go.RowKit

/-- One block has changed, its pages lying in new memory. -/
theorem DLies.step2 {base : Nat} {w w' : World} {d d' : DS} {i : Nat} {b b' : DBk} (h : DLies base w d) (hp : d'.p = d.p) (hq : d'.q = d.q) (hpa : d'.pa = d.pa ∧ d'.plan = d.plan) (hi : d.bks[i]? = some b) (hb : d'.bks = d.bks.set i b') (hR : w.heap.size ≤ b'.r) (good : DGood d')
    (hk : Kept (fun k => k = d.p ∨ k = d.q) w w') (h1 : Row w' d.p (dsCells d') 61)
    (h2 : Row w' d.q (d'.bks.flatMap dbCells) 64) (h3 : Row w' b'.r (b'.pgs.flatMap dpCells) 102) (h4 : ∀ p ∈ b'.pgs, DOk w' p) :
    DLies base w' d' ∧ Kept d.foot w w' ∧ ∀ k, d'.foot k → d.foot k ∨ w.heap.size ≤ k := by
  have hmono : Kept d.foot w w' := hk.mono (by
    rintro k (rfl | rfl)
    · exact .inl rfl
    · exact .inr (.inl rfl))
  have hil := (List.getElem?_eq_some_iff.1 hi).1
  have hmem : ∀ x ∈ d'.bks, x = b' ∨ x ∈ d.bks := by
    intro x hx
    rw [hb] at hx
    rcases List.mem_or_eq_of_mem_set hx with hx | hx
    · exact .inr hx
    · exact .inl hx
  have hfoot : ∀ k, d'.foot k → d.foot k ∨ w.heap.size ≤ k := by
    rintro k (rfl | rfl | hk)
    · exact .inl (.inl hp)
    · exact .inl (.inr (.inl hq))
    · obtain ⟨x, hx, rfl⟩ := List.mem_map.1 hk
      rcases hmem x hx with rfl | hx
      · exact .inr hR
      · exact .inl (.inr (.inr (List.mem_map.2 ⟨x, hx, rfl⟩)))
  have hlt : ∀ x ∈ d.bks, x.r < w.heap.size := fun x hx => (h.pgs x hx).1.lt
  refine ⟨⟨by rw [hp]; exact h1, by rw [hq]; exact h2, ?_, ?_, ?_, ?_, good⟩, hmono, hfoot⟩
  · intro x hx
    rcases hmem x hx with rfl | hx
    · exact ⟨h3, h4⟩
    · refine ⟨(h.pgs x hx).1.kept hk ?_, fun p hp => ((h.pgs x hx).2 p hp).kept hmono (u8_apart h)⟩
      rintro (e | e)
      · exact (h.pgs x hx).1.ne h.chip (by decide) e
      · exact (h.pgs x hx).1.ne h.bks (by decide) e
  · rw [hb, List.map_set]
    have hnd := h.nd
    rw [List.nodup_iff_pairwise_ne] at hnd ⊢
    rw [List.pairwise_iff_getElem] at hnd ⊢
    intro a c ha hc hac e
    simp only [List.length_set, List.length_map] at ha hc
    rw [List.getElem_set, List.getElem_set] at e
    split at e
    · split at e
      · omega
      · have := hlt d.bks[c] (List.getElem_mem hc)
        simp only [List.getElem_map] at e
        omega
    · split at e
      · have := hlt d.bks[a] (List.getElem_mem ha)
        simp only [List.getElem_map] at e
        omega
      · exact hnd a c (by simpa using ha) (by simpa using hc) hac e
  · intro k hk
    rcases hfoot k hk with q | q
    · exact h.low k q
    · have := h.low d.p (.inl rfl)
      have := h.chip.lt
      omega
  · rw [hpa.1, hpa.2]
    refine ⟨frow_kept h.plan.1 hmono (fun b o e hl => (h.plan.2 b o e hl).1), fun b o e hl => ⟨fun hf => ?_, Nat.lt_of_lt_of_le (h.plan.2 b o e hl).2 hmono.size⟩⟩
    rcases hfoot b hf with q | q
    · exact (h.plan.2 b o e hl).1 q
    · have := (h.plan.2 b o e hl).2; omega
/-- A page that was never programmed. -/
def zeroP : DPg := ⟨false, false, none, 0, 0, []⟩
theorem zeroP_ok (w : World) : DOk w zeroP := ⟨rfl, by simp [zeroP], .inl rfl, fun _ => ⟨rfl, rfl⟩, .inl rfl⟩
/-- The block behind an erase. -/
def DBk.era (b : DBk) (R gp : Nat) (pl : List DPg) (nx : Int) : DBk := ⟨R, gp, pl, nx, b.bad, wrap64 (b.erases + 1)⟩
def DS.erad (d : DS) (i : Nat) (b' : DBk) : DS := { d.counted with bks := d.bks.set i b' }
/-- What lies behind the stores of an erase. -/
structure EInv (w1 wr : World) (d : DS) (i : Nat) (b : DBk) (R : Nat) (pl : List DPg) (nx x kd td : Int) (F : Nat) : Prop where
  kept : Kept (fun k => k = d.p ∨ k = d.q) w1 wr
  chip : Row wr d.p (dsCells d.counted) 61
  bks : Row wr d.q ((d.bks.set i (b.era R d.gp pl nx)).flatMap dbCells) 64
  pgs : Row wr R (pl.flatMap dpCells) 102
  flt : Row wr F [.int .i64 x, .int .i64 kd, .int .i64 td] 78
theorem EInv.lies {base : Nat} {w1 wr : World} {d : DS} {i R F : Nat} {b : DBk} {pl : List DPg} {nx x kd td : Int} (h : EInv w1 wr d i b R pl nx x kd td F) (h1 : DLies base w1 d.counted) (hb : d.bks[i]? = some b) (hR : w1.heap.size ≤ R) (hl : pl.length = d.gp) (hn : 0 ≤ nx ∧ nx ≤ d.gp)
    (hp : ∀ p ∈ pl, p = zeroP ∨ p = blank) : DLies base wr (d.erad i (b.era R d.gp pl nx)) ∧ Kept d.foot w1 wr ∧ ∀ k, (d.erad i (b.era R d.gp pl nx)).foot k → d.foot k ∨ w1.heap.size ≤ k := by
  have hg := h1.good
  refine h1.step2 (d := d.counted) (d' := d.erad i (b.era R d.gp pl nx)) (b' := b.era R d.gp pl nx) rfl rfl ⟨rfl, rfl⟩ hb rfl hR ?_ h.kept ?_ h.bks h.pgs ?_
  · refine DGood.set (d := d.counted) hg ⟨hl, Nat.le_refl _, ?_, hn.1, hn.2⟩ ?_
    · have := hg.gs; show d.gp ≤ maxLen; unfold maxLen; have h4 : d.counted.gp = d.gp := rfl; omega
    · intro p hq
      rcases hp p hq with rfl | rfl <;> exact Nat.zero_le _
  · have : dsCells (d.erad i (b.era R d.gp pl nx)) = dsCells d.counted := by simp [dsCells, DS.erad]; rfl
    rw [this]; exact h.chip
  · intro p hq
    rcases hp p hq with rfl | rfl
    · exact zeroP_ok _
    · exact blank_ok _
theorem makeD (gp : Nat) (h : gp ≤ 64) : ∃ RP : Array Value, RP.toList = (List.replicate gp zeroP).flatMap dpCells ∧ ∀ W, (Instr.makeSlice 62 (.int .i64 (gp : Int)) (.int .i64 (gp : Int))).run Try.prog W = .ok (.slice (some ⟨W.heap.size, 0, none⟩) gp gp) (W.alloc (.cells RP 102)) := by
  obtain ⟨i0, hi, hz0, hz1, hz2⟩ := info_parts (show (Try.prog.info? 102).map (fun i => (i.zero, i.size, i.bytes)) = some (some (.agg #[.bool false, .bool false, .slice none 0 0]), 3, 32) by kernel_rfl)
  refine ⟨madeCells #[.bool false, .bool false, .slice none 0 0] (gp * 3), ?_, fun W => ?_⟩
  · have := made_flat [Value.bool false, .bool false, .slice none 0 0] (by decide) gp
    rw [show (madeCells #[Value.bool false, .bool false, .slice none 0 0] (gp * 3)) = madeCells [Value.bool false, .bool false, .slice none 0 0].toArray (gp * [Value.bool false, .bool false, .slice none 0 0].length) from rfl, this, List.flatMap_def, List.map_replicate]
    rfl
  · have := run_make (P := Try.prog) W 62 102 i0 _ Try.underlying62 hi hz0 .i64 .i64 gp gp (by omega) (Int.le_refl _) (by rw [hz2]; omega) (by omega)
    rw [hz1] at this
    exact this
end Go.Proofs.Ytiejkbncpbhcdaa
