/-
  What Mark does with the document's chip.
-/
import Derived.Test.YtiejkbncpbhcdaaDRead
namespace Go.Proofs.Ytiejkbncpbhcdaa
open Go.RowKit

theorem db_bad {W : World} {q i : Nat} {l : List DBk} {b : DBk} {t : TypeId} (b' : DBk) (h : Row W q (l.flatMap dbCells) t) (hi : l[i]? = some b) (e : (dbCells b).set 2 (.bool b'.bad) = dbCells b') : Row (W.setCell ⟨q, i * 4 + 2, none⟩ (.bool b'.bad)) q ((l.set i b').flatMap dbCells) t := by
  have hlen := flat_len dbCells 4 db_len l
  have hlt := (List.getElem?_eq_some_iff.1 hi).1
  have := h.set (i := i * 4 + 2) (.bool b'.bad) (by omega)
  rw [flat_set dbCells 4 db_len 2 (by decide) _ b' l i b hi e] at this
  exact this
theorem db_next {W : World} {q i : Nat} {l : List DBk} {b : DBk} {t : TypeId} (b' : DBk) (h : Row W q (l.flatMap dbCells) t) (hi : l[i]? = some b) (e : (dbCells b).set 1 (.int .i64 b'.next) = dbCells b') : Row (W.setCell ⟨q, i * 4 + 1, none⟩ (.int .i64 b'.next)) q ((l.set i b').flatMap dbCells) t := by
  have hlen := flat_len dbCells 4 db_len l
  have hlt := (List.getElem?_eq_some_iff.1 hi).1
  have := h.set (i := i * 4 + 1) (.int .i64 b'.next) (by omega)
  rw [flat_set dbCells 4 db_len 1 (by decide) _ b' l i b hi e] at this
  exact this
theorem db_erases {W : World} {q i : Nat} {l : List DBk} {b : DBk} {t : TypeId} (b' : DBk) (h : Row W q (l.flatMap dbCells) t) (hi : l[i]? = some b) (e : (dbCells b).set 3 (.int .i64 b'.erases) = dbCells b') : Row (W.setCell ⟨q, i * 4 + 3, none⟩ (.int .i64 b'.erases)) q ((l.set i b').flatMap dbCells) t := by
  have hlen := flat_len dbCells 4 db_len l
  have hlt := (List.getElem?_eq_some_iff.1 hi).1
  have := h.set (i := i * 4 + 3) (.int .i64 b'.erases) (by omega)
  rw [flat_set dbCells 4 db_len 3 (by decide) _ b' l i b hi e] at this
  exact this
theorem DGood.set {d : DS} {i : Nat} {b' : DBk} (h : DGood d) (h1 : b'.pgs.length = d.gp ∧ d.gp ≤ b'.cap ∧ b'.cap ≤ maxLen ∧ 0 ≤ b'.next ∧ b'.next ≤ d.gp) (h2 : ∀ p ∈ b'.pgs, p.data.length ≤ d.gz) : DGood { d with bks := d.bks.set i b' } := by
  refine ⟨by simpa using h.len, ?_, h.qc, h.gs, ?_, h.pln⟩
  · intro x hx
    rcases List.mem_or_eq_of_mem_set hx with hx | rfl
    · exact h.plen x hx
    · exact h1
  · intro x hx
    rcases List.mem_or_eq_of_mem_set hx with hx | rfl
    · exact h.dat x hx
    · exact h2
/-- What Mark answers, and the chip behind it. -/
def DS.mark (d : DS) (block : Int) : Int × DS := if d.off = true then (6, d) else match d.at block with
  | none => (22, d)
  | some b => (0, { d with bks := d.bks.set block.toNat { b with bad := true } })
theorem d_mark {base : Nat} {w : World} {d : DS} (h : DLies base w d) (block : Int) :
    Calls Try.prog 34 #[.pointer (some ⟨d.p, 0, none⟩), .int .i64 block] w fun e w' => e = .returned (.int .i64 (d.mark block).1) ∧ DLies base w' (d.mark block).2 ∧ Kept d.foot w w' ∧ (d.mark block).2.foot = d.foot := by
  have ha := d_asked h block
  have c4 := d_len h
  unfold DS.asked at ha
  unfold DS.mark
  by_cases ho : d.off = true
  · rw [if_pos ho] at ha ⊢
    clear ho
    go_enter Try.func34, Try.ntmps34
    go_wp2_with (go_at_call 63; refine ha.mono ?_; rintro e w' ⟨rfl, rfl⟩)
    go_ret
    exact ⟨rfl, h, Kept.refl _ _, trivial⟩
  · rw [if_neg ho] at ha ⊢
    cases hb : d.at block with
    | none =>
      rw [hb] at ha
      clear ho hb
      go_enter Try.func34, Try.ntmps34
      go_wp2_with (go_at_call 63; refine ha.mono ?_; rintro e w' ⟨rfl, rfl⟩)
      go_ret
      exact ⟨rfl, h, Kept.refl _ _, trivial⟩
    | some b =>
      rw [hb] at ha
      obtain ⟨hb1, hb2⟩ := dat_some hb
      have hbm : b ∈ d.bks := List.mem_of_getElem? hb1
      obtain ⟨i, rfl⟩ : ∃ i : Nat, block = i := ⟨block.toNat, by omega⟩
      simp only [Int.toNat_natCast] at hb1 ⊢
      have hil : (i : Int) < (d.bks.length : Int) := by have := (List.getElem?_eq_some_iff.1 hb1).1; omega
      have c2 := (DAt.of h.bks hb1).bad
      have f2 := h.bks.frozen (i * 4 + 2)
      have fin : ∀ W, W = w.setCell ⟨d.q, i * 4 + 2, none⟩ (.bool true) → DLies base W { d with bks := d.bks.set i { b with bad := true } } ∧ Kept d.foot w W ∧ ({ d with bks := d.bks.set i { b with bad := true } } : DS).foot = d.foot := by
        rintro W rfl
        have hq : Row (w.setCell ⟨d.q, i * 4 + 2, none⟩ (.bool true)) d.q _ _ := db_bad { b with bad := true } h.bks hb1 rfl
        have hk : Kept (fun k => k = d.p ∨ k = d.q ∨ k = b.r) w (w.setCell ⟨d.q, i * 4 + 2, none⟩ (.bool true)) := (Kept.refl _ w).setCell (p := ⟨d.q, i * 4 + 2, none⟩) (.inr (.inl rfl)) _
        have hk1 : Kept (fun k => k = d.q) w (w.setCell ⟨d.q, i * 4 + 2, none⟩ (.bool true)) := (Kept.refl (fun k => k = d.q) w).setCell (p := ⟨d.q, i * 4 + 2, none⟩) rfl _
        have hpq := h.chip.ne h.bks (by decide)
        have h1' : Row (w.setCell ⟨d.q, i * 4 + 2, none⟩ (.bool true)) d.p (dsCells { d with bks := d.bks.set i { b with bad := true } }) 61 := by
          have : dsCells { d with bks := d.bks.set i { b with bad := true } } = dsCells d := by simp [dsCells]
          rw [this]; exact h.chip.other _ _ hpq
        exact h.step rfl rfl ⟨rfl, rfl⟩ hb1 rfl rfl (h.good.set (h.good.plen b hbm) (h.good.dat b hbm)) hk h1' hq ((h.pgs b hbm).1.other _ _ (fun e => (h.pgs b hbm).1.ne h.bks (by decide) e)) (fun p hp => ((h.pgs b hbm).2 p hp).kept hk1 (fun x cs hx e => hx.ne h.bks (by decide) e))
      clear ho hb hb1 hb2 hbm
      go_enter Try.func34, Try.ntmps34
      go_wp2_with (go_at_call 63; refine ha.mono ?_; rintro e w' ⟨rfl, rfl⟩)
      go_ret
      exact ⟨rfl, fin _ rfl⟩
end Go.Proofs.Ytiejkbncpbhcdaa
