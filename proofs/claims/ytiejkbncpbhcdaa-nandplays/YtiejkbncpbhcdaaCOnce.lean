/-
  What a chip under no plan makes of a step, as far as pages are read.
-/
import Derived.Test.YtiejkbncpbhcdaaCAlive
namespace Go.Proofs.Ytiejkbncpbhcdaa
open Go.RowKit

/-- The page of two numbers. -/
def CS.page? (c : CS) (bl pg : Int) : Option Pg := if bl < 0 then none else (c.bks[bl.toNat]?).bind fun b => if pg < 0 then none else b.pgs[pg.toNat]?
theorem read_page (c : CS) (bl pg : Int) : c.read bl pg = if c.on = false then ([], 6) else match c.page? bl pg with | none => ([], 22) | some p => (p.bytes c.gz, p.err) := by
  unfold CS.read CS.page?
  split
  · rfl
  · split
    · rfl
    · cases c.bks[bl.toNat]? with
      | none => rfl
      | some b =>
        simp only [Option.bind_some]
        split
        · rfl
        · rfl
theorem read_same {c c' : CS} {bl pg : Int} (h1 : c'.on = c.on) (h2 : c'.gz = c.gz) (h3 : c'.page? bl pg = c.page? bl pg) : c'.read bl pg = c.read bl pg := by
  rw [read_page, read_page, h1, h2, h3]
/-- No fault comes: the plan is empty. -/
structure Calm (c : CS) : Prop where
  on : c.on = true
  fs : c.fs = []
theorem Calm.fault {c : CS} (h : Calm c) : c.fault = ⟨0, 0, 0⟩ := by unfold CS.fault; rw [h.fs]; rfl
theorem Calm.extent {c : CS} (h : Calm c) : c.extent = 2 := by unfold CS.extent; rw [h.fault]; rfl
theorem Calm.told {c : CS} (h : Calm c) : c.told = 0 := by unfold CS.told; rw [h.fault]; rfl
theorem Calm.operated {c : CS} (h : Calm c) : Calm c.operated := by
  refine ⟨?_, ?_⟩
  · unfold CS.operated; rw [h.fault]; exact h.on
  · unfold CS.operated; rw [h.fs]; rfl
/-- A block that is set, looked for. -/
theorem at_set {c : CS} {n k : Int} {b b' : Bk} (hb : c.at n = some b) : ({ c with bks := c.bks.set n.toNat b' } : CS).at k = if k = n then some b' else c.at k := by
  obtain ⟨h1, h2⟩ := at_some hb
  have hlt := (List.getElem?_eq_some_iff.1 h1).1
  unfold CS.at
  by_cases hk : k = n
  · subst hk
    rw [if_pos rfl, if_neg (by omega)]
    exact List.getElem?_set_self hlt
  · rw [if_neg hk]
    by_cases hn : k < 0
    · rw [if_pos hn, if_pos hn]
    · rw [if_neg hn, if_neg hn]
      exact List.getElem?_set_ne (by omega)
theorem page_at (c : CS) (bl pg : Int) : c.page? bl pg = (c.at bl).bind fun b => if pg < 0 then none else b.pgs[pg.toNat]? := by
  unfold CS.page? CS.at
  split
  · rfl
  · rfl
/-- What Program does where no fault comes. -/
theorem prog_calm {c : CS} (h : Calm c) (block page : Int) (data : List Nat) : ∃ x c', c.program block page data = (x, c') ∧ Calm c' ∧ c'.p = c.p ∧
    ((x ≠ 0 ∧ ∀ bl pg, c'.read bl pg = c.read bl pg) ∨
     (x = 0 ∧ (c'.at block).map Bk.next = some (page + 1) ∧ (c.at block).map Bk.next = some page ∧ ∀ bl pg, ¬ (bl = block ∧ pg = page) → c'.read bl pg = c.read bl pg)) := by
  cases hb : c.at block with
  | none =>
    refine ⟨22, c, (prog_err (.inr ⟨h.on, hb, rfl⟩)).1, h, rfl, .inl ⟨by decide, fun _ _ => rfl⟩⟩
  | some b =>
    rw [(prog_at h.on hb).1]
    split
    · exact ⟨22, c, rfl, h, rfl, .inl ⟨by decide, fun _ _ => rfl⟩⟩
    · split
      · exact ⟨1, _, rfl, ⟨h.on, h.fs⟩, rfl, .inl ⟨by decide, fun _ _ => rfl⟩⟩
      · rename_i hp hq
        have hpage : page = b.next := Classical.byContradiction fun q => hq (.inr q)
        have hp2 : 0 ≤ page := (Classical.byContradiction fun q => hp (.inl fun r => q r.1))
        refine ⟨_, _, rfl, ⟨h.operated.on, h.operated.fs⟩, rfl, .inr ⟨h.told, ?_, ?_, ?_⟩⟩
        · have := at_set (c := c.operated) (k := block) (b' := b.programmed data c.extent) (show c.operated.at block = some b from hb)
          rw [if_pos rfl] at this
          rw [show ({ c.operated with bks := c.bks.set block.toNat (b.programmed data c.extent) } : CS).at block = some (b.programmed data c.extent) from this, h.extent]
          show some (b.programmed data 2).next = _
          rw [show (b.programmed data 2).next = b.next + 1 from rfl, hpage]
        · rw [Option.map_some, hpage]
        · intro bl pg hne
          refine read_same (c' := { c.operated with bks := c.bks.set block.toNat (b.programmed data c.extent) }) (h.operated.on.trans h.on.symm) rfl ?_
          rw [page_at, page_at]
          have := at_set (c := c.operated) (k := bl) (b' := b.programmed data c.extent) (show c.operated.at block = some b from hb)
          rw [show ({ c.operated with bks := c.bks.set block.toNat (b.programmed data c.extent) } : CS).at bl = _ from this, h.extent]
          by_cases e : bl = block
          · rw [if_pos e, e, hb]
            show (if pg < 0 then none else (b.pgs.set b.next.toNat ⟨1, data⟩)[pg.toNat]?) = (if pg < 0 then none else b.pgs[pg.toNat]?)
            split
            · rfl
            · have hpg : pg ≠ page := fun q => hne ⟨e, q⟩
              exact List.getElem?_set_ne (by omega)
          · rw [if_neg e]; rfl
/-- What Erase does where no fault comes. -/
theorem erase_calm {c : CS} (h : Calm c) (block : Int) : ∃ x c', c.erase block = (x, c') ∧ Calm c' ∧ c'.p = c.p ∧
    ((x ≠ 0 ∧ ∀ bl pg, c'.read bl pg = c.read bl pg) ∨
     (x = 0 ∧ (c'.at block).map Bk.next = some 0 ∧ ∀ bl pg, ¬ bl = block → c'.read bl pg = c.read bl pg)) := by
  cases hb : c.at block with
  | none =>
    refine ⟨22, c, (prog_err (page := 0) (data := []) (.inr ⟨h.on, hb, rfl⟩)).2, h, rfl, .inl ⟨by decide, fun _ _ => rfl⟩⟩
  | some b =>
    rw [(prog_at (page := 0) (data := []) h.on hb).2]
    split
    · exact ⟨1, _, rfl, ⟨h.on, h.fs⟩, rfl, .inl ⟨by decide, fun _ _ => rfl⟩⟩
    · refine ⟨_, _, rfl, ⟨h.operated.on, h.operated.fs⟩, rfl, .inr ⟨h.told, ?_, ?_⟩⟩
      · have := at_set (c := c.operated) (k := block) (b' := ({ b with erases := wrap64 (b.erases + 1) } : Bk).erased c.extent) (show c.operated.at block = some b from hb)
        rw [if_pos rfl] at this
        rw [show ({ c.operated with bks := c.bks.set block.toNat (({ b with erases := wrap64 (b.erases + 1) } : Bk).erased c.extent) } : CS).at block = _ from this, h.extent]
        rfl
      · intro bl pg hne
        refine read_same (c' := { c.operated with bks := c.bks.set block.toNat (({ b with erases := wrap64 (b.erases + 1) } : Bk).erased c.extent) }) (h.operated.on.trans h.on.symm) rfl ?_
        rw [page_at, page_at]
        have := at_set (c := c.operated) (k := bl) (b' := ({ b with erases := wrap64 (b.erases + 1) } : Bk).erased c.extent) (show c.operated.at block = some b from hb)
        rw [show ({ c.operated with bks := c.bks.set block.toNat (({ b with erases := wrap64 (b.erases + 1) } : Bk).erased c.extent) } : CS).at bl = _ from this, if_neg hne]
        rfl
/-- What Mark does where no fault comes. -/
theorem mark_calm {c : CS} (h : Calm c) (block : Int) : ∃ x c', c.mark block = (x, c') ∧ Calm c' ∧ c'.p = c.p ∧ ∀ bl pg, c'.read bl pg = c.read bl pg := by
  cases hb : c.at block with
  | none =>
    refine ⟨22, c, ?_, h, rfl, fun _ _ => rfl⟩
    unfold CS.mark
    rcases at_none hb with e | ⟨e, e2⟩
    · rw [if_neg (by rw [h.on]; decide), if_pos e]
    · rw [if_neg (by rw [h.on]; decide), if_neg e, e2]
  | some b =>
    obtain ⟨h1, h2⟩ := at_some hb
    refine ⟨0, { c with bks := c.bks.set block.toNat { b with bad := true } }, ?_, ⟨h.on, h.fs⟩, rfl, ?_⟩
    · unfold CS.mark
      rw [if_neg (by rw [h.on]; decide), if_neg (by omega), h1]
    · intro bl pg
      refine read_same rfl rfl ?_
      rw [page_at, page_at, at_set hb]
      split
      · rename_i e
        rw [e, hb]; rfl
      · rfl
theorem next_map {c : CS} {n x : Int} (h : (c.at n).map Bk.next = some x) : x = match c.at n with | none => 0 | some b => b.next := by
  cases hb : c.at n with
  | none => rw [hb] at h; cases h
  | some b => rw [hb] at h; simpa using h.symm
/-- What is read has bytes. -/
theorem Good.read_lt {c : CS} (h : Good c) (bl pg : Int) : ∀ x ∈ (c.read bl pg).1, x < 256 := by
  rw [read_page]
  split
  · simp
  · split
    · simp
    · rename_i p hp
      intro x hx
      have hmem : ∃ b ∈ c.bks, p ∈ b.pgs := by
        rw [page_at] at hp
        cases hb : c.at bl with
        | none => rw [hb] at hp; cases hp
        | some b =>
          rw [hb] at hp
          simp at hp
          exact ⟨b, List.mem_of_getElem? (at_some hb).1, List.mem_of_getElem? hp.2⟩
      obtain ⟨b, hb, hpb⟩ := hmem
      have hd := (h.dat b hb p hpb).2
      have hx' : x ∈ p.bytes c.gz := hx
      unfold Pg.bytes at hx'
      split at hx'
      · rw [(List.mem_replicate.1 hx').2]; decide
      · split at hx'
        · rcases List.mem_append.1 hx' with h1 | h1
          · exact hd x h1
          · rw [(List.mem_replicate.1 h1).2]; decide
        · cases hx'
theorem mark_at {base : Nat} {w : World} {c c' : CS} (h : Lies base w c) (p : Nat) (hp : c.p = p) (block x : Int) (he : c.mark block = (x, c')) :
    Calls Try.prog 12 #[.pointer (some ⟨p, 0, none⟩), .int .i64 block] w fun e w' => e = .returned (.int .i64 x) ∧ Lies base w' c' ∧ Kept c.foot w w' ∧ Hid (c'.foot = c.foot) := by
  subst hp
  refine (mark_any h block).mono ?_
  rw [he]
  exact fun e w' q => q
theorem erase_at {base : Nat} {w : World} {c c' : CS} (h : Lies base w c) (p : Nat) (hp : c.p = p) (block x : Int) (he : c.erase block = (x, c')) :
    Calls Try.prog 11 #[.pointer (some ⟨p, 0, none⟩), .int .i64 block] w fun e w' => e = .returned (.int .i64 x) ∧ Lies base w' c' ∧ Kept c.foot w w' ∧ Hid (c'.foot = c.foot) := by
  subst hp
  refine (erase_all h block).mono ?_
  rw [he]
  exact fun e w' q => q
theorem same_at {a b : Option Addr} {m1 m2 c1 c2 : Nat} {l : List Nat} (w : World) (h1 : m1 = l.length) (h2 : m2 = l.length) (hl : ∀ x ∈ l, x < 256) (ha : BRow w a l) (hb : BRow w b l) :
    Calls Try.prog 40 #[.slice a m1 c1, .slice b m2 c2] w fun e w' => e = .returned (.bool true) ∧ w = w' := by
  subst h1 h2
  have := same_any a c1 l b c2 l w hl hl ha hb
  rw [decide_eq_true rfl] at this
  exact this
end Go.Proofs.Ytiejkbncpbhcdaa
