/-
  The chip as the document tells it, without places: what both chips are held against.
-/
import Derived.Test.YtiejkbncpbhcdaaDPow
namespace Go.Proofs.Ytiejkbncpbhcdaa
open Go.RowKit

structure APg where
  spoilt : Bool
  data : List Nat
structure ABk where
  pgs : List APg
  next : Int
  bad : Bool
  erases : Int
structure AS where
  gb : Nat
  gp : Nat
  gz : Nat
  gr : Nat
  bks : List ABk
  off : Bool
  plan : List Flt
  since : Int
  ops : Int
  wrong : Int
def DPg.abs (p : DPg) : APg := ⟨p.spoilt, p.data⟩
def DBk.abs (b : DBk) : ABk := ⟨b.pgs.map DPg.abs, b.next, b.bad, b.erases⟩
def DS.abs (d : DS) : AS := ⟨d.gb, d.gp, d.gz, d.gr, d.bks.map DBk.abs, d.off, d.plan, d.since, d.ops, d.wrong⟩
/-- How much of an operation is done; what it answers. -/
def Flt.ext (f : Flt) : Int := if f.kind = 2 then 1 else f.torn
def Flt.says (f : Flt) : Int := if f.kind = 1 then 6 else if f.kind = 2 then 5 else 0
def AS.at (a : AS) (n : Int) : Option ABk := if n < 0 then none else a.bks[n.toNat]?
def AS.flt (a : AS) : Flt := findF (wrap64 (wrap64 (a.ops + 1) - a.since)) a.plan
/-- The chip when an operation has begun. -/
def AS.begun (a : AS) : AS := { a with ops := wrap64 (a.ops + 1), off := if a.flt.kind = 1 then true else a.off }
def ABk.programmed (b : ABk) (data : List Nat) (x : Int) : ABk :=
  if x = 0 then b else if x = 1 then { b with pgs := b.pgs.set b.next.toNat ⟨true, []⟩, next := b.next + 1 } else { b with pgs := b.pgs.set b.next.toNat ⟨false, data⟩, next := b.next + 1 }
def ABk.erased (b : ABk) (gp : Nat) (x : Int) : ABk :=
  if x = 0 then b else if x = 1 then { b with pgs := List.replicate gp ⟨true, []⟩, next := gp } else { b with pgs := List.replicate gp ⟨false, []⟩, next := 0 }
def AS.program (a : AS) (block page : Int) (data : List Nat) : Int × AS :=
  if a.off = true then (6, a) else match a.at block with
  | none => (22, a)
  | some b => if ¬ (0 ≤ page ∧ page < a.gp) ∨ a.gz < data.length then (22, a) else if b.bad = true ∨ page ≠ b.next then (1, { a with wrong := wrap64 (a.wrong + 1) })
    else (a.flt.says, { a.begun with bks := a.bks.set block.toNat (b.programmed data a.flt.ext) })
def AS.erase (a : AS) (block : Int) : Int × AS :=
  if a.off = true then (6, a) else match a.at block with
  | none => (22, a)
  | some b => if b.bad = true then (1, { a with wrong := wrap64 (a.wrong + 1) })
    else (a.flt.says, { a.begun with bks := a.bks.set block.toNat (({ b with erases := wrap64 (b.erases + 1) } : ABk).erased a.gp a.flt.ext) })
def AS.mark (a : AS) (block : Int) : Int × AS :=
  if a.off = true then (6, a) else match a.at block with
  | none => (22, a)
  | some b => (0, { a with bks := a.bks.set block.toNat { b with bad := true } })
theorem abs_at (d : DS) (n : Int) : d.abs.at n = (d.at n).map DBk.abs := by
  unfold AS.at DS.at DS.abs
  split
  · rfl
  · simp
theorem abs_flt (d : DS) : d.abs.flt = d.flt := rfl
/-- A fault that the document finds: one of the plan's, or none. -/
theorem findF_or (s : Int) : ∀ l : List Flt, findF s l = ⟨0, 0, 2⟩ ∨ findF s l ∈ l
  | [] => .inl rfl
  | g :: l => by
    unfold findF
    split
    · exact .inr (by simp)
    · rcases findF_or s l with h | h
      · exact .inl h
      · exact .inr (by simp [h])
theorem map_set' {α β : Type} (f : α → β) (l : List α) (i : Nat) (x : α) : (l.set i x).map f = (l.map f).set i (f x) := List.map_set
end Go.Proofs.Ytiejkbncpbhcdaa
