/-
  A book in memory: its box and the row of its blocks; at, free, dirty, takenFor.
-/
import Derived.Test.YtmaekpfkkpkgpaaGreatDoorBMem
namespace Go.Proofs.YtmaekpfkkpkgpaaGreatDoor
open Go.RowKit
set_option maxRecDepth 10000

/-- What a block is. -/
structure PB where
  use : Int
  used : Int
  live : Int
  closed : Bool
def PB.none : PB := ⟨0, 0, 0, false⟩
def pbCells (x : PB) : List Value := [.int .i64 x.use, .int .i64 x.used, .int .i64 x.live, .bool x.closed]
theorem pb_len (x : PB) : (pbCells x).length = 4 := rfl
/-- A book of such blocks, as it lies. -/
structure BLies (w : World) (p q cap : Nat) (size : Int) (l : List PB) : Prop where
  box : Row w p [.int .i64 size, .slice (some ⟨q, 0, none⟩) l.length cap] 42
  row : Row w q (l.flatMap pbCells) 54
  le : l.length ≤ cap
  max : cap ≤ maxLen
theorem BLies.ne {w : World} {p q cap : Nat} {size : Int} {l : List PB} (h : BLies w p q cap size l) : p ≠ q := h.box.ne h.row (by decide)
theorem BLies.later {w W : World} {p q cap : Nat} {size : Int} {l : List PB} (h : BLies w p q cap size l) (hb : Below w.heap.size w W) : BLies W p q cap size l := ⟨h.box.later hb, h.row.later hb, h.le, h.max⟩
theorem BLies.at {w : World} {p q cap : Nat} {size : Int} {l : List PB} (h : BLies w p q cap size l) {i : Nat} {x : PB} (hx : l[i]? = some x) :
    w.cell? ⟨q, i * 4, none⟩ = some (.int .i64 x.use) ∧ w.cell? ⟨q, i * 4 + 1, none⟩ = some (.int .i64 x.used) ∧ w.cell? ⟨q, i * 4 + 2, none⟩ = some (.int .i64 x.live) ∧ w.cell? ⟨q, i * 4 + 3, none⟩ = some (.bool x.closed) :=
  ⟨h.row.cell (by rw [show i * 4 = i * 4 + 0 from rfl, flat_get pbCells 4 pb_len 0 (by decide) l i x hx]; rfl), h.row.cell (by rw [flat_get pbCells 4 pb_len 1 (by decide) l i x hx]; rfl), h.row.cell (by rw [flat_get pbCells 4 pb_len 2 (by decide) l i x hx]; rfl), h.row.cell (by rw [flat_get pbCells 4 pb_len 3 (by decide) l i x hx]; rfl)⟩
/-- One cell of a block is written. -/
theorem BLies.set {w : World} {p q cap : Nat} {size : Int} {l : List PB} (h : BLies w p q cap size l) {i k : Nat} {x x' : PB} (hx : l[i]? = some x) (hk : k < 4) (v : Value) (e : (pbCells x).set k v = pbCells x') : BLies (w.setCell ⟨q, i * 4 + k, none⟩ v) p q cap size (l.set i x') := by
  have hi : i < l.length := (List.getElem?_eq_some_iff.1 hx).1
  refine ⟨?_, ?_, by rw [List.length_set]; exact h.le, h.max⟩
  · rw [List.length_set]
    exact h.box.other _ _ h.ne
  · rw [← flat_set pbCells 4 pb_len k hk v x' l i x hx e]
    exact h.row.set v (by rw [flat_len pbCells 4 pb_len]; omega)

theorem free_any (u s l : Int) (c : Bool) (w : World) : Calls Tryz.prog 42 #[.agg #[.int .i64 u, .int .i64 s, .int .i64 l, .bool c]] w fun e w' => e = .returned (.bool (decide (u = 0))) ∧ Below w.heap.size w w' := by
  go_enter Tryz.func42, Tryz.ntmps42
  go_wp2
  go_ret
  exact ⟨rfl, below_new _ _⟩
theorem at_nil (leb : Int) (w : World) : Calls Tryz.prog 44 #[.pointer none, .int .i64 leb] w fun e w' => e = .returned (.tuple #[.pointer none, .int .i64 14]) ∧ w = w' := by
  go_enter Tryz.func44, Tryz.ntmps44
  go_wp2
  go_ret2
  exact ⟨rfl, rfl⟩
theorem at_no {w : World} {p q cap : Nat} {size : Int} {l : List PB} (h : BLies w p q cap size l) (leb : Int) (hn : leb < 0 ∨ (l.length : Int) ≤ leb) : Calls Tryz.prog 44 #[.pointer (some ⟨p, 0, none⟩), .int .i64 leb] w fun e w' => e = .returned (.tuple #[.pointer none, .int .i64 22]) ∧ w = w' := by
  have c1 := h.box.cell (i := 1) rfl
  clear h
  rcases hn with hn | hn
  · go_enter Tryz.func44, Tryz.ntmps44
    go_wp2
    go_ret2
    exact ⟨rfl, rfl⟩
  · by_cases h0 : leb < 0
    · go_enter Tryz.func44, Tryz.ntmps44
      go_wp2
      go_ret2
      exact ⟨rfl, rfl⟩
    · have h1 : ¬ leb < (l.length : Int) := by omega
      go_enter Tryz.func44, Tryz.ntmps44
      go_wp2
      go_ret2
      exact ⟨rfl, rfl⟩
theorem at_go {w : World} {p q cap : Nat} {size : Int} {l : List PB} (h : BLies w p q cap size l) (i : Nat) (hi : i < l.length) : Calls Tryz.prog 44 #[.pointer (some ⟨p, 0, none⟩), .int .i64 (i : Nat)] w fun e w' => e = .returned (.tuple #[.pointer (some ⟨q, i * 4, none⟩), .int .i64 0]) ∧ w = w' := by
  have c1 := h.box.cell (i := 1) rfl
  clear h
  have h0 : ¬ (i : Int) < 0 := by omega
  have h1 : (i : Int) < (l.length : Int) := by omega
  go_enter Tryz.func44, Tryz.ntmps44
  go_wp2
  go_ret2
  exact ⟨rfl, rfl⟩
end Go.Proofs.YtmaekpfkkpkgpaaGreatDoor
