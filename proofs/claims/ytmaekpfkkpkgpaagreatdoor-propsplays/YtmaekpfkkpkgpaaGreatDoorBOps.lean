/-
  Take, Use, Kill, Close, Free, Block: what each answers and does.
-/
import Derived.Test.YtmaekpfkkpkgpaaGreatDoorBBook
namespace Go.Proofs.YtmaekpfkkpkgpaaGreatDoor
open Go.RowKit
set_option maxRecDepth 10000

/-- The block of that number, if there is one. -/
def blk (l : List PB) (leb : Int) : Option PB := if leb < 0 then .none else l[leb.toNat]?
def takeF (l : List PB) (leb use : Int) : Int × List PB :=
  match blk l leb with
  | .none => (22, l)
  | some x => if use < 1 ∨ 3 < use then (22, l) else if x.use = 0 then (0, l.set leb.toNat { x with use := use }) else (16, l)
def useF (size : Int) (l : List PB) (leb n : Int) : Int × List PB :=
  match blk l leb with
  | .none => (22, l)
  | some x => if n < 0 then (22, l) else if x.use = 0 then (2, l) else if x.closed = true then (16, l) else if n > size - x.used then (28, l) else (0, l.set leb.toNat { x with used := x.used + n, live := x.live + n })
def killF (l : List PB) (leb n : Int) : Int × List PB :=
  match blk l leb with
  | .none => (22, l)
  | some x => if n < 0 then (22, l) else if x.use = 0 then (2, l) else if n > x.live then (28, l) else (0, l.set leb.toNat { x with live := x.live - n })
def closeF (l : List PB) (leb : Int) : Int × List PB :=
  match blk l leb with
  | .none => (22, l)
  | some x => if x.use = 0 then (2, l) else (0, l.set leb.toNat { x with closed := true })
def freeF (l : List PB) (leb : Int) : Int × List PB :=
  match blk l leb with
  | .none => (22, l)
  | some x => if x.live > 0 then (16, l) else (0, l.set leb.toNat PB.none)
/-- A block that can be. -/
structure PB.Ok (size : Int) (x : PB) : Prop where
  use0 : 0 ≤ x.use
  use3 : x.use ≤ 3
  l0 : 0 ≤ x.live
  lu : x.live ≤ x.used
  us : x.used ≤ size
  free : x.use = 0 → x = PB.none
def AllOk (size : Int) (l : List PB) : Prop := ∀ x ∈ l, x.Ok size
theorem ok_none {size : Int} (h : 0 ≤ size) : PB.none.Ok size := ⟨by decide, by decide, by decide, by decide, h, fun _ => rfl⟩
theorem ok_set {size : Int} {l : List PB} (h : AllOk size l) {x : PB} (hx : x.Ok size) (i : Nat) : AllOk size (l.set i x) := fun y hy => by
  rcases List.mem_or_eq_of_mem_set hy with hy | rfl
  · exact h y hy
  · exact hx
theorem blk_mem {l : List PB} {leb : Int} {x : PB} (h : blk l leb = some x) : x ∈ l ∧ 0 ≤ leb ∧ l[leb.toNat]? = some x := by
  unfold blk at h
  split at h
  · cases h
  · exact ⟨List.mem_of_getElem? h, by omega, h⟩
theorem take_ok {size : Int} {l : List PB} (h : AllOk size l) (leb use : Int) : AllOk size (takeF l leb use).2 := by
  unfold takeF
  split
  · exact h
  · rename_i x hx
    have hm := h x (blk_mem hx).1
    split
    · exact h
    · split
      · rename_i h1 h2
        exact ok_set h (x := { x with use := use }) ⟨by show (0 : Int) ≤ use; omega, by show use ≤ 3; omega, hm.l0, hm.lu, hm.us, fun e => by have : use = 0 := e; omega⟩ _
      · exact h
theorem use_ok {size : Int} {l : List PB} (h : AllOk size l) (leb n : Int) : AllOk size (useF size l leb n).2 := by
  unfold useF
  split
  · exact h
  · rename_i x hx
    have hm := h x (blk_mem hx).1
    repeat (first | exact h | split)
    have := hm.l0
    have := hm.lu
    exact ok_set h (x := { x with used := x.used + n, live := x.live + n }) ⟨hm.use0, hm.use3, by show 0 ≤ x.live + n; omega, by show x.live + n ≤ x.used + n; omega, by show x.used + n ≤ size; omega, fun e => by have : x.use = 0 := e; contradiction⟩ _
theorem kill_ok {size : Int} {l : List PB} (h : AllOk size l) (leb n : Int) : AllOk size (killF l leb n).2 := by
  unfold killF
  split
  · exact h
  · rename_i x hx
    have hm := h x (blk_mem hx).1
    repeat (first | exact h | split)
    have := hm.l0
    have := hm.lu
    exact ok_set h (x := { x with live := x.live - n }) ⟨hm.use0, hm.use3, by show 0 ≤ x.live - n; omega, by show x.live - n ≤ x.used; omega, hm.us, fun e => by have : x.use = 0 := e; contradiction⟩ _
theorem close_ok {size : Int} {l : List PB} (h : AllOk size l) (leb : Int) : AllOk size (closeF l leb).2 := by
  unfold closeF
  split
  · exact h
  · rename_i x hx
    have hm := h x (blk_mem hx).1
    repeat (first | exact h | split)
    exact ok_set h (x := { x with closed := true }) ⟨hm.use0, hm.use3, hm.l0, hm.lu, hm.us, fun e => by have : x.use = 0 := e; contradiction⟩ _
theorem free_ok {size : Int} (hs : 0 ≤ size) {l : List PB} (h : AllOk size l) (leb : Int) : AllOk size (freeF l leb).2 := by
  unfold freeF
  split
  · exact h
  · split
    · exact h
    · exact ok_set h (ok_none hs) _
theorem take_len (l : List PB) (leb use : Int) : (takeF l leb use).2.length = l.length := by
  unfold takeF; repeat (first | rfl | exact List.length_set .. | split)
theorem use_len (size : Int) (l : List PB) (leb n : Int) : (useF size l leb n).2.length = l.length := by
  unfold useF; repeat (first | rfl | exact List.length_set .. | split)
theorem kill_len (l : List PB) (leb n : Int) : (killF l leb n).2.length = l.length := by
  unfold killF; repeat (first | rfl | exact List.length_set .. | split)
theorem close_len (l : List PB) (leb : Int) : (closeF l leb).2.length = l.length := by
  unfold closeF; repeat (first | rfl | exact List.length_set .. | split)
theorem free_len (l : List PB) (leb : Int) : (freeF l leb).2.length = l.length := by
  unfold freeF; repeat (first | rfl | exact List.length_set .. | split)
end Go.Proofs.YtmaekpfkkpkgpaaGreatDoor
