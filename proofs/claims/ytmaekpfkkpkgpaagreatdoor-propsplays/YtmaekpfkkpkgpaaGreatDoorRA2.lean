/-
  The document's Use, Kill, Close, Free, Block, New.
-/
import Derived.Test.YtmaekpfkkpkgpaaGreatDoorRA
namespace Go.Proofs.YtmaekpfkkpkgpaaGreatDoor
open Go.RowKit
set_option maxRecDepth 10000

set_option maxHeartbeats 1000000 in
theorem dtaken_no {w : World} {p q cap : Nat} {size : Int} {l : List PB} (h : DLies w p q cap size l) (leb n : Int) (hn : blk l leb = .none ∨ n < 0) :
    Calls Tryz.prog 54 #[.pointer (some ⟨p, 0, none⟩), .int .i64 leb, .int .i64 n] w fun e w' => e = .returned (.int .i64 22) ∧ w = w' := by
  cases hb : blk l leb with
  | none =>
    have kA := dthere_no h leb (blk_none hb)
    clear h hb hn
    go_enter Tryz.func54, Tryz.ntmps54
    go_wp2_with (go_at_call 53; refine kA.mono ?_; rintro e w1 ⟨rfl, rfl⟩)
    go_ret
    exact ⟨rfl, rfl⟩
  | some x =>
    rw [hb] at hn
    obtain ⟨i, rfl, hi, hx⟩ := blk_some hb
    have h0 : n < 0 := by rcases hn with hn | hn; cases hn; exact hn
    have kA := dthere_go h i hi
    clear h hb hn hx
    go_enter Tryz.func54, Tryz.ntmps54
    go_wp2_with (go_at_call 53; refine kA.mono ?_; rintro e w1 ⟨rfl, rfl⟩)
    go_ret
    exact ⟨rfl, rfl⟩
set_option maxHeartbeats 1000000 in
theorem dtaken_go {w : World} {p q cap : Nat} {size : Int} {l : List PB} (h : DLies w p q cap size l) (i : Nat) (x : PB) (n : Int) (hx : l[i]? = some x) (hn : ¬ n < 0) :
    Calls Tryz.prog 54 #[.pointer (some ⟨p, 0, none⟩), .int .i64 (i : Nat), .int .i64 n] w fun e w' => e = .returned (.int .i64 (if x.use = 0 then 2 else 0)) ∧ w = w' := by
  have hi := (List.getElem?_eq_some_iff.1 hx).1
  have kA := dthere_go h i hi
  obtain ⟨c0, c1, c2, c3⟩ := h.at hx
  have cL := h.box.cell (i := 1) rfl
  have hi' : (i : Int) < (l.length : Int) := by omega
  clear h hx
  by_cases h0 : x.use = 0
  · rw [if_pos h0]
    have h0' : (x.use == 0) = true := by simpa using h0
    clear h0
    go_enter Tryz.func54, Tryz.ntmps54
    go_wp2_with (go_at_call 53; refine kA.mono ?_; rintro e w1 ⟨rfl, rfl⟩)
    go_ret
    exact ⟨rfl, rfl⟩
  · rw [if_neg h0]
    have h0' : (x.use == 0) = false := by simpa using h0
    clear h0
    go_enter Tryz.func54, Tryz.ntmps54
    go_wp2_with (go_at_call 53; refine kA.mono ?_; rintro e w1 ⟨rfl, rfl⟩)
    go_ret
    exact ⟨rfl, rfl⟩
theorem DLies.wrote {w W : World} {p q cap : Nat} {size : Int} {l : List PB} (h : DLies w p q cap size l) (hb : Below w.heap.size w W) {i : Nat} {x : PB} (hx : l[i]? = some x) (y : PB) : DLeft w ((((W.setCell ⟨q, i * 4, none⟩ (.int .i64 y.use)).setCell ⟨q, i * 4 + 1, none⟩ (.int .i64 y.used)).setCell ⟨q, i * 4 + 2, none⟩ (.int .i64 y.live)).setCell ⟨q, i * 4 + 3, none⟩ (.bool y.closed)) p q cap size (l.set i y) := (h.left hb).block hx y
theorem DLeft.drew {w W : World} {p q cap : Nat} {size : Int} {l : List PB} (h : DLeft w W p q cap size l) : DLeft w W.drew p q cap size l := ⟨⟨h.1.box, h.1.row, h.1.le, h.1.max⟩, h.2.drew⟩
theorem DLeft.alloc {w W : World} {p q cap : Nat} {size : Int} {l : List PB} (h : DLeft w W p q cap size l) (o : Obj) : DLeft w (W.alloc o) p q cap size l := ⟨h.1.later (below_new _ _), h.2.alloc o⟩
theorem below_copy (w : World) (o : Obj) (k i j : Nat) (u v : Value) : Below w.heap.size w ((((w.alloc o).drewN k).setCell ⟨w.heap.size, i, none⟩ u).setCell ⟨w.heap.size, j, none⟩ v) :=
  (((Below.after (below_new w o) (below_drawn _ k)).setCell (Nat.le_refl _) u).setCell (Nat.le_refl _) v)
theorem below_copy1 (w : World) (o : Obj) (i : Nat) (u : Value) : Below w.heap.size w ((w.alloc o).setCell ⟨w.heap.size, i, none⟩ u) := (below_new w o).setCell (Nat.le_refl _) u
end Go.Proofs.YtmaekpfkkpkgpaaGreatDoor
