/-
  The document's book in memory, and its Take, Use, Kill, Close, Free, Block, New.
-/
import Derived.Test.YtmaekpfkkpkgpaaGreatDoorBNew
namespace Go.Proofs.YtmaekpfkkpkgpaaGreatDoor
open Go.RowKit
set_option maxRecDepth 10000

/-- The document's book of such blocks, as it lies. -/
structure DLies (w : World) (p q cap : Nat) (size : Int) (l : List PB) : Prop where
  box : Row w p [.int .i64 size, .slice (some ⟨q, 0, none⟩) l.length cap] 45
  row : Row w q (l.flatMap pbCells) 57
  le : l.length ≤ cap
  max : cap ≤ maxLen
theorem DLies.ne {w : World} {p q cap : Nat} {size : Int} {l : List PB} (h : DLies w p q cap size l) : p ≠ q := h.box.ne h.row (by decide)
theorem DLies.later {w W : World} {p q cap : Nat} {size : Int} {l : List PB} (h : DLies w p q cap size l) (hb : Below w.heap.size w W) : DLies W p q cap size l := ⟨h.box.later hb, h.row.later hb, h.le, h.max⟩
theorem DLies.at {w : World} {p q cap : Nat} {size : Int} {l : List PB} (h : DLies w p q cap size l) {i : Nat} {x : PB} (hx : l[i]? = some x) :
    w.cell? ⟨q, i * 4, none⟩ = some (.int .i64 x.use) ∧ w.cell? ⟨q, i * 4 + 1, none⟩ = some (.int .i64 x.used) ∧ w.cell? ⟨q, i * 4 + 2, none⟩ = some (.int .i64 x.live) ∧ w.cell? ⟨q, i * 4 + 3, none⟩ = some (.bool x.closed) :=
  ⟨h.row.cell (by rw [show i * 4 = i * 4 + 0 from rfl, flat_get pbCells 4 pb_len 0 (by decide) l i x hx]; rfl), h.row.cell (by rw [flat_get pbCells 4 pb_len 1 (by decide) l i x hx]; rfl), h.row.cell (by rw [flat_get pbCells 4 pb_len 2 (by decide) l i x hx]; rfl), h.row.cell (by rw [flat_get pbCells 4 pb_len 3 (by decide) l i x hx]; rfl)⟩
/-- What a call on the document's book leaves. -/
def DLeft (w w' : World) (p q cap : Nat) (size : Int) (l : List PB) : Prop := DLies w' p q cap size l ∧ Kept (fun k => k = q) w w'
theorem DLies.left0 {w : World} {p q cap : Nat} {size : Int} {l : List PB} (h : DLies w p q cap size l) : DLeft w w p q cap size l := ⟨h, .refl _ _⟩
theorem DLies.left {w w' : World} {p q cap : Nat} {size : Int} {l : List PB} (h : DLies w p q cap size l) (hb : Below w.heap.size w w') : DLeft w w' p q cap size l := ⟨h.later hb, .of_below hb⟩
theorem DLies.set {w : World} {p q cap : Nat} {size : Int} {l : List PB} (h : DLies w p q cap size l) {i k : Nat} {x x' : PB} (hx : l[i]? = some x) (hk : k < 4) (v : Value) (e : (pbCells x).set k v = pbCells x') : DLies (w.setCell ⟨q, i * 4 + k, none⟩ v) p q cap size (l.set i x') := by
  have hi : i < l.length := (List.getElem?_eq_some_iff.1 hx).1
  refine ⟨?_, ?_, by rw [List.length_set]; exact h.le, h.max⟩
  · rw [List.length_set]
    exact h.box.other _ _ h.ne
  · rw [← flat_set pbCells 4 pb_len k hk v x' l i x hx e]
    exact h.row.set v (by rw [flat_len pbCells 4 pb_len]; omega)
theorem DLeft.next {w w1 : World} {p q cap : Nat} {size : Int} {l : List PB} (h : DLeft w w1 p q cap size l) {i k : Nat} {x x' : PB} (hx : l[i]? = some x) (hk : k < 4) (v : Value) (e : (pbCells x).set k v = pbCells x') : DLeft w (w1.setCell ⟨q, i * 4 + k, none⟩ v) p q cap size (l.set i x') :=
  ⟨h.1.set hx hk v e, h.2.setCell (p := ⟨q, i * 4 + k, none⟩) rfl v⟩
/-- A whole block is written. -/
theorem DLeft.block {w w1 : World} {p q cap : Nat} {size : Int} {l : List PB} (h : DLeft w w1 p q cap size l) {i : Nat} {x : PB} (hx : l[i]? = some x) (y : PB) : DLeft w ((((w1.setCell ⟨q, i * 4, none⟩ (.int .i64 y.use)).setCell ⟨q, i * 4 + 1, none⟩ (.int .i64 y.used)).setCell ⟨q, i * 4 + 2, none⟩ (.int .i64 y.live)).setCell ⟨q, i * 4 + 3, none⟩ (.bool y.closed)) p q cap size (l.set i y) := by
  have h1 := h.next (k := 0) hx (by decide) (.int .i64 y.use) (x' := { x with use := y.use }) rfl
  have h2 := h1.next (k := 1) (getset hx) (by decide) (.int .i64 y.used) (x' := { x with use := y.use, used := y.used }) rfl
  have h3 := h2.next (k := 2) (getset (getset hx)) (by decide) (.int .i64 y.live) (x' := { x with use := y.use, used := y.used, live := y.live }) rfl
  have h4 := h3.next (k := 3) (getset (getset (getset hx))) (by decide) (.bool y.closed) (x' := y) rfl
  simp only [setset] at h4
  exact h4

theorem dthere_no {w : World} {p q cap : Nat} {size : Int} {l : List PB} (h : DLies w p q cap size l) (leb : Int) (hn : leb < 0 ∨ (l.length : Int) ≤ leb) : Calls Tryz.prog 53 #[.pointer (some ⟨p, 0, none⟩), .int .i64 leb] w fun e w' => e = .returned (.int .i64 22) ∧ w = w' := by
  have c1 := h.box.cell (i := 1) rfl
  clear h
  by_cases h0 : leb < 0
  · clear hn
    go_enter Tryz.func53, Tryz.ntmps53
    go_wp2
    go_ret
    exact ⟨rfl, rfl⟩
  · have h1 : (l.length : Int) ≤ leb := by omega
    clear hn
    go_enter Tryz.func53, Tryz.ntmps53
    go_wp2
    go_ret
    exact ⟨rfl, rfl⟩
theorem dthere_go {w : World} {p q cap : Nat} {size : Int} {l : List PB} (h : DLies w p q cap size l) (i : Nat) (hi : i < l.length) : Calls Tryz.prog 53 #[.pointer (some ⟨p, 0, none⟩), .int .i64 (i : Nat)] w fun e w' => e = .returned (.int .i64 0) ∧ w = w' := by
  have c1 := h.box.cell (i := 1) rfl
  have h0 : ¬ (i : Int) < 0 := by omega
  have h1 : ¬ (l.length : Int) ≤ (i : Int) := by omega
  clear h
  go_enter Tryz.func53, Tryz.ntmps53
  go_wp2
  go_ret
  exact ⟨rfl, rfl⟩
set_option maxHeartbeats 1000000 in
theorem dtake_go {w : World} {p q cap : Nat} {size : Int} {l : List PB} (h : DLies w p q cap size l) (hO : AllOk size l) (leb use : Int) :
    Calls Tryz.prog 21 #[.pointer (some ⟨p, 0, none⟩), .int .i64 leb, .int .i64 use] w fun e w' => e = .returned (.int .i64 (takeF l leb use).1) ∧ DLeft w w' p q cap size (takeF l leb use).2 := by
  cases hb : blk l leb with
  | none =>
    have e1 : takeF l leb use = (22, l) := by unfold takeF; rw [hb]
    rw [e1]
    have kA := dthere_no h leb (blk_none hb)
    have HL : Hid (DLeft w w p q cap size l) := h.left0
    clear h hb e1
    go_enter Tryz.func21, Tryz.ntmps21
    go_wp2_with (go_at_call 53; refine kA.mono ?_; rintro e w1 ⟨rfl, rfl⟩)
    go_ret
    exact ⟨rfl, HL.out⟩
  | some x =>
    obtain ⟨i, rfl, hi, hx⟩ := blk_some hb
    have e1 : takeF l (i : Int) use = if use < 1 ∨ 3 < use then (22, l) else if x.use = 0 then (0, l.set i { x with use := use }) else (16, l) := by unfold takeF; rw [hb]; rfl
    rw [e1]
    have kA := dthere_go h i hi
    have cL := h.box.cell (i := 1) rfl
    obtain ⟨c0, c1, c2, c3⟩ := h.at hx
    by_cases hu : use < 1 ∨ 3 < use
    · rw [if_pos hu]
      have HL : Hid (DLeft w w p q cap size l) := h.left0
      clear h hb e1 hx
      rcases hu with hu | hu
      · go_enter Tryz.func21, Tryz.ntmps21
        go_wp2_with (go_at_call 53; refine kA.mono ?_; rintro e w1 ⟨rfl, rfl⟩)
        go_ret
        exact ⟨rfl, HL.out⟩
      · have h1 : ¬ use < 1 := by omega
        go_enter Tryz.func21, Tryz.ntmps21
        go_wp2_with (go_at_call 53; refine kA.mono ?_; rintro e w1 ⟨rfl, rfl⟩)
        go_ret
        exact ⟨rfl, HL.out⟩
    · rw [if_neg hu]
      have h1 : ¬ use < 1 := by omega
      have h3 : ¬ 3 < use := by omega
      clear hu
      have hi' : (i : Int) < (l.length : Int) := by omega
      by_cases h0 : x.use = 0
      · rw [if_pos h0]
        have hx0 : x = PB.none := (hO x (List.mem_of_getElem? hx)).free h0
        subst hx0
        have HL : Hid (DLeft w _ p q cap size (l.set i ⟨use, 0, 0, false⟩)) := h.left0.block hx ⟨use, 0, 0, false⟩
        have f0 := h.row.frozen
        clear h hb e1 hx h0 hO
        go_enter Tryz.func21, Tryz.ntmps21
        go_wp2_with (go_at_call 53; refine kA.mono ?_; rintro e w1 ⟨rfl, rfl⟩)
        go_ret
        exact ⟨rfl, HL.out⟩
      · rw [if_neg h0]
        have HL : Hid (DLeft w w p q cap size l) := h.left0
        have h0' : (x.use == 0) = false := by simpa using h0
        clear h hb e1 hx hO
        go_enter Tryz.func21, Tryz.ntmps21
        go_wp2_with (go_at_call 53; refine kA.mono ?_; rintro e w1 ⟨rfl, rfl⟩)
        go_ret
        exact ⟨rfl, HL.out⟩
end Go.Proofs.YtmaekpfkkpkgpaaGreatDoor
