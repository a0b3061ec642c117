/-
  Take, Use, Kill, Close, Free, Block of a book, as they run.
-/
import Derived.Test.YtmaekpfkkpkgpaaGreatDoorBOps
import Derived.BigQuiet
namespace Go.Proofs.YtmaekpfkkpkgpaaGreatDoor
open Go.RowKit
set_option maxRecDepth 10000

theorem blk_none {l : List PB} {leb : Int} (h : blk l leb = .none) : leb < 0 ∨ (l.length : Int) ≤ leb := by
  unfold blk at h
  split at h
  · exact .inl (by assumption)
  · right
    have := List.getElem?_eq_none_iff.1 h
    omega
theorem blk_some {l : List PB} {leb : Int} {x : PB} (h : blk l leb = some x) : ∃ i : Nat, leb = (i : Int) ∧ i < l.length ∧ l[i]? = some x := by
  obtain ⟨_, h0, hx⟩ := blk_mem h
  exact ⟨leb.toNat, by omega, (List.getElem?_eq_some_iff.1 hx).1, hx⟩
/-- What a call leaves. -/
def Left (w w' : World) (p q cap : Nat) (size : Int) (l : List PB) : Prop := BLies w' p q cap size l ∧ Kept (fun k => k = q) w w'
theorem BLies.left {w w' : World} {p q cap : Nat} {size : Int} {l : List PB} (h : BLies w p q cap size l) (hb : Below w.heap.size w w') : Left w w' p q cap size l := ⟨h.later hb, .of_below hb⟩
theorem BLies.left0 {w : World} {p q cap : Nat} {size : Int} {l : List PB} (h : BLies w p q cap size l) : Left w w p q cap size l := ⟨h, .refl _ _⟩
theorem BLies.wrote {w w1 : World} {p q cap : Nat} {size : Int} {l : List PB} (h : BLies w p q cap size l) (hb : Below w.heap.size w w1) {i k : Nat} {x x' : PB} (hx : l[i]? = some x) (hk : k < 4) (v : Value) (e : (pbCells x).set k v = pbCells x') : Left w (w1.setCell ⟨q, i * 4 + k, none⟩ v) p q cap size (l.set i x') :=
  ⟨(h.later hb).set hx hk v e, (Kept.of_below (S := fun k => k = q) hb).setCell (p := ⟨q, i * 4 + k, none⟩) rfl v⟩
set_option maxHeartbeats 1000000 in
theorem take_go {w : World} {p q cap : Nat} {size : Int} {l : List PB} (h : BLies w p q cap size l) (leb use : Int) :
    Calls Tryz.prog 13 #[.pointer (some ⟨p, 0, none⟩), .int .i64 leb, .int .i64 use] w fun e w' => e = .returned (.int .i64 (takeF l leb use).1) ∧ Left w w' p q cap size (takeF l leb use).2 := by
  cases hb : blk l leb with
  | none =>
    have e1 : takeF l leb use = (22, l) := by unfold takeF; rw [hb]
    rw [e1]
    have kA := at_no h leb (blk_none hb)
    have HL : Hid (Left w w p q cap size l) := h.left0
    clear h hb e1
    go_enter Tryz.func13, Tryz.ntmps13
    go_wp2_with (go_at_call 44; refine kA.mono ?_; rintro e w1 ⟨rfl, rfl⟩)
    go_ret
    exact ⟨rfl, HL.out⟩
  | some x =>
    obtain ⟨i, rfl, hi, hx⟩ := blk_some hb
    have e1 : takeF l (i : Int) use = if use < 1 ∨ 3 < use then (22, l) else if x.use = 0 then (0, l.set i { x with use := use }) else (16, l) := by unfold takeF; rw [hb]; rfl
    rw [e1]
    have kA := at_go h i hi
    obtain ⟨c0, c1, c2, c3⟩ := h.at hx
    by_cases hu : use < 1 ∨ 3 < use
    · rw [if_pos hu]
      have HL : Hid (Left w w p q cap size l) := h.left0
      clear h hb e1 hx
      rcases hu with hu | hu
      · go_enter Tryz.func13, Tryz.ntmps13
        go_wp2_with (go_at_call 44; refine kA.mono ?_; rintro e w1 ⟨rfl, rfl⟩)
        go_ret
        exact ⟨rfl, HL.out⟩
      · have h1 : ¬ use < 1 := by omega
        go_enter Tryz.func13, Tryz.ntmps13
        go_wp2_with (go_at_call 44; refine kA.mono ?_; rintro e w1 ⟨rfl, rfl⟩)
        go_ret
        exact ⟨rfl, HL.out⟩
    · rw [if_neg hu]
      have h1 : ¬ use < 1 := by omega
      have h3 : ¬ 3 < use := by omega
      have kF := free_any x.use x.used x.live x.closed w
      have HL := hidW h
      clear hu
      by_cases h0 : x.use = 0
      · rw [if_pos h0]
        have HX : Hid (l[i]? = some x) := hx
        rw [decide_eq_true h0] at kF
        clear h hb e1 hx h0
        go_enter Tryz.func13, Tryz.ntmps13
        go_wp2_with (first
          | (go_at_call 44; refine kA.mono ?_; rintro e w1 ⟨rfl, rfl⟩)
          | (go_at_call 42; refine kF.mono ?_; rintro e w1 ⟨rfl, hb1⟩; have HB1 : Hid (Below w.heap.size w w1) := hb1; obtain ⟨d0, d1, d2, d3⟩ := (HL.out.later hb1).at HX.out; have f0 := (HL.out.later hb1).row.frozen (i * 4); clear hb1 c0 c1 c2 c3))
        go_ret
        exact ⟨rfl, HL.out.wrote (k := 0) HB1.out HX.out (by decide) _ rfl⟩
      · rw [if_neg h0]
        rw [decide_eq_false h0] at kF
        clear h hb e1 hx h0
        go_enter Tryz.func13, Tryz.ntmps13
        go_wp2_with (first
          | (go_at_call 44; refine kA.mono ?_; rintro e w1 ⟨rfl, rfl⟩)
          | (go_at_call 42; refine kF.mono ?_; rintro e w1 ⟨rfl, hb1⟩; have HB1 : Hid (Below w.heap.size w w1) := hb1; clear hb1 c0 c1 c2 c3))
        go_ret
        exact ⟨rfl, HL.out.left HB1.out⟩
set_option maxHeartbeats 1000000 in
theorem counted_no {w : World} {p q cap : Nat} {size : Int} {l : List PB} (h : BLies w p q cap size l) (leb n : Int) (hn : blk l leb = .none ∨ n < 0) :
    Calls Tryz.prog 45 #[.pointer (some ⟨p, 0, none⟩), .int .i64 leb, .int .i64 n] w fun e w' => e = .returned (.tuple #[.pointer none, .int .i64 22]) ∧ w = w' := by
  cases hb : blk l leb with
  | none =>
    have kA := at_no h leb (blk_none hb)
    clear h hb hn
    go_enter Tryz.func45, Tryz.ntmps45
    go_wp2_with (go_at_call 44; refine kA.mono ?_; rintro e w1 ⟨rfl, rfl⟩)
    go_ret2
    exact ⟨rfl, rfl⟩
  | some x =>
    rw [hb] at hn
    obtain ⟨i, rfl, hi, hx⟩ := blk_some hb
    have h0 : n < 0 := by rcases hn with hn | hn; cases hn; exact hn
    have kA := at_go h i hi
    clear h hb hn hx
    go_enter Tryz.func45, Tryz.ntmps45
    go_wp2_with (go_at_call 44; refine kA.mono ?_; rintro e w1 ⟨rfl, rfl⟩)
    go_ret2
    exact ⟨rfl, rfl⟩
set_option maxHeartbeats 1000000 in
theorem counted_free {w : World} {p q cap : Nat} {size : Int} {l : List PB} (h : BLies w p q cap size l) (i : Nat) (x : PB) (n : Int) (hx : l[i]? = some x) (hn : ¬ n < 0) (h0 : x.use = 0) :
    Calls Tryz.prog 45 #[.pointer (some ⟨p, 0, none⟩), .int .i64 (i : Nat), .int .i64 n] w fun e w' => e = .returned (.tuple #[.pointer none, .int .i64 2]) ∧ Below w.heap.size w w' := by
  have kA := at_go h i (List.getElem?_eq_some_iff.1 hx).1
  obtain ⟨c0, c1, c2, c3⟩ := h.at hx
  have kF := free_any x.use x.used x.live x.closed w
  rw [decide_eq_true h0] at kF
  clear h hx h0
  go_enter Tryz.func45, Tryz.ntmps45
  go_wp2_with (first
    | (go_at_call 44; refine kA.mono ?_; rintro e w1 ⟨rfl, rfl⟩)
    | (go_at_call 42; refine kF.mono ?_; rintro e w1 ⟨rfl, hb1⟩; have HB1 : Hid (Below w.heap.size w w1) := hb1; clear hb1 c0 c1 c2 c3))
  go_ret2
  exact ⟨rfl, HB1.out⟩
set_option maxHeartbeats 1000000 in
theorem counted_yes {w : World} {p q cap : Nat} {size : Int} {l : List PB} (h : BLies w p q cap size l) (i : Nat) (x : PB) (n : Int) (hx : l[i]? = some x) (hn : ¬ n < 0) (h0 : ¬ x.use = 0) :
    Calls Tryz.prog 45 #[.pointer (some ⟨p, 0, none⟩), .int .i64 (i : Nat), .int .i64 n] w fun e w' => e = .returned (.tuple #[.pointer (some ⟨q, i * 4, none⟩), .int .i64 0]) ∧ Below w.heap.size w w' := by
  have kA := at_go h i (List.getElem?_eq_some_iff.1 hx).1
  obtain ⟨c0, c1, c2, c3⟩ := h.at hx
  have kF := free_any x.use x.used x.live x.closed w
  rw [decide_eq_false h0] at kF
  clear h hx h0
  go_enter Tryz.func45, Tryz.ntmps45
  go_wp2_with (first
    | (go_at_call 44; refine kA.mono ?_; rintro e w1 ⟨rfl, rfl⟩)
    | (go_at_call 42; refine kF.mono ?_; rintro e w1 ⟨rfl, hb1⟩; have HB1 : Hid (Below w.heap.size w w1) := hb1; clear hb1 c0 c1 c2 c3))
  go_ret2
  exact ⟨rfl, HB1.out⟩
theorem getset {l : List PB} {i : Nat} {x y : PB} (h : l[i]? = some x) : (l.set i y)[i]? = some y := by
  have := (List.getElem?_eq_some_iff.1 h).1
  simp [this]
theorem setset {l : List PB} (i : Nat) (x y : PB) : (l.set i x).set i y = l.set i y := by simp
theorem Left.next {w w1 : World} {p q cap : Nat} {size : Int} {l : List PB} (h : Left w w1 p q cap size l) {i k : Nat} {x x' : PB} (hx : l[i]? = some x) (hk : k < 4) (v : Value) (e : (pbCells x).set k v = pbCells x') : Left w (w1.setCell ⟨q, i * 4 + k, none⟩ v) p q cap size (l.set i x') :=
  ⟨h.1.set hx hk v e, h.2.setCell (p := ⟨q, i * 4 + k, none⟩) rfl v⟩
set_option maxHeartbeats 2000000 in
theorem use_go {w : World} {p q cap : Nat} {size : Int} {l : List PB} (h : BLies w p q cap size l) (hO : AllOk size l) (hs : size ≤ 16777216) (leb n : Int) :
    Calls Tryz.prog 14 #[.pointer (some ⟨p, 0, none⟩), .int .i64 leb, .int .i64 n] w fun e w' => e = .returned (.int .i64 (useF size l leb n).1) ∧ Left w w' p q cap size (useF size l leb n).2 := by
  by_cases hbad : blk l leb = .none ∨ n < 0
  · have e1 : useF size l leb n = (22, l) := by
      unfold useF
      rcases hbad with hb | hb
      · rw [hb]
      · split
        · rfl
        · rw [if_pos hb]
    rw [e1]
    have kC := counted_no h leb n hbad
    have HL : Hid (Left w w p q cap size l) := h.left0
    clear h e1 hbad hO
    go_enter Tryz.func14, Tryz.ntmps14
    go_wp2_with (go_at_call 45; refine kC.mono ?_; rintro e w1 ⟨rfl, rfl⟩)
    go_ret
    exact ⟨rfl, HL.out⟩
  · cases hb : blk l leb with
    | none => exact absurd (.inl hb) hbad
    | some x =>
    have hn : ¬ n < 0 := fun e => hbad (.inr e)
    have hok := hO x (blk_mem hb).1
    obtain ⟨i, rfl, hi, hx⟩ := blk_some hb
    have e1 : useF size l (i : Int) n = if x.use = 0 then (2, l) else if x.closed = true then (16, l) else if n > size - x.used then (28, l) else (0, l.set i { x with used := x.used + n, live := x.live + n }) := by
      unfold useF; rw [hb]; dsimp only; rw [if_neg hn]; rfl
    rw [e1]
    have HL := hidW h
    have HX : Hid (l[i]? = some x) := hx
    clear hbad hb e1 hO
    by_cases h0 : x.use = 0
    · rw [if_pos h0]
      have kC := counted_free h i x n hx hn h0
      clear h hx h0
      go_enter Tryz.func14, Tryz.ntmps14
      go_wp2_with (go_at_call 45; refine kC.mono ?_; rintro e w1 ⟨rfl, hb1⟩; have HB1 : Hid (Below w.heap.size w w1) := hb1; clear hb1)
      go_ret
      exact ⟨rfl, HL.out.left HB1.out⟩
    · rw [if_neg h0]
      have kC := counted_yes h i x n hx hn h0
      have b1 := hok.l0
      have b2 := hok.lu
      have b3 := hok.us
      clear h hx h0 hok
      by_cases hc : x.closed = true
      · rw [if_pos hc]
        have HC : Hid (x.closed = true) := hc
        clear hc
        go_enter Tryz.func14, Tryz.ntmps14
        go_wp2_with (go_at_call 45; refine kC.mono ?_; rintro e w1 ⟨rfl, hb1⟩; have HB1 : Hid (Below w.heap.size w w1) := hb1; obtain ⟨d0, d1, d2, d3⟩ := (HL.out.later hb1).at HX.out; rw [HC.out] at d3; clear hb1)
        go_ret
        exact ⟨rfl, HL.out.left HB1.out⟩
      · rw [if_neg hc]
        have HC : Hid (x.closed = false) := by cases h : x.closed; exact rfl; exact absurd h hc
        clear hc
        by_cases hr : n > size - x.used
        · rw [if_pos hr]
          have hr' : size - x.used < n := hr
          clear hr
          go_enter Tryz.func14, Tryz.ntmps14
          go_wp2_with (go_at_call 45; refine kC.mono ?_; rintro e w1 ⟨rfl, hb1⟩; have HB1 : Hid (Below w.heap.size w w1) := hb1; obtain ⟨d0, d1, d2, d3⟩ := (HL.out.later hb1).at HX.out; rw [HC.out] at d3; have x0 := (HL.out.later hb1).box.cell (i := 0) rfl; clear hb1)
          go_quiet (fail)
          go_wp2
          go_ret
          exact ⟨rfl, HL.out.left (Below.after HB1.out (below_drawn _ _))⟩
        · rw [if_neg hr]
          have hr' : n ≤ size - x.used := by omega
          clear hr
          go_enter Tryz.func14, Tryz.ntmps14
          go_wp2_with (go_at_call 45; refine kC.mono ?_; rintro e w1 ⟨rfl, hb1⟩; have HB1 : Hid (Below w.heap.size w w1) := hb1; obtain ⟨d0, d1, d2, d3⟩ := (HL.out.later hb1).at HX.out; rw [HC.out] at d3; have x0 := (HL.out.later hb1).box.cell (i := 0) rfl; have f1 := (HL.out.later hb1).row.frozen (i * 4 + 1); have f2 := (HL.out.later hb1).row.frozen (i * 4 + 2); clear hb1)
          go_quiet (fail)
          go_wp2
          go_ret
          have q1 := HL.out.wrote (k := 1) (x' := { x with used := x.used + n }) (Below.after HB1.out (below_drawn w1 nq)) HX.out (by decide) (.int .i64 (x.used + n)) rfl
          have q2 := q1.next (k := 2) (x' := { x with used := x.used + n, live := x.live + n }) (getset HX.out) (by decide) (.int .i64 (x.live + n)) rfl
          rw [setset] at q2
          exact ⟨rfl, q2⟩
set_option maxHeartbeats 2000000 in
theorem kill_go {w : World} {p q cap : Nat} {size : Int} {l : List PB} (h : BLies w p q cap size l) (hO : AllOk size l) (hs : size ≤ 16777216) (leb n : Int) :
    Calls Tryz.prog 15 #[.pointer (some ⟨p, 0, none⟩), .int .i64 leb, .int .i64 n] w fun e w' => e = .returned (.int .i64 (killF l leb n).1) ∧ Left w w' p q cap size (killF l leb n).2 := by
  by_cases hbad : blk l leb = .none ∨ n < 0
  · have e1 : killF l leb n = (22, l) := by
      unfold killF
      rcases hbad with hb | hb
      · rw [hb]
      · split
        · rfl
        · rw [if_pos hb]
    rw [e1]
    have kC := counted_no h leb n hbad
    have HL : Hid (Left w w p q cap size l) := h.left0
    clear h e1 hbad hO
    go_enter Tryz.func15, Tryz.ntmps15
    go_wp2_with (go_at_call 45; refine kC.mono ?_; rintro e w1 ⟨rfl, rfl⟩)
    go_ret
    exact ⟨rfl, HL.out⟩
  · cases hb : blk l leb with
    | none => exact absurd (.inl hb) hbad
    | some x =>
    have hn : ¬ n < 0 := fun e => hbad (.inr e)
    have hok := hO x (blk_mem hb).1
    obtain ⟨i, rfl, hi, hx⟩ := blk_some hb
    have e1 : killF l (i : Int) n = if x.use = 0 then (2, l) else if n > x.live then (28, l) else (0, l.set i { x with live := x.live - n }) := by
      unfold killF; rw [hb]; dsimp only; rw [if_neg hn]; rfl
    rw [e1]
    have HL := hidW h
    have HX : Hid (l[i]? = some x) := hx
    clear hbad hb e1 hO
    by_cases h0 : x.use = 0
    · rw [if_pos h0]
      have kC := counted_free h i x n hx hn h0
      clear h hx h0
      go_enter Tryz.func15, Tryz.ntmps15
      go_wp2_with (go_at_call 45; refine kC.mono ?_; rintro e w1 ⟨rfl, hb1⟩; have HB1 : Hid (Below w.heap.size w w1) := hb1; clear hb1)
      go_ret
      exact ⟨rfl, HL.out.left HB1.out⟩
    · rw [if_neg h0]
      have kC := counted_yes h i x n hx hn h0
      have b1 := hok.l0
      have b2 := hok.lu
      have b3 := hok.us
      clear h hx h0 hok
      by_cases hr : n > x.live
      · rw [if_pos hr]
        have hr' : x.live < n := hr
        clear hr
        go_enter Tryz.func15, Tryz.ntmps15
        go_wp2_with (go_at_call 45; refine kC.mono ?_; rintro e w1 ⟨rfl, hb1⟩; have HB1 : Hid (Below w.heap.size w w1) := hb1; obtain ⟨d0, d1, d2, d3⟩ := (HL.out.later hb1).at HX.out; clear hb1)
        go_ret
        exact ⟨rfl, HL.out.left HB1.out⟩
      · rw [if_neg hr]
        have hr' : n ≤ x.live := by omega
        clear hr
        go_enter Tryz.func15, Tryz.ntmps15
        go_wp2_with (go_at_call 45; refine kC.mono ?_; rintro e w1 ⟨rfl, hb1⟩; have HB1 : Hid (Below w.heap.size w w1) := hb1; obtain ⟨d0, d1, d2, d3⟩ := (HL.out.later hb1).at HX.out; have f2 := (HL.out.later hb1).row.frozen (i * 4 + 2); clear hb1)
        go_ret
        exact ⟨rfl, HL.out.wrote (k := 2) (x' := { x with live := x.live - n }) HB1.out HX.out (by decide) (.int .i64 (x.live - n)) rfl⟩
set_option maxHeartbeats 2000000 in
theorem close_go {w : World} {p q cap : Nat} {size : Int} {l : List PB} (h : BLies w p q cap size l) (leb : Int) :
    Calls Tryz.prog 16 #[.pointer (some ⟨p, 0, none⟩), .int .i64 leb] w fun e w' => e = .returned (.int .i64 (closeF l leb).1) ∧ Left w w' p q cap size (closeF l leb).2 := by
  cases hb : blk l leb with
  | none =>
    have e1 : closeF l leb = (22, l) := by unfold closeF; rw [hb]
    rw [e1]
    have kA := at_no h leb (blk_none hb)
    have HL : Hid (Left w w p q cap size l) := h.left0
    clear h hb e1
    go_enter Tryz.func16, Tryz.ntmps16
    go_wp2_with (go_at_call 44; refine kA.mono ?_; rintro e w1 ⟨rfl, rfl⟩)
    go_ret
    exact ⟨rfl, HL.out⟩
  | some x =>
    obtain ⟨i, rfl, hi, hx⟩ := blk_some hb
    have e1 : closeF l (i : Int) = if x.use = 0 then (2, l) else (0, l.set i { x with closed := true }) := by unfold closeF; rw [hb]; rfl
    rw [e1]
    have kA := at_go h i hi
    obtain ⟨c0, c1, c2, c3⟩ := h.at hx
    have kF := free_any x.use x.used x.live x.closed w
    have HL := hidW h
    have HX : Hid (l[i]? = some x) := hx
    by_cases h0 : x.use = 0
    · rw [if_pos h0]
      rw [decide_eq_true h0] at kF
      clear h hb e1 hx h0
      go_enter Tryz.func16, Tryz.ntmps16
      go_wp2_with (first
        | (go_at_call 44; refine kA.mono ?_; rintro e w1 ⟨rfl, rfl⟩)
        | (go_at_call 42; refine kF.mono ?_; rintro e w1 ⟨rfl, hb1⟩; have HB1 : Hid (Below w.heap.size w w1) := hb1; clear hb1 c0 c1 c2 c3))
      go_ret
      exact ⟨rfl, HL.out.left HB1.out⟩
    · rw [if_neg h0]
      rw [decide_eq_false h0] at kF
      clear h hb e1 hx h0
      go_enter Tryz.func16, Tryz.ntmps16
      go_wp2_with (first
        | (go_at_call 44; refine kA.mono ?_; rintro e w1 ⟨rfl, rfl⟩)
        | (go_at_call 42; refine kF.mono ?_; rintro e w1 ⟨rfl, hb1⟩; have HB1 : Hid (Below w.heap.size w w1) := hb1; obtain ⟨d0, d1, d2, d3⟩ := (HL.out.later hb1).at HX.out; have f0 := (HL.out.later hb1).row.frozen (i * 4 + 3); clear hb1 c0 c1 c2 c3))
      go_ret
      exact ⟨rfl, HL.out.wrote (k := 3) (x' := { x with closed := true }) HB1.out HX.out (by decide) _ rfl⟩
set_option maxHeartbeats 2000000 in
theorem free_go {w : World} {p q cap : Nat} {size : Int} {l : List PB} (h : BLies w p q cap size l) (leb : Int) :
    Calls Tryz.prog 18 #[.pointer (some ⟨p, 0, none⟩), .int .i64 leb] w fun e w' => e = .returned (.int .i64 (freeF l leb).1) ∧ Left w w' p q cap size (freeF l leb).2 := by
  cases hb : blk l leb with
  | none =>
    have e1 : freeF l leb = (22, l) := by unfold freeF; rw [hb]
    rw [e1]
    have kA := at_no h leb (blk_none hb)
    have HL : Hid (Left w w p q cap size l) := h.left0
    clear h hb e1
    go_enter Tryz.func18, Tryz.ntmps18
    go_wp2_with (go_at_call 44; refine kA.mono ?_; rintro e w1 ⟨rfl, rfl⟩)
    go_ret
    exact ⟨rfl, HL.out⟩
  | some x =>
    obtain ⟨i, rfl, hi, hx⟩ := blk_some hb
    have e1 : freeF l (i : Int) = if x.live > 0 then (16, l) else (0, l.set i PB.none) := by unfold freeF; rw [hb]; rfl
    rw [e1]
    have kA := at_go h i hi
    obtain ⟨c0, c1, c2, c3⟩ := h.at hx
    have HL := hidW h
    have HX : Hid (l[i]? = some x) := hx
    by_cases h0 : x.live > 0
    · rw [if_pos h0]
      have h0' : 0 < x.live := h0
      have HL0 : Hid (Left w w p q cap size l) := h.left0
      clear h hb e1 hx h0
      go_enter Tryz.func18, Tryz.ntmps18
      go_wp2_with (go_at_call 44; refine kA.mono ?_; rintro e w1 ⟨rfl, rfl⟩)
      go_ret
      exact ⟨rfl, HL0.out⟩
    · rw [if_neg h0]
      have h0' : ¬ 0 < x.live := h0
      have f0 := h.row.frozen (i * 4)
      have f1 := h.row.frozen (i * 4 + 1)
      have f2 := h.row.frozen (i * 4 + 2)
      have f3 := h.row.frozen (i * 4 + 3)
      clear h hb e1 hx h0
      go_enter Tryz.func18, Tryz.ntmps18
      go_wp2_with (go_at_call 44; refine kA.mono ?_; rintro e w1 ⟨rfl, rfl⟩)
      go_ret
      have q0 := HL.out.wrote (k := 0) (x' := { x with use := 0 }) (Below.refl _ _) HX.out (by decide) (.int .i64 0) rfl
      have q1 := q0.next (k := 1) (x' := { x with use := 0, used := 0 }) (getset HX.out) (by decide) (.int .i64 0) rfl
      have q2 := q1.next (k := 2) (x' := { x with use := 0, used := 0, live := 0 }) (getset (getset HX.out)) (by decide) (.int .i64 0) rfl
      have q3 := q2.next (k := 3) (x' := PB.none) (getset (getset (getset HX.out))) (by decide) (.bool false) rfl
      simp only [setset] at q3
      exact ⟨rfl, q3⟩
set_option maxHeartbeats 2000000 in
theorem block_go {w : World} {p q cap : Nat} {size : Int} {l : List PB} (h : BLies w p q cap size l) (i : Nat) (x : PB) (hx : l[i]? = some x) :
    Calls Tryz.prog 26 #[.pointer (some ⟨p, 0, none⟩), .int .i64 (i : Nat)] w fun e w' => e = .returned (.tuple #[.agg #[.int .i64 x.use, .int .i64 x.used, .int .i64 x.live, .bool x.closed], .int .i64 0]) ∧ Below w.heap.size w w' := by
  have hb := below_new w (.cells #[.int .i64 0, .int .i64 0, .int .i64 0, .bool false] 54)
  have h' := h.later hb
  have kA := at_go h' i (List.getElem?_eq_some_iff.1 hx).1
  obtain ⟨c0, c1, c2, c3⟩ := h'.at hx
  have hq : q < w.heap.size := h.row.lt
  clear h h' hx hb
  go_enter Tryz.func26, Tryz.ntmps26
  go_wp2_with (go_at_call 44; refine kA.mono ?_; rintro e w1 ⟨rfl, rfl⟩)
  refine bodyPost_ret (v := .tuple #[.agg #[.int .i64 x.use, .int .i64 x.used, .int .i64 x.live, .bool x.closed], .int .i64 0]) ?_ rfl ⟨rfl, ?_⟩
  · simp [results, Tryz.f26, go_sem]
  · exact below_new w _
end Go.Proofs.YtmaekpfkkpkgpaaGreatDoor
