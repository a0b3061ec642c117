/-
  The document's Use.
  The document's Kill.
-/
import Derived.Test.YtmaekpfkkpkgpaaGreatDoorRA2
namespace Go.Proofs.YtmaekpfkkpkgpaaGreatDoor
open Go.RowKit
set_option maxRecDepth 10000

set_option maxHeartbeats 2000000 in
theorem duse_go {w : World} {p q cap : Nat} {size : Int} {l : List PB} (h : DLies w p q cap size l) (hO : AllOk size l) (hs : size ≤ 16777216) (leb n : Int) :
    Calls Tryz.prog 22 #[.pointer (some ⟨p, 0, none⟩), .int .i64 leb, .int .i64 n] w fun e w' => e = .returned (.int .i64 (useF size l leb n).1) ∧ DLeft w w' p q cap size (useF size l leb n).2 := by
  by_cases hbad : blk l leb = .none ∨ n < 0
  · have e1 : useF size l leb n = (22, l) := by
      unfold useF
      rcases hbad with hb | hb
      · rw [hb]
      · split
        · rfl
        · rw [if_pos hb]
    rw [e1]
    have kC := dtaken_no h leb n hbad
    have HL : Hid (DLeft w w p q cap size l) := h.left0
    clear h e1 hbad hO
    go_enter Tryz.func22, Tryz.ntmps22
    go_wp2_with (go_at_call 54; refine kC.mono ?_; rintro e w1 ⟨rfl, rfl⟩)
    go_ret
    exact ⟨rfl, HL.out⟩
  · cases hb : blk l leb with
    | none => exact absurd (.inl hb) hbad
    | some x =>
    have hn : ¬ n < 0 := fun e => hbad (.inr e)
    have hok := hO x (blk_mem hb).1
    obtain ⟨i, rfl, hi, hx⟩ := blk_some hb
    have e1 : useF size l (i : Int) n = if x.use = 0 then (2, l) else if x.closed = true then (16, l) else if n > size - x.used then (28, l) else (0, l.set i { x with used := x.used + n, live := x.live + n }) := by
      unfold useF; rw [hb]; dsimp only; rw [if_neg hn]; rfl
    rw [e1]
    have HL := hidW h
    have HX : Hid (l[i]? = some x) := hx
    have kC := dtaken_go h i x n hx hn
    obtain ⟨c0, c1, c2, c3⟩ := h.at hx
    have cS := h.box.cell (i := 0) rfl
    have cL := h.box.cell (i := 1) rfl
    have hp := h.box.lt
    have hq := h.row.lt
    have hi' : (i : Int) < (l.length : Int) := by omega
    clear hbad hb e1 hO hi
    by_cases h0 : x.use = 0
    · rw [if_pos h0] at kC ⊢
      clear h hx h0
      go_enter Tryz.func22, Tryz.ntmps22
      go_wp2_with (go_at_call 54; refine kC.mono ?_; rintro e w1 ⟨rfl, rfl⟩)
      go_ret
      exact ⟨rfl, HL.out.left0⟩
    · rw [if_neg h0] at kC ⊢
      have b1 := hok.l0
      have b2 := hok.lu
      have b3 := hok.us
      have hB := below_new w (.cells #[.int .i64 x.use, .int .i64 x.used, .int .i64 x.live, .bool x.closed] 57)
      by_cases hc : x.closed = true
      · rw [if_pos hc]
        have HF := hidW (h.left hB)
        rw [hc] at c3 HF
        clear hc h hx h0 hok hB
        go_enter Tryz.func22, Tryz.ntmps22
        go_wp2_with (go_at_call 54; refine kC.mono ?_; rintro e w1 ⟨rfl, rfl⟩)
        go_ret
        exact ⟨rfl, HF.out⟩
      · rw [if_neg hc]
        have hc' : x.closed = false := by cases h : x.closed; exact rfl; exact absurd h hc
        have HFt : Hid (∀ k, DLeft w (World.drewN (w.alloc (.cells #[.int .i64 x.use, .int .i64 x.used, .int .i64 x.live, .bool false] 57)) k) p q cap size l) := by
          intro k
          have := h.left (Below.after hB (below_drawn _ k))
          rw [hc'] at this
          exact this
        rw [hc'] at c3
        have HFw := hidW (fun (k : Nat) => (h.wrote (below_copy w (.cells #[.int .i64 x.use, .int .i64 x.used, .int .i64 x.live, .bool false] 57) k 1 2 (.int .i64 (x.used + n)) (.int .i64 (x.live + n))) hx ⟨x.use, x.used + n, x.live + n, false⟩).drew)
        rw [show ({ x with used := x.used + n, live := x.live + n } : PB) = ⟨x.use, x.used + n, x.live + n, false⟩ by rw [← hc']]
        have f0 := h.row.frozen
        clear hc h hx h0 hok hB hc' HL HX
        by_cases hr : n > size - x.used
        · rw [if_pos hr]
          have hr' : size - x.used < n := hr
          clear hr HFw
          go_enter Tryz.func22, Tryz.ntmps22
          go_wp2_with (go_at_call 54; refine kC.mono ?_; rintro e w1 ⟨rfl, rfl⟩)
          go_quiet (fail)
          go_wp2
          go_ret
          exact ⟨rfl, HFt.out _⟩
        · rw [if_neg hr]
          have hr' : n ≤ size - x.used := by omega
          clear hr HFt
          go_enter Tryz.func22, Tryz.ntmps22
          go_wp2_with (go_at_call 54; refine kC.mono ?_; rintro e w1 ⟨rfl, rfl⟩)
          go_quiet (fail)
          go_wp2
          go_region
          go_wp2
          go_ret
          refine ⟨rfl, ?_⟩
          exact HFw.out nq
end Go.Proofs.YtmaekpfkkpkgpaaGreatDoor
namespace Go.Proofs.YtmaekpfkkpkgpaaGreatDoor
open Go.RowKit
set_option maxRecDepth 10000

set_option maxHeartbeats 2000000 in
theorem dkill_go {w : World} {p q cap : Nat} {size : Int} {l : List PB} (h : DLies w p q cap size l) (hO : AllOk size l) (hs : size ≤ 16777216) (leb n : Int) :
    Calls Tryz.prog 23 #[.pointer (some ⟨p, 0, none⟩), .int .i64 leb, .int .i64 n] w fun e w' => e = .returned (.int .i64 (killF l leb n).1) ∧ DLeft w w' p q cap size (killF l leb n).2 := by
  by_cases hbad : blk l leb = .none ∨ n < 0
  · have e1 : killF l leb n = (22, l) := by
      unfold killF
      rcases hbad with hb | hb
      · rw [hb]
      · split
        · rfl
        · rw [if_pos hb]
    rw [e1]
    have kC := dtaken_no h leb n hbad
    have HL : Hid (DLeft w w p q cap size l) := h.left0
    clear h e1 hbad hO
    go_enter Tryz.func23, Tryz.ntmps23
    go_wp2_with (go_at_call 54; refine kC.mono ?_; rintro e w1 ⟨rfl, rfl⟩)
    go_ret
    exact ⟨rfl, HL.out⟩
  · cases hb : blk l leb with
    | none => exact absurd (.inl hb) hbad
    | some x =>
    have hn : ¬ n < 0 := fun e => hbad (.inr e)
    have hok := hO x (blk_mem hb).1
    obtain ⟨i, rfl, hi, hx⟩ := blk_some hb
    have e1 : killF l (i : Int) n = if x.use = 0 then (2, l) else if n > x.live then (28, l) else (0, l.set i { x with live := x.live - n }) := by
      unfold killF; rw [hb]; dsimp only; rw [if_neg hn]; rfl
    rw [e1]
    have kC := dtaken_go h i x n hx hn
    obtain ⟨c0, c1, c2, c3⟩ := h.at hx
    have cL := h.box.cell (i := 1) rfl
    have hp := h.box.lt
    have hq := h.row.lt
    have hi' : (i : Int) < (l.length : Int) := by omega
    clear hbad hb e1 hO hi
    by_cases h0 : x.use = 0
    · rw [if_pos h0] at kC ⊢
      have HL := hidW h.left0
      clear h hx h0
      go_enter Tryz.func23, Tryz.ntmps23
      go_wp2_with (go_at_call 54; refine kC.mono ?_; rintro e w1 ⟨rfl, rfl⟩)
      go_ret
      exact ⟨rfl, HL.out⟩
    · rw [if_neg h0] at kC ⊢
      have b1 := hok.l0
      have b2 := hok.lu
      have b3 := hok.us
      have hB := below_new w (.cells #[.int .i64 x.use, .int .i64 x.used, .int .i64 x.live, .bool x.closed] 57)
      have HF := hidW (h.left hB)
      have HFw := hidW ((h.left0.block hx ⟨x.use, x.used, x.live - n, x.closed⟩).alloc (.cells #[.int .i64 x.use, .int .i64 x.used, .int .i64 (x.live - n), .bool x.closed] 57)).drew
      have f0 := h.row.frozen
      clear h hx h0 hok hB
      by_cases hr : n > x.live
      · rw [if_pos hr]
        have hr' : x.live < n := hr
        clear hr HFw
        go_enter Tryz.func23, Tryz.ntmps23
        go_wp2_with (go_at_call 54; refine kC.mono ?_; rintro e w1 ⟨rfl, rfl⟩)
        go_ret
        exact ⟨rfl, HF.out⟩
      · rw [if_neg hr]
        have hr' : n ≤ x.live := by omega
        clear hr HF
        go_enter Tryz.func23, Tryz.ntmps23
        go_wp2_with (go_at_call 54; refine kC.mono ?_; rintro e w1 ⟨rfl, rfl⟩)
        go_region
        go_wp2
        go_ret
        refine ⟨rfl, ?_⟩
        exact HFw.out
end Go.Proofs.YtmaekpfkkpkgpaaGreatDoor
