/-
  The document's Close and Free.
-/
import Derived.Test.YtmaekpfkkpkgpaaGreatDoorRA2
namespace Go.Proofs.YtmaekpfkkpkgpaaGreatDoor
open Go.RowKit
set_option maxRecDepth 10000

set_option maxHeartbeats 2000000 in
theorem dclose_go {w : World} {p q cap : Nat} {size : Int} {l : List PB} (h : DLies w p q cap size l) (leb : Int) :
    Calls Tryz.prog 24 #[.pointer (some ⟨p, 0, none⟩), .int .i64 leb] w fun e w' => e = .returned (.int .i64 (closeF l leb).1) ∧ DLeft w w' p q cap size (closeF l leb).2 := by
  cases hb : blk l leb with
  | none =>
    have e1 : closeF l leb = (22, l) := by unfold closeF; rw [hb]
    rw [e1]
    have kC := dtaken_no h leb 0 (.inl hb)
    have HL : Hid (DLeft w w p q cap size l) := h.left0
    clear h e1 hb
    go_enter Tryz.func24, Tryz.ntmps24
    go_wp2_with (go_at_call 54; refine kC.mono ?_; rintro e w1 ⟨rfl, rfl⟩)
    go_ret
    exact ⟨rfl, HL.out⟩
  | some x =>
    obtain ⟨i, rfl, hi, hx⟩ := blk_some hb
    have e1 : closeF l (i : Int) = if x.use = 0 then (2, l) else (0, l.set i { x with closed := true }) := by
      unfold closeF; rw [hb]; rfl
    rw [e1]
    have kC := dtaken_go h i x 0 hx (by decide)
    obtain ⟨c0, c1, c2, c3⟩ := h.at hx
    have cL := h.box.cell (i := 1) rfl
    have hp := h.box.lt
    have hq := h.row.lt
    have hi' : (i : Int) < (l.length : Int) := by omega
    clear hb e1 hi
    by_cases h0 : x.use = 0
    · rw [if_pos h0] at kC ⊢
      have HL := hidW h.left0
      clear h hx h0
      go_enter Tryz.func24, Tryz.ntmps24
      go_wp2_with (go_at_call 54; refine kC.mono ?_; rintro e w1 ⟨rfl, rfl⟩)
      go_ret
      exact ⟨rfl, HL.out⟩
    · rw [if_neg h0] at kC ⊢
      have HFw := hidW ((h.left0.block hx ⟨x.use, x.used, x.live, true⟩).alloc (.cells #[.int .i64 x.use, .int .i64 x.used, .int .i64 x.live, .bool true] 57)).drew
      have f0 := h.row.frozen
      clear h hx h0
      go_enter Tryz.func24, Tryz.ntmps24
      go_wp2_with (go_at_call 54; refine kC.mono ?_; rintro e w1 ⟨rfl, rfl⟩)
      go_region
      go_wp2
      go_ret
      refine ⟨rfl, ?_⟩
      exact HFw.out
set_option maxHeartbeats 2000000 in
theorem dfree_go {w : World} {p q cap : Nat} {size : Int} {l : List PB} (h : DLies w p q cap size l) (leb : Int) :
    Calls Tryz.prog 25 #[.pointer (some ⟨p, 0, none⟩), .int .i64 leb] w fun e w' => e = .returned (.int .i64 (freeF l leb).1) ∧ DLeft w w' p q cap size (freeF l leb).2 := by
  cases hb : blk l leb with
  | none =>
    have e1 : freeF l leb = (22, l) := by unfold freeF; rw [hb]
    rw [e1]
    have kC := dthere_no h leb (blk_none hb)
    have HL : Hid (DLeft w w p q cap size l) := h.left0
    clear h e1 hb
    go_enter Tryz.func25, Tryz.ntmps25
    go_wp2_with (go_at_call 53; refine kC.mono ?_; rintro e w1 ⟨rfl, rfl⟩)
    go_ret
    exact ⟨rfl, HL.out⟩
  | some x =>
    obtain ⟨i, rfl, hi, hx⟩ := blk_some hb
    have e1 : freeF l (i : Int) = if x.live > 0 then (16, l) else (0, l.set i PB.none) := by
      unfold freeF; rw [hb]; rfl
    rw [e1]
    have kC := dthere_go h i hi
    obtain ⟨c0, c1, c2, c3⟩ := h.at hx
    have cL := h.box.cell (i := 1) rfl
    have hp := h.box.lt
    have hq := h.row.lt
    have hi' : (i : Int) < (l.length : Int) := by omega
    clear hb e1 hi
    by_cases h0 : x.live > 0
    · rw [if_pos h0]
      have HL := hidW h.left0
      have h0' : 0 < x.live := h0
      clear h hx h0
      go_enter Tryz.func25, Tryz.ntmps25
      go_wp2_with (go_at_call 53; refine kC.mono ?_; rintro e w1 ⟨rfl, rfl⟩)
      go_ret
      exact ⟨rfl, HL.out⟩
    · rw [if_neg h0]
      have HFw := hidW (h.left0.block hx PB.none)
      have f0 := h.row.frozen
      have h0' : ¬ 0 < x.live := h0
      clear h hx h0
      go_enter Tryz.func25, Tryz.ntmps25
      go_wp2_with (go_at_call 53; refine kC.mono ?_; rintro e w1 ⟨rfl, rfl⟩)
      go_ret
      refine ⟨rfl, ?_⟩
      exact HFw.out
theorem dblock_go {w : World} {p q cap : Nat} {size : Int} {l : List PB} (h : DLies w p q cap size l) (i : Nat) (x : PB) (hx : l[i]? = some x) :
    Calls Tryz.prog 27 #[.pointer (some ⟨p, 0, none⟩), .int .i64 (i : Nat)] w fun e w' => e = .returned (.tuple #[.agg #[.int .i64 x.use, .int .i64 x.used, .int .i64 x.live, .bool x.closed], .int .i64 0]) ∧ Below w.heap.size w w' := by
  have hb := below_new w (.cells #[.int .i64 0, .int .i64 0, .int .i64 0, .bool false] 57)
  have h' := h.later hb
  have kA := dthere_go h' i (List.getElem?_eq_some_iff.1 hx).1
  obtain ⟨c0, c1, c2, c3⟩ := h.at hx
  have cL := h.box.cell (i := 1) rfl
  have hp := h.box.lt
  have hq := h.row.lt
  have hi' : (i : Int) < (l.length : Int) := by have := (List.getElem?_eq_some_iff.1 hx).1; omega
  have hB := hidW (below_new w (.cells #[.int .i64 x.use, .int .i64 x.used, .int .i64 x.live, .bool x.closed] 57))
  clear h h' hx hb
  go_enter Tryz.func27, Tryz.ntmps27
  go_wp2_with (go_at_call 53; refine kA.mono ?_; rintro e w1 ⟨rfl, rfl⟩)
  refine bodyPost_ret (v := .tuple #[.agg #[.int .i64 x.use, .int .i64 x.used, .int .i64 x.live, .bool x.closed], .int .i64 0]) ?_ rfl ⟨rfl, ?_⟩
  · simp [results, Tryz.f27, go_sem]
  · exact hB.out
theorem dblock_no {w : World} {p q cap : Nat} {size : Int} {l : List PB} (h : DLies w p q cap size l) (leb : Int) (hn : leb < 0 ∨ (l.length : Int) ≤ leb) :
    Calls Tryz.prog 27 #[.pointer (some ⟨p, 0, none⟩), .int .i64 leb] w fun e w' => e = .returned (.tuple #[.agg #[.int .i64 0, .int .i64 0, .int .i64 0, .bool false], .int .i64 22]) ∧ Below w.heap.size w w' := by
  have hb := below_new w (.cells #[.int .i64 0, .int .i64 0, .int .i64 0, .bool false] 57)
  have kA := dthere_no (h.later hb) leb hn
  have HB := hidW hb
  clear h hn hb
  go_enter Tryz.func27, Tryz.ntmps27
  go_wp2_with (go_at_call 53; refine kA.mono ?_; rintro e w1 ⟨rfl, rfl⟩)
  refine bodyPost_ret (v := .tuple #[.agg #[.int .i64 0, .int .i64 0, .int .i64 0, .bool false], .int .i64 22]) ?_ rfl ⟨rfl, ?_⟩
  · simp [results, Tryz.f27, go_sem]
  · exact HB.out
theorem infoD : (Tryz.prog.info? 57).map (fun i => (i.zero, i.size, i.bytes)) = some (some (.agg #[.int .i64 0, .int .i64 0, .int .i64 0, .bool false]), 4, 32) := by kernel_rfl
theorem makeD (n : Nat) (h : n ≤ 256) : ∃ R : Array Value, R.toList = (List.replicate n PB.none).flatMap pbCells ∧ ∀ W, (Instr.makeSlice 43 (.int .i64 (n : Int)) (.int .i64 (n : Int))).run Tryz.prog W = .ok (.slice (some ⟨W.heap.size, 0, none⟩) n n) (W.alloc (.cells R 57)) := by
  obtain ⟨i0, hi, hz0, hz1, hz2⟩ := info_parts infoD
  refine ⟨madeCells #[.int .i64 0, .int .i64 0, .int .i64 0, .bool false] (n * 4), ?_, fun W => ?_⟩
  · have := made_flat [Value.int .i64 0, .int .i64 0, .int .i64 0, .bool false] (by decide) n
    rw [show (madeCells #[Value.int .i64 0, .int .i64 0, .int .i64 0, .bool false] (n * 4)) = madeCells [Value.int .i64 0, .int .i64 0, .int .i64 0, .bool false].toArray (n * [Value.int .i64 0, .int .i64 0, .int .i64 0, .bool false].length) from rfl, this, List.flatMap_def, List.map_replicate]
    rfl
  · have := run_make (P := Tryz.prog) W 43 57 i0 _ Tryz.underlying43 hi hz0 .i64 .i64 n n (by omega) (Int.le_refl _) (by rw [hz2]; omega) (by omega)
    rw [hz1] at this
    exact this
set_option maxHeartbeats 1000000 in
theorem dnew_no (n size : Int) (h : ¬ newOk n size) (w : World) :
    Calls Tryz.prog 6 #[.int .i64 n, .int .i64 size] w fun e w' => e = .returned (.tuple #[.pointer none, .int .i64 22]) ∧ w = w' := by
  by_cases h1 : n < 1
  · go_enter Tryz.func6, Tryz.ntmps6
    go_wp2
    go_ret2
    exact ⟨rfl, rfl⟩
  · by_cases h2 : 256 < n
    · go_enter Tryz.func6, Tryz.ntmps6
      go_wp2
      go_ret2
      exact ⟨rfl, rfl⟩
    · by_cases h3 : size < 1
      · go_enter Tryz.func6, Tryz.ntmps6
        go_wp2
        go_ret2
        exact ⟨rfl, rfl⟩
      · have h4 : 16777216 < size := by unfold newOk at h; omega
        clear h
        go_enter Tryz.func6, Tryz.ntmps6
        go_wp2
        go_ret2
        exact ⟨rfl, rfl⟩
set_option maxHeartbeats 1000000 in
theorem dnew_go (n : Nat) (size : Int) (h : newOk n size) (w : World) :
    Calls Tryz.prog 6 #[.int .i64 (n : Nat), .int .i64 size] w fun e w' => e = .returned (.tuple #[.pointer (some ⟨w.heap.size + 1, 0, none⟩), .int .i64 0]) ∧ DLies w' (w.heap.size + 1) w.heap.size n size (List.replicate n PB.none) ∧ Below w.heap.size w w' := by
  obtain ⟨h1, h2, h3, h4⟩ := h
  obtain ⟨R, hR, hmk⟩ := makeD n (by omega)
  have q1 : ¬ (n : Int) < 1 := by omega
  have q2 : ¬ 256 < (n : Int) := by omega
  have q3 : ¬ size < 1 := by omega
  have q4 : ¬ 16777216 < size := by omega
  have fin : ∀ W, W = (w.alloc (.cells R 57)).alloc (.cells #[.int .i64 size, .slice (some ⟨w.heap.size, 0, none⟩) n n] 45) → DLies W (w.heap.size + 1) w.heap.size n size (List.replicate n PB.none) ∧ Below w.heap.size w W := by
    rintro W rfl
    have hb := below_new w (.cells R 57)
    refine ⟨⟨?_, ?_, by simp, by unfold maxLen; omega⟩, Below.after hb (below_new _ _)⟩
    · have := Row.new (w.alloc (.cells R 57)) [.int .i64 size, .slice (some ⟨w.heap.size, 0, none⟩) n n] 45
      rw [World.size_alloc] at this
      rw [List.length_replicate]
      exact this
    · have := Row.new w R.toList 57
      rw [Array.toArray_toList, hR] at this
      exact this.alloc _
  have HF := hidW fin
  clear fin h1 h2 h3 h4 hR
  go_enter Tryz.func6, Tryz.ntmps6
  go_wp2
  go_ret2
  exact ⟨rfl, HF.out _ rfl⟩
end Go.Proofs.YtmaekpfkkpkgpaaGreatDoor
