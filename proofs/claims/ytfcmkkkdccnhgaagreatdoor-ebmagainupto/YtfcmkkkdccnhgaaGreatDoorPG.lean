/-
  The document's manager: New.
-/
import Derived.Test.YtfcmkkkdccnhgaaGreatDoorPB
import Derived.Test.YtfcmkkkdccnhgaaGreatDoorPE
import Derived.Deep.RegionLaw
namespace Go.Proofs.YtfcmkkkdccnhgaaGreatDoor
open Go.RowKit
set_option maxRecDepth 10000

theorem makeL (n : Nat) (h : n ≤ 256) : ∃ RL : Array Value, RL.toList = (List.replicate n noLB).flatMap lbCells ∧ ∀ W, (Instr.makeSlice 49 (.int .i64 (n : Int)) (.int .i64 (n : Int))).run Tryz.prog W = .ok (.slice (some ⟨W.heap.size, 0, none⟩) n n) (W.alloc (.cells RL 80)) := by
  obtain ⟨i0, hi, hz0, hz1, hz2⟩ := info_parts (show (Tryz.prog.info? 80).map (fun i => (i.zero, i.size, i.bytes)) = some (some (.agg #[.slice none 0 0, .bool false]), 2, 32) by kernel_rfl)
  refine ⟨madeCells #[.slice none 0 0, .bool false] (n * 2), ?_, fun W => ?_⟩
  · have := made_flat [Value.slice none 0 0, .bool false] (by decide) n
    rw [show (madeCells #[Value.slice none 0 0, .bool false] (n * 2)) = madeCells [Value.slice none 0 0, .bool false].toArray (n * [Value.slice none 0 0, .bool false].length) from rfl, this, List.flatMap_def, List.map_replicate]
    rfl
  · have := run_make (P := Tryz.prog) W 49 80 i0 _ Tryz.underlying49 hi hz0 .i64 .i64 n n (by omega) (Int.le_refl _) (by rw [hz2]; omega) (by omega)
    rw [hz1] at this
    exact this
theorem dnew_no (b p z r : Int) (w : World) (hR : rightB b p z r = false) : Calls Tryz.prog 4 #[.agg #[.int .i64 b, .int .i64 p, .int .i64 z, .int .i64 r]] w fun e w' => e = .returned (.pointer none) ∧ Below w.heap.size w w' := by
  have HB : Hid (∀ o, Below w.heap.size w (w.alloc o)) := fun o => below_new w o
  have k1 := fun W => d_right b p z r W
  rw [hR] at k1
  clear hR
  go_enter Tryz.func4, Tryz.ntmps4
  go_wp2_with (go_at_call 16; refine (k1 _).mono ?_; rintro e w1 ⟨rfl, hb⟩; have HB1 : Hid (Below w.heap.size w w1) := Below.after (HB.out _) hb; clear hb)
  go_ret
  exact ⟨rfl, HB1.out⟩
theorem DMs.made {w W : World} {gb gp gz gr n : Nat} {RL : Array Value} (hb : Below w.heap.size w W) (hRL : RL.toList = (List.replicate n noLB).flatMap lbCells) (hn : n ≤ 256) :
    DMs w.heap.size ((W.alloc (.cells RL 80)).alloc (.cells #[.int .i64 gb, .int .i64 gp, .int .i64 gz, .int .i64 gr, .slice (some ⟨W.heap.size, 0, none⟩) n n] 52)) gb gp gz gr ⟨W.heap.size + 1, W.heap.size, n, List.replicate n noLB⟩ := by
  have hsz : (W.alloc (.cells RL 80)).heap.size = W.heap.size + 1 := by simp
  have h1 : Row (W.alloc (.cells RL 80)) W.heap.size ((List.replicate n noLB).flatMap lbCells) 80 := by
    have := Row.new W RL.toList 80
    rw [hRL] at this
    rw [← hRL] at this ⊢
    simpa using this
  have h2 := Row.new (W.alloc (.cells RL 80)) [.int .i64 gb, .int .i64 gp, .int .i64 gz, .int .i64 gr, .slice (some ⟨W.heap.size, 0, none⟩) n n] 52
  rw [hsz] at h2
  refine ⟨by simpa using h2, h1.alloc _, fun x hx => ?_, fun i j x y k hx hy hk _ => ?_, ⟨?_, hb.size⟩, by simp; unfold maxLen; omega⟩
  · rw [(List.mem_replicate.1 hx).2]
    exact DL.nil _ _
  · have : x = noLB := (List.mem_replicate.1 (List.mem_of_getElem? hx)).2
    rw [this] at hk
    cases hk
  · have := hb.size
    show w.heap.size ≤ W.heap.size + 1
    omega
set_option maxHeartbeats 4000000 in
theorem dnew_go (gb gp gz gr : Nat) (w : World) (hR : rightB gb gp gz gr = true) (hg : gr + 2 ≤ gb ∧ gb ≤ 256) : Calls Tryz.prog 4 #[.agg #[.int .i64 gb, .int .i64 gp, .int .i64 gz, .int .i64 gr]] w fun e w' => ∃ d : DMg, e = .returned (.pointer (some ⟨d.p, 0, none⟩)) ∧ DMs w.heap.size w' gb gp gz gr d ∧ d.ls = List.replicate (gb - gr - 2) noLB ∧ Below w.heap.size w w' := by
  obtain ⟨n, hn⟩ : ∃ n, n = gb - gr - 2 := ⟨_, rfl⟩
  obtain ⟨RL, hRL, hmk⟩ := makeL n (by omega)
  have k1 := fun W => d_right gb gp gz gr W
  rw [hR] at k1
  have k2 := fun W => rlebs_any gb gp gz gr W
  have hl : lebsI gb gp gz gr = (n : Int) := by unfold lebsI; rw [if_pos hR, hn]; omega
  rw [hl] at k2
  obtain ⟨W1, hW1⟩ : ∃ W1, W1 = w.alloc (.cells #[.int .i64 gb, .int .i64 gp, .int .i64 gz, .int .i64 gr] 23) := ⟨_, rfl⟩
  have HB1 : Hid (Below w.heap.size w W1) := by rw [hW1]; exact below_new w _
  have hr : Row W1 w.heap.size [.int .i64 gb, .int .i64 gp, .int .i64 gz, .int .i64 gr] 23 := by rw [hW1]; exact Row.new w _ _
  have HRw : Hid (Row W1 w.heap.size [.int .i64 gb, .int .i64 gp, .int .i64 gz, .int .i64 gr] 23) := hr
  have x0 := hr.cell (i := 0) rfl
  have x1 := hr.cell (i := 1) rfl
  have x2 := hr.cell (i := 2) rfl
  have x3 := hr.cell (i := 3) rfl
  have HFin : Hid (∀ W, Below w.heap.size w W → DMs w.heap.size ((W.alloc (.cells RL 80)).alloc (.cells #[.int .i64 gb, .int .i64 gp, .int .i64 gz, .int .i64 gr, .slice (some ⟨W.heap.size, 0, none⟩) n n] 52)) gb gp gz gr ⟨W.heap.size + 1, W.heap.size, n, List.replicate n noLB⟩ ∧ Below w.heap.size w ((W.alloc (.cells RL 80)).alloc (.cells #[.int .i64 gb, .int .i64 gp, .int .i64 gz, .int .i64 gr, .slice (some ⟨W.heap.size, 0, none⟩) n n] 52))) := fun W hb => ⟨DMs.made hb hRL (by omega), Below.after hb (Below.after (below_new W _) (below_new _ _))⟩
  have HN : Hid (n = gb - gr - 2) := hn
  clear hR hg hRL hl hn hr
  go_enter Tryz.func4, Tryz.ntmps4
  go_wp2_with fail
  rw [← hW1]
  clear hW1
  go_wp2_with (go_at_call 16; refine (k1 _).mono ?_; rintro e w2 ⟨rfl, hb2⟩; have HB2 : Hid (Below w.heap.size w w2) := Below.after HB1.out hb2; have hr2 := HRw.out.later hb2; have HR2 : Hid (Row w2 w.heap.size [.int .i64 gb, .int .i64 gp, .int .i64 gz, .int .i64 gr] 23) := hr2; have y0 : w2.cell? ⟨w.heap.size, 0, none⟩ = some (.int .i64 gb) := hr2.cell (i := 0) rfl; have y1 : w2.cell? ⟨w.heap.size, 1, none⟩ = some (.int .i64 gp) := hr2.cell (i := 1) rfl; have y2 : w2.cell? ⟨w.heap.size, 2, none⟩ = some (.int .i64 gz) := hr2.cell (i := 2) rfl; have y3 : w2.cell? ⟨w.heap.size, 3, none⟩ = some (.int .i64 gr) := hr2.cell (i := 3) rfl; clear hb2 hr2 x0 x1 x2 x3)
  go_region_with (go_at_call 17; refine (k2 _).mono ?_; rintro e w3 ⟨rfl, hb3⟩; have hb3' := Below.after (by first | exact below_drawn w2 1 | exact below_drew' w2) hb3; have HB3 : Hid (Below w.heap.size w w3) := Below.after HB2.out hb3'; have hr3 := HR2.out.later hb3'; have hr4 := hr3.alloc (.cells RL 80); have z0 : w3.cell? ⟨w.heap.size, 0, none⟩ = some (.int .i64 gb) := hr3.cell (i := 0) rfl; have z1 : w3.cell? ⟨w.heap.size, 1, none⟩ = some (.int .i64 gp) := hr3.cell (i := 1) rfl; have z2 : w3.cell? ⟨w.heap.size, 2, none⟩ = some (.int .i64 gz) := hr3.cell (i := 2) rfl; have z3 : w3.cell? ⟨w.heap.size, 3, none⟩ = some (.int .i64 gr) := hr3.cell (i := 3) rfl; have u0 : (w3.alloc (.cells RL 80)).cell? ⟨w.heap.size, 0, none⟩ = some (.int .i64 gb) := hr4.cell (i := 0) rfl; have u1 : (w3.alloc (.cells RL 80)).cell? ⟨w.heap.size, 1, none⟩ = some (.int .i64 gp) := hr4.cell (i := 1) rfl; have u2 : (w3.alloc (.cells RL 80)).cell? ⟨w.heap.size, 2, none⟩ = some (.int .i64 gz) := hr4.cell (i := 2) rfl; have u3 : (w3.alloc (.cells RL 80)).cell? ⟨w.heap.size, 3, none⟩ = some (.int .i64 gr) := hr4.cell (i := 3) rfl; clear hb3 hb3' hr3 hr4)
  all_goals go_wp2
  all_goals go_ret
  all_goals exact ⟨⟨w3.heap.size + 1, w3.heap.size, n, List.replicate n noLB⟩, rfl, (HFin.out w3 HB3.out).1, by rw [← HN.out], (HFin.out w3 HB3.out).2⟩
end Go.Proofs.YtfcmkkkdccnhgaaGreatDoor
