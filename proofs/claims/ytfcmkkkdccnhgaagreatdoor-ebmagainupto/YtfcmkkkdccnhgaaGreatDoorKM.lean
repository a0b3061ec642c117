/-
  A logical block is let go: the call's closure.
-/
import Derived.Test.YtfcmkkkdccnhgaaGreatDoorKL
namespace Go.Proofs.YtfcmkkkdccnhgaaGreatDoor
open Go.RowKit Go.Extern.Stop Go.Stop Go.Extern
set_option maxRecDepth 10000

set_option maxHeartbeats 2000000 in
theorem unmap1_any {base : Nat} {w : World} {m : Mg} {c : CS} (h : MLies base w m c) {Q : Ending → World → Prop} (Bm Bl : Nat) (leb : Int) (h1 : w.cell? ⟨Bm, 0, none⟩ = some (.pointer (some ⟨m.p, 0, none⟩))) (h2 : w.cell? ⟨Bl, 0, none⟩ = some (.int .i64 leb))
    (hE : ∀ W, Below w.heap.size w W → Calls Tryz.prog 57 #[.pointer (some ⟨m.p, 0, none⟩), .int .i64 (findI m.bl leb)] W (fun e w' => ∃ v, e = .returned v ∧ Q e w')) :
    Calls Tryz.prog 56 #[.pointer (some ⟨Bm, 0, none⟩), .pointer (some ⟨Bl, 0, none⟩)] w Q := by
  obtain ⟨_, c1, _, _⟩ := h.cells
  have hgs := h.chip.good.gs
  have hlen := h.len
  have k1 := find_any m.bl.length m.bcap m.bl (some ⟨m.bb, 0, none⟩) leb rfl (by omega) w h.lrow
  have HE : Hid (∀ W, Below w.heap.size w W → Calls Tryz.prog 57 #[.pointer (some ⟨m.p, 0, none⟩), .int .i64 (findI m.bl leb)] W (fun e w' => ∃ v, e = .returned v ∧ Q e w')) := hE
  obtain ⟨F, hF⟩ : ∃ F, F = findI m.bl leb := ⟨_, rfl⟩
  rw [← hF] at k1 HE
  have hl1 := World.block_lt_of_cell? w _ h1
  have k1' : Calls Tryz.prog 51 #[.slice (some ⟨m.bb, 0, none⟩) m.bl.length m.bcap, .int .i64 leb] w.drew fun e w' => e = .returned (.int .i64 F) ∧ Below w.drew.heap.size w.drew w' := by
    have := find_any m.bl.length m.bcap m.bl (some ⟨m.bb, 0, none⟩) leb rfl (by omega) w.drew (h.later (below_drew' w)).lrow
    rw [← hF] at this
    exact this
  clear h hgs hlen hE hF k1
  go_enter Tryz.func56, Tryz.ntmps56
  go_wp2
  go_region_with (first
    | (go_at_call 51; refine k1'.mono ?_; rintro e w1 ⟨rfl, hb⟩; have hb1 := Below.after (below_drew' w) hb; have kD := HE.out w1 hb1; have h1' := (hb1.cell (p := ⟨Bm, 0, none⟩) hl1).trans h1; clear hb hb1)
    | (go_at_call 57; refine kD.mono ?_; rintro e w2 ⟨v, rfl, hq⟩; have HQ : Hid (Q (.returned v) w2) := hq; clear hq))
  all_goals (go_wp2; refine bodyPost_ret (v := v) (by simp [results, Tryz.f56, go_sem, Act.put]) rfl HQ.out)
end Go.Proofs.YtfcmkkkdccnhgaaGreatDoor
