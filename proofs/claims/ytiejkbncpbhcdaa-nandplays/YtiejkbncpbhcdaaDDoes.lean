/-
  A step of a script, on both chips.
-/
import Derived.Test.YtiejkbncpbhcdaaDDuo
import Derived.Deep.RegionHeld3
namespace Go.Proofs.Ytiejkbncpbhcdaa
open Go.RowKit

/-- A step as a value. -/
def opCells (o : OpD) : List Value := [.int .i64 o.kind, .int .i64 o.block, .int .i64 o.page, .slice o.da o.dl o.dc, .slice o.pa o.pl o.pc]
theorem op_row {w w1 : World} {o : OpD} (h : OpKept (w.alloc (.cells #[.int .i64 o.kind, .int .i64 o.block, .int .i64 o.page, .slice o.da o.dl o.dc, .slice o.pa o.pl o.pc] 37)) w1) :
    w1.cell? ⟨w.heap.size, 1, none⟩ = some (.int .i64 o.block) ∧ w1.cell? ⟨w.heap.size, 2, none⟩ = some (.int .i64 o.page) ∧ w1.cell? ⟨w.heap.size, 3, none⟩ = some (.slice o.da o.dl o.dc) ∧ w1.cell? ⟨w.heap.size, 4, none⟩ = some (.slice o.pa o.pl o.pc) := by
  have := h _ _ (Row.new w [.int .i64 o.kind, .int .i64 o.block, .int .i64 o.page, .slice o.da o.dl o.dc, .slice o.pa o.pl o.pc] 37)
  exact ⟨this.cell (i := 1) rfl, this.cell (i := 2) rfl, this.cell (i := 3) rfl, this.cell (i := 4) rfl⟩
def DoesPost (base : Nat) (w : World) (p q k : Nat) (e : Ending) (w' : World) : Prop := e = .returned (.bool true) ∧ ∃ c' d', Went base w w' p q (k + 1) c' d'
theorem Went.from {base : Nat} {w W w2 : World} {p q k : Nat} {c' : CS} {d' : DS} (h : Went base W w2 p q k c' d') (hb : Below w.heap.size w W) (hs : base ≤ w.heap.size) : Went base w w2 p q k c' d' :=
  ⟨h.duo, (OpKept.later hb).trans h.ops, (hb.mono hs).trans h.below, h.p, h.q⟩
set_option maxHeartbeats 4000000 in
theorem does_any {base : Nat} {w : World} {c : CS} {d : DS} {k : Nat} (h : Duo base w c d k) (hk : k < 9223372036854775807) (o : OpD) (ho : Brings base w o) (p q : Nat) (hp : c.p = p) (hq : d.p = q) :
    Calls Try.prog 13 #[.pointer (some ⟨p, 0, none⟩), .pointer (some ⟨q, 0, none⟩), .agg #[.int .i64 o.kind, .int .i64 o.block, .int .i64 o.page, .slice o.da o.dl o.dc, .slice o.pa o.pl o.pc]] w fun e w' => DoesPost base w p q k e w' := by
  obtain ⟨WB, hWB⟩ : ∃ W, W = w.alloc (.cells #[.int .i64 o.kind, .int .i64 o.block, .int .i64 o.page, .slice o.da o.dl o.dc, .slice o.pa o.pl o.pc] 37) := ⟨_, rfl⟩
  have hbW : Below w.heap.size w WB := by rw [hWB]; exact below_new w _
  have hDW : ∀ W, Below WB.heap.size WB W → Duo base W c d k ∧ Brings base W o ∧ Below w.heap.size w W ∧ OpKept WB W := fun W hb => by
    have h2 := Below.after hbW hb
    exact ⟨h.later h2, ho.below (h2.mono h.cl.size), h2, .later hb⟩
  have HDW : Hid (∀ W, Below WB.heap.size WB W → Duo base W c d k ∧ Brings base W o ∧ Below w.heap.size w W ∧ OpKept WB W) := hDW
  have HS : Hid (base ≤ w.heap.size) := h.cl.size
  have HOR : Hid (∀ w1, OpKept WB w1 → w1.cell? ⟨w.heap.size, 1, none⟩ = some (.int .i64 o.block) ∧ w1.cell? ⟨w.heap.size, 2, none⟩ = some (.int .i64 o.page) ∧ w1.cell? ⟨w.heap.size, 3, none⟩ = some (.slice o.da o.dl o.dc) ∧ w1.cell? ⟨w.heap.size, 4, none⟩ = some (.slice o.pa o.pl o.pc)) := fun w1 hh => by
    rw [hWB] at hh; exact op_row hh
  have hc0 : WB.cell? ⟨w.heap.size, 0, none⟩ = some (.int .i64 o.kind) := by
    rw [hWB]; exact (Row.new w [.int .i64 o.kind, .int .i64 o.block, .int .i64 o.page, .slice o.da o.dl o.dc, .slice o.pa o.pl o.pc] 37).cell (i := 0) rfl
  obtain ⟨hc1, hc2, hc3, hc4⟩ := HOR.out WB (fun _ _ r => r)
  have HP : Hid (c.p = p) := hp
  have HQ : Hid (d.p = q) := hq
  have HK : Hid (k < 9223372036854775807) := hk
  clear h ho hp hq hbW hDW hk
  by_cases k1 : o.kind = 1
  · skip
    have e1 : (o.kind == 1) = true := by simpa using k1
    clear k1
    go_enter Try.func13, Try.ntmps13
    go_wp2_with fail
    rw [← hWB]
    clear hWB
    go_region_held3 (fun w' => w'.cell? ⟨w.heap.size, 1, none⟩ = some (.int .i64 o.block) ∧ w'.cell? ⟨w.heap.size, 2, none⟩ = some (.int .i64 o.page) ∧ w'.cell? ⟨w.heap.size, 3, none⟩ = some (.slice o.da o.dl o.dc) ∧ w'.cell? ⟨w.heap.size, 4, none⟩ = some (.slice o.pa o.pl o.pc)) (first | assumption | go_keep)
      (first
      | (go_at_call 16; obtain ⟨g1, g2, g3, g4⟩ := HDW.out WB.drew (Below.refl _ _).drew; refine (g1.prog1 o g2 p HP.out).mono ?_; rintro e w1 ⟨rfl, hm1⟩; have hS1 := HOR.out w1 (g4.trans hm1.ops); have HM1 : Hid (Mid _ _ _ _ _) := hm1; clear hm1)
      | (go_at_call 32; refine (g1.prog2 HK.out o g2 p q HP.out HQ.out HM1.out).mono ?_; rintro e w2 ⟨rfl, c', d', hw2⟩; have hS2 := HOR.out w2 (g4.trans hw2.ops); have HW2 : Hid (Went _ _ _ _ _ _ _ _) := hw2; have HG3 : Hid (Below _ _ _) := g3; clear hw2))
    all_goals go_wp2
    all_goals go_ret
    all_goals exact ⟨rfl, c', d', HW2.out.from HG3.out HS.out⟩
  by_cases k2 : o.kind = 2
  · skip
    have e1 : (o.kind == 1) = false := by simpa using k1
    have e2 : (o.kind == 2) = true := by simpa using k2
    clear k1 k2
    go_enter Try.func13, Try.ntmps13
    go_wp2_with fail
    rw [← hWB]
    clear hWB
    go_region_held3 (fun w' => w'.cell? ⟨w.heap.size, 1, none⟩ = some (.int .i64 o.block) ∧ w'.cell? ⟨w.heap.size, 2, none⟩ = some (.int .i64 o.page) ∧ w'.cell? ⟨w.heap.size, 3, none⟩ = some (.slice o.da o.dl o.dc) ∧ w'.cell? ⟨w.heap.size, 4, none⟩ = some (.slice o.pa o.pl o.pc)) (first | assumption | go_keep)
      (first
      | (go_at_call 11; obtain ⟨g1, g2, g3, g4⟩ := HDW.out WB.drew (Below.refl _ _).drew; refine (g1.era1 o.block p HP.out).mono ?_; rintro e w1 ⟨rfl, hm1⟩; have hS1 := HOR.out w1 (g4.trans hm1.ops); have HM1 : Hid (Mid _ _ _ _ _) := hm1; clear hm1)
      | (go_at_call 33; refine (g1.era2 HK.out o.block p q HP.out HQ.out HM1.out).mono ?_; rintro e w2 ⟨rfl, c', d', hw2⟩; have hS2 := HOR.out w2 (g4.trans hw2.ops); have HW2 : Hid (Went _ _ _ _ _ _ _ _) := hw2; have HG3 : Hid (Below _ _ _) := g3; clear hw2))
    all_goals go_wp2
    all_goals go_ret
    all_goals exact ⟨rfl, c', d', HW2.out.from HG3.out HS.out⟩
  by_cases k3 : o.kind = 3
  · skip
    have e1 : (o.kind == 1) = false := by simpa using k1
    have e2 : (o.kind == 2) = false := by simpa using k2
    have e3 : (o.kind == 3) = true := by simpa using k3
    clear k1 k2 k3
    go_enter Try.func13, Try.ntmps13
    go_wp2_with fail
    rw [← hWB]
    clear hWB
    go_region_held3 (fun w' => w'.cell? ⟨w.heap.size, 1, none⟩ = some (.int .i64 o.block) ∧ w'.cell? ⟨w.heap.size, 2, none⟩ = some (.int .i64 o.page) ∧ w'.cell? ⟨w.heap.size, 3, none⟩ = some (.slice o.da o.dl o.dc) ∧ w'.cell? ⟨w.heap.size, 4, none⟩ = some (.slice o.pa o.pl o.pc)) (first | assumption | go_keep)
      (first
      | (go_at_call 12; obtain ⟨g1, g2, g3, g4⟩ := HDW.out WB.drew (Below.refl _ _).drew; refine (g1.mar1 o.block p HP.out).mono ?_; rintro e w1 ⟨rfl, hm1⟩; have hS1 := HOR.out w1 (g4.trans hm1.ops); have HM1 : Hid (Mid _ _ _ _ _) := hm1; clear hm1)
      | (go_at_call 34; refine (g1.mar2 o.block p q HP.out HQ.out HM1.out).mono ?_; rintro e w2 ⟨rfl, c', d', hw2⟩; have hS2 := HOR.out w2 (g4.trans hw2.ops); have HW2 : Hid (Went _ _ _ _ _ _ _ _) := hw2; have HG3 : Hid (Below _ _ _) := g3; clear hw2))
    all_goals go_wp2
    all_goals go_ret
    all_goals exact ⟨rfl, c', d', HW2.out.from HG3.out HS.out⟩
  by_cases k4 : o.kind = 4
  · skip
    have e1 : (o.kind == 1) = false := by simpa using k1
    have e2 : (o.kind == 2) = false := by simpa using k2
    have e3 : (o.kind == 3) = false := by simpa using k3
    have e4 : (o.kind == 4) = true := by simpa using k4
    clear k1 k2 k3 k4
    obtain ⟨g1, g2, g3, g4⟩ := HDW.out WB (Below.refl _ _)
    have HG1 : Hid (Duo _ _ _ _ _) := g1
    have HG3 : Hid (Below _ _ _) := g3
    clear g1 g2 g3 g4
    rw [hWB] at HG1 HG3
    go_enter Try.func13, Try.ntmps13
    go_wp2_with (first
      | (go_at_call 35; refine (HG1.out.pow1 p HP.out).mono ?_; rintro e w1 ⟨rfl, hm1⟩; have HM1 : Hid (Mid _ _ _ _ _) := hm1; clear hm1)
      | (go_at_call 36; refine (HG1.out.pow2 p q HP.out HQ.out HM1.out).mono ?_; rintro e w2 ⟨rfl, c', d', hw2⟩; have HW2 : Hid (Went _ _ _ _ _ _ _ _) := hw2; clear hw2))
    go_ret
    exact ⟨rfl, c', d', HW2.out.from HG3.out HS.out⟩
  by_cases k5 : o.kind = 5
  · skip
    have e1 : (o.kind == 1) = false := by simpa using k1
    have e2 : (o.kind == 2) = false := by simpa using k2
    have e3 : (o.kind == 3) = false := by simpa using k3
    have e4 : (o.kind == 4) = false := by simpa using k4
    have e5 : (o.kind == 5) = true := by simpa using k5
    clear k1 k2 k3 k4 k5
    by_cases hy : o.pl ≤ 256 ∧ planOk o.plan
    · have HY : Hid (o.pl ≤ 256 ∧ planOk o.plan) := hy
      clear hy
      go_enter Try.func13, Try.ntmps13
      go_wp2_with fail
      rw [← hWB]
      clear hWB
      go_region_held3 (fun w' => w'.cell? ⟨w.heap.size, 1, none⟩ = some (.int .i64 o.block) ∧ w'.cell? ⟨w.heap.size, 2, none⟩ = some (.int .i64 o.page) ∧ w'.cell? ⟨w.heap.size, 3, none⟩ = some (.slice o.da o.dl o.dc) ∧ w'.cell? ⟨w.heap.size, 4, none⟩ = some (.slice o.pa o.pl o.pc)) (first | assumption | go_keep)
        (first
        | (go_at_call 37; obtain ⟨g1, g2, g3, g4⟩ := HDW.out WB.drew (Below.refl _ _).drew; refine (g1.armY1 o g2 p HP.out HY.out).mono ?_; rintro e w1 ⟨s, rfl, hso, hm1⟩; have HSO : Hid (Sorted _ _) := hso; clear hso; have hS1 := HOR.out w1 (g4.trans hm1.ops); have HM1 : Hid (Mid _ _ _ _ _) := hm1; clear hm1)
        | (go_at_call 38; refine (g1.armY2 o g2 p q HP.out HQ.out HY.out s HSO.out HM1.out).mono ?_; rintro e w2 ⟨rfl, c', d', hw2⟩; have hS2 := HOR.out w2 (g4.trans hw2.ops); have HW2 : Hid (Went _ _ _ _ _ _ _ _) := hw2; have HG3 : Hid (Below _ _ _) := g3; clear hw2))
      all_goals go_wp2
      all_goals go_ret
      all_goals exact ⟨rfl, c', d', HW2.out.from HG3.out HS.out⟩
    · have HY : Hid (¬ (o.pl ≤ 256 ∧ planOk o.plan)) := hy
      clear hy
      go_enter Try.func13, Try.ntmps13
      go_wp2_with fail
      rw [← hWB]
      clear hWB
      go_region_held3 (fun w' => w'.cell? ⟨w.heap.size, 1, none⟩ = some (.int .i64 o.block) ∧ w'.cell? ⟨w.heap.size, 2, none⟩ = some (.int .i64 o.page) ∧ w'.cell? ⟨w.heap.size, 3, none⟩ = some (.slice o.da o.dl o.dc) ∧ w'.cell? ⟨w.heap.size, 4, none⟩ = some (.slice o.pa o.pl o.pc)) (first | assumption | go_keep)
        (first
        | (go_at_call 37; obtain ⟨g1, g2, g3, g4⟩ := HDW.out WB.drew (Below.refl _ _).drew; refine (g1.armN1 o g2 p HP.out HY.out).mono ?_; rintro e w1 ⟨rfl, hm1⟩; have hS1 := HOR.out w1 (g4.trans hm1.ops); have HM1 : Hid (Mid _ _ _ _ _) := hm1; clear hm1)
        | (go_at_call 38; refine (g1.armN2 o g2 p q HP.out HQ.out HY.out HM1.out).mono ?_; rintro e w2 ⟨rfl, c', d', hw2⟩; have hS2 := HOR.out w2 (g4.trans hw2.ops); have HW2 : Hid (Went _ _ _ _ _ _ _ _) := hw2; have HG3 : Hid (Below _ _ _) := g3; clear hw2))
      all_goals go_wp2
      all_goals go_ret
      all_goals exact ⟨rfl, c', d', HW2.out.from HG3.out HS.out⟩
  · have e1 : (o.kind == 1) = false := by simpa using k1
    have e2 : (o.kind == 2) = false := by simpa using k2
    have e3 : (o.kind == 3) = false := by simpa using k3
    have e4 : (o.kind == 4) = false := by simpa using k4
    have e5 : (o.kind == 5) = false := by simpa using k5
    clear k1 k2 k3 k4 k5
    obtain ⟨g1, g2, g3, g4⟩ := HDW.out WB (Below.refl _ _)
    have HG1 : Hid (Duo _ _ _ _ _) := g1
    have HG3 : Hid (Below _ _ _) := g3
    clear g1 g2 g3 g4
    rw [hWB] at HG1 HG3
    go_enter Try.func13, Try.ntmps13
    go_wp2
    go_ret
    exact ⟨rfl, c, d, ⟨⟨HG1.out.cl, HG1.out.dl, HG1.out.rel.mono (Nat.le_succ k), HG1.out.pat⟩, OpKept.later HG3.out, HG3.out.mono HS.out, HP.out, HQ.out⟩⟩
end Go.Proofs.Ytiejkbncpbhcdaa
