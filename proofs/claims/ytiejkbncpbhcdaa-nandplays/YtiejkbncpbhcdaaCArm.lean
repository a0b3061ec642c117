/-
  What Arm does: a plan takes the place of the one that the chip had.
-/
import Derived.Test.YtiejkbncpbhcdaaCAlive
namespace Go.Proofs.Ytiejkbncpbhcdaa
open Go.RowKit

theorem arm_no {base : Nat} {w : World} {c : CS} (h : Lies base w c) (p : Nat) (hp : c.p = p) (a : Option Addr) (m cap : Nat) (l : List Flt) (hm : m = l.length) (hr : FRow w a l) (hn : ¬ (m ≤ 256 ∧ planOk l)) :
    Calls Try.prog 37 #[.pointer (some ⟨p, 0, none⟩), .slice a m cap] w fun e w' => e = .returned (.int .i64 22) ∧ Lies base w' c ∧ Below w.heap.size w w' := by
  have hs := sched_no a m cap l w hm hr hn
  subst hp
  clear hm hr hn
  go_enter Try.func37, Try.ntmps37
  go_wp2_with (go_at_call 17; refine hs.mono ?_; rintro e w1 ⟨rfl, hb1⟩)
  go_ret
  have hb := Below.after hb1 (below_new w1 (.cells #[.slice none 0 0, .int .i64 0] 47))
  exact ⟨rfl, h.later hb, hb⟩
set_option maxHeartbeats 1000000 in
theorem arm_yes {base : Nat} {w : World} {c : CS} (h : Lies base w c) (p : Nat) (hp : c.p = p) (a : Option Addr) (m cap : Nat) (l : List Flt) (hm : m = l.length) (hr : FRow w a l) (hy : m ≤ 256 ∧ planOk l) :
    Calls Try.prog 37 #[.pointer (some ⟨p, 0, none⟩), .slice a m cap] w fun e w' => e = .returned (.int .i64 0) ∧ ∃ s : List Flt, s.Perm l ∧ s.Pairwise (fun x y => x.num < y.num) ∧ Lies base w' { c with fs := s, steps := 0 } ∧ Kept c.foot w w' := by
  have hs := sched_yes a m cap l w hm hr hy
  subst hp
  have fin : ∀ W s fa fc, s.Perm l → Flts W fa fc s → Below w.heap.size w W → W.cell? ⟨c.p, 8, none⟩ ≠ none ∧ (∃ v8, W.cell? ⟨c.p, 8, none⟩ = some v8) ∧ (∃ v9, W.cell? ⟨c.p, 9, none⟩ = some v9) ∧ W.frozen? ⟨c.p, 8, none⟩ = false ∧ W.frozen? ⟨c.p, 9, none⟩ = false ∧ c.p < W.heap.size ∧
      (Lies base (((W.setCell ⟨c.p, 8, none⟩ (.slice fa m fc)).setCell ⟨c.p, 9, none⟩ (.int .i64 0)).alloc (.cells #[.slice fa m fc, .int .i64 0] 47)) { c with fs := s, steps := 0 } ∧ Kept c.foot w (((W.setCell ⟨c.p, 8, none⟩ (.slice fa m fc)).setCell ⟨c.p, 9, none⟩ (.int .i64 0)).alloc (.cells #[.slice fa m fc, .int .i64 0] 47))) := by
    intro W s fa fc hperm hfl hb
    have hW := h.later hb
    obtain ⟨fa0, fc0, h1, h2⟩ := hW.chip
    have hk : Kept (fun k => k = c.p) W (((W.setCell ⟨c.p, 8, none⟩ (.slice fa m fc)).setCell ⟨c.p, 9, none⟩ (.int .i64 0)).alloc (.cells #[.slice fa m fc, .int .i64 0] 47)) := (((Kept.refl (fun k => k = c.p) W).setCell (p := ⟨c.p, 8, none⟩) rfl _).setCell (p := ⟨c.p, 9, none⟩) rfl _).alloc _
    have c8 : W.cell? ⟨c.p, 8, none⟩ = some (.slice fa0 c.fs.length fc0) := h1.cell (by rfl)
    have c9 : W.cell? ⟨c.p, 9, none⟩ = some (.int .i64 c.steps) := h1.cell (by rfl)
    have hsl : s.length = m := by rw [hm]; exact hperm.length_eq
    have hrow : Row (((W.setCell ⟨c.p, 8, none⟩ (.slice fa m fc)).setCell ⟨c.p, 9, none⟩ (.int .i64 0)).alloc (.cells #[.slice fa m fc, .int .i64 0] 47)) c.p (csCells { c with fs := s, steps := 0 } fa fc) 52 := by
      have := ((h1.set (i := 8) (.slice fa m fc) (by simp [csCells])).set (i := 9) (.int .i64 0) (by simp [csCells])).alloc (.cells #[.slice fa m fc, .int .i64 0] 47)
      rw [← hsl] at this ⊢
      exact this
    have hgood : Good { c with fs := s, steps := 0 } := ⟨hW.good.len, hW.good.plen, hW.good.qc, hW.good.gs, hW.good.dat, fun f hf => hy.2.1 f (hperm.mem_iff.1 hf)⟩
    obtain ⟨r1, r2, _⟩ := hW.step0 (c' := { c with fs := s, steps := 0 }) rfl rfl rfl hgood hk ⟨fa, fc, hrow, hfl.kept hk (fault_block h1 hk)⟩
    exact ⟨by rw [c8]; simp, ⟨_, c8⟩, ⟨_, c9⟩, h1.frozen 8, h1.frozen 9, h1.lt, r1, (Kept.of_below hb).trans r2⟩
  have HF : Hid _ := fin
  clear hm hr hy fin
  go_enter Try.func37, Try.ntmps37
  go_wp2_with (go_at_call 17; refine hs.mono ?_; rintro e w1 ⟨s, fa, fc, p1, p2, rfl, p3, hb1⟩; obtain ⟨_, ⟨v8, q8⟩, ⟨v9, q9⟩, q3, q4, q5, q6, q7⟩ := HF.out w1 s fa fc p1 p3 hb1; have hq6 : Hid _ := q6; have hq7 : Hid _ := q7; clear q6 q7)
  go_ret
  exact ⟨rfl, s, p1, p2, hq6.out, hq7.out⟩
end Go.Proofs.Ytiejkbncpbhcdaa
