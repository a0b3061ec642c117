/-
  What RightPlan says of a plan.
  What Arm does: a plan takes the place of the one that the chip had.
-/
import Derived.Test.YtfcmkkkdccnhgaaGreatDoorKP
import Derived.Deep.LoopGhost
namespace Go.Proofs.YtfcmkkkdccnhgaaGreatDoor
open Go.RowKit
set_option maxRecDepth 10000

theorem planOk_take {l : List Flt} {k : Nat} {f : Flt} (h : planOk (l.take k)) (hf : l[k]? = some f) (ho : f.ok) (hn : ∀ j g, j < k → l[j]? = some g → g.num ≠ f.num) : planOk (l.take (k + 1)) := by
  have hk := (List.getElem?_eq_some_iff.1 hf).1
  have e : l.take (k + 1) = l.take k ++ [f] := by
    rw [List.take_succ_eq_append_getElem hk]
    rw [(List.getElem?_eq_some_iff.1 hf).2]
  rw [e]
  refine ⟨?_, ?_⟩
  · intro g hg
    rcases List.mem_append.1 hg with q | q
    · exact h.1 g q
    · rw [List.mem_singleton.1 q]; exact ho
  · rw [List.map_append, List.nodup_append]
    refine ⟨h.2, by simp, ?_⟩
    intro x hx y hy
    simp at hy
    subst hy
    obtain ⟨g, hg, rfl⟩ := List.mem_map.1 hx
    obtain ⟨j, hj, rfl⟩ := List.mem_iff_getElem.1 hg
    have hj2 : j < k := by simp at hj; omega
    exact hn j _ hj2 (by rw [List.getElem?_eq_getElem (by omega)]; simp)
theorem planOk_bad {l : List Flt} {k : Nat} {f : Flt} (hf : l[k]? = some f) (ho : ¬ f.ok) : ¬ planOk l := fun h => ho (h.1 f (List.mem_of_getElem? hf))
theorem planOk_twice {l : List Flt} {j k : Nat} {f g : Flt} (hf : l[k]? = some f) (hg : l[j]? = some g) (hjk : j < k) (e : g.num = f.num) : ¬ planOk l := by
  intro h
  have h2 := h.2
  rw [List.nodup_iff_pairwise_ne, List.pairwise_iff_getElem] at h2
  obtain ⟨h3, h4⟩ := List.getElem?_eq_some_iff.1 hf
  obtain ⟨h5, h6⟩ := List.getElem?_eq_some_iff.1 hg
  exact h2 j k (by simpa using h5) (by simpa using h3) hjk (by simp [h4, h6, e])
/-- The ways in which a fault is right, or not. -/
theorem ok_ways (f : Flt) : (f.ok ∧ ¬ f.num < 1 ∧ ((f.kind = 1 ∧ (f.torn = 0 ∨ f.torn = 1 ∨ f.torn = 2)) ∨ (f.kind = 2 ∧ f.torn = 0))) ∨
    (¬ f.ok ∧ (f.num < 1 ∨ (¬ f.num < 1 ∧ (f.kind != 1) = true ∧ (f.kind != 2) = true) ∨ (¬ f.num < 1 ∧ (f.kind = 1 ∨ f.kind = 2) ∧ f.torn < 0) ∨ (¬ f.num < 1 ∧ f.kind = 1 ∧ ¬ f.torn < 0 ∧ 2 < f.torn) ∨ (¬ f.num < 1 ∧ f.kind = 2 ∧ ¬ f.torn < 0 ∧ 0 < f.torn))) := by
  unfold Flt.ok
  by_cases h1 : f.num < 1
  · right; exact ⟨by omega, .inl h1⟩
  · by_cases k1 : f.kind = 1
    · by_cases t : f.torn = 0 ∨ f.torn = 1 ∨ f.torn = 2
      · left; exact ⟨⟨by omega, .inl ⟨k1, t⟩⟩, h1, .inl ⟨k1, t⟩⟩
      · right; refine ⟨by omega, ?_⟩
        by_cases t0 : f.torn < 0
        · exact .inr (.inr (.inl ⟨h1, .inl k1, t0⟩))
        · exact .inr (.inr (.inr (.inl ⟨h1, k1, t0, by omega⟩)))
    · by_cases k2 : f.kind = 2
      · by_cases t : f.torn = 0
        · left; exact ⟨⟨by omega, .inr ⟨k2, t⟩⟩, h1, .inr ⟨k2, t⟩⟩
        · right; refine ⟨by omega, ?_⟩
          by_cases t0 : f.torn < 0
          · exact .inr (.inr (.inl ⟨h1, .inr k2, t0⟩))
          · exact .inr (.inr (.inr (.inr ⟨h1, k2, t0, by omega⟩)))
      · right; exact ⟨by omega, .inr (.inl ⟨h1, by simpa using k1, by simpa using k2⟩)⟩
open Classical in
/-- Is the plan right? -/
noncomputable def planB (l : List Flt) : Bool := decide (l.length ≤ 256 ∧ planOk l)
open Classical in
theorem planB_no {l : List Flt} (h : ¬ (l.length ≤ 256 ∧ planOk l)) : planB l = false := by unfold planB; exact decide_eq_false h
open Classical in
theorem planB_yes {l : List Flt} (h : l.length ≤ 256 ∧ planOk l) : planB l = true := by unfold planB; exact decide_eq_true h

end Go.Proofs.YtfcmkkkdccnhgaaGreatDoor
namespace Go.Proofs.YtfcmkkkdccnhgaaGreatDoor
open Go.RowKit
set_option maxRecDepth 10000

theorem arm_no {base : Nat} {w : World} {c : CS} (h : Lies base w c) (p : Nat) (hp : c.p = p) (a : Option Addr) (m cap : Nat) (l : List Flt) (hm : m = l.length) (hr : FRow w a l) (hn : ¬ (m ≤ 256 ∧ planOk l)) :
    Calls Tryz.prog 10 #[.pointer (some ⟨p, 0, none⟩), .slice a m cap] w fun e w' => e = .returned (.int .i64 22) ∧ Lies base w' c ∧ Below w.heap.size w w' := by
  have hs := sched_no a m cap l w hm hr hn
  subst hp
  clear hm hr hn
  go_enter Tryz.func10, Tryz.ntmps10
  go_wp2_with (go_at_call 26; refine hs.mono ?_; rintro e w1 ⟨rfl, hb1⟩)
  go_ret
  have hb := Below.after hb1 (below_new w1 (.cells #[.slice none 0 0, .int .i64 0] 62))
  exact ⟨rfl, h.later hb, hb⟩
set_option maxHeartbeats 1000000 in
theorem arm_yes {base : Nat} {w : World} {c : CS} (h : Lies base w c) (p : Nat) (hp : c.p = p) (a : Option Addr) (m cap : Nat) (l : List Flt) (hm : m = l.length) (hr : FRow w a l) (hy : m ≤ 256 ∧ planOk l) :
    Calls Tryz.prog 10 #[.pointer (some ⟨p, 0, none⟩), .slice a m cap] w fun e w' => e = .returned (.int .i64 0) ∧ ∃ s : List Flt, s.Perm l ∧ s.Pairwise (fun x y => x.num < y.num) ∧ Lies base w' { c with fs := s, steps := 0 } ∧ Kept c.foot w w' := by
  have hs := sched_yes a m cap l w hm hr hy
  subst hp
  have fin : ∀ W s fa fc, s.Perm l → Flts W fa fc s → Below w.heap.size w W → W.cell? ⟨c.p, 8, none⟩ ≠ none ∧ (∃ v8, W.cell? ⟨c.p, 8, none⟩ = some v8) ∧ (∃ v9, W.cell? ⟨c.p, 9, none⟩ = some v9) ∧ W.frozen? ⟨c.p, 8, none⟩ = false ∧ W.frozen? ⟨c.p, 9, none⟩ = false ∧ c.p < W.heap.size ∧
      (Lies base (((W.setCell ⟨c.p, 8, none⟩ (.slice fa m fc)).setCell ⟨c.p, 9, none⟩ (.int .i64 0)).alloc (.cells #[.slice fa m fc, .int .i64 0] 62)) { c with fs := s, steps := 0 } ∧ Kept c.foot w (((W.setCell ⟨c.p, 8, none⟩ (.slice fa m fc)).setCell ⟨c.p, 9, none⟩ (.int .i64 0)).alloc (.cells #[.slice fa m fc, .int .i64 0] 62))) := by
    intro W s fa fc hperm hfl hb
    have hW := h.later hb
    obtain ⟨fa0, fc0, h1, h2⟩ := hW.chip
    have hk : Kept (fun k => k = c.p) W (((W.setCell ⟨c.p, 8, none⟩ (.slice fa m fc)).setCell ⟨c.p, 9, none⟩ (.int .i64 0)).alloc (.cells #[.slice fa m fc, .int .i64 0] 62)) := (((Kept.refl (fun k => k = c.p) W).setCell (p := ⟨c.p, 8, none⟩) rfl _).setCell (p := ⟨c.p, 9, none⟩) rfl _).alloc _
    have c8 : W.cell? ⟨c.p, 8, none⟩ = some (.slice fa0 c.fs.length fc0) := h1.cell (by rfl)
    have c9 : W.cell? ⟨c.p, 9, none⟩ = some (.int .i64 c.steps) := h1.cell (by rfl)
    have hsl : s.length = m := by rw [hm]; exact hperm.length_eq
    have hrow : Row (((W.setCell ⟨c.p, 8, none⟩ (.slice fa m fc)).setCell ⟨c.p, 9, none⟩ (.int .i64 0)).alloc (.cells #[.slice fa m fc, .int .i64 0] 62)) c.p (csCells { c with fs := s, steps := 0 } fa fc) 67 := by
      have := ((h1.set (i := 8) (.slice fa m fc) (by simp [csCells])).set (i := 9) (.int .i64 0) (by simp [csCells])).alloc (.cells #[.slice fa m fc, .int .i64 0] 62)
      rw [← hsl] at this ⊢
      exact this
    have hgood : Good { c with fs := s, steps := 0 } := ⟨hW.good.len, hW.good.plen, hW.good.qc, hW.good.gs, hW.good.dat, fun f hf => hy.2.1 f (hperm.mem_iff.1 hf)⟩
    obtain ⟨r1, r2, _⟩ := hW.step0 (c' := { c with fs := s, steps := 0 }) rfl rfl rfl hgood hk ⟨fa, fc, hrow, hfl.kept hk (fault_block h1 hk)⟩
    exact ⟨by rw [c8]; simp, ⟨_, c8⟩, ⟨_, c9⟩, h1.frozen 8, h1.frozen 9, h1.lt, r1, (Kept.of_below hb).trans r2⟩
  have HF : Hid _ := fin
  clear hm hr hy fin
  go_enter Tryz.func10, Tryz.ntmps10
  go_wp2_with (go_at_call 26; refine hs.mono ?_; rintro e w1 ⟨s, fa, fc, p1, p2, rfl, p3, hb1⟩; obtain ⟨_, ⟨v8, q8⟩, ⟨v9, q9⟩, q3, q4, q5, q6, q7⟩ := HF.out w1 s fa fc p1 p3 hb1; have hq6 : Hid _ := q6; have hq7 : Hid _ := q7; clear q6 q7)
  go_ret
  exact ⟨rfl, s, p1, p2, hq6.out, hq7.out⟩
end Go.Proofs.YtfcmkkkdccnhgaaGreatDoor
