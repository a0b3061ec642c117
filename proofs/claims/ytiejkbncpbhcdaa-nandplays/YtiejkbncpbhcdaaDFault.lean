/-
  What fault does with the document's chip.
-/
import Derived.Test.YtiejkbncpbhcdaaDMark
namespace Go.Proofs.Ytiejkbncpbhcdaa
open Go.RowKit

/-- The fault of an operation, as the document finds it. -/
def findF (s : Int) : List Flt → Flt
  | [] => ⟨0, 0, 2⟩
  | g :: l => if g.num = s then g else findF s l
theorem findF_here {s : Int} {l : List Flt} {k : Nat} {f : Flt} (hk : l[k]? = some f) (hf : f.num = s) (h : ∀ j g, j < k → l[j]? = some g → g.num ≠ s) : findF s l = f := by
  induction l generalizing k with
  | nil => simp at hk
  | cons a l ih =>
    unfold findF
    cases k with
    | zero => simp at hk; subst hk; rw [if_pos hf]
    | succ k =>
      rw [if_neg (h 0 a (by omega) rfl)]
      exact ih (by simpa using hk) (fun j g hj hg => h (j + 1) g (by omega) (by simpa using hg))
theorem findF_none {s : Int} {l : List Flt} (h : ∀ (j : Nat) (g : Flt), l[j]? = some g → g.num ≠ s) : findF s l = ⟨0, 0, 2⟩ := by
  induction l with
  | nil => rfl
  | cons a l ih =>
    unfold findF
    rw [if_neg (h 0 a rfl)]
    exact ih (fun j g hg => h (j + 1) g (by simpa using hg))
def DS.counted (d : DS) : DS := { d with ops := wrap64 (d.ops + 1) }
def DS.flt (d : DS) : Flt := findF (wrap64 (wrap64 (d.ops + 1) - d.since)) d.plan
theorem fault_results (tmps : Array Value) (R : Nat) (v0 v1 v2 : Value) (W : World) (h2 : tmps[2]?.getD undef = .pointer (some ⟨R, 0, none⟩)) (t0 : W.cell? ⟨R, 0, none⟩ = some v0) (t1 : W.cell? ⟨R, 1, none⟩ = some v1) (t2 : W.cell? ⟨R, 2, none⟩ = some v2) :
    (results Try.f64 tmps).run Try.prog W = .ok (.agg #[v0, v1, v2]) W := by
  simp [results, Try.f64, go_sem, h2, t0, t1, t2]
set_option maxHeartbeats 4000000 in
theorem d_fault {base : Nat} {w : World} {d : DS} (h : DLies base w d) :
    Calls Try.prog 64 #[.pointer (some ⟨d.p, 0, none⟩)] w fun e w' => e = .returned (.agg #[.int .i64 d.flt.num, .int .i64 d.flt.kind, .int .i64 d.flt.torn]) ∧ DLies base w' d.counted ∧ Kept (fun k => k = d.p) w w' := by
  have c8 : w.cell? ⟨d.p, 8, none⟩ = some (.int .i64 d.ops) := h.chip.cell (by rfl)
  have f8 := h.chip.frozen 8
  obtain ⟨hm, hm2, _⟩ := h.good.pln
  have hp : d.p < w.heap.size := h.chip.lt
  have HC : Hid (∀ W, W = (w.setCell ⟨d.p, 8, none⟩ (.int .i64 (wrap64 (d.ops + 1)))).alloc (.cells #[.int .i64 0, .int .i64 0, .int .i64 0] 78) → DLies base W d.counted ∧ Kept (fun k => k = d.p) w W ∧ Row W w.heap.size [.int .i64 0, .int .i64 0, .int .i64 0] 78) := by
    rintro W rfl
    have hk : Kept (fun k => k = d.p) w (w.setCell ⟨d.p, 8, none⟩ (.int .i64 (wrap64 (d.ops + 1)))) := (Kept.refl (fun k => k = d.p) _).setCell (p := ⟨d.p, 8, none⟩) rfl _
    have h1 := (h.step0 (d' := d.counted) rfl rfl ⟨rfl, rfl⟩ rfl ⟨h.good.len, h.good.plen, h.good.qc, h.good.gs, h.good.dat, h.good.pln⟩ hk (h.chip.set (i := 8) (.int .i64 (wrap64 (d.ops + 1))) (by simp [dsCells]))).1
    refine ⟨h1.later (below_new _ _), hk.alloc _, ?_⟩
    have := Row.new (w.setCell ⟨d.p, 8, none⟩ (.int .i64 (wrap64 (d.ops + 1)))) [.int .i64 0, .int .i64 0, .int .i64 0] 78
    simpa using this
  have HFin : Hid (∀ W v0 v1 v2, DLies base W d.counted → Kept (fun k => k = d.p) w W → Row W w.heap.size [.int .i64 0, .int .i64 0, .int .i64 0] 78 →
      DLies base (((W.setCell ⟨w.heap.size, 0, none⟩ v0).setCell ⟨w.heap.size, 1, none⟩ v1).setCell ⟨w.heap.size, 2, none⟩ v2) d.counted ∧ Kept (fun k => k = d.p) w (((W.setCell ⟨w.heap.size, 0, none⟩ v0).setCell ⟨w.heap.size, 1, none⟩ v1).setCell ⟨w.heap.size, 2, none⟩ v2) ∧ Row (((W.setCell ⟨w.heap.size, 0, none⟩ v0).setCell ⟨w.heap.size, 1, none⟩ v1).setCell ⟨w.heap.size, 2, none⟩ v2) w.heap.size [v0, v1, v2] 78) := by
    intro W v0 v1 v2 h1 h2 h3
    have hkR : Kept (fun k => k = w.heap.size) W (((W.setCell ⟨w.heap.size, 0, none⟩ v0).setCell ⟨w.heap.size, 1, none⟩ v1).setCell ⟨w.heap.size, 2, none⟩ v2) :=
      (((Kept.refl (fun k => k = w.heap.size) W).setCell (p := ⟨w.heap.size, 0, none⟩) rfl _).setCell (p := ⟨w.heap.size, 1, none⟩) rfl _).setCell (p := ⟨w.heap.size, 2, none⟩) rfl _
    refine ⟨h1.kept hkR ?_ (fun b cs hb e => hb.ne h3 (by decide) e) (fun b o e hl q => ?_), ?_, ((h3.set (i := 0) v0 (by simp)).set (i := 1) v1 (by simp)).set (i := 2) v2 (by simp)⟩
    · rintro k (rfl | rfl | hk) e
      · exact h1.chip.ne h3 (by decide) e
      · exact h1.bks.ne h3 (by decide) e
      · obtain ⟨x, hx, rfl⟩ := List.mem_map.1 hk
        exact (h1.pgs x hx).1.ne h3 (by decide) e
    · have := (h.plan.2 b o e hl).2
      omega
    · exact ((h2.setNew (p := ⟨w.heap.size, 0, none⟩) (Nat.le_refl _) _).setNew (p := ⟨w.heap.size, 1, none⟩) (Nat.le_refl _) _).setNew (p := ⟨w.heap.size, 2, none⟩) (Nat.le_refl _) _
  have HG : Hid (∀ W, DLies base W d.counted → W.cell? ⟨d.p, 6, none⟩ = some (.slice d.pa d.pl d.pc) ∧ W.cell? ⟨d.p, 7, none⟩ = some (.int .i64 d.since) ∧ W.cell? ⟨d.p, 8, none⟩ = some (.int .i64 (wrap64 (d.ops + 1))) ∧ FRow W d.pa d.plan) :=
    fun W hW => ⟨hW.chip.cell (i := 6) rfl, hW.chip.cell (i := 7) rfl, hW.chip.cell (i := 8) rfl, hW.plan.1⟩
  have HM : Hid (d.pl = d.plan.length) := hm
  obtain ⟨s, hs⟩ : ∃ s, s = wrap64 (wrap64 (d.ops + 1) - d.since) := ⟨_, rfl⟩
  have HS : Hid (s = wrap64 (wrap64 (d.ops + 1) - d.since)) := hs
  have hft : d.flt = findF s d.plan := by unfold DS.flt; rw [← hs]
  rw [hft]
  clear hs hft hm h
  generalize hpp : d.p = p at *
  generalize hpa : d.pa = pa at *
  generalize hpc : d.pc = pc at *
  generalize hpl : d.pl = m at *
  generalize hop : d.ops = ops at *
  generalize hsi : d.since = since at *
  clear hpp hpa hpc hpl hop hsi
  go_enter Try.func64, Try.ntmps64
  go_wp2
  obtain ⟨hd1, hk1, hr1⟩ := HC.out _ rfl
  go_loopg [3] m (fun gm s3 wr => ∃ k : Nat, k ≤ m ∧ gm = m - k ∧ s3 = .int .i64 k ∧ Hid (∀ j g, j < k → d.plan[j]? = some g → g.num ≠ s) ∧ Hid (DLies base wr d.counted) ∧ Hid (Kept (fun k => k = p) w wr) ∧ Row wr w.heap.size [.int .i64 0, .int .i64 0, .int .i64 0] 78)
  case atStart => exact ⟨0, Nat.zero_le _, rfl, rfl, fun j g hj => absurd hj (by omega), hd1, hk1, hr1⟩
  case round =>
    obtain ⟨k, hk, rfl, rfl, HN, HD, HK, hrr⟩ := hrel
    have r0 := hrr.cell (i := 0) rfl
    have r1 := hrr.cell (i := 1) rfl
    have r2 := hrr.cell (i := 2) rfl
    have q0 := hrr.frozen 0
    have q1 := hrr.frozen 1
    have q2 := hrr.frozen 2
    obtain ⟨c6, c7, c8, hrow⟩ := HG.out wr HD.out
    by_cases hlt : k < m
    · have hli : (k : Int) < (m : Int) := by omega
      obtain ⟨f, hf⟩ : ∃ f, d.plan[k]? = some f := ⟨d.plan[k]'(by rw [← HM.out]; exact hlt), List.getElem?_eq_getElem _⟩
      obtain ⟨b, off, rfl, hc⟩ : ∃ b off, pa = some ⟨b, off, none⟩ ∧ ∀ i f, d.plan[i]? = some f → wr.cell? ⟨b, off + i * 3, none⟩ = some (.int .i64 f.num) ∧ wr.cell? ⟨b, off + i * 3 + 1, none⟩ = some (.int .i64 f.kind) ∧ wr.cell? ⟨b, off + i * 3 + 2, none⟩ = some (.int .i64 f.torn) := by
        rcases hrow with e | e
        · rw [e] at hf; simp at hf
        · exact e
      obtain ⟨g0, g1, g2⟩ := hc k f hf
      have HF : Hid (d.plan[k]? = some f) := hf
      by_cases hn : f.num = s
      · have e1 : (f.num == wrap64 (wrap64 (ops + 1) - since)) = true := by rw [← HS.out]; simpa using hn
        have he : findF s d.plan = f := findF_here hf hn HN.out
        have HE : Hid (findF s d.plan = f) := he
        clear hc hf hn he hrow
        go_wp2
        go_quiet (fail)
        go_wp2
        obtain ⟨z1, z2, z3⟩ := HFin.out (wr.drewN nq) (.int .i64 f.num) (.int .i64 f.kind) (.int .i64 f.torn) (HD.out.later (below_drawn _ _)) (HK.out.drewN _) (hrr.drewN _)
        have t0 := z3.cell (i := 0) rfl
        have t1 := z3.cell (i := 1) rfl
        have t2 := z3.cell (i := 2) rfl
        rw [HE.out]
        refine bodyPost_ret (v := .agg #[.int .i64 f.num, .int .i64 f.kind, .int .i64 f.torn]) ?_ rfl ⟨rfl, z1, z2⟩
        exact fault_results _ w.heap.size (.int .i64 f.num) (.int .i64 f.kind) (.int .i64 f.torn) _ rfl t0 t1 t2
      · have e1 : (f.num == wrap64 (wrap64 (ops + 1) - since)) = false := by rw [← HS.out]; simpa using hn
        have HNn : Hid (f.num ≠ s) := hn
        clear hc hf hn hrow g1 g2
        go_wp2
        go_quiet (fail)
        go_wp2
        go_roundg (m - (k + 1))
        case measure => omega
        case rel =>
          refine ⟨k + 1, by omega, rfl, rfl, ?_, HD.out.later (below_drawn _ _), HK.out.drewN _, hrr.drewN _⟩
          intro j g hj hg
          by_cases hjk : j = k
          · subst hjk
            have := HF.out.symm.trans hg
            cases this
            exact HNn.out
          · exact HN.out j g (by omega) hg
    · obtain rfl : k = m := by omega
      have he : findF s d.plan = ⟨0, 0, 2⟩ := findF_none (fun j g hg => HN.out j g (by have := (List.getElem?_eq_some_iff.1 hg).1; rw [HM.out]; exact this) hg)
      have HE : Hid (findF s d.plan = ⟨0, 0, 2⟩) := he
      clear hrow he
      go_wp2
      obtain ⟨z1, z2, z3⟩ := HFin.out wr (.int .i64 0) (.int .i64 0) (.int .i64 2) HD.out HK.out hrr
      have t0 := z3.cell (i := 0) rfl
      have t1 := z3.cell (i := 1) rfl
      have t2 := z3.cell (i := 2) rfl
      rw [HE.out]
      refine bodyPost_ret (v := .agg #[.int .i64 0, .int .i64 0, .int .i64 2]) ?_ rfl ⟨rfl, z1, z2⟩
      exact fault_results _ w.heap.size (.int .i64 0) (.int .i64 0) (.int .i64 2) _ rfl t0 t1 t2
end Go.Proofs.Ytiejkbncpbhcdaa
