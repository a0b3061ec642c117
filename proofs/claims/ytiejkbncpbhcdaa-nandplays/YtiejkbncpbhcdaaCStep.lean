/-
  What step and operate do: an operation begins; its fault.
-/
import Derived.Test.YtiejkbncpbhcdaaCView
import Derived.BigQuiet
namespace Go.Proofs.Ytiejkbncpbhcdaa
open Go.RowKit

/-- The operation's fault, and what is left of the plan. -/
def stepF (s : Int) : List Flt → Flt × List Flt
  | [] => (⟨0, 0, 0⟩, [])
  | f :: l => if f.num = s then (f, l) else (⟨0, 0, 0⟩, f :: l)
/-- What is known of the faults of a plan, as they lie. -/
structure Flts (w : World) (fa : Option Addr) (fc : Nat) (l : List Flt) : Prop where
  cap : l.length ≤ fc
  max : fc ≤ maxLen
  blk : l = [] ∨ ∃ b off, fa = some ⟨b, off, none⟩ ∧ ∃ cs, Row w b cs 78
  row : FRow w fa l
theorem Flts.kept {S : Nat → Prop} {w w' : World} {fa : Option Addr} {fc : Nat} {l : List Flt} (h : Flts w fa fc l) (hk : Kept S w w') (hs : ∀ b cs, Row w b cs 78 → ¬ S b) : Flts w' fa fc l := by
  refine ⟨h.cap, h.max, ?_, ?_⟩
  · rcases h.blk with e | ⟨b, off, e, cs, hr⟩
    · exact .inl e
    · exact .inr ⟨b, off, e, cs, hr.kept hk (hs b cs hr)⟩
  · rcases h.row with e | ⟨b, off, e, hc⟩
    · exact .inl e
    · refine .inr ⟨b, off, e, fun i f hf => ?_⟩
      rcases h.blk with e2 | ⟨b2, off2, e2, cs, hr⟩
      · subst e2; simp at hf
      · rw [e] at e2
        obtain ⟨rfl, rfl⟩ : b = b2 ∧ off = off2 := by simpa using e2
        have key : ∀ i, w'.cell? ⟨b, i, none⟩ = w.cell? ⟨b, i, none⟩ := fun i => World.cell?_of_block (w := w) (hk.block b hr.lt (hs b cs hr))
        rw [key, key, key]
        exact hc i f hf
theorem Flts.tail {w : World} {b off fc : Nat} {f : Flt} {l : List Flt} (h : Flts w (some ⟨b, off, none⟩) fc (f :: l)) : Flts w (if fc = 1 then some ⟨b, off, none⟩ else some ⟨b, off + 3, none⟩) (fc - 1) l := by
  have hc := h.cap
  have hm := h.max
  simp at hc
  refine ⟨by omega, by omega, ?_, ?_⟩
  · by_cases h1 : fc = 1
    · exact .inl (List.eq_nil_of_length_eq_zero (by omega))
    · rw [if_neg h1]
      rcases h.blk with e | ⟨b2, off2, e, hr⟩
      · cases e
      · obtain ⟨rfl, rfl⟩ : b = b2 ∧ off = off2 := by simpa using e
        exact .inr ⟨b, _, rfl, hr⟩
  · by_cases h1 : fc = 1
    · exact .inl (List.eq_nil_of_length_eq_zero (by omega))
    · rw [if_neg h1]
      rcases h.row with e | ⟨b2, off2, e, hr⟩
      · cases e
      · obtain ⟨rfl, rfl⟩ : b = b2 ∧ off = off2 := by simpa using e
        refine .inr ⟨b, _, rfl, fun i g hg => ?_⟩
        have := hr (i + 1) g (by simpa using hg)
        rw [show off + 3 + i * 3 = off + (i + 1) * 3 by omega]
        exact this
/-- What an operation makes of the chip's plan. -/
def CS.stepped (c : CS) : CS := { c with steps := wrap64 (c.steps + 1), fs := (stepF (wrap64 (c.steps + 1)) c.fs).2 }

theorem fault_block {w w' : World} {p : Nat} {cs : List Value} (hr : Row w p cs 52) (_ : Kept (fun k => k = p) w w') : ∀ b cs, Row w b cs 78 → ¬ (fun k => k = p) b := by
  intro b cs h e
  exact h.ne hr (by decide) e

set_option maxHeartbeats 4000000 in
theorem step_any (c : CS) (fa : Option Addr) (fc : Nat) (w : World) (hr : Row w c.p (csCells c fa fc) 52) (hfl : Flts w fa fc c.fs) :
    Calls Try.prog 61 #[.pointer (some ⟨c.p, 8, none⟩)] w fun e w' => e = .returned (.agg (flCells (stepF (wrap64 (c.steps + 1)) c.fs).1).toArray) ∧ ∃ fa' fc', Row w' c.p (csCells c.stepped fa' fc') 52 ∧ Flts w' fa' fc' c.stepped.fs ∧ Kept (fun k => k = c.p) w w' := by
  obtain ⟨s, hs⟩ : ∃ s, s = wrap64 (c.steps + 1) := ⟨_, rfl⟩
  have c8 : w.cell? ⟨c.p, 8, none⟩ = some (.slice fa c.fs.length fc) := hr.cell (by rfl)
  have c9 : w.cell? ⟨c.p, 9, none⟩ = some (.int .i64 c.steps) := hr.cell (by rfl)
  have f8 := hr.frozen 8
  have f9 := hr.frozen 9
  have hp : c.p < w.heap.size := hr.lt
  have hcap := hfl.cap
  have hmax := hfl.max
  unfold maxLen at hmax
  rcases hl : c.fs with _ | ⟨f, l⟩
  · have hst : c.stepped = { c with steps := s, fs := [] } := by unfold CS.stepped; rw [hl, ← hs]; rfl
    have hr2 : Row w c.p (csCells { c with fs := [] } fa fc) 52 := by rw [show ({ c with fs := [] } : CS) = c by rw [← hl]]; exact hr
    have HF : Hid (Flts w fa fc []) := by rw [← hl]; exact hfl
    rw [hst, ← hs]
    rw [hl] at c8 hcap
    have HS : Hid (s = wrap64 (c.steps + 1)) := hs
    have HR := hr2
    have HR0 := hr
    have fin : ∀ W', Row W' c.p (csCells { c with steps := s, fs := [] } fa fc) 52 → Kept (fun k => k = c.p) w W' → ∃ fa' fc', Row W' c.p (csCells { c with steps := s, fs := [] } fa' fc') 52 ∧ Flts W' fa' fc' [] ∧ Kept (fun k => k = c.p) w W' :=
      fun W' h1 h2 => ⟨fa, fc, h1, HF.out.kept h2 (fault_block HR0 h2), h2⟩
    generalize c.p = p at *
    generalize c.steps = t at *
    clear hr hfl hl hst hs
    go_enter Try.func61, Try.ntmps61
    go_wp2
    go_quiet (fail)
    go_wp2
    refine bodyPost_ret (v := .agg #[.int .i64 0, .int .i64 0, .int .i64 0]) ?_ rfl ⟨rfl, fin _ ?_ ?_⟩
    · simp [results, Try.f61, go_sem]
    · have := HR.set (i := 9) (.int .i64 (wrap64 (t + 1))) (by simp [csCells])
      rw [← HS.out] at this ⊢
      exact (((((this.alloc _).drewN _).setNew (w := w) _ _ hp (Nat.le_refl _)).setNew (w := w) _ _ hp (Nat.le_refl _)).setNew (w := w) _ _ hp (Nat.le_refl _))
    · exact ((((((Kept.refl (fun k => k = p) w).setCell (p := ⟨p, 9, none⟩) rfl _).alloc _).drewN _).setNew (p := ⟨w.heap.size, 0, none⟩) (Nat.le_refl _) _).setNew (p := ⟨w.heap.size, 1, none⟩) (Nat.le_refl _) _).setNew (p := ⟨w.heap.size, 2, none⟩) (Nat.le_refl _) _
  · have hne : c.fs ≠ [] := by rw [hl]; simp
    obtain ⟨b, off, rfl, hfc⟩ : ∃ b off, fa = some ⟨b, off, none⟩ ∧ ∀ i g, (f :: l)[i]? = some g → w.cell? ⟨b, off + i * 3, none⟩ = some (.int .i64 g.num) ∧ w.cell? ⟨b, off + i * 3 + 1, none⟩ = some (.int .i64 g.kind) ∧ w.cell? ⟨b, off + i * 3 + 2, none⟩ = some (.int .i64 g.torn) := by
      rcases hfl.row with h | h
      · exact absurd h hne
      · rw [← hl]; exact h
    obtain ⟨g0, g1, g2⟩ := hfc 0 f rfl
    simp only [Nat.zero_mul, Nat.add_zero] at g0 g1 g2
    have hbp : b ≠ c.p := by
      rcases hfl.blk with h | ⟨b2, off2, e, cs, hb⟩
      · exact absurd h hne
      · obtain ⟨rfl, rfl⟩ : b = b2 ∧ off = off2 := by simpa using e
        exact hb.ne hr (by decide)
    have hb : b < w.heap.size := World.block_lt_of_cell? w _ g0
    rw [hl] at c8 hcap
    simp only [List.length_cons] at c8 hcap
    have hr2 : Row w c.p (csCells { c with fs := f :: l } (some ⟨b, off, none⟩) fc) 52 := by rw [show ({ c with fs := f :: l } : CS) = c by rw [← hl]]; exact hr
    have HF : Hid (Flts w (some ⟨b, off, none⟩) fc (f :: l)) := by rw [← hl]; exact hfl
    have HR0 := hr
    have HS : Hid (s = wrap64 (c.steps + 1)) := hs
    by_cases hn : f.num = s
    · have hst : c.stepped = { c with steps := s, fs := l } := by unfold CS.stepped; rw [hl, ← hs]; simp [stepF, hn]
      have hsf : (stepF s (f :: l)).1 = f := by simp [stepF, hn]
      rw [hst, ← hs, hsf]
      have HT := HF.out.tail
      obtain ⟨fa2, hfa2⟩ : ∃ fa2, fa2 = (if fc = 1 then some (⟨b, off, none⟩ : Addr) else some ⟨b, off + 3, none⟩) := ⟨_, rfl⟩
      have fin : ∀ W', Row W' c.p (csCells { c with steps := s, fs := l } fa2 (fc - 1)) 52 → Kept (fun k => k = c.p) w W' → ∃ fa' fc', Row W' c.p (csCells { c with steps := s, fs := l } fa' fc') 52 ∧ Flts W' fa' fc' l ∧ Kept (fun k => k = c.p) w W' := by
        intro W' h1 h2
        have := HT.kept h2 (fault_block HR0 h2)
        rw [← hfa2] at this
        exact ⟨fa2, fc - 1, h1, this, h2⟩
      obtain ⟨u0, hu0⟩ : ∃ u0, u0 = f.num := ⟨_, rfl⟩
      obtain ⟨u1, hu1⟩ : ∃ u1, u1 = f.kind := ⟨_, rfl⟩
      obtain ⟨u2, hu2⟩ : ∃ u2, u2 = f.torn := ⟨_, rfl⟩
      have hfl2 : flCells f = [.int .i64 u0, .int .i64 u1, .int .i64 u2] := by rw [hu0, hu1, hu2]; rfl
      rw [hfl2]
      rw [← hu0] at g0 hn
      rw [← hu1] at g1
      rw [← hu2] at g2
      obtain ⟨m, hm⟩ : ∃ m, m = l.length := ⟨_, rfl⟩
      have HM : Hid (m = l.length) := hm
      rw [← hm] at c8 hcap
      clear hu0 hu1 hu2 hfl2 hsf HT hm hfc
      have HN : Hid (u0 = s) := hn
      have HA : Hid (fa2 = (if fc = 1 then some (⟨b, off, none⟩ : Addr) else some ⟨b, off + 3, none⟩)) := hfa2
      have e1 : (u0 != wrap64 (c.steps + 1)) = false := by rw [← hs, hn]; simp
      generalize c.p = p at *
      generalize c.steps = t at *
      clear hr hfl hl hst hs hn hfa2
      have walk : ∀ off2, fa2 = some ⟨b, off2, none⟩ → (fc = 1 → off2 = off) → (¬ fc = 1 → off2 = off + 3) → Calls Try.prog 61 #[.pointer (some ⟨p, 8, none⟩)] w fun e w' => e = .returned (.agg #[.int .i64 u0, .int .i64 u1, .int .i64 u2]) ∧ ∃ fa' fc', Row w' p (csCells { c with p := p, steps := s, fs := l } fa' fc') 52 ∧ Flts w' fa' fc' l ∧ Kept (fun k => k = p) w w' := by
        intro off2 ha2 ho1 ho3
        have HA2 : Hid (fa2 = some ⟨b, off2, none⟩) := ha2
        clear ha2
        by_cases h1 : fc = 1
        · have HO : Hid (off2 = off) := ho1 h1
          clear ho1 ho3
          obtain rfl : m = 0 := by omega
          subst h1
          obtain rfl : l = [] := List.eq_nil_of_length_eq_zero HM.out.symm
          go_enter Try.func61, Try.ntmps61
          go_wp2
          go_quiet (fail)
          go_wp2
          refine bodyPost_ret (v := .agg #[.int .i64 u0, .int .i64 u1, .int .i64 u2]) ?_ rfl ⟨rfl, fin _ ?_ ?_⟩
          · simp [results, Try.f61, go_sem]
          · have h9 := hr2.set (i := 9) (.int .i64 (wrap64 (t + 1))) (by simp [csCells])
            have h8 := ((h9.alloc (Obj.cells #[Value.int IntKind.i64 0, Value.int IntKind.i64 0, Value.int IntKind.i64 0] 78)).drewN nq).set (i := 8) (.slice (some ⟨b, off, none⟩) 0 0) (by simp [csCells])
            rw [HA2.out, HO.out, HS.out]
            exact (((h8.setNew (w := w) _ _ hp (Nat.le_refl _)).setNew (w := w) _ _ hp (Nat.le_refl _)).setNew (w := w) _ _ hp (Nat.le_refl _)).alloc _
          · exact ((((((((Kept.refl (fun k => k = p) w).setCell (p := ⟨p, 9, none⟩) rfl _).alloc _).drewN _).setCell (p := ⟨p, 8, none⟩) rfl _).setNew (p := ⟨w.heap.size, 0, none⟩) (Nat.le_refl _) _).setNew (p := ⟨w.heap.size, 1, none⟩) (Nat.le_refl _) _).setNew (p := ⟨w.heap.size, 2, none⟩) (Nat.le_refl _) _).alloc _
        · have HO : Hid (off2 = off + 3) := ho3 h1
          clear ho1 ho3
          go_enter Try.func61, Try.ntmps61
          go_wp2
          go_quiet (fail)
          go_wp2
          refine bodyPost_ret (v := .agg #[.int .i64 u0, .int .i64 u1, .int .i64 u2]) ?_ rfl ⟨rfl, fin _ ?_ ?_⟩
          · simp [results, Try.f61, go_sem]
          · have h9 := hr2.set (i := 9) (.int .i64 (wrap64 (t + 1))) (by simp [csCells])
            have h8 := ((h9.alloc (Obj.cells #[Value.int IntKind.i64 0, Value.int IntKind.i64 0, Value.int IntKind.i64 0] 78)).drewN nq).set (i := 8) (.slice (some ⟨b, off + 3, none⟩) m (fc - 1)) (by simp [csCells])
            rw [HA2.out, HO.out, HS.out]
            rw [HM.out] at h8 ⊢
            exact (((h8.setNew (w := w) _ _ hp (Nat.le_refl _)).setNew (w := w) _ _ hp (Nat.le_refl _)).setNew (w := w) _ _ hp (Nat.le_refl _)).alloc _
          · exact ((((((((Kept.refl (fun k => k = p) w).setCell (p := ⟨p, 9, none⟩) rfl _).alloc _).drewN _).setCell (p := ⟨p, 8, none⟩) rfl _).setNew (p := ⟨w.heap.size, 0, none⟩) (Nat.le_refl _) _).setNew (p := ⟨w.heap.size, 1, none⟩) (Nat.le_refl _) _).setNew (p := ⟨w.heap.size, 2, none⟩) (Nat.le_refl _) _).alloc _
      by_cases h1 : fc = 1
      · exact walk off (by rw [HA.out, if_pos h1]) (fun _ => rfl) (fun h => absurd h1 h)
      · exact walk (off + 3) (by rw [HA.out, if_neg h1]) (fun h => absurd h h1) (fun _ => rfl)
    · have hst : c.stepped = { c with steps := s, fs := f :: l } := by unfold CS.stepped; rw [hl, ← hs]; simp [stepF, hn]
      have hsf : (stepF s (f :: l)).1 = ⟨0, 0, 0⟩ := by simp [stepF, hn]
      rw [hst, ← hs, hsf]
      have fin : ∀ W', Row W' c.p (csCells { c with steps := s, fs := f :: l } (some ⟨b, off, none⟩) fc) 52 → Kept (fun k => k = c.p) w W' → ∃ fa' fc', Row W' c.p (csCells { c with steps := s, fs := f :: l } fa' fc') 52 ∧ Flts W' fa' fc' (f :: l) ∧ Kept (fun k => k = c.p) w W' :=
        fun W' h1 h2 => ⟨_, fc, h1, HF.out.kept h2 (fault_block HR0 h2), h2⟩
      obtain ⟨u0, hu0⟩ : ∃ u0, u0 = f.num := ⟨_, rfl⟩
      rw [← hu0] at g0 hn
      obtain ⟨m, hm⟩ : ∃ m, m = l.length := ⟨_, rfl⟩
      rw [← hm] at c8 hcap
      clear hu0 hsf hm hfc g1 g2
      have e1 : (u0 != wrap64 (c.steps + 1)) = true := by rw [← hs]; simpa using hn
      generalize c.p = p at *
      generalize c.steps = t at *
      clear hr hfl hl hst hs hn
      go_enter Try.func61, Try.ntmps61
      go_wp2
      go_quiet (fail)
      go_wp2
      refine bodyPost_ret (v := .agg #[.int .i64 0, .int .i64 0, .int .i64 0]) ?_ rfl ⟨rfl, fin _ ?_ ?_⟩
      · simp [results, Try.f61, go_sem]
      · have := hr2.set (i := 9) (.int .i64 (wrap64 (t + 1))) (by simp [csCells])
        rw [← HS.out] at this ⊢
        exact (((((this.alloc _).drewN _).setNew (w := w) _ _ hp (Nat.le_refl _)).setNew (w := w) _ _ hp (Nat.le_refl _)).setNew (w := w) _ _ hp (Nat.le_refl _))
      · exact ((((((Kept.refl (fun k => k = p) w).setCell (p := ⟨p, 9, none⟩) rfl _).alloc _).drewN _).setNew (p := ⟨w.heap.size, 0, none⟩) (Nat.le_refl _) _).setNew (p := ⟨w.heap.size, 1, none⟩) (Nat.le_refl _) _).setNew (p := ⟨w.heap.size, 2, none⟩) (Nat.le_refl _) _
end Go.Proofs.Ytiejkbncpbhcdaa
