/-
  A tree's fall.
-/
import Derived.Test.YtpflacbinankmaaBGrow
namespace Go.Proofs.Ytpflacbinankmaa.Bt
open Go.RowKit
set_option maxRecDepth 10000

theorem TrAt.cells {w : World} {p F : Nat} {sz : Int} {x : Tre} {t : En (x.n + 1)} (h : TrAt w p F sz x t) : w.cell? ⟨p, 0, none⟩ = some (.int .i64 (F : Nat)) ∧ w.cell? ⟨p, 1, none⟩ = some (.int .i64 sz) ∧ w.cell? ⟨p, 2, none⟩ = some (.pointer (some ⟨t.h.p, 0, none⟩)) ∧ (∀ j, w.frozen? ⟨p, j, none⟩ = false) ∧ w.cell? ⟨t.h.p, 0, none⟩ = some (.int .i64 (x.n : Nat)) ∧ ∃ a cap, w.cell? ⟨t.h.p, 1, none⟩ = some (.slice a x.T.l.length cap) := by
  refine ⟨h.row.cell (i := 0) rfl, h.row.cell (i := 1) rfl, h.row.cell (i := 2) rfl, h.row.frozen, h.lies.1.row.cell (i := 0) rfl, ?_⟩
  obtain ⟨a, cap, hv, _⟩ := h.lies.1.own.slice
  refine ⟨a, cap, ?_⟩
  rw [← h.abs, abs_l, List.length_map]
  rw [List.length_map] at hv
  rw [← hv]
  exact h.lies.1.row.cell (i := 1) rfl
theorem TrAt.chg {w : World} {p F : Nat} {sz : Int} {x : Tre} {t : En (x.n + 1)} (h : TrAt w p F sz x t) {w' : World} (hb : Below w.heap.size w w') : Chg w p F (foot (x.n + 1) t) sz x w' :=
  ⟨⟨_, Tr.later ⟨t, h, rfl⟩ hb, fun _ hb => .inl hb⟩, Kept.of_below hb⟩
set_option maxHeartbeats 2000000 in
theorem fall_leaf (p F : Nat) (sz : Int) (T : El 1) (t : En 1) (w : World) (h : TrAt w p F sz ⟨0, T⟩ t) :
    Calls Try.prog 50 #[.pointer (some ⟨p, 0, none⟩)] w fun e w' => e = .returned (.tuple #[]) ∧ Chg w p F (foot 1 t) sz ⟨0, T⟩ w' := by
  obtain ⟨_, _, c2, _, d0, _⟩ := h.cells
  have d0 : w.cell? ⟨t.h.p, 0, none⟩ = some (.int .i64 0) := d0
  have HF : Hid (∀ w', Below w.heap.size w w' → Chg w p F (foot 1 t) sz ⟨0, T⟩ w') := fun w' hb => h.chg hb
  clear h
  go_enter Try.func50, Try.ntmps50
  go_wp2
  go_end0
  exact ⟨rfl, HF.out _ (Below.refl _ _)⟩
set_option maxHeartbeats 2000000 in
theorem fall_stay (p F : Nat) (sz : Int) (n : Nat) (T : El (n + 2)) (t : En (n + 2)) (w : World) (h : TrAt w p F sz ⟨n + 1, T⟩ t) (h1 : T.l.length ≠ 1) :
    Calls Try.prog 50 #[.pointer (some ⟨p, 0, none⟩)] w fun e w' => e = .returned (.tuple #[]) ∧ Chg w p F (foot (n + 2) t) sz ⟨n + 1, T⟩ w' := by
  obtain ⟨_, _, c2, _, d0, a, cap, d1⟩ := h.cells
  replace d0 : w.cell? ⟨t.h.p, 0, none⟩ = some (.int .i64 ((n + 1 : Nat) : Int)) := d0
  replace d1 : w.cell? ⟨t.h.p, 1, none⟩ = some (.slice a T.l.length cap) := d1
  have HF : Hid (∀ w', Below w.heap.size w w' → Chg w p F (foot (n + 2) t) sz ⟨n + 1, T⟩ w') := fun w' hb => h.chg hb
  have hl : (0 : Int) < ((n + 1 : Nat) : Int) := by omega
  have h1' : ¬ ((T.l.length : Nat) : Int) = 1 := by omega
  have h1'' : (((T.l.length : Nat) : Int) == 1) = false := by simpa using h1'
  generalize ((n + 1 : Nat) : Int) = lv at d0 hl
  generalize T.l.length = N at *
  clear h
  go_enter Try.func50, Try.ntmps50
  go_wp2
  go_end0
  exact ⟨rfl, HF.out _ (Below.refl _ _)⟩
set_option maxHeartbeats 2000000 in
theorem fall_down (p F : Nat) (sz : Int) (n : Nat) (T : El (n + 2)) (c : El (n + 1)) (t : En (n + 2)) (w : World) (h : TrAt w p F sz ⟨n + 1, T⟩ t) (h1 : T.l = [c]) :
    Calls Try.prog 50 #[.pointer (some ⟨p, 0, none⟩)] w fun e w' => e = .returned (.tuple #[]) ∧ Chg w p F (foot (n + 2) t) sz ⟨n, c⟩ w' := by
  obtain ⟨_, _, c2, cf, d0, a, cap, d1⟩ := h.cells
  replace d0 : w.cell? ⟨t.h.p, 0, none⟩ = some (.int .i64 ((n + 1 : Nat) : Int)) := d0
  replace d1 : w.cell? ⟨t.h.p, 1, none⟩ = some (.slice a T.l.length cap) := d1
  rw [h1] at d1
  have habs : abs (n + 2) t = T := h.abs
  obtain ⟨d, hd⟩ : ∃ d, t.l = [d] := by
    have : t.l.map (abs (n + 1)) = [c] := by rw [← abs_l, habs, h1]
    cases hl : t.l with
    | nil => rw [hl] at this; simp at this
    | cons d r => rw [hl] at this; simp at this; exact ⟨d, by rw [this.2]⟩
  have hdc : abs (n + 1) d = c := by
    have : t.l.map (abs (n + 1)) = [c] := by rw [← abs_l, habs, h1]
    rw [hd] at this; simpa using this
  have hp := h.notIn
  have hdf : ∀ b ∈ foot (n + 1) d, b ∈ foot (n + 2) t := fun b hb => by rw [foot_succ, hd, footL_cons]; simp [hb]
  have hsl : (t.l.map (slE (n + 1)))[0]? = some (slE (n + 1) d) := by rw [hd]; rfl
  obtain ⟨g, cap', hv, _, _, _, _, _, _, q2, _⟩ := h.lies.1.own.at hsl
  have e : a = some ⟨g, 0, none⟩ := by
    have := h.lies.1.row.cell (i := 1) rfl
    rw [hv] at this
    have d1 : w.cell? ⟨t.h.p, 1, none⟩ = some (.slice a 1 cap) := d1
    have := this.symm.trans d1
    simp at this; exact this.1.symm
  subst e
  rw [Nat.zero_mul] at q2
  have q2 : w.cell? ⟨g, 2, none⟩ = some (.pointer (some ⟨d.h.p, 0, none⟩)) := q2
  have fin : ∀ w', w' = w.setCell ⟨p, 2, none⟩ (.pointer (some ⟨d.h.p, 0, none⟩)) → Chg w p F (foot (n + 2) t) sz ⟨n, c⟩ w' := by
    rintro w' rfl
    have hk : Kept (fun b => b = p) w (w.setCell ⟨p, 2, none⟩ (.pointer (some ⟨d.h.p, 0, none⟩))) := (Kept.refl (fun b => b = p) w).setCell (p := ⟨p, 2, none⟩) rfl _
    refine ⟨⟨_, ⟨d, ⟨by simpa using h.row.set (i := 2) (.pointer (some ⟨d.h.p, 0, none⟩)) (by simp), (h.lies.2 d (by rw [hd]; simp)).kept hk (fun b hb e => hp (e ▸ hdf b hb)), ?_, hdc⟩, rfl⟩, fun b hb => .inl (hdf b hb)⟩, hk.mono fun b e => .inl e⟩
    have := h.nd
    rw [foot_succ, hd, footL_cons] at this
    exact (List.nodup_append.1 (List.nodup_append.1 this).2.1).1
  have HF : Hid (∀ w', w' = w.setCell ⟨p, 2, none⟩ (.pointer (some ⟨d.h.p, 0, none⟩)) → Chg w p F (foot (n + 2) t) sz ⟨n, c⟩ w') := fin
  have hl : (0 : Int) < ((n + 1 : Nat) : Int) := by omega
  generalize ((n + 1 : Nat) : Int) = lv at d0 hl
  have f2 := cf 2
  clear h fin hv hsl hd hdc habs h1 hp hdf cf
  go_enter Try.func50, Try.ntmps50
  go_wp2
  go_end0
  exact ⟨rfl, HF.out _ rfl⟩
theorem fall_any (p F : Nat) (sz : Int) (x : Tre) (t : En (x.n + 1)) (w : World) (h : TrAt w p F sz x t) :
    Calls Try.prog 50 #[.pointer (some ⟨p, 0, none⟩)] w fun e w' => e = .returned (.tuple #[]) ∧ Chg w p F (foot (x.n + 1) t) sz (fallT x) w' := by
  obtain ⟨n, T⟩ := x
  cases n with
  | zero => exact fall_leaf p F sz T t w h
  | succ n =>
    have ex : fallT ⟨n + 1, T⟩ = match T.l with | [c] => (⟨n, c⟩ : Tre) | _ => ⟨n + 1, T⟩ := rfl
    rw [ex]
    cases hT : T.l with
    | nil => exact fall_stay p F sz n T t w h (by rw [hT]; simp)
    | cons c r =>
      cases r with
      | nil => exact fall_down p F sz n T c t w h hT
      | cons c2 r => exact fall_stay p F sz n T t w h (by rw [hT]; simp)
end Go.Proofs.Ytpflacbinankmaa.Bt
