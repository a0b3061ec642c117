/-
  What operate does: an operation begins.
-/
import Derived.Test.YtiejkbncpbhcdaaCStep
namespace Go.Proofs.Ytiejkbncpbhcdaa
open Go.RowKit

/-- The fault of the operation that begins. -/
def CS.fault (c : CS) : Flt := (stepF (wrap64 (c.steps + 1)) c.fs).1
/-- How much of the operation is done. -/
def CS.extent (c : CS) : Int := if c.fault.kind = 1 then c.fault.torn else if c.fault.kind = 2 then 1 else 2
/-- What the operation answers. -/
def CS.told (c : CS) : Int := if c.fault.kind = 1 then 6 else if c.fault.kind = 2 then 5 else 0
/-- The chip when the operation has begun. -/
def CS.operated (c : CS) : CS := { c with steps := wrap64 (c.steps + 1), fs := (stepF (wrap64 (c.steps + 1)) c.fs).2, ops := wrap64 (c.ops + 1), on := if c.fault.kind = 1 then false else c.on }

set_option maxHeartbeats 2000000 in
theorem operate_any (c : CS) (fa : Option Addr) (fc : Nat) (w : World) (hr : Row w c.p (csCells c fa fc) 52) (hfl : Flts w fa fc c.fs) :
    Calls Try.prog 30 #[.pointer (some ⟨c.p, 0, none⟩)] w fun e w' => e = .returned (.tuple #[.int .i64 c.extent, .int .i64 c.told]) ∧ ∃ fa' fc', Row w' c.p (csCells c.operated fa' fc') 52 ∧ Flts w' fa' fc' c.operated.fs ∧ Kept (fun k => k = c.p) w w' := by
  have c6 : w.cell? ⟨c.p, 6, none⟩ = some (.int .i64 c.ops) := hr.cell (by rfl)
  have f6 := hr.frozen 6
  have hr1 : Row (w.setCell ⟨c.p, 6, none⟩ (.int .i64 (wrap64 (c.ops + 1)))) c.p (csCells { c with ops := wrap64 (c.ops + 1) } fa fc) 52 := hr.set (i := 6) (.int .i64 (wrap64 (c.ops + 1))) (by simp [csCells])
  have hk1 : Kept (fun k => k = c.p) w (w.setCell ⟨c.p, 6, none⟩ (.int .i64 (wrap64 (c.ops + 1)))) := (Kept.refl (fun k => k = c.p) w).setCell (p := ⟨c.p, 6, none⟩) rfl _
  have hfl1 := hfl.kept hk1 (fault_block hr hk1)
  have hst := step_any { c with ops := wrap64 (c.ops + 1) } fa fc _ hr1 hfl1
  have ef : (stepF (wrap64 (c.steps + 1)) c.fs).1 = c.fault := rfl
  simp only [ef] at hst
  have fin : ∀ fa' fc' W, Row W c.p (csCells ({ c with ops := wrap64 (c.ops + 1) } : CS).stepped fa' fc') 52 → Flts W fa' fc' ({ c with ops := wrap64 (c.ops + 1) } : CS).stepped.fs → Kept (fun k => k = c.p) (w.setCell ⟨c.p, 6, none⟩ (.int .i64 (wrap64 (c.ops + 1)))) W →
      c.p < W.heap.size ∧ W.cell? ⟨c.p, 5, none⟩ = some (.bool c.on) ∧ W.frozen? ⟨c.p, 5, none⟩ = false ∧ Kept (fun k => k = c.p) w W ∧
      (¬ c.fault.kind = 1 → Row W c.p (csCells c.operated fa' fc') 52 ∧ Flts W fa' fc' c.operated.fs) ∧
      (c.fault.kind = 1 → Row (W.setCell ⟨c.p, 5, none⟩ (.bool false)) c.p (csCells c.operated fa' fc') 52 ∧ Flts W fa' fc' c.operated.fs) := by
    intro fa' fc' W h1 h2 h3
    refine ⟨h1.lt, h1.cell (by rfl), h1.frozen 5, hk1.trans h3, fun hn => ⟨?_, h2⟩, fun hy => ⟨?_, h2⟩⟩
    · have : c.operated = ({ c with ops := wrap64 (c.ops + 1) } : CS).stepped := by unfold CS.operated CS.stepped; rw [if_neg hn]
      rw [this]; exact h1
    · have : c.operated = { ({ c with ops := wrap64 (c.ops + 1) } : CS).stepped with on := false } := by unfold CS.operated CS.stepped; rw [if_pos hy]
      rw [this]; exact h1.set (i := 5) (.bool false) (by simp [csCells])
  have HF := fin
  clear fin
  have hfb : ∀ (fa' : Option Addr) (fc' : Nat) (W W' : World) (cs : List Value) (l : List Flt), Row W c.p cs 52 → Flts W fa' fc' l → Kept (fun k => k = c.p) W W' → Flts W' fa' fc' l := fun fa' fc' W W' cs l h1 h2 h3 => h2.kept h3 (fault_block h1 h3)
  clear hr hr1 hk1 hfl1 hfl ef
  have hx : ∀ k t : Int, c.fault.kind = k → c.fault.torn = t → c.extent = (if k = 1 then t else if k = 2 then 1 else 2) ∧ c.told = (if k = 1 then 6 else if k = 2 then 5 else 0) := by
    rintro k t rfl rfl; exact ⟨rfl, rfl⟩
  obtain ⟨k0, hk0⟩ : ∃ k0, k0 = c.fault.num := ⟨_, rfl⟩
  obtain ⟨k, hk⟩ : ∃ k, k = c.fault.kind := ⟨_, rfl⟩
  obtain ⟨t, ht⟩ : ∃ t, t = c.fault.torn := ⟨_, rfl⟩
  obtain ⟨hx1, hx2⟩ := hx k t hk.symm ht.symm
  have hfc : (flCells c.fault).toArray = #[.int .i64 k0, .int .i64 k, .int .i64 t] := by rw [hk0, hk, ht]; rfl
  rw [hfc] at hst
  rw [← hk] at HF
  rw [hx1, hx2]
  clear hx hfc hk0 hk ht hx1 hx2
  obtain ⟨X, hX⟩ : ∃ X, X = c.operated := ⟨_, rfl⟩
  rw [← hX] at HF ⊢
  clear hX
  have HFx : Hid (∀ (fa' : Option Addr) (fc' : Nat) (W W' : World) (cs : List Value) (l : List Flt), Row W c.p cs 52 → Flts W fa' fc' l → Kept (fun k => k = c.p) W W' → Flts W' fa' fc' l) := hfb
  clear hfb
  have HFi : Hid _ := HF
  clear HF
  generalize hcp : c.p = p at *
  generalize c.on = on at *
  generalize hco : c.ops = ops at *
  by_cases h1 : k = 1
  · rw [if_pos h1, if_pos h1]
    have e1 : (k == 1) = true := by simpa using h1
    have HK : Hid (k = 1) := h1
    clear h1
    go_enter Try.func30, Try.ntmps30
    go_wp2_with (go_at_call 61; refine hst.mono ?_; rintro e w1 ⟨rfl, fa', fc', q1, q2, q3⟩; obtain ⟨q4, q5, q6, q7, _, q9⟩ := HFi.out fa' fc' w1 q1 q2 q3; have q10 : Hid _ := q9; clear q9)
    go_ret2
    obtain ⟨q11, q12⟩ := q10.out HK.out
    exact ⟨rfl, fa', fc', q11.alloc _, HFx.out _ _ _ _ _ _ q1 q12 (((Kept.refl (fun k => k = p) w1).setCell (p := ⟨p, 5, none⟩) rfl _).alloc _), (q7.setCell (p := ⟨p, 5, none⟩) rfl _).alloc _⟩
  · rw [if_neg h1, if_neg h1]
    have e1 : (k == 1) = false := by simpa using h1
    have HK : Hid (¬ k = 1) := h1
    clear h1
    by_cases h2 : k = 2
    · rw [if_pos h2, if_pos h2]
      have e2 : (k == 2) = true := by simpa using h2
      clear h2
      go_enter Try.func30, Try.ntmps30
      go_wp2_with (go_at_call 61; refine hst.mono ?_; rintro e w1 ⟨rfl, fa', fc', q1, q2, q3⟩; obtain ⟨q4, q5, q6, q7, q9, _⟩ := HFi.out fa' fc' w1 q1 q2 q3; have q10 : Hid _ := q9; clear q9)
      go_ret2
      obtain ⟨q11, q12⟩ := q10.out HK.out
      exact ⟨rfl, fa', fc', q11.alloc _, HFx.out _ _ _ _ _ _ q1 q12 ((Kept.refl (fun k => k = p) w1).alloc _), q7.alloc _⟩
    · rw [if_neg h2, if_neg h2]
      have e2 : (k == 2) = false := by simpa using h2
      clear h2
      go_enter Try.func30, Try.ntmps30
      go_wp2_with (go_at_call 61; refine hst.mono ?_; rintro e w1 ⟨rfl, fa', fc', q1, q2, q3⟩; obtain ⟨q4, q5, q6, q7, q9, _⟩ := HFi.out fa' fc' w1 q1 q2 q3; have q10 : Hid _ := q9; clear q9)
      go_ret2
      obtain ⟨q11, q12⟩ := q10.out HK.out
      exact ⟨rfl, fa', fc', q11.alloc _, HFx.out _ _ _ _ _ _ q1 q12 ((Kept.refl (fun k => k = p) w1).alloc _), q7.alloc _⟩
end Go.Proofs.Ytiejkbncpbhcdaa
