/-
  Which of two errnos is worse; the first error of a list.
-/
import Derived.Test.YtafihnnlblacnaaDoorECls
namespace Go.Proofs.YtafihnnlblacnaaDoor
open Go.RowKit

def cmpOf (a b : Int) : Int := if a < b then -1 else if b < a then 1 else 0
theorem nan_int (a : Int) (w : World) : Calls Tryd.prog 49 #[.int .i64 a] w fun e w' => e = .returned (.bool false) ∧ w = w' := by
  go_enter Tryd.func49, Tryd.ntmps49
  go_wp2
  go_ret
  exact ⟨by simp, rfl⟩
theorem nan_errno (a : Int) (w : World) : Calls Tryd.prog 50 #[.int .i64 a] w fun e w' => e = .returned (.bool false) ∧ w = w' := by
  go_enter Tryd.func50, Tryd.ntmps50
  go_wp2
  go_ret
  exact ⟨by simp, rfl⟩
theorem compare_int (a b : Int) (w : World) : Calls Tryd.prog 33 #[.int .i64 a, .int .i64 b] w fun e w' => e = .returned (.int .i64 (cmpOf a b)) ∧ w = w' := by
  have n1 := nan_int
  go_enter Tryd.func33, Tryd.ntmps33
  go_wp2_with (go_at_call 49; refine (n1 _ _).mono ?_; rintro e w' ⟨rfl, rfl⟩)
  all_goals (go_ret; exact ⟨ret_int (by unfold cmpOf; split <;> (try split) <;> first | rfl | omega), rfl⟩)
theorem compare_errno (a b : Int) (w : World) : Calls Tryd.prog 34 #[.int .i64 a, .int .i64 b] w fun e w' => e = .returned (.int .i64 (cmpOf a b)) ∧ w = w' := by
  have n1 := nan_errno
  go_enter Tryd.func34, Tryd.ntmps34
  go_wp2_with (go_at_call 50; refine (n1 _ _).mono ?_; rintro e w' ⟨rfl, rfl⟩)
  all_goals (go_ret; exact ⟨ret_int (by unfold cmpOf; split <;> (try split) <;> first | rfl | omega), rfl⟩)
def orOf (x y : Int) : Int := if x ≠ 0 then x else y
theorem or_two (N : Nat) (x y : Int) (w : World) (h : Row w N [.int .i64 x, .int .i64 y] 3) :
    Calls Tryd.prog 32 #[.slice (some ⟨N, 0, none⟩) 2 2] w fun e w' => e = .returned (.int .i64 (orOf x y)) ∧ w = w' := by
  have c0 : w.cell? ⟨N, 0, none⟩ = some (.int .i64 x) := h.cell (i := 0) rfl
  have c1 : w.cell? ⟨N, 1, none⟩ = some (.int .i64 y) := h.cell (i := 1) rfl
  clear h
  by_cases hx : x = 0
  · have HO : Hid (orOf x y = y) := by show _ = _; simp [orOf, hx]
    have hxb : (x != 0) = false := by simpa using hx
    have HX : Hid (x = 0) := hx
    clear hx
    by_cases hy : y = 0
    · have hyb : (y != 0) = false := by simpa using hy
      have HY : Hid (y = 0) := hy
      clear hy
      go_enter Tryd.func32, Tryd.ntmps32
      go_wp2
      refine wp_loop_rounds 3 ?_
      rw [rounds_succ]
      go_wp2
      rw [rounds_succ]
      go_wp2
      rw [rounds_succ]
      go_wp2
      go_ret
      exact ⟨ret_int (by rw [HO.out, HY.out]), rfl⟩
    · have hyb : (y != 0) = true := by simpa using hy
      clear hy
      go_enter Tryd.func32, Tryd.ntmps32
      go_wp2
      refine wp_loop_rounds 2 ?_
      rw [rounds_succ]
      go_wp2
      rw [rounds_succ]
      go_wp2
      go_ret
      exact ⟨ret_int HO.out.symm, rfl⟩
  · have HO : Hid (orOf x y = x) := by show _ = _; simp [orOf, hx]
    have hxb : (x != 0) = true := by simpa using hx
    clear hx
    go_enter Tryd.func32, Tryd.ntmps32
    go_wp2
    refine wp_loop_rounds 1 ?_
    rw [rounds_succ]
    go_wp2
    go_ret
    exact ⟨ret_int HO.out.symm, rfl⟩

/-- The worse of two errnos. -/
def worse (a b : Int) : Int := if a = 0 then b else if b = 0 then a else if cls a < cls b ∨ cls a = cls b ∧ a ≤ b then a else b
theorem worse_le {a b : Int} (ha : a ≠ 0) (hb : b ≠ 0) (h : orOf (cmpOf (cls a) (cls b)) (cmpOf a b) ≤ 0) : worse a b = a := by
  unfold worse
  rw [if_neg ha, if_neg hb, if_pos]
  unfold orOf cmpOf at h
  repeat' split at h
  all_goals first | omega | (exfalso; omega)
theorem worse_gt {a b : Int} (ha : a ≠ 0) (hb : b ≠ 0) (h : ¬ orOf (cmpOf (cls a) (cls b)) (cmpOf a b) ≤ 0) : worse a b = b := by
  unfold worse
  rw [if_neg ha, if_neg hb, if_neg]
  unfold orOf cmpOf at h
  repeat' split at h
  all_goals first | omega | (exfalso; omega)

set_option maxHeartbeats 1000000 in
theorem worse_any (a b : Int) (w : World) : Calls Tryd.prog 18 #[.int .i64 a, .int .i64 b] w fun e w' => e = .returned (.int .i64 (worse a b)) ∧ Below w.heap.size w w' := by
  by_cases ha : a = 0
  · have HE : Hid (worse a b = b) := by show _ = _; simp [worse, ha]
    have h1 : (a == 0) = true := by simpa using ha
    clear ha
    go_enter Tryd.func18, Tryd.ntmps18
    go_wp2
    go_ret
    exact ⟨ret_int HE.out.symm, Below.refl _ _⟩
  · by_cases hb : b = 0
    · have HE : Hid (worse a b = a) := by show _ = _; simp [worse, hb]; intro h; exact h.symm
      have h1 : (a == 0) = false := by simpa using ha
      have h2 : (b == 0) = true := by simpa using hb
      clear ha hb
      go_enter Tryd.func18, Tryd.ntmps18
      go_wp2
      go_ret
      exact ⟨ret_int HE.out.symm, Below.refl _ _⟩
    · have HL := worse_le ha hb
      have HG := worse_gt ha hb
      have HL' : Hid (_ → _) := HL
      have HG' : Hid (_ → _) := HG
      have h1 : (a == 0) = false := by simpa using ha
      have h2 : (b == 0) = false := by simpa using hb
      have k1 := class_any a
      have k2 := class_any b
      have k3 := compare_int (cls a) (cls b)
      have k4 := compare_errno a b
      have k5 := or_two w.heap.size (cmpOf (cls a) (cls b)) (cmpOf a b) _ (Row.new w [_, _] _)
      have M1 : Hid True := trivial
      generalize hxx : orOf (cmpOf (cls a) (cls b)) (cmpOf a b) = X at k5
      have HXX : Hid (orOf (cmpOf (cls a) (cls b)) (cmpOf a b) = X) := hxx
      clear ha hb HL HG hxx
      go_enter Tryd.func18, Tryd.ntmps18
      go_wp2_with (first
        | (go_at_call 11; clear M1; refine (k1 _).mono ?_; rintro e w' ⟨rfl, rfl⟩)
        | (go_at_call 11; refine (k2 _).mono ?_; rintro e w' ⟨rfl, rfl⟩)
        | (go_at_call 33; refine (k3 _).mono ?_; rintro e w' ⟨rfl, rfl⟩)
        | (go_at_call 34; refine (k4 _).mono ?_; rintro e w' ⟨rfl, rfl⟩)
        | (go_at_call 32; refine k5.mono ?_; rintro e w' ⟨rfl, rfl⟩))
      · go_ret
        rename_i hle
        exact ⟨ret_int (HL'.out (by rw [HXX.out]; simpa using hle)).symm, below_new _ _⟩
      · go_ret
        rename_i hle
        exact ⟨ret_int (HG'.out (by rw [HXX.out]; simpa using hle)).symm, below_new _ _⟩
theorem rworse_any (a b : Int) (w : World) : Calls Tryd.prog 19 #[.int .i64 a, .int .i64 b] w fun e w' => e = .returned (.int .i64 (worse a b)) ∧ Below w.heap.size w w' := by
  have k1 := rclass_any a
  have k2 := rclass_any b
  have M1 : Hid True := trivial
  obtain ⟨X, hX⟩ : ∃ X, X = worse a b := ⟨_, rfl⟩
  rw [← hX]
  have HX : Hid (X = worse a b) := hX
  clear hX
  go_enter Tryd.func19, Tryd.ntmps19
  go_wp2_with (first
    | (go_at_call 12; clear M1; refine (k1 _).mono ?_; rintro e w' ⟨rfl, rfl⟩)
    | (go_at_call 12; refine (k2 _).mono ?_; rintro e w' ⟨rfl, rfl⟩))
  all_goals (go_ret; refine ⟨ret_int ?_, Below.refl _ _⟩; rw [HX.out]; unfold worse; first | (simp_all; done) | (simp_all; intros; omega))
end Go.Proofs.YtafihnnlblacnaaDoor
