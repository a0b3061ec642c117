/-
  Inodes made nodes: what low, isType, rightInode and Inode of package node answer.
-/
import Derived.Test.YtplhlbajgijohabKKindB
import Derived.Test.YtplhlbajgijohabKKey
import Derived.Laws.ResultCell
namespace Go.Proofs.Ytplhlbajgijohab
open Go.RowKit M

theorem own_conv {W w' : World} {a : Option Addr} {m c : Nat} {l : List Nat} (hm : l.length = m) (h : Own W w' (.slice a m c) l) :
    (convert 53 9 (.slice a m c)).run Try.prog w' = .ok (.string (bs (u8s l))) w' := by
  obtain ⟨a', cap, hv, hr, _, _⟩ := h.row
  obtain ⟨rfl, _, rfl⟩ : a = a' ∧ m = l.length ∧ c = cap := by simpa using hv
  rw [← hm]
  exact conv_row c hr

set_option maxRecDepth 10000 in
theorem low_any (n m : Nat) (hn : n < 9223372036854775808) (hm : m ≤ 8) (w : World) :
    Calls Try.prog 11 #[.int .i64 (n : Int), .int .i64 (m : Int)] w fun e w' => e = .returned (.string (bs (u8s (putL m n)))) ∧ Below w.heap.size w w' := by
  have hp := fun W => put_any n (by omega) (m : Int) m (by unfold putN; omega) W
  have hl := putL_length m n
  obtain ⟨L, hL⟩ : ∃ L, L = putL m n := ⟨_, rfl⟩
  rw [← hL] at hp hl ⊢
  have n0 : (0 : Int) ≤ (n : Int) := by omega
  have n1 : (n : Int) < 18446744073709551616 := by omega
  clear hL
  go_enter Try.func11, Try.ntmps11
  go_wp2_with (go_at_call 25; refine (hp _).mono ?_; rintro e w1 ⟨rfl, ho⟩; have hcv := own_conv hl ho; have HB : Hid (Below w.heap.size w w1) := ho.2; clear ho)
  go_ret
  exact ⟨rfl, HB.out⟩

/-- Is it a kind of inodes? -/
def tyB (k : Int) : Bool := decide (1 ≤ k ∧ k ≤ 3)
theorem isType_any (k : Int) (w : World) :
    Calls Try.prog 24 #[.int .i64 k] w fun e w' => e = .returned (.bool (tyB k)) ∧ w = w' := by
  by_cases h1 : k = 1
  · subst h1
    go_enter Try.func24, Try.ntmps24
    go_wp2
    go_ret
    exact ⟨rfl, rfl⟩
  by_cases h2 : k = 2
  · subst h2
    go_enter Try.func24, Try.ntmps24
    go_wp2
    go_ret
    exact ⟨rfl, rfl⟩
  by_cases h3 : k = 3
  · subst h3
    go_enter Try.func24, Try.ntmps24
    go_wp2
    go_ret
    exact ⟨rfl, rfl⟩
  have e0 : tyB k = false := decide_eq_false (by omega)
  rw [e0]
  have e1 : (k == 1) = false := by simpa using h1
  have e2 : (k == 2) = false := by simpa using h2
  have e3 : (k == 3) = false := by simpa using h3
  go_enter Try.func24, Try.ntmps24
  go_wp2
  go_ret
  exact ⟨rfl, rfl⟩

/-- Does a number lie between two? -/
def inB (n a b : Int) : Bool := decide (a ≤ n ∧ n ≤ b)
theorem within_in (n a b : Int) (w : World) :
    Calls Try.prog 22 #[.int .i64 n, .int .i64 a, .int .i64 b] w fun e w' => e = .returned (.bool (inB n a b)) ∧ w = w' := within_any n a b w

/-- An inode. -/
structure In where
  ino : Int
  kind : Int
  mode : Int
  uid : Int
  gid : Int
  links : Int
  size : Int
def In.cells (i : In) : List Value := [.int .i64 i.ino, .int .i64 i.kind, .int .i64 i.mode, .int .i64 i.uid, .int .i64 i.gid, .int .i64 i.links, .int .i64 i.size]
def In.v (i : In) : Value := .agg i.cells.toArray
/-- A right inode. -/
def In.right (i : In) : Bool := inoB i.ino && tyB i.kind && inB i.mode 0 511 && inB i.uid 0 65535 && inB i.gid 0 65535 && inB i.links 0 100 && inB i.size 0 16384

set_option maxRecDepth 10000 in
set_option maxHeartbeats 1000000 in
theorem rightInode_any (i : In) (w : World) :
    Calls Try.prog 41 #[i.v] w fun e w' => e = .returned (.bool i.right) ∧ Below w.heap.size w w' := by
  obtain ⟨a0, a1, a2, a3, a4, a5, a6⟩ := i
  unfold In.right
  show Calls Try.prog 41 #[.agg #[.int .i64 a0, .int .i64 a1, .int .i64 a2, .int .i64 a3, .int .i64 a4, .int .i64 a5, .int .i64 a6]] w fun e w' => e = .returned (.bool (inoB a0 && tyB a1 && inB a2 0 511 && inB a3 0 65535 && inB a4 0 65535 && inB a5 0 100 && inB a6 0 16384)) ∧ Below w.heap.size w w'
  cases e0 : inoB a0
  rotate_left
  cases e1 : tyB a1
  rotate_left
  cases e2 : inB a2 0 511
  rotate_left
  cases e3 : inB a3 0 65535
  rotate_left
  cases e4 : inB a4 0 65535
  rotate_left
  cases e5 : inB a5 0 100
  rotate_left
  cases e6 : inB a6 0 16384
  all_goals
    go_enter Try.func41, Try.ntmps41
    go_wp2_with (first
      | (go_at_call 9; refine (isIno_any _ _).mono ?_; rintro e wi ⟨rfl, rfl⟩)
      | (go_at_call 24; refine (isType_any _ _).mono ?_; rintro e wi ⟨rfl, rfl⟩)
      | (go_at_call 22; refine (within_in _ _ _ _).mono ?_; rintro e wi ⟨rfl, rfl⟩))
    go_ret
    exact ⟨rfl, below_new _ _⟩
end Go.Proofs.Ytplhlbajgijohab
