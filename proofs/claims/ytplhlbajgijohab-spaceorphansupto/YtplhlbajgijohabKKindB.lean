/-
  What Kind of package node answers, by the document's words.
-/
import Derived.Test.YtplhlbajgijohabKKind
namespace Go.Proofs.Ytplhlbajgijohab
open Go.RowKit M

/-- A key's kind, its inode's number, its name, its block: by the document's words. -/
def kindOf : List UInt8 → Nat × Nat × List UInt8 × Nat
  | a :: b :: c :: r =>
    if c.toNat = 1 ∧ inoB (num2 a b : Nat) = true ∧ r = [] then (1, num2 a b, [], 0)
    else if c.toNat = 2 ∧ inoB (num2 a b : Nat) = true ∧ nameB r = true then (2, num2 a b, r, 0)
    else if c.toNat = 3 ∧ inoB (num2 a b : Nat) = true ∧ r.length = 2 ∧ blkB (hiV r : Nat) = true then (3, num2 a b, [], hiV r)
    else if c.toNat = 4 ∧ num2 a b = 0 ∧ r.length = 2 ∧ inoB (hiV r : Nat) = true then (4, hiV r, [], 0)
    else (0, 0, [], 0)
  | _ => (0, 0, [], 0)
/-- The same as a value. -/
def kvOf (l : List UInt8) : Value := kv (kindOf l).1 (kindOf l).2.1 (kindOf l).2.2.1 (kindOf l).2.2.2

theorem txS_true (n : Nat) (r : List UInt8) : txS n r true = true := by unfold txS; split <;> rfl
theorem dn_true (r : List UInt8) : dn r true = false := rfl
theorem numV_cons (a : UInt8) (r : List UInt8) : numV 1 (a :: r) = a.toNat := by
  simp [numV, txV, nats, getL]
theorem txR_cons (a : UInt8) (r : List UInt8) : txR 1 (a :: r) = r := by simp [txR]
theorem txS_cons (a : UInt8) (r : List UInt8) (s : Bool) : txS 1 (a :: r) s = s := by simp [txS]
theorem dn2 (r : List UInt8) : dn (txR 2 r) (txS 2 r false) = decide (r.length = 2) := by
  unfold dn txR txS
  by_cases h : r.length < 2
  · simp [h]; omega
  · simp only [h, if_false, Bool.not_false, Bool.true_and]
    rw [Bool.eq_iff_iff, List.isEmpty_iff, decide_eq_true_iff, List.drop_eq_nil_iff]
    omega

end Go.Proofs.Ytplhlbajgijohab
