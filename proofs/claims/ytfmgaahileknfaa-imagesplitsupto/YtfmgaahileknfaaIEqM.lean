/-
  Slots and lists of slots held against each other.
-/
import Derived.Test.YtfmgaahileknfaaIAlive
namespace Go.Proofs.Ytfmgaahileknfaa
open Go.RowKit M
set_option maxRecDepth 10000

/-- Are two slots the same? -/
def eqSt (x y : St) : Bool := decide (x.key = y.key) && (x.leb == y.leb && x.pos == y.pos && x.size == y.size)
theorem eqSt_iff {x y : St} : eqSt x y = true ↔ x = y := by
  obtain ⟨a, b, c, d⟩ := x
  obtain ⟨a', b', c', d'⟩ := y
  simp only [eqSt, Bool.and_eq_true, decide_eq_true_eq, beq_iff_eq, St.mk.injEq, and_assoc]
theorem neq_slot (w : World) (x y : St) :
    (binOp .neq 41 (.agg #[.string x.key, .int .i64 x.leb, .int .i64 x.pos, .int .i64 x.size]) (.agg #[.string y.key, .int .i64 y.leb, .int .i64 y.pos, .int .i64 y.size])).run Try.prog w = .ok (.bool (!eqSt x y)) w := by
  have hu := Try.underlying41
  have hq := Try.underlying39
  have hi := Try.underlying9
  have hp : Try.prog.stoodInHeld 41 = false := by kernel_rfl
  unfold eqSt
  rw [run_neq_struct, run_equalIn_struct w 9999 _ _ _ (by rw [Program.fieldsOf, hu]) hp]
  by_cases e1 : x.key = y.key
  · by_cases f1 : x.leb = y.leb <;> by_cases f2 : x.pos = y.pos <;> by_cases f3 : x.size = y.size <;> simp [go_sem, hu, hi, hq, e1, f1, f2, f3]
  · have e2 : ¬ x.key.toList = y.key.toList := fun q => e1 (list_inj q)
    simp [go_sem, hu, hi, e1, e2]
def eqL : List St → List St → Bool
  | [], [] => true
  | x :: a, y :: b => eqSt x y && eqL a b
  | _, _ => false
theorem eqL_iff : ∀ {a b : List St}, eqL a b = true ↔ a = b
  | [], [] => by simp [eqL]
  | x :: a, y :: b => by rw [eqL, Bool.and_eq_true, eqSt_iff, eqL_iff (a := a) (b := b)]; simp
  | [], _ :: _ => by simp [eqL]
  | _ :: _, [] => by simp [eqL]
theorem eqL_len : ∀ {a b : List St}, a.length ≠ b.length → eqL a b = false := fun {a b} h => by
  cases e : eqL a b with
  | false => rfl
  | true => exact absurd (congrArg List.length (eqL_iff.1 e)) h
end Go.Proofs.Ytfmgaahileknfaa
