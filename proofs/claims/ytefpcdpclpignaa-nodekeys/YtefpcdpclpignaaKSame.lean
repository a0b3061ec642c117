/-
  A struct is itself.
-/
import Derived.Test.YtefpcdpclpignaaKAlive
import Derived.Laws.StructEq
namespace Go.Proofs.Ytefpcdpclpignaa
open Go.RowKit M

theorem eql_in (w : World) (a0 a1 a2 a3 a4 a5 a6 : Int) :
    (binOp .eql 32 (.agg #[.int .i64 a0, .int .i64 a1, .int .i64 a2, .int .i64 a3, .int .i64 a4, .int .i64 a5, .int .i64 a6]) (.agg #[.int .i64 a0, .int .i64 a1, .int .i64 a2, .int .i64 a3, .int .i64 a4, .int .i64 a5, .int .i64 a6])).run Try.prog w = .ok (.bool true) w := by
  have hu := Try.underlying32
  have hi := Try.underlying3
  have hp : Try.prog.stoodInHeld 32 = false := by kernel_rfl
  rw [run_eql_struct, run_equalIn_struct w 9999 _ _ _ (by rw [Program.fieldsOf, hu]) hp]
  simp [go_sem, hu, hi]
theorem neq_in (w : World) (a0 a1 a2 a3 a4 a5 a6 : Int) :
    (binOp .neq 32 (.agg #[.int .i64 a0, .int .i64 a1, .int .i64 a2, .int .i64 a3, .int .i64 a4, .int .i64 a5, .int .i64 a6]) (.agg #[.int .i64 a0, .int .i64 a1, .int .i64 a2, .int .i64 a3, .int .i64 a4, .int .i64 a5, .int .i64 a6])).run Try.prog w = .ok (.bool false) w := by
  have hu := Try.underlying32
  have hi := Try.underlying3
  have hp : Try.prog.stoodInHeld 32 = false := by kernel_rfl
  rw [run_neq_struct, run_equalIn_struct w 9999 _ _ _ (by rw [Program.fieldsOf, hu]) hp]
  simp [go_sem, hu, hi]
theorem eql_nd (w : World) (K V : ByteArray) (g : Bool) :
    (binOp .eql 34 (.agg #[.string K, .string V, .bool g]) (.agg #[.string K, .string V, .bool g])).run Try.prog w = .ok (.bool true) w := by
  have hu := Try.underlying34
  have hi := Try.underlying9
  have hb := Try.underlying4
  have hp : Try.prog.stoodInHeld 34 = false := by kernel_rfl
  rw [run_eql_struct, run_equalIn_struct w 9999 _ _ _ (by rw [Program.fieldsOf, hu]) hp]
  simp [go_sem, hu, hi, hb]
theorem neq_nd (w : World) (K V : ByteArray) (g : Bool) :
    (binOp .neq 34 (.agg #[.string K, .string V, .bool g]) (.agg #[.string K, .string V, .bool g])).run Try.prog w = .ok (.bool false) w := by
  have hu := Try.underlying34
  have hi := Try.underlying9
  have hb := Try.underlying4
  have hp : Try.prog.stoodInHeld 34 = false := by kernel_rfl
  rw [run_neq_struct, run_equalIn_struct w 9999 _ _ _ (by rw [Program.fieldsOf, hu]) hp]
  simp [go_sem, hu, hi, hb]
theorem eql_en (w : World) (K : ByteArray) (a b : Int) :
    (binOp .eql 42 (.agg #[.string K, .int .i64 a, .int .i64 b]) (.agg #[.string K, .int .i64 a, .int .i64 b])).run Try.prog w = .ok (.bool true) w := by
  have hu := Try.underlying42
  have hi := Try.underlying9
  have hb := Try.underlying3
  have hp : Try.prog.stoodInHeld 42 = false := by kernel_rfl
  rw [run_eql_struct, run_equalIn_struct w 9999 _ _ _ (by rw [Program.fieldsOf, hu]) hp]
  simp [go_sem, hu, hi, hb]
theorem neq_en (w : World) (K : ByteArray) (a b : Int) :
    (binOp .neq 42 (.agg #[.string K, .int .i64 a, .int .i64 b]) (.agg #[.string K, .int .i64 a, .int .i64 b])).run Try.prog w = .ok (.bool false) w := by
  have hu := Try.underlying42
  have hi := Try.underlying9
  have hb := Try.underlying3
  have hp : Try.prog.stoodInHeld 42 = false := by kernel_rfl
  rw [run_neq_struct, run_equalIn_struct w 9999 _ _ _ (by rw [Program.fieldsOf, hu]) hp]
  simp [go_sem, hu, hi, hb]
end Go.Proofs.Ytefpcdpclpignaa
