/-
  What Get of package bits answers: the number that the first eight bytes make.
-/
import Derived.Test.YtplhlbajgijohabStep
namespace Go.Proofs.Ytplhlbajgijohab
open Go.RowKit M


/-- A number that 256·p divides, joined with a byte's p-fold. -/
theorem or_join (A x p B : Nat) (hp : A % (256 * p) = 0) (hx : x < 256) (hB : B = A + x * p) (h : B < 18446744073709551616) (hk : ∃ k, p = 2 ^ k) :
    bits BinOp.or IntKind.u64 (A : Int) ((x : Int) * (p : Int)) = (B : Int) := by
  obtain ⟨k, rfl⟩ := hk
  have h2 : x * 2 ^ k < 2 ^ (8 + k) := by rw [Nat.pow_add]; exact (Nat.mul_lt_mul_right (Nat.two_pow_pos k)).2 hx
  have h3 : A % 2 ^ (8 + k) = 0 := by rw [Nat.pow_add]; exact hp
  have := u64_or_nat A (x * 2 ^ k) (by omega) (by omega)
  rw [nat_join (8 + k) A (x * 2 ^ k) h3 h2] at this
  rw [hB, ← this]
  simp
theorem or_join0 (A x B : Nat) (hp : A % 256 = 0) (hx : x < 256) (hB : B = A + x) (h : B < 18446744073709551616) :
    bits BinOp.or IntKind.u64 (A : Int) (x : Int) = (B : Int) := by
  have := or_join A x 1 B (by simpa using hp) hx (by omega) h ⟨0, rfl⟩
  simpa using this

end Go.Proofs.Ytplhlbajgijohab
