/-
  What Get of package bits answers: the number that the first eight bytes make.
-/
import Derived.Test.YtfalbbcbgkiejaaStep
namespace Go.Proofs.Ytfalbbcbgkiejaa
open Go.RowKit M


/-- A number that 256·p divides, joined with a byte's p-fold. -/
theorem or_join (A x p B : Nat) (hp : A % (256 * p) = 0) (hx : x < 256) (hB : B = A + x * p) (h : B < 18446744073709551616) (hk : ∃ k, p = 2 ^ k) :
    bits BinOp.or IntKind.u64 (A : Int) ((x : Int) * (p : Int)) = (B : Int) := by
  obtain ⟨k, rfl⟩ := hk
  have h2 : x * 2 ^ k < 2 ^ (8 + k) := by rw [Nat.pow_add]; exact (Nat.mul_lt_mul_right (Nat.two_pow_pos k)).2 hx
  have h3 : A % 2 ^ (8 + k) = 0 := by rw [Nat.pow_add]; exact hp
  have := u64_or_nat A (x * 2 ^ k) (by omega) (by omega)
  rw [nat_join (8 + k) A (x * 2 ^ k) h3 h2] at this
  rw [hB, ← this]
  simp
theorem or_join0 (A x B : Nat) (hp : A % 256 = 0) (hx : x < 256) (hB : B = A + x) (h : B < 18446744073709551616) :
    bits BinOp.or IntKind.u64 (A : Int) (x : Int) = (B : Int) := by
  have := or_join A x 1 B (by simpa using hp) hx (by omega) h ⟨0, rfl⟩
  simpa using this

set_option maxHeartbeats 400000 in
theorem get_0 (a : Option Addr) (cap : Nat) (w : World) :
    Calls Try.prog 52 #[.slice a 0 cap] w fun e w' => e = .returned (.int .u64 0) ∧ w = w' := by
  go_enter Try.func52, Try.ntmps52
  go_wp2
  go_ret
  exact ⟨rfl, rfl⟩

set_option maxHeartbeats 1000000 in
theorem get_1 (b off cap : Nat) (x0 : Nat) (w : World) (h0 : w.cell? ⟨b, off, none⟩ = some (.int .u8 (x0 : Int))) (b0 : x0 < 256) :
    Calls Try.prog 52 #[.slice (some ⟨b, off, none⟩) 1 cap] w fun e w' => e = .returned (.int .u64 (getL [x0] : Nat)) ∧ w = w' := by
  obtain ⟨A0, hA0⟩ : ∃ A : Nat, A = x0 * 1 := ⟨_, rfl⟩
  have e0 : bits BinOp.or IntKind.u64 0 (x0 : Int) = (A0 : Int) := or_join0 0 x0 A0 (by omega) (by omega) (by omega) (by omega)
  have HA : Hid (A0 = x0 * 1) := hA0
  clear hA0
  go_enter Try.func52, Try.ntmps52
  go_wp2
  all_goals go_ret
  all_goals have hE : (A0 : Int) = ((getL [x0] : Nat) : Int) := by have := HA.out; simp only [getL]; omega
  all_goals exact ⟨ret_int hE, rfl⟩

set_option maxHeartbeats 1000000 in
theorem get_2 (b off cap : Nat) (x0 x1 : Nat) (w : World) (h0 : w.cell? ⟨b, off, none⟩ = some (.int .u8 (x0 : Int))) (h1 : w.cell? ⟨b, off + 1, none⟩ = some (.int .u8 (x1 : Int))) (b0 : x0 < 256) (b1 : x1 < 256) :
    Calls Try.prog 52 #[.slice (some ⟨b, off, none⟩) 2 cap] w fun e w' => e = .returned (.int .u64 (getL [x0, x1] : Nat)) ∧ w = w' := by
  obtain ⟨A1, hA1⟩ : ∃ A : Nat, A = x1 * 256 := ⟨_, rfl⟩
  have e1 : bits BinOp.or IntKind.u64 0 ((x1 : Int) * 256) = (A1 : Int) := or_join 0 x1 256 A1 (by omega) (by omega) (by omega) (by omega) ⟨8, rfl⟩
  obtain ⟨A0, hA0⟩ : ∃ A : Nat, A = x1 * 256 + x0 * 1 := ⟨_, rfl⟩
  have e0 : bits BinOp.or IntKind.u64 (A1 : Int) (x0 : Int) = (A0 : Int) := or_join0 A1 x0 A0 (by omega) (by omega) (by omega) (by omega)
  have HA : Hid (A0 = x1 * 256 + x0 * 1) := hA0
  clear hA0 hA1
  go_enter Try.func52, Try.ntmps52
  go_wp2
  all_goals go_ret
  all_goals have hE : (A0 : Int) = ((getL [x0, x1] : Nat) : Int) := by have := HA.out; simp only [getL]; omega
  all_goals exact ⟨ret_int hE, rfl⟩

set_option maxHeartbeats 1000000 in
theorem get_3 (b off cap : Nat) (x0 x1 x2 : Nat) (w : World) (h0 : w.cell? ⟨b, off, none⟩ = some (.int .u8 (x0 : Int))) (h1 : w.cell? ⟨b, off + 1, none⟩ = some (.int .u8 (x1 : Int))) (h2 : w.cell? ⟨b, off + 2, none⟩ = some (.int .u8 (x2 : Int))) (b0 : x0 < 256) (b1 : x1 < 256) (b2 : x2 < 256) :
    Calls Try.prog 52 #[.slice (some ⟨b, off, none⟩) 3 cap] w fun e w' => e = .returned (.int .u64 (getL [x0, x1, x2] : Nat)) ∧ w = w' := by
  obtain ⟨A2, hA2⟩ : ∃ A : Nat, A = x2 * 65536 := ⟨_, rfl⟩
  have e2 : bits BinOp.or IntKind.u64 0 ((x2 : Int) * 65536) = (A2 : Int) := or_join 0 x2 65536 A2 (by omega) (by omega) (by omega) (by omega) ⟨16, rfl⟩
  obtain ⟨A1, hA1⟩ : ∃ A : Nat, A = x2 * 65536 + x1 * 256 := ⟨_, rfl⟩
  have e1 : bits BinOp.or IntKind.u64 (A2 : Int) ((x1 : Int) * 256) = (A1 : Int) := or_join A2 x1 256 A1 (by omega) (by omega) (by omega) (by omega) ⟨8, rfl⟩
  obtain ⟨A0, hA0⟩ : ∃ A : Nat, A = x2 * 65536 + x1 * 256 + x0 * 1 := ⟨_, rfl⟩
  have e0 : bits BinOp.or IntKind.u64 (A1 : Int) (x0 : Int) = (A0 : Int) := or_join0 A1 x0 A0 (by omega) (by omega) (by omega) (by omega)
  have HA : Hid (A0 = x2 * 65536 + x1 * 256 + x0 * 1) := hA0
  clear hA0 hA1 hA2
  go_enter Try.func52, Try.ntmps52
  go_wp2
  all_goals go_ret
  all_goals have hE : (A0 : Int) = ((getL [x0, x1, x2] : Nat) : Int) := by have := HA.out; simp only [getL]; omega
  all_goals exact ⟨ret_int hE, rfl⟩

set_option maxHeartbeats 1000000 in
theorem get_4 (b off cap : Nat) (x0 x1 x2 x3 : Nat) (w : World) (h0 : w.cell? ⟨b, off, none⟩ = some (.int .u8 (x0 : Int))) (h1 : w.cell? ⟨b, off + 1, none⟩ = some (.int .u8 (x1 : Int))) (h2 : w.cell? ⟨b, off + 2, none⟩ = some (.int .u8 (x2 : Int))) (h3 : w.cell? ⟨b, off + 3, none⟩ = some (.int .u8 (x3 : Int))) (b0 : x0 < 256) (b1 : x1 < 256) (b2 : x2 < 256) (b3 : x3 < 256) :
    Calls Try.prog 52 #[.slice (some ⟨b, off, none⟩) 4 cap] w fun e w' => e = .returned (.int .u64 (getL [x0, x1, x2, x3] : Nat)) ∧ w = w' := by
  obtain ⟨A3, hA3⟩ : ∃ A : Nat, A = x3 * 16777216 := ⟨_, rfl⟩
  have e3 : bits BinOp.or IntKind.u64 0 ((x3 : Int) * 16777216) = (A3 : Int) := or_join 0 x3 16777216 A3 (by omega) (by omega) (by omega) (by omega) ⟨24, rfl⟩
  obtain ⟨A2, hA2⟩ : ∃ A : Nat, A = x3 * 16777216 + x2 * 65536 := ⟨_, rfl⟩
  have e2 : bits BinOp.or IntKind.u64 (A3 : Int) ((x2 : Int) * 65536) = (A2 : Int) := or_join A3 x2 65536 A2 (by omega) (by omega) (by omega) (by omega) ⟨16, rfl⟩
  obtain ⟨A1, hA1⟩ : ∃ A : Nat, A = x3 * 16777216 + x2 * 65536 + x1 * 256 := ⟨_, rfl⟩
  have e1 : bits BinOp.or IntKind.u64 (A2 : Int) ((x1 : Int) * 256) = (A1 : Int) := or_join A2 x1 256 A1 (by omega) (by omega) (by omega) (by omega) ⟨8, rfl⟩
  obtain ⟨A0, hA0⟩ : ∃ A : Nat, A = x3 * 16777216 + x2 * 65536 + x1 * 256 + x0 * 1 := ⟨_, rfl⟩
  have e0 : bits BinOp.or IntKind.u64 (A1 : Int) (x0 : Int) = (A0 : Int) := or_join0 A1 x0 A0 (by omega) (by omega) (by omega) (by omega)
  have HA : Hid (A0 = x3 * 16777216 + x2 * 65536 + x1 * 256 + x0 * 1) := hA0
  clear hA0 hA1 hA2 hA3
  go_enter Try.func52, Try.ntmps52
  go_wp2
  all_goals go_ret
  all_goals have hE : (A0 : Int) = ((getL [x0, x1, x2, x3] : Nat) : Int) := by have := HA.out; simp only [getL]; omega
  all_goals exact ⟨ret_int hE, rfl⟩

set_option maxHeartbeats 1000000 in
theorem get_5 (b off cap : Nat) (x0 x1 x2 x3 x4 : Nat) (w : World) (h0 : w.cell? ⟨b, off, none⟩ = some (.int .u8 (x0 : Int))) (h1 : w.cell? ⟨b, off + 1, none⟩ = some (.int .u8 (x1 : Int))) (h2 : w.cell? ⟨b, off + 2, none⟩ = some (.int .u8 (x2 : Int))) (h3 : w.cell? ⟨b, off + 3, none⟩ = some (.int .u8 (x3 : Int))) (h4 : w.cell? ⟨b, off + 4, none⟩ = some (.int .u8 (x4 : Int))) (b0 : x0 < 256) (b1 : x1 < 256) (b2 : x2 < 256) (b3 : x3 < 256) (b4 : x4 < 256) :
    Calls Try.prog 52 #[.slice (some ⟨b, off, none⟩) 5 cap] w fun e w' => e = .returned (.int .u64 (getL [x0, x1, x2, x3, x4] : Nat)) ∧ w = w' := by
  obtain ⟨A4, hA4⟩ : ∃ A : Nat, A = x4 * 4294967296 := ⟨_, rfl⟩
  have e4 : bits BinOp.or IntKind.u64 0 ((x4 : Int) * 4294967296) = (A4 : Int) := or_join 0 x4 4294967296 A4 (by omega) (by omega) (by omega) (by omega) ⟨32, rfl⟩
  obtain ⟨A3, hA3⟩ : ∃ A : Nat, A = x4 * 4294967296 + x3 * 16777216 := ⟨_, rfl⟩
  have e3 : bits BinOp.or IntKind.u64 (A4 : Int) ((x3 : Int) * 16777216) = (A3 : Int) := or_join A4 x3 16777216 A3 (by omega) (by omega) (by omega) (by omega) ⟨24, rfl⟩
  obtain ⟨A2, hA2⟩ : ∃ A : Nat, A = x4 * 4294967296 + x3 * 16777216 + x2 * 65536 := ⟨_, rfl⟩
  have e2 : bits BinOp.or IntKind.u64 (A3 : Int) ((x2 : Int) * 65536) = (A2 : Int) := or_join A3 x2 65536 A2 (by omega) (by omega) (by omega) (by omega) ⟨16, rfl⟩
  obtain ⟨A1, hA1⟩ : ∃ A : Nat, A = x4 * 4294967296 + x3 * 16777216 + x2 * 65536 + x1 * 256 := ⟨_, rfl⟩
  have e1 : bits BinOp.or IntKind.u64 (A2 : Int) ((x1 : Int) * 256) = (A1 : Int) := or_join A2 x1 256 A1 (by omega) (by omega) (by omega) (by omega) ⟨8, rfl⟩
  obtain ⟨A0, hA0⟩ : ∃ A : Nat, A = x4 * 4294967296 + x3 * 16777216 + x2 * 65536 + x1 * 256 + x0 * 1 := ⟨_, rfl⟩
  have e0 : bits BinOp.or IntKind.u64 (A1 : Int) (x0 : Int) = (A0 : Int) := or_join0 A1 x0 A0 (by omega) (by omega) (by omega) (by omega)
  have HA : Hid (A0 = x4 * 4294967296 + x3 * 16777216 + x2 * 65536 + x1 * 256 + x0 * 1) := hA0
  clear hA0 hA1 hA2 hA3 hA4
  go_enter Try.func52, Try.ntmps52
  go_wp2
  all_goals go_ret
  all_goals have hE : (A0 : Int) = ((getL [x0, x1, x2, x3, x4] : Nat) : Int) := by have := HA.out; simp only [getL]; omega
  all_goals exact ⟨ret_int hE, rfl⟩

set_option maxHeartbeats 1000000 in
theorem get_6 (b off cap : Nat) (x0 x1 x2 x3 x4 x5 : Nat) (w : World) (h0 : w.cell? ⟨b, off, none⟩ = some (.int .u8 (x0 : Int))) (h1 : w.cell? ⟨b, off + 1, none⟩ = some (.int .u8 (x1 : Int))) (h2 : w.cell? ⟨b, off + 2, none⟩ = some (.int .u8 (x2 : Int))) (h3 : w.cell? ⟨b, off + 3, none⟩ = some (.int .u8 (x3 : Int))) (h4 : w.cell? ⟨b, off + 4, none⟩ = some (.int .u8 (x4 : Int))) (h5 : w.cell? ⟨b, off + 5, none⟩ = some (.int .u8 (x5 : Int))) (b0 : x0 < 256) (b1 : x1 < 256) (b2 : x2 < 256) (b3 : x3 < 256) (b4 : x4 < 256) (b5 : x5 < 256) :
    Calls Try.prog 52 #[.slice (some ⟨b, off, none⟩) 6 cap] w fun e w' => e = .returned (.int .u64 (getL [x0, x1, x2, x3, x4, x5] : Nat)) ∧ w = w' := by
  obtain ⟨A5, hA5⟩ : ∃ A : Nat, A = x5 * 1099511627776 := ⟨_, rfl⟩
  have e5 : bits BinOp.or IntKind.u64 0 ((x5 : Int) * 1099511627776) = (A5 : Int) := or_join 0 x5 1099511627776 A5 (by omega) (by omega) (by omega) (by omega) ⟨40, rfl⟩
  obtain ⟨A4, hA4⟩ : ∃ A : Nat, A = x5 * 1099511627776 + x4 * 4294967296 := ⟨_, rfl⟩
  have e4 : bits BinOp.or IntKind.u64 (A5 : Int) ((x4 : Int) * 4294967296) = (A4 : Int) := or_join A5 x4 4294967296 A4 (by omega) (by omega) (by omega) (by omega) ⟨32, rfl⟩
  obtain ⟨A3, hA3⟩ : ∃ A : Nat, A = x5 * 1099511627776 + x4 * 4294967296 + x3 * 16777216 := ⟨_, rfl⟩
  have e3 : bits BinOp.or IntKind.u64 (A4 : Int) ((x3 : Int) * 16777216) = (A3 : Int) := or_join A4 x3 16777216 A3 (by omega) (by omega) (by omega) (by omega) ⟨24, rfl⟩
  obtain ⟨A2, hA2⟩ : ∃ A : Nat, A = x5 * 1099511627776 + x4 * 4294967296 + x3 * 16777216 + x2 * 65536 := ⟨_, rfl⟩
  have e2 : bits BinOp.or IntKind.u64 (A3 : Int) ((x2 : Int) * 65536) = (A2 : Int) := or_join A3 x2 65536 A2 (by omega) (by omega) (by omega) (by omega) ⟨16, rfl⟩
  obtain ⟨A1, hA1⟩ : ∃ A : Nat, A = x5 * 1099511627776 + x4 * 4294967296 + x3 * 16777216 + x2 * 65536 + x1 * 256 := ⟨_, rfl⟩
  have e1 : bits BinOp.or IntKind.u64 (A2 : Int) ((x1 : Int) * 256) = (A1 : Int) := or_join A2 x1 256 A1 (by omega) (by omega) (by omega) (by omega) ⟨8, rfl⟩
  obtain ⟨A0, hA0⟩ : ∃ A : Nat, A = x5 * 1099511627776 + x4 * 4294967296 + x3 * 16777216 + x2 * 65536 + x1 * 256 + x0 * 1 := ⟨_, rfl⟩
  have e0 : bits BinOp.or IntKind.u64 (A1 : Int) (x0 : Int) = (A0 : Int) := or_join0 A1 x0 A0 (by omega) (by omega) (by omega) (by omega)
  have HA : Hid (A0 = x5 * 1099511627776 + x4 * 4294967296 + x3 * 16777216 + x2 * 65536 + x1 * 256 + x0 * 1) := hA0
  clear hA0 hA1 hA2 hA3 hA4 hA5
  go_enter Try.func52, Try.ntmps52
  go_wp2
  all_goals go_ret
  all_goals have hE : (A0 : Int) = ((getL [x0, x1, x2, x3, x4, x5] : Nat) : Int) := by have := HA.out; simp only [getL]; omega
  all_goals exact ⟨ret_int hE, rfl⟩

set_option maxHeartbeats 1000000 in
theorem get_7 (b off cap : Nat) (x0 x1 x2 x3 x4 x5 x6 : Nat) (w : World) (h0 : w.cell? ⟨b, off, none⟩ = some (.int .u8 (x0 : Int))) (h1 : w.cell? ⟨b, off + 1, none⟩ = some (.int .u8 (x1 : Int))) (h2 : w.cell? ⟨b, off + 2, none⟩ = some (.int .u8 (x2 : Int))) (h3 : w.cell? ⟨b, off + 3, none⟩ = some (.int .u8 (x3 : Int))) (h4 : w.cell? ⟨b, off + 4, none⟩ = some (.int .u8 (x4 : Int))) (h5 : w.cell? ⟨b, off + 5, none⟩ = some (.int .u8 (x5 : Int))) (h6 : w.cell? ⟨b, off + 6, none⟩ = some (.int .u8 (x6 : Int))) (b0 : x0 < 256) (b1 : x1 < 256) (b2 : x2 < 256) (b3 : x3 < 256) (b4 : x4 < 256) (b5 : x5 < 256) (b6 : x6 < 256) :
    Calls Try.prog 52 #[.slice (some ⟨b, off, none⟩) 7 cap] w fun e w' => e = .returned (.int .u64 (getL [x0, x1, x2, x3, x4, x5, x6] : Nat)) ∧ w = w' := by
  obtain ⟨A6, hA6⟩ : ∃ A : Nat, A = x6 * 281474976710656 := ⟨_, rfl⟩
  have e6 : bits BinOp.or IntKind.u64 0 ((x6 : Int) * 281474976710656) = (A6 : Int) := or_join 0 x6 281474976710656 A6 (by omega) (by omega) (by omega) (by omega) ⟨48, rfl⟩
  obtain ⟨A5, hA5⟩ : ∃ A : Nat, A = x6 * 281474976710656 + x5 * 1099511627776 := ⟨_, rfl⟩
  have e5 : bits BinOp.or IntKind.u64 (A6 : Int) ((x5 : Int) * 1099511627776) = (A5 : Int) := or_join A6 x5 1099511627776 A5 (by omega) (by omega) (by omega) (by omega) ⟨40, rfl⟩
  obtain ⟨A4, hA4⟩ : ∃ A : Nat, A = x6 * 281474976710656 + x5 * 1099511627776 + x4 * 4294967296 := ⟨_, rfl⟩
  have e4 : bits BinOp.or IntKind.u64 (A5 : Int) ((x4 : Int) * 4294967296) = (A4 : Int) := or_join A5 x4 4294967296 A4 (by omega) (by omega) (by omega) (by omega) ⟨32, rfl⟩
  obtain ⟨A3, hA3⟩ : ∃ A : Nat, A = x6 * 281474976710656 + x5 * 1099511627776 + x4 * 4294967296 + x3 * 16777216 := ⟨_, rfl⟩
  have e3 : bits BinOp.or IntKind.u64 (A4 : Int) ((x3 : Int) * 16777216) = (A3 : Int) := or_join A4 x3 16777216 A3 (by omega) (by omega) (by omega) (by omega) ⟨24, rfl⟩
  obtain ⟨A2, hA2⟩ : ∃ A : Nat, A = x6 * 281474976710656 + x5 * 1099511627776 + x4 * 4294967296 + x3 * 16777216 + x2 * 65536 := ⟨_, rfl⟩
  have e2 : bits BinOp.or IntKind.u64 (A3 : Int) ((x2 : Int) * 65536) = (A2 : Int) := or_join A3 x2 65536 A2 (by omega) (by omega) (by omega) (by omega) ⟨16, rfl⟩
  obtain ⟨A1, hA1⟩ : ∃ A : Nat, A = x6 * 281474976710656 + x5 * 1099511627776 + x4 * 4294967296 + x3 * 16777216 + x2 * 65536 + x1 * 256 := ⟨_, rfl⟩
  have e1 : bits BinOp.or IntKind.u64 (A2 : Int) ((x1 : Int) * 256) = (A1 : Int) := or_join A2 x1 256 A1 (by omega) (by omega) (by omega) (by omega) ⟨8, rfl⟩
  obtain ⟨A0, hA0⟩ : ∃ A : Nat, A = x6 * 281474976710656 + x5 * 1099511627776 + x4 * 4294967296 + x3 * 16777216 + x2 * 65536 + x1 * 256 + x0 * 1 := ⟨_, rfl⟩
  have e0 : bits BinOp.or IntKind.u64 (A1 : Int) (x0 : Int) = (A0 : Int) := or_join0 A1 x0 A0 (by omega) (by omega) (by omega) (by omega)
  have HA : Hid (A0 = x6 * 281474976710656 + x5 * 1099511627776 + x4 * 4294967296 + x3 * 16777216 + x2 * 65536 + x1 * 256 + x0 * 1) := hA0
  clear hA0 hA1 hA2 hA3 hA4 hA5 hA6
  go_enter Try.func52, Try.ntmps52
  go_wp2
  all_goals go_ret
  all_goals have hE : (A0 : Int) = ((getL [x0, x1, x2, x3, x4, x5, x6] : Nat) : Int) := by have := HA.out; simp only [getL]; omega
  all_goals exact ⟨ret_int hE, rfl⟩

set_option maxHeartbeats 1000000 in
theorem get_8 (b off cap : Nat) (x0 x1 x2 x3 x4 x5 x6 x7 : Nat) (w : World) (n : Nat) (hn : 8 ≤ n) (hm : n ≤ 9223372036854775807) (h0 : w.cell? ⟨b, off, none⟩ = some (.int .u8 (x0 : Int))) (h1 : w.cell? ⟨b, off + 1, none⟩ = some (.int .u8 (x1 : Int))) (h2 : w.cell? ⟨b, off + 2, none⟩ = some (.int .u8 (x2 : Int))) (h3 : w.cell? ⟨b, off + 3, none⟩ = some (.int .u8 (x3 : Int))) (h4 : w.cell? ⟨b, off + 4, none⟩ = some (.int .u8 (x4 : Int))) (h5 : w.cell? ⟨b, off + 5, none⟩ = some (.int .u8 (x5 : Int))) (h6 : w.cell? ⟨b, off + 6, none⟩ = some (.int .u8 (x6 : Int))) (h7 : w.cell? ⟨b, off + 7, none⟩ = some (.int .u8 (x7 : Int))) (b0 : x0 < 256) (b1 : x1 < 256) (b2 : x2 < 256) (b3 : x3 < 256) (b4 : x4 < 256) (b5 : x5 < 256) (b6 : x6 < 256) (b7 : x7 < 256) :
    Calls Try.prog 52 #[.slice (some ⟨b, off, none⟩) n cap] w fun e w' => e = .returned (.int .u64 (getL [x0, x1, x2, x3, x4, x5, x6, x7] : Nat)) ∧ w = w' := by
  obtain ⟨A7, hA7⟩ : ∃ A : Nat, A = x7 * 72057594037927936 := ⟨_, rfl⟩
  have e7 : bits BinOp.or IntKind.u64 0 ((x7 : Int) * 72057594037927936) = (A7 : Int) := or_join 0 x7 72057594037927936 A7 (by omega) (by omega) (by omega) (by omega) ⟨56, rfl⟩
  obtain ⟨A6, hA6⟩ : ∃ A : Nat, A = x7 * 72057594037927936 + x6 * 281474976710656 := ⟨_, rfl⟩
  have e6 : bits BinOp.or IntKind.u64 (A7 : Int) ((x6 : Int) * 281474976710656) = (A6 : Int) := or_join A7 x6 281474976710656 A6 (by omega) (by omega) (by omega) (by omega) ⟨48, rfl⟩
  obtain ⟨A5, hA5⟩ : ∃ A : Nat, A = x7 * 72057594037927936 + x6 * 281474976710656 + x5 * 1099511627776 := ⟨_, rfl⟩
  have e5 : bits BinOp.or IntKind.u64 (A6 : Int) ((x5 : Int) * 1099511627776) = (A5 : Int) := or_join A6 x5 1099511627776 A5 (by omega) (by omega) (by omega) (by omega) ⟨40, rfl⟩
  obtain ⟨A4, hA4⟩ : ∃ A : Nat, A = x7 * 72057594037927936 + x6 * 281474976710656 + x5 * 1099511627776 + x4 * 4294967296 := ⟨_, rfl⟩
  have e4 : bits BinOp.or IntKind.u64 (A5 : Int) ((x4 : Int) * 4294967296) = (A4 : Int) := or_join A5 x4 4294967296 A4 (by omega) (by omega) (by omega) (by omega) ⟨32, rfl⟩
  obtain ⟨A3, hA3⟩ : ∃ A : Nat, A = x7 * 72057594037927936 + x6 * 281474976710656 + x5 * 1099511627776 + x4 * 4294967296 + x3 * 16777216 := ⟨_, rfl⟩
  have e3 : bits BinOp.or IntKind.u64 (A4 : Int) ((x3 : Int) * 16777216) = (A3 : Int) := or_join A4 x3 16777216 A3 (by omega) (by omega) (by omega) (by omega) ⟨24, rfl⟩
  obtain ⟨A2, hA2⟩ : ∃ A : Nat, A = x7 * 72057594037927936 + x6 * 281474976710656 + x5 * 1099511627776 + x4 * 4294967296 + x3 * 16777216 + x2 * 65536 := ⟨_, rfl⟩
  have e2 : bits BinOp.or IntKind.u64 (A3 : Int) ((x2 : Int) * 65536) = (A2 : Int) := or_join A3 x2 65536 A2 (by omega) (by omega) (by omega) (by omega) ⟨16, rfl⟩
  obtain ⟨A1, hA1⟩ : ∃ A : Nat, A = x7 * 72057594037927936 + x6 * 281474976710656 + x5 * 1099511627776 + x4 * 4294967296 + x3 * 16777216 + x2 * 65536 + x1 * 256 := ⟨_, rfl⟩
  have e1 : bits BinOp.or IntKind.u64 (A2 : Int) ((x1 : Int) * 256) = (A1 : Int) := or_join A2 x1 256 A1 (by omega) (by omega) (by omega) (by omega) ⟨8, rfl⟩
  obtain ⟨A0, hA0⟩ : ∃ A : Nat, A = x7 * 72057594037927936 + x6 * 281474976710656 + x5 * 1099511627776 + x4 * 4294967296 + x3 * 16777216 + x2 * 65536 + x1 * 256 + x0 * 1 := ⟨_, rfl⟩
  have e0 : bits BinOp.or IntKind.u64 (A1 : Int) (x0 : Int) = (A0 : Int) := or_join0 A1 x0 A0 (by omega) (by omega) (by omega) (by omega)
  have HA : Hid (A0 = x7 * 72057594037927936 + x6 * 281474976710656 + x5 * 1099511627776 + x4 * 4294967296 + x3 * 16777216 + x2 * 65536 + x1 * 256 + x0 * 1) := hA0
  clear hA0 hA1 hA2 hA3 hA4 hA5 hA6 hA7
  go_enter Try.func52, Try.ntmps52
  go_wp2
  all_goals go_ret
  all_goals have hE : (A0 : Int) = ((getL [x0, x1, x2, x3, x4, x5, x6, x7] : Nat) : Int) := by have := HA.out; simp only [getL]; omega
  all_goals exact ⟨ret_int hE, rfl⟩

theorem get_any (a : Option Addr) (cap : Nat) (l : List Nat) (w : World) (hl : l.length ≤ maxLen) (hb : ∀ x ∈ l, x < 256) (hr : BRow w a l) :
    Calls Try.prog 52 #[.slice a l.length cap] w fun e w' => e = .returned (.int .u64 (getL (l.take 8) : Nat)) ∧ w = w' := by
  unfold maxLen at hl
  rcases hr with rfl | ⟨b, off, rfl, hc⟩
  · exact get_0 a cap w
  · match l, hl, hb, hc with
    | [], _, _, _ => exact get_0 _ cap w
    | [x0], hl, hb, hc => exact get_1 b off cap x0 w (by have := hc 0 (by simp); simpa using this) (hb x0 (by simp))
    | [x0, x1], hl, hb, hc => exact get_2 b off cap x0 x1 w (by have := hc 0 (by simp); simpa using this) (by have := hc 1 (by simp); simpa using this) (hb x0 (by simp)) (hb x1 (by simp))
    | [x0, x1, x2], hl, hb, hc => exact get_3 b off cap x0 x1 x2 w (by have := hc 0 (by simp); simpa using this) (by have := hc 1 (by simp); simpa using this) (by have := hc 2 (by simp); simpa using this) (hb x0 (by simp)) (hb x1 (by simp)) (hb x2 (by simp))
    | [x0, x1, x2, x3], hl, hb, hc => exact get_4 b off cap x0 x1 x2 x3 w (by have := hc 0 (by simp); simpa using this) (by have := hc 1 (by simp); simpa using this) (by have := hc 2 (by simp); simpa using this) (by have := hc 3 (by simp); simpa using this) (hb x0 (by simp)) (hb x1 (by simp)) (hb x2 (by simp)) (hb x3 (by simp))
    | [x0, x1, x2, x3, x4], hl, hb, hc => exact get_5 b off cap x0 x1 x2 x3 x4 w (by have := hc 0 (by simp); simpa using this) (by have := hc 1 (by simp); simpa using this) (by have := hc 2 (by simp); simpa using this) (by have := hc 3 (by simp); simpa using this) (by have := hc 4 (by simp); simpa using this) (hb x0 (by simp)) (hb x1 (by simp)) (hb x2 (by simp)) (hb x3 (by simp)) (hb x4 (by simp))
    | [x0, x1, x2, x3, x4, x5], hl, hb, hc => exact get_6 b off cap x0 x1 x2 x3 x4 x5 w (by have := hc 0 (by simp); simpa using this) (by have := hc 1 (by simp); simpa using this) (by have := hc 2 (by simp); simpa using this) (by have := hc 3 (by simp); simpa using this) (by have := hc 4 (by simp); simpa using this) (by have := hc 5 (by simp); simpa using this) (hb x0 (by simp)) (hb x1 (by simp)) (hb x2 (by simp)) (hb x3 (by simp)) (hb x4 (by simp)) (hb x5 (by simp))
    | [x0, x1, x2, x3, x4, x5, x6], hl, hb, hc => exact get_7 b off cap x0 x1 x2 x3 x4 x5 x6 w (by have := hc 0 (by simp); simpa using this) (by have := hc 1 (by simp); simpa using this) (by have := hc 2 (by simp); simpa using this) (by have := hc 3 (by simp); simpa using this) (by have := hc 4 (by simp); simpa using this) (by have := hc 5 (by simp); simpa using this) (by have := hc 6 (by simp); simpa using this) (hb x0 (by simp)) (hb x1 (by simp)) (hb x2 (by simp)) (hb x3 (by simp)) (hb x4 (by simp)) (hb x5 (by simp)) (hb x6 (by simp))
    | x0 :: x1 :: x2 :: x3 :: x4 :: x5 :: x6 :: x7 :: r, hl, hb, hc => exact get_8 b off cap x0 x1 x2 x3 x4 x5 x6 x7 w _ (by simp) (by simpa using hl) (by have := hc 0 (by simp); simpa using this) (by have := hc 1 (by simp); simpa using this) (by have := hc 2 (by simp); simpa using this) (by have := hc 3 (by simp); simpa using this) (by have := hc 4 (by simp); simpa using this) (by have := hc 5 (by simp); simpa using this) (by have := hc 6 (by simp); simpa using this) (by have := hc 7 (by simp); simpa using this) (hb x0 (by simp)) (hb x1 (by simp)) (hb x2 (by simp)) (hb x3 (by simp)) (hb x4 (by simp)) (hb x5 (by simp)) (hb x6 (by simp)) (hb x7 (by simp))
end Go.Proofs.Ytfalbbcbgkiejaa
