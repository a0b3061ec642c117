/-
  Keys, by numbers alone: which bytes they are, and what kindOf tells of them.
-/
import Derived.Test.YtefpcdpclpignaaKAlive
namespace Go.Proofs.Ytefpcdpclpignaa
open Go.RowKit M

/-- A number's lowest 16 bits. -/
def m16 (n : Int) : Nat := (n % 65536).toNat
theorem hi2_eq (n : Int) : ∃ a b : UInt8, hi2 n = [a, b] ∧ num2 a b = m16 n := by
  refine ⟨UInt8.ofNat (n / 256 % 256).toNat, UInt8.ofNat (n % 256).toNat, rfl, ?_⟩
  unfold num2 m16
  simp only [UInt8.toNat_ofNat', Nat.reducePow]
  omega
theorem hiV_hi2 (n : Int) : hiV (hi2 n) = m16 n := by
  obtain ⟨a, b, h, e⟩ := hi2_eq n
  rw [h]
  exact e
theorem m16_small {n : Int} (h0 : 0 ≤ n) (h1 : n ≤ 65535) : ((m16 n : Nat) : Int) = n := by unfold m16; omega
theorem kind_inode (n : Int) : kindOf (pre3 n 1) = if inoB (m16 n : Nat) = true then (1, m16 n, [], 0) else (0, 0, [], 0) := by
  obtain ⟨a, b, h, e⟩ := hi2_eq n
  unfold pre3
  rw [h]
  show kindOf [a, b, 1] = _
  simp only [kindOf, e]
  by_cases h1 : inoB (m16 n : Nat) = true <;> simp [h1]
theorem kind_entry (n : Int) (l : List UInt8) : kindOf (pre3 n 2 ++ l) = if inoB (m16 n : Nat) = true ∧ nameB l = true then (2, m16 n, l, 0) else (0, 0, [], 0) := by
  obtain ⟨a, b, h, e⟩ := hi2_eq n
  unfold pre3
  rw [h]
  show kindOf (a :: b :: 2 :: l) = _
  simp only [kindOf, e]
  by_cases h1 : inoB (m16 n : Nat) = true <;> by_cases h2 : nameB l = true <;> simp [h1, h2]
theorem kind_block (n k : Int) : kindOf (pre3 n 3 ++ hi2 k) = if inoB (m16 n : Nat) = true ∧ blkB (m16 k : Nat) = true then (3, m16 n, [], m16 k) else (0, 0, [], 0) := by
  obtain ⟨a, b, h, e⟩ := hi2_eq n
  have h2 := hiV_hi2 k
  have h3 : (hi2 k).length = 2 := rfl
  obtain ⟨K, eK⟩ : ∃ K, K = hi2 k := ⟨_, rfl⟩
  rw [← eK] at h2 h3 ⊢
  unfold pre3
  rw [h]
  show kindOf (a :: b :: 3 :: K) = _
  simp only [kindOf, e, h2, h3]
  by_cases h1 : inoB (m16 n : Nat) = true <;> by_cases h2 : blkB (m16 k : Nat) = true <;> simp [h1, h2]
theorem kind_orphan (k : Int) : kindOf (pre3 0 4 ++ hi2 k) = if inoB (m16 k : Nat) = true then (4, m16 k, [], 0) else (0, 0, [], 0) := by
  have h2 := hiV_hi2 k
  have h3 : (hi2 k).length = 2 := rfl
  obtain ⟨K, eK⟩ : ∃ K, K = hi2 k := ⟨_, rfl⟩
  rw [← eK] at h2 h3 ⊢
  show kindOf (0 :: 0 :: 4 :: K) = _
  have e0 : num2 0 0 = 0 := rfl
  simp only [kindOf, e0, h2, h3]
  by_cases h1 : inoB (m16 k : Nat) = true <;> simp [h1]
/-- Kind, where its answer is known. -/
theorem kind_at {l : List UInt8} (hl : l.length ≤ 281474976710656) {k n b : Nat} {s : List UInt8} (h : kindOf l = (k, n, s, b)) (w : World) :
    Calls Try.prog 9 #[.string (bs l)] w fun e w' => e = .returned (.tuple #[.int .i64 (k : Int), .int .i64 (n : Int), .string (bs s), .int .i64 (b : Int)]) ∧ Below w.heap.size w w' := by
  have := kind_any l (by unfold maxLen; omega) w
  unfold kvOf kv at this
  rw [h] at this
  exact this
end Go.Proofs.Ytefpcdpclpignaa
