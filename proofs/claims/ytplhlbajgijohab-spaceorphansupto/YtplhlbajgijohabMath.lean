/-
  Plain mathematics for the statements on package bits: a number's bytes, the check sum's steps, lists. No word of the program.
-/
import Derived.Laws.BitsAllLaws
import Derived.Laws.BitsLemmas
import Derived.Laws.Bits64
namespace Go.Proofs.Ytplhlbajgijohab.M

/-- One bit's step of the check sum. -/
def bit1 (n : Nat) : Nat := if n % 2 = 1 then (n / 2) ^^^ 3988292384 else n / 2
def bitN : Nat → Nat → Nat
  | 0, n => n
  | k + 1, n => bit1 (bitN k n)
/-- One byte's step. -/
def step8 (n : Nat) : Nat := bitN 8 n
/-- The sum's register behind the bytes l. -/
def regL : Nat → List Nat → Nat
  | c, [] => c
  | c, x :: l => regL (step8 (c ^^^ x)) l
def sumL (l : List Nat) : Nat := 4294967295 - regL 4294967295 l

theorem bit1_lt {n : Nat} (h : n < 4294967296) : bit1 n < 4294967296 := by
  unfold bit1
  split
  · exact Nat.xor_lt_two_pow (n := 32) (by omega) (by decide)
  · omega
theorem bitN_lt {n : Nat} (k : Nat) (h : n < 4294967296) : bitN k n < 4294967296 := by
  induction k with
  | zero => exact h
  | succ k ih => exact bit1_lt ih
theorem step8_lt {n : Nat} (h : n < 4294967296) : step8 n < 4294967296 := bitN_lt 8 h
theorem xor_lt32 {a b : Nat} (ha : a < 4294967296) (hb : b < 4294967296) : a ^^^ b < 4294967296 := Nat.xor_lt_two_pow (n := 32) ha hb
theorem regL_lt : ∀ (l : List Nat) (c : Nat), c < 4294967296 → (∀ x ∈ l, x < 256) → regL c l < 4294967296
  | [], c, h, _ => h
  | x :: l, c, h, hl => regL_lt l _ (step8_lt (xor_lt32 h (by have := hl x (by simp); omega))) (fun y hy => hl y (by simp [hy]))
theorem regL_snoc : ∀ (l : List Nat) (c x : Nat), regL c (l ++ [x]) = step8 (regL c l ^^^ x)
  | [], _, _ => rfl
  | y :: l, c, x => regL_snoc l (step8 (c ^^^ y)) x
theorem sumL_lt (l : List Nat) : sumL l < 4294967296 := by unfold sumL; omega

/-- A number's lowest bytes, the lowest first. -/
def putL : Nat → Nat → List Nat
  | 0, _ => []
  | k + 1, n => n % 256 :: putL k (n / 256)
/-- The number that bytes make, the lowest first. -/
def getL : List Nat → Nat
  | [] => 0
  | x :: l => x + 256 * getL l
theorem putL_length : ∀ k n, (putL k n).length = k
  | 0, _ => rfl
  | k + 1, n => by simp [putL, putL_length k]
theorem putL_lt : ∀ k n, ∀ x ∈ putL k n, x < 256
  | 0, _, x, h => by simp [putL] at h
  | k + 1, n, x, h => by
    simp only [putL, List.mem_cons] at h
    rcases h with rfl | h
    · exact Nat.mod_lt _ (by decide)
    · exact putL_lt k _ x h
theorem getL_putL : ∀ k n, getL (putL k n) = n % 256 ^ k
  | 0, n => by simp [putL, getL, Nat.mod_one]
  | k + 1, n => by
    simp only [putL, getL, getL_putL k]
    rw [Nat.pow_succ, Nat.mul_comm (256 ^ k) 256, Nat.mod_mul]
theorem putL_succ_last : ∀ k n, putL (k + 1) n = putL k n ++ [n / 256 ^ k % 256]
  | 0, n => by simp [putL]
  | k + 1, n => by
    show n % 256 :: putL (k + 1) (n / 256) = _
    rw [putL_succ_last k (n / 256)]
    simp only [putL, List.cons_append, List.cons.injEq, true_and, List.append_cancel_left_eq]
    rw [Nat.div_div_eq_div_mul, Nat.pow_succ, Nat.mul_comm 256]
    exact ⟨rfl, trivial⟩
theorem getL_lt : ∀ l : List Nat, (∀ x ∈ l, x < 256) → getL l < 256 ^ l.length
  | [], _ => by simp [getL]
  | x :: l, h => by
    have h1 := getL_lt l (fun y hy => h y (by simp [hy]))
    have h2 := h x (by simp)
    simp only [getL, List.length_cons, Nat.pow_succ]
    omega
theorem getL_append : ∀ a b : List Nat, getL (a ++ b) = getL a + 256 ^ a.length * getL b
  | [], b => by simp [getL]
  | x :: a, b => by
    simp only [List.cons_append, getL, getL_append a b, List.length_cons, Nat.pow_succ, Nat.mul_add]
    rw [Nat.mul_comm (256 ^ a.length) 256, Nat.mul_assoc]
    omega
theorem putL_getL : ∀ l : List Nat, (∀ x ∈ l, x < 256) → putL l.length (getL l) = l
  | [], _ => rfl
  | x :: l, h => by
    have h2 := h x (by simp)
    simp only [List.length_cons, putL, getL]
    have e1 : (x + 256 * getL l) % 256 = x := by omega
    have e2 : (x + 256 * getL l) / 256 = getL l := by omega
    rw [e1, e2, putL_getL l (fun y hy => h y (by simp [hy]))]
end Go.Proofs.Ytplhlbajgijohab.M
