/-
  The order of keys; slots, images, and what the document says of them, as lists.
-/
import Derived.Test.YtfmgaahileknfaaKMem
namespace Go.Proofs.Ytfmgaahileknfaa
open Go.RowKit M

abbrev K := ByteArray
theorem bl_irrefl : ∀ x : List UInt8, Op.bytesLess x x = false
  | [] => rfl
  | a :: x => by simp [Op.bytesLess, bl_irrefl x]
theorem bl_asymm : ∀ {x y : List UInt8}, Op.bytesLess x y = true → Op.bytesLess y x = false
  | [], [], h => by simp [Op.bytesLess] at h
  | [], _ :: _, _ => rfl
  | _ :: _, [], h => by simp [Op.bytesLess] at h
  | a :: x, b :: y, h => by
    simp only [Op.bytesLess, Bool.or_eq_true, decide_eq_true_eq, Bool.and_eq_true, beq_iff_eq] at h
    rcases h with h | ⟨rfl, h⟩
    · have h1 : ¬ b < a := by rw [UInt8.lt_iff_toNat_lt] at h ⊢; omega
      have h2 : (b == a) = false := by rw [beq_eq_false_iff_ne]; intro e; rw [e, UInt8.lt_iff_toNat_lt] at h; omega
      simp [Op.bytesLess, h1, h2]
    · have h1 : ¬ a < a := by rw [UInt8.lt_iff_toNat_lt]; omega
      simp [Op.bytesLess, h1, bl_asymm h]
theorem bl_total : ∀ {x y : List UInt8}, x ≠ y → Op.bytesLess x y = true ∨ Op.bytesLess y x = true
  | [], [], h => absurd rfl h
  | [], _ :: _, _ => .inl rfl
  | _ :: _, [], _ => .inr rfl
  | a :: x, b :: y, h => by
    by_cases e : a = b
    · subst e
      have hxy : x ≠ y := fun e => h (by rw [e])
      rcases bl_total hxy with h1 | h1
      · exact .inl (by simp [Op.bytesLess, h1])
      · exact .inr (by simp [Op.bytesLess, h1])
    · by_cases h1 : a < b
      · exact .inl (by simp [Op.bytesLess, h1])
      · have h2 : b < a := by
          rw [UInt8.lt_iff_toNat_lt] at h1 ⊢
          have : a.toNat ≠ b.toNat := fun e2 => e (UInt8.toNat_inj.1 e2)
          omega
        exact .inr (by simp [Op.bytesLess, h2])
theorem bl_trans : ∀ {x y z : List UInt8}, Op.bytesLess x y = true → Op.bytesLess y z = true → Op.bytesLess x z = true
  | [], [], _, h, _ => by simp [Op.bytesLess] at h
  | _ :: _, [], _, h, _ => by simp [Op.bytesLess] at h
  | [], _ :: _, [], _, h => by simp [Op.bytesLess] at h
  | [], _ :: _, _ :: _, _, _ => rfl
  | _ :: _, _ :: _, [], _, h => by simp [Op.bytesLess] at h
  | a :: x, b :: y, c :: z, h1, h2 => by
    simp only [Op.bytesLess, Bool.or_eq_true, decide_eq_true_eq, Bool.and_eq_true, beq_iff_eq] at h1 h2 ⊢
    rcases h1 with h1 | ⟨rfl, h1⟩
    · rcases h2 with h2 | ⟨rfl, h2⟩
      · left; rw [UInt8.lt_iff_toNat_lt] at h1 h2 ⊢; omega
      · exact .inl h1
    · rcases h2 with h2 | ⟨rfl, h2⟩
      · exact .inl h2
      · exact .inr ⟨rfl, bl_trans h1 h2⟩

/-- The order of keys. -/
def klt (a b : K) : Bool := Op.bytesLess a.toList b.toList
theorem klt_irrefl (a : K) : klt a a = false := bl_irrefl _
theorem klt_asymm {a b : K} (h : klt a b = true) : klt b a = false := bl_asymm h
theorem klt_trans {a b c : K} (h : klt a b = true) (g : klt b c = true) : klt a c = true := bl_trans h g
theorem list_inj {a b : K} (h : a.toList = b.toList) : a = b := by
  rw [ByteArray.toList_eq, ByteArray.toList_eq] at h
  cases a; cases b
  simpa [Array.toList_inj] using h
theorem klt_total {a b : K} (h : klt a b = false) (g : klt b a = false) : a = b := by
  by_cases e : a.toList = b.toList
  · exact list_inj e
  · rcases bl_total e with q | q
    · unfold klt at h; rw [h] at q; cases q
    · unfold klt at g; rw [g] at q; cases q
theorem keq (a b : K) : (a.toList == b.toList) = decide (a = b) := by
  by_cases e : a = b
  · subst e; simp
  · have : a.toList ≠ b.toList := fun q => e (list_inj q)
    simp [e, this]
theorem kgt (a b : K) : (!(Op.bytesLess a.toList b.toList || a.toList == b.toList)) = klt b a := by
  rw [keq]
  cases h : klt b a with
  | true =>
    have h1 := klt_asymm h
    have h2 : ¬ a = b := fun e => by rw [e, klt_irrefl] at h; cases h
    unfold klt at h1
    simp [h1, h2]
  | false =>
    by_cases e : a = b
    · simp [e]
    · have : klt a b = true := by
        cases q : klt a b with
        | true => rfl
        | false => exact absurd (klt_total q h) e
      unfold klt at this
      simp [this]
end Go.Proofs.Ytfmgaahileknfaa
