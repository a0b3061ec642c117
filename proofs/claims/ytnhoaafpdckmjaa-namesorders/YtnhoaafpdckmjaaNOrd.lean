/-
  The order of texts: it is one; and what is sorted has all that it was given, in order.
-/
import Derived.Test.YtnhoaafpdckmjaaNSort
import Derived.Sort.Walk0
namespace Go.Proofs.Ytnhoaafpdckmjaa
open Go.RowKit M

theorem bl_irrefl : ∀ x : List UInt8, Op.bytesLess x x = false
  | [] => rfl
  | a :: x => by simp [Op.bytesLess, bl_irrefl x]
theorem bl_asymm : ∀ {x y : List UInt8}, Op.bytesLess x y = true → Op.bytesLess y x = false
  | [], [], h => by simp [Op.bytesLess] at h
  | [], _ :: _, _ => rfl
  | _ :: _, [], h => by simp [Op.bytesLess] at h
  | a :: x, b :: y, h => by
    simp only [Op.bytesLess, Bool.or_eq_true, decide_eq_true_eq, Bool.and_eq_true, beq_iff_eq] at h
    rcases h with h | ⟨rfl, h⟩
    · have h1 : ¬ b < a := by rw [UInt8.lt_iff_toNat_lt] at h ⊢; omega
      have h2 : (b == a) = false := by rw [beq_eq_false_iff_ne]; intro e; rw [e, UInt8.lt_iff_toNat_lt] at h; omega
      simp [Op.bytesLess, h1, h2]
    · have h1 : ¬ a < a := by rw [UInt8.lt_iff_toNat_lt]; omega
      simp [Op.bytesLess, h1, bl_asymm h]
theorem bl_total : ∀ {x y : List UInt8}, x ≠ y → Op.bytesLess x y = true ∨ Op.bytesLess y x = true
  | [], [], h => absurd rfl h
  | [], _ :: _, _ => .inl rfl
  | _ :: _, [], _ => .inr rfl
  | a :: x, b :: y, h => by
    by_cases e : a = b
    · subst e
      have hxy : x ≠ y := fun e => h (by rw [e])
      rcases bl_total hxy with h1 | h1
      · exact .inl (by simp [Op.bytesLess, h1])
      · exact .inr (by simp [Op.bytesLess, h1])
    · by_cases h1 : a < b
      · exact .inl (by simp [Op.bytesLess, h1])
      · have h2 : b < a := by
          rw [UInt8.lt_iff_toNat_lt] at h1 ⊢
          have : a.toNat ≠ b.toNat := fun e2 => e (UInt8.toNat_inj.1 e2)
          omega
        exact .inr (by simp [Op.bytesLess, h2])
theorem bl_trans : ∀ {x y z : List UInt8}, Op.bytesLess x y = true → Op.bytesLess y z = true → Op.bytesLess x z = true
  | [], [], _, h, _ => by simp [Op.bytesLess] at h
  | _ :: _, [], _, h, _ => by simp [Op.bytesLess] at h
  | [], _ :: _, [], _, h => by simp [Op.bytesLess] at h
  | [], _ :: _, _ :: _, _, _ => rfl
  | _ :: _, _ :: _, [], _, h => by simp [Op.bytesLess] at h
  | a :: x, b :: y, c :: z, h1, h2 => by
    simp only [Op.bytesLess, Bool.or_eq_true, decide_eq_true_eq, Bool.and_eq_true, beq_iff_eq] at h1 h2 ⊢
    rcases h1 with h1 | ⟨rfl, h1⟩
    · rcases h2 with h2 | ⟨rfl, h2⟩
      · left; rw [UInt8.lt_iff_toNat_lt] at h1 h2 ⊢; omega
      · exact .inl h1
    · rcases h2 with h2 | ⟨rfl, h2⟩
      · exact .inl h2
      · exact .inr ⟨rfl, bl_trans h1 h2⟩
theorem le_iff (x y : List UInt8) : decide (x ≤ y) = !(Op.bytesLess y x) := by
  rw [bytesLess_eq]
  by_cases h : y < x
  · have : ¬ x ≤ y := fun h2 => h2 h
    rw [decide_eq_true h, decide_eq_false this]; rfl
  · have : x ≤ y := h
    rw [decide_eq_false h, decide_eq_true this]; rfl
theorem lt_of {x y : ByteArray} : lt x y = Op.bytesLess x.data.toList y.data.toList := by unfold lt; rw [ByteArray.toList_eq, ByteArray.toList_eq]
theorem data_ne {x y : ByteArray} (h : x ≠ y) : x.data.toList ≠ y.data.toList := fun e => h (by rw [← bs_of x, ← bs_of y, e])
theorem lt_self (x : ByteArray) : lt x x = false := by rw [lt_of]; exact bl_irrefl _
theorem lt_asymm {x y : ByteArray} (h : lt x y = true) : lt y x = false := by rw [lt_of] at h ⊢; exact bl_asymm h
theorem lt_total {x y : ByteArray} (h : x ≠ y) : lt x y = true ∨ lt y x = true := by rw [lt_of, lt_of]; exact bl_total (data_ne h)
theorem lt_trans {x y z : ByteArray} (h1 : lt x y = true) (h2 : lt y z = true) : lt x z = true := by rw [lt_of] at h1 h2 ⊢; exact bl_trans h1 h2

/-- In order: none stands ahead of one that it follows. -/
def inOrder (l : List ByteArray) : Prop := l.Pairwise (fun x y => lt y x = false)
theorem sorted_order (l : List ByteArray) : inOrder (sorted l) := by
  unfold inOrder sorted
  rw [List.pairwise_map]
  have h := List.pairwise_mergeSort (le := fun x y : List UInt8 => decide (x ≤ y)) (fun a b c => by
    rw [le_iff, le_iff, le_iff]
    simp only [Bool.not_eq_true']
    intro h1 h2
    cases h3 : Op.bytesLess c a with
    | false => rfl
    | true =>
      by_cases e : a = b
      · subst e; rw [h3] at h2; exact h2
      · rcases bl_total e with h | h
        · have := bl_trans h3 h; rw [this] at h2; exact h2
        · rw [h] at h1; exact h1) (fun a b => by
    rw [le_iff, le_iff]
    cases h : Op.bytesLess b a with
    | false => rfl
    | true => rw [bl_asymm h]; rfl) (datas l)
  refine h.imp ?_
  intro x y hxy
  rw [le_iff] at hxy
  rw [lt_of, bs_data, bs_data]
  simpa using hxy
theorem sorted_perm (l : List ByteArray) : (sorted l).Perm l := by
  unfold sorted
  have := (List.mergeSort_perm (datas l) (fun x y => decide (x ≤ y))).map bs
  rwa [bs_datas] at this
end Go.Proofs.Ytnhoaafpdckmjaa
