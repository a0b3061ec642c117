/-
  A text's runes, as the model decodes them: what stands behind a byte of 128 and more, as far as its rune goes, is 128 and more.
-/
import Derived.Test.YtplhlbajgijohabKTxt
import Derived.Test.YtplhlbajgijohabNShelf
import Derived.Shelf.RegionOpenPlain
import Derived.Deep.LoopGhost
import Derived.Deep.Draws
import Derived.Lib.Walk
import Derived.Laws.Strings3
import Derived.BigQuiet
import Derived.Laws.RangeAny
import Derived.RangeFuncRecord
namespace Go.Proofs.Ytplhlbajgijohab
open Go.RowKit M

theorem get_high {s : ByteArray} {i : Nat} (hi : i < s.size) (h : ((s.get! i).toNat / 64 == 2) = true) : 128 ≤ (s[i]'hi).toNat := by
  have e := get_at s i hi
  simp only [Nat.add_zero] at e
  rw [e] at h
  have := eq_of_beq h
  omega
theorem decode_skip (s : ByteArray) (pos : Nat) : ∀ k, 0 < k → k < (Utf8.decode s pos).2 → ∃ h : pos + k < s.size, 128 ≤ (s[pos + k]'h).toNat := by
  have key : ∀ k, (decide (pos + k < s.size) && (s.get! (pos + k)).toNat / 64 == 2) = true → ∃ h : pos + k < s.size, 128 ≤ (s[pos + k]'h).toNat := by
    intro k h
    rw [Bool.and_eq_true] at h
    exact ⟨of_decide_eq_true h.1, get_high (of_decide_eq_true h.1) h.2⟩
  intro k h0 hk
  simp only [Utf8.decode] at hk
  split at hk
  · simp at hk; omega
  · split at hk
    · rename_i h1
      rw [Bool.and_eq_true] at h1
      split at hk
      · simp at hk
        obtain rfl : k = 1 := by omega
        exact key 1 h1.2
      · simp at hk; omega
    · split at hk
      · rename_i h1
        rw [Bool.and_eq_true, Bool.and_eq_true] at h1
        split at hk
        · simp at hk
          have : k = 1 ∨ k = 2 := by omega
          rcases this with rfl | rfl
          · exact key 1 h1.1.2
          · exact key 2 h1.2
        · simp at hk; omega
      · split at hk
        · rename_i h1
          rw [Bool.and_eq_true, Bool.and_eq_true, Bool.and_eq_true] at h1
          split at hk
          · simp at hk
            have : k = 1 ∨ k = 2 ∨ k = 3 := by omega
            rcases this with rfl | rfl | rfl
            · exact key 1 h1.1.1.2
            · exact key 2 h1.1.2
            · exact key 3 h1.2
          · simp at hk; omega
        · simp at hk; omega
end Go.Proofs.Ytplhlbajgijohab
