/-
  The order of errnos: which is worse is one of the two, whatever their order, and goes on through a third one.
-/
import Derived.Test.YtafihnnlblacnaaDoorEWor
namespace Go.Proofs.YtafihnnlblacnaaDoor
open Go.RowKit

def Lesser (a b : Int) : Prop := b = 0 ∨ (a ≠ 0 ∧ (cls a < cls b ∨ cls a = cls b ∧ a ≤ b))
theorem lesser_refl (a : Int) : Lesser a a := by unfold Lesser; omega
theorem lesser_trans {a b c : Int} (h : Lesser a b) (k : Lesser b c) : Lesser a c := by unfold Lesser at *; omega
theorem lesser_antisymm {a b : Int} (h : Lesser a b) (k : Lesser b a) : a = b := by unfold Lesser at *; omega
theorem worse_spec (a b : Int) : (worse a b = a ∨ worse a b = b) ∧ Lesser (worse a b) a ∧ Lesser (worse a b) b := by
  unfold worse Lesser
  by_cases ha : a = 0
  · rw [if_pos ha]; omega
  · rw [if_neg ha]
    by_cases hb : b = 0
    · rw [if_pos hb]; omega
    · rw [if_neg hb]
      by_cases hc : cls a < cls b ∨ cls a = cls b ∧ a ≤ b
      · rw [if_pos hc]; omega
      · rw [if_neg hc]; omega
theorem worse_comm (a b : Int) : worse a b = worse b a := by
  obtain ⟨h1, h2, h3⟩ := worse_spec a b
  obtain ⟨k1, k2, k3⟩ := worse_spec b a
  refine lesser_antisymm ?_ ?_
  · rcases k1 with e | e <;> rw [e] <;> assumption
  · rcases h1 with e | e <;> rw [e] <;> assumption
theorem worse_assoc (a b c : Int) : worse (worse a b) c = worse a (worse b c) := by
  obtain ⟨h1, h2, h3⟩ := worse_spec a b
  obtain ⟨k1, k2, k3⟩ := worse_spec b c
  obtain ⟨l1, l2, l3⟩ := worse_spec (worse a b) c
  obtain ⟨m1, m2, m3⟩ := worse_spec a (worse b c)
  have La : Lesser (worse (worse a b) c) a := lesser_trans l2 h2
  have Lb : Lesser (worse (worse a b) c) b := lesser_trans l2 h3
  have Mb : Lesser (worse a (worse b c)) b := lesser_trans m3 k2
  have Mc : Lesser (worse a (worse b c)) c := lesser_trans m3 k3
  refine lesser_antisymm ?_ ?_
  · rcases m1 with e | e
    · rw [e]; exact La
    · rw [e]
      rcases k1 with e | e <;> rw [e] <;> assumption
  · rcases l1 with e | e
    · rw [e]
      rcases h1 with e | e <;> rw [e] <;> assumption
    · rw [e]; exact Mc
theorem worse_ok (a : Int) : worse a 0 = a := by
  unfold worse
  by_cases ha : a = 0
  · rw [if_pos ha, ha]
  · rw [if_neg ha, if_pos rfl]
theorem worse_zero {a b : Int} (h : worse a b = 0) : a = 0 ∧ b = 0 := by
  obtain ⟨_, h2, h3⟩ := worse_spec a b
  rw [h] at h2 h3
  unfold Lesser at h2 h3
  omega
end Go.Proofs.YtafihnnlblacnaaDoor
