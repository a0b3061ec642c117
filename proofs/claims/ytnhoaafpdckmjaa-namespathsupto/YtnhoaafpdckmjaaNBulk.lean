/-
  What a bound on the whole of what came in says of its lists of texts.
-/
import Derived.Test.YtnhoaafpdckmjaaNArg
namespace Go.Proofs.Ytnhoaafpdckmjaa
open Go.ChangeShapes Go.WideShapes Go.ChangeAt Go.RowKit M

/-- The bytes of all the texts, and one more for each. -/
def weigh (l : List ByteArray) : Nat := (l.map (fun s => s.size + 1)).sum
theorem weigh_nil : weigh [] = 0 := rfl
theorem weigh_cons (s : ByteArray) (l : List ByteArray) : weigh (s :: l) = s.size + 1 + weigh l := by simp [weigh]
theorem weigh_append (l m : List ByteArray) : weigh (l ++ m) = weigh l + weigh m := by simp [weigh]
theorem weigh_length : ∀ l : List ByteArray, l.length ≤ weigh l
  | [] => Nat.le_refl _
  | s :: l => by have := weigh_length l; rw [weigh_cons, List.length_cons]; omega
theorem bulk_strs {H : Type} : ∀ l : List ByteArray, Rows.uptoBulkAll (strs (H := H) l) = weigh l
  | [] => by simp [strs, Rows.uptoBulkAll, weigh_nil]
  | s :: l => by
    have h := bulk_strs (H := H) l
    unfold strs at h ⊢
    have e : s.data.toList.length = s.size := by rw [Array.length_toList]; rfl
    simp only [List.map_cons, Rows.uptoBulkAll, Rows.uptoBulk]
    rw [h, weigh_cons, e]
/-- What the reading of a list of texts weighs. -/
theorem bulk_slice {H : Type} (l m : List ByteArray) : Rows.uptoBulk (DataW.slice (strs (H := H) l) (strs m)) = weigh l + weigh m + 1 := by
  simp only [Rows.uptoBulk, bulk_strs]
end Go.Proofs.Ytnhoaafpdckmjaa
