/-
  Bytes in new memory, and the law's own Same: small facts for the walks.
-/
import Derived.Test.YtdhbhjfpjmmonaaDoorUnframe
namespace Go.Proofs.YtdhbhjfpjmmonaaDoor
open Go.RowKit M

theorem brow_new (w : World) (cs : List Nat) (fz : Nat × Nat) : BRow (w.alloc (.cells (cs.map u8v).toArray 5 fz)) (some ⟨w.heap.size, 0, none⟩) cs := by
  refine .inr ⟨w.heap.size, 0, rfl, fun i hi => ?_⟩
  rw [cell_of_row _ w.heap.size (0 + i) _ 5 fz (heap_alloc_new w _)]
  simp [u8v, hi, List.getD]
theorem below_new (w : World) (o : Obj) : Below w.heap.size w (w.alloc o) := (Below.refl _ _).alloc (Nat.le_refl _) _
theorem size_new (w : World) (o : Obj) : (w.alloc o).heap.size = w.heap.size + 1 := by simp
theorem same_yes (w : World) (a b : Option Addr) (c d : Nat) (l : List Nat) (n : Nat) (hn : n = l.length) (hl : ∀ x ∈ l, x < 256) (ha : BRow w a l) (hb : BRow w b l) :
    Calls Tryd.prog 11 #[.slice a n c, .slice b n d] w fun e w' => e = .returned (.bool true) ∧ w = w' := by
  subst hn
  have := same_any a c l b d l w hl hl ha hb
  simpa using this
theorem own_at {w w' : World} {g n cap : Nat} {l : List Nat} (h : Own w w' (.slice (some ⟨g, 0, none⟩) n cap) l) : BRow w' (some ⟨g, 0, none⟩) l := by
  obtain ⟨a, c, hv, hr, _⟩ := h.row
  simp only [Value.slice.injEq] at hv
  rw [hv.1]
  exact hr
end Go.Proofs.YtdhbhjfpjmmonaaDoor
