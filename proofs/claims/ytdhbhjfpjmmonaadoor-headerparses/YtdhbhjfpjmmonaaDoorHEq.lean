/-
  Two Maps are one if their three numbers are.
-/
import Derived.Test.YtdhbhjfpjmmonaaDoorHRes
import Derived.Laws.StructEq
import Derived.Deep.QuietTactic
import Derived.BigQuiet
namespace Go.Proofs.YtdhbhjfpjmmonaaDoor
open Go.RowKit Go.Extern.Stop Go.Stop Go.Extern M

theorem eql_map (w : World) (a1 a2 a3 b1 b2 b3 : Int) :
    (binOp .eql 24 (.agg #[.int .i64 a1, .int .u64 a2, .int .i64 a3]) (.agg #[.int .i64 b1, .int .u64 b2, .int .i64 b3])).run Tryd.prog w = .ok (.bool (a1 == b1 && a2 == b2 && a3 == b3)) w := by
  have hu := Tryd.underlying24
  have hi := Tryd.underlying3
  have hv := Tryd.underlying22
  have hp : Tryd.prog.stoodInHeld 24 = false := by kernel_rfl
  rw [run_eql_struct, run_equalIn_struct w 9999 _ _ _ (by rw [Program.fieldsOf, hu]) hp]
  by_cases e1 : a1 = b1
  · by_cases e2 : a2 = b2
    · by_cases e3 : a3 = b3 <;> simp [go_sem, hu, hi, hv, e1, e2, e3]
    · simp [go_sem, hu, hi, hv, e1, e2]
  · simp [go_sem, hu, hi, hv, e1]

theorem mixed : Tryd.prog.follows .mixedOrders = true := by kernel_rfl
/-- A world in which all that was is as it was. -/
structure Wd (w : World) where
  v : World
  h : Below w.heap.size w v
/-- A region that draws its order, whose operations answer the same in every such world. -/
theorem quiet_below {id : Nat} {Q : Exit → Act → World → Prop} {a : Act} {w : World} {l : List Oper} (hB : Region.lexB .any l.toArray = true)
    (h : wpQuiet Tryd.prog l.toArray (fun w' => ∃ p : Wd w, w' = p.v) (fun a' => ∀ w', (∃ p : Wd w, w' = p.v) → Q .normal a' w') l a) : (Code.region id l.toArray true).wp Tryd.prog Q a w :=
  wp_region_quiet (C := fun w' => ∃ p : Wd w, w' = p.v) mixed hB ⟨⟨w.drew, below_drew w⟩, rfl⟩ (by simpa using h)
theorem alive_wd {w : World} (hg : Glb w) (p : Wd w) : Calls Tryd.prog 12 #[] p.v fun e w'' => e = .returned (.bool true) ∧ ∃ q : Wd w, w'' = q.v := by
  refine (alive_any p.v (hg.later p.h)).mono ?_
  rintro e w' ⟨rfl, hb⟩
  exact ⟨rfl, ⟨w', Below.after p.h hb⟩, rfl⟩
end Go.Proofs.YtdhbhjfpjmmonaaDoor
