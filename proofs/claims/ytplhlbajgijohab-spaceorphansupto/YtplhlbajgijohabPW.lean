/-
  Regions that draw their order, in all worlds in which what was is as it was.
-/
import Derived.Test.YtplhlbajgijohabPO
import Derived.Test.YtplhlbajgijohabPA
import Derived.BigQuiet
namespace Go.Proofs.Ytplhlbajgijohab
open Go.RowKit

theorem mixedW : Try.prog.follows Departure.mixedOrders = true := by kernel_rfl
/-- A world in which all that was is as it was. -/
structure Wd (w : World) where
  v : World
  h : Below w.heap.size w v
/-- A region that draws its order, whose operations answer the same in every such world. -/
theorem quiet_below {id : Nat} {Q : Exit → Act → World → Prop} {a : Act} {w : World} {l : List Oper} (hB : Region.lexB .any l.toArray = true)
    (h : wpQuiet Try.prog l.toArray (fun w' => ∃ p : Wd w, w' = p.v) (fun a' => ∀ w', (∃ p : Wd w, w' = p.v) → Q .normal a' w') l a) : (Code.region id l.toArray true).wp Try.prog Q a w :=
  wp_region_quiet (C := fun w' => ∃ p : Wd w, w' = p.v) mixedW hB ⟨⟨w.drew, below_drawn w 1⟩, rfl⟩ (by simpa using h)
theorem quiet_call {f : Nat} {args : Array Value} {v : Value} {w : World} (p : Wd w) (h : Calls Try.prog f args p.v fun e w' => e = .returned v ∧ Below p.v.heap.size p.v w') : Calls Try.prog f args p.v fun e w'' => e = .returned v ∧ ∃ q : Wd w, w'' = q.v := by
  refine h.mono ?_
  rintro e w' ⟨rfl, hb⟩
  exact ⟨rfl, ⟨w', Below.after p.h hb⟩, rfl⟩
theorem Wd.non (w : World) : Nonempty (Wd w) := ⟨⟨w, Below.refl _ _⟩⟩
end Go.Proofs.Ytplhlbajgijohab
