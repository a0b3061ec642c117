/-
  What the laid variables give, and a world that holds them.
-/
import Derived.Test.YtfcmkkkdccnhgaaGreatDoorKS
import Derived.Test.YtfcmkkkdccnhgaaGreatDoorCards
import Derived.Test.YtfcmkkkdccnhgaaGreatDoorTie
import Derived.LaidHandle
import Derived.LaidLaws
import Derived.Lay
import Derived.Deep.DeepHandedRow
namespace Go.Proofs.YtfcmkkkdccnhgaaGreatDoor
open Go.ChangeShapes Go.WideShapes Go.ChangeAt Go.RowKit

def laid : List (String × DataW Unit) := [("errors.errorType", Rows.laid_errors_errorType), ("pumice/header.errNoImage", Rows.laid_pumice_header_errNoImage)]
def laid1 : List (String × DataW Unit) := [("pumice/header.errNoImage", Rows.laid_pumice_header_errNoImage)]
theorem en : Tryz.prog.globalNamed "pumice/header.errNoImage" = some 1 := by kernel_rfl
theorem enType : (Tryz.prog.globals[1]?).map (·.type) = some 84 := by kernel_rfl
theorem star : "*" ++ "errors.errorString" = "*errors.errorString" := by decide
theorem rowES (u : TypeId) (h : Tryz.prog.typeName? 3 u = some "*errors.errorString") : u = 271 :=
  typeName_ptr_named (nm := "errors.errorString") (by rw [star]; kernel_rfl) (by kernel_rfl) (by decide) u (by rw [star]; exact h)
theorem et : Tryz.prog.globalNamed "errors.errorType" = some 2 := by kernel_rfl
theorem rt : (Tryz.prog.cutTypes.find? (·.1 == "internal/reflectlite.rtype")).map (·.2) = some 218 := by kernel_rfl
theorem oneRow : ((List.range 303).filter fun t => Tryz.prog.rowNamed t [101, 114, 114, 111, 114]) = [84] := by kernel_rfl
theorem typesN : Tryz.prog.types.size = 303 := by kernel_rfl
theorem laid_split {W : World} (h : laidMetH Tryz.prog laid W) : laidMet Tryz.prog laid1 W ∧ handlesMet Tryz.prog [("errors.errorType", Rows.laid_errors_errorType)] W := h
theorem typed_of {W : World} (h : laidMetH Tryz.prog laid W) : Typed W := by
  obtain ⟨name, u, ty, e1, e2, e3, e4, e5⟩ := (laid_split h).2 _ (List.mem_singleton.2 rfl)
  have en : name = [101, 114, 114, 111, 114] := (Option.some.inj e1).symm
  subst en
  obtain rfl := Option.some.inj (rt.symm.trans e2)
  have hm : ty ∈ (List.range 303).filter fun t => Tryz.prog.rowNamed t [101, 114, 114, 111, 114] := List.mem_filter.2 ⟨List.mem_range.2 (by rw [← typesN]; exact e3), e4⟩
  rw [oneRow] at hm
  obtain rfl := List.mem_singleton.1 hm
  have hh : typeHandle Tryz.prog 84 = .pointer (some ⟨3, 84, none⟩) := by kernel_rfl
  rw [hh] at e5
  simpa [Typed] using World.var?_cell et e5 0
theorem glb_of {W : World} (h : laidMetH Tryz.prog laid W) : Hd.Glb W := by
  obtain ⟨ps, ⟨g0, t0, cs0, f0, p0, q0, hg0, ht0, hv0, hd0, _, _⟩, _, _⟩ := (laid_split h).1
  obtain rfl := Option.some.inj (en.symm.trans hg0)
  obtain rfl := Option.some.inj (enType.symm.trans ht0)
  obtain ⟨l0⟩ := cs0
  obtain ⟨f1, u, v, rfl, hn, _⟩ := iface_of_trod Tryz.underlying84 hd0
  obtain rfl := rowES u hn
  exact ⟨v, by simpa using World.var?_cell hg0 hv0 0⟩
/-- A world for the witness: the variables hold what their initialisers lay. -/
def putC (cs : List Value) : Obj → Obj
  | .cells _ t frozen => .cells cs.toArray t frozen
  | o => o
noncomputable def laidX (X : World) : World := { X with heap := X.heap.modify 2 (putC [.iface 218 (.agg #[.pointer (some ⟨3, 84, none⟩)])]) }
theorem laidX_os (X : World) : (laidX X).os = X.os := rfl
noncomputable def laidWorld (os : Os) : World := laidX (World.laidAll Tryz.prog os laid1)
theorem laid_met (os : Os) (args : Array Value) : laidMetH Tryz.prog laid ((laidWorld os).forCall (fun _ _ => 0) ⟨#[], args, []⟩).memory :=
  laidMetH_of_parts (laidMet_of_run' 8 (by kernel_rfl) (by kernel_rfl)) (by kernel_rfl)
theorem laid_os (os : Os) : (laidWorld os).os = os := (laidX_os _).trans (World.laidAll_os _ _ _)
end Go.Proofs.YtfcmkkkdccnhgaaGreatDoor
