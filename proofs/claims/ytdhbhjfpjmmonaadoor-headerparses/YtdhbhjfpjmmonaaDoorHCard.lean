/-
  What the laid variable gives, a world that holds it, and a Map as an argument.
-/
import Derived.Test.YtdhbhjfpjmmonaaDoorHAlive
import Derived.Test.YtdhbhjfpjmmonaaDoorArg
import Derived.Test.YtdhbhjfpjmmonaaDoorCards
import Derived.Test.YtdhbhjfpjmmonaaDoorTie
import Derived.LaidHandle
import Derived.LaidLaws
import Derived.Lay
import Derived.Deep.DeepHandedRow
namespace Go.Proofs.YtdhbhjfpjmmonaaDoor
open Go.ChangeShapes Go.WideShapes Go.ChangeAt Go.RowKit

def laid : List (String × DataW Unit) := [("pumice/header.errNoImage", Rows.laid_pumice_header_errNoImage)]
theorem en : Tryd.prog.globalNamed "pumice/header.errNoImage" = some 0 := by kernel_rfl
theorem enType : (Tryd.prog.globals[0]?).map (·.type) = some 46 := by kernel_rfl
theorem star : "*" ++ "errors.errorString" = "*errors.errorString" := by decide
theorem rowES (u : TypeId) (h : Tryd.prog.typeName? 3 u = some "*errors.errorString") : u = 94 :=
  typeName_ptr_named (nm := "errors.errorString") (by rw [star]; kernel_rfl) (by kernel_rfl) (by decide) u (by rw [star]; exact h)
theorem laid_plain {W : World} (h : laidMetH Tryd.prog laid W) : laidMet Tryd.prog laid W := h
theorem glb_of {W : World} (h : laidMetH Tryd.prog laid W) : Glb W := by
  obtain ⟨ps, ⟨g0, t0, cs0, f0, p0, q0, hg0, ht0, hv0, hd0, _, _⟩, _, _⟩ := laid_plain h
  obtain rfl := Option.some.inj (en.symm.trans hg0)
  obtain rfl := Option.some.inj (enType.symm.trans ht0)
  obtain ⟨l0⟩ := cs0
  obtain ⟨f1, u, v, rfl, hn, _⟩ := iface_of_trod Tryd.underlying46 hd0
  obtain rfl := rowES u hn
  exact ⟨v, by simpa using World.var?_cell hg0 hv0 0⟩
/-- A world for the witness: the variable holds what its initialiser lays. -/
noncomputable def laidWorld (os : Os) : World := World.laidAll Tryd.prog os laid
theorem laid_met (os : Os) (args : Array Value) : laidMetH Tryd.prog laid ((laidWorld os).forCall (fun _ _ => 0) ⟨#[], args, []⟩).memory :=
  show laidMet Tryd.prog laid _ from laidMet_laidAll args (by kernel_rfl) (by kernel_rfl)
theorem laid_os (os : Os) : (laidWorld os).os = os := World.laidAll_os _ _ _

set_option maxRecDepth 100000 in
theorem marg_open {H : Type} {enc : TypeId × Value → H} {w : World} {cs : Array Value} {fuel : Nat} {x : DataW H × List MemPlace} (hsz : cs.size = Tryd.prog.cellsOf 24)
    (hf : DataW.trod enc Tryd.prog w 0 (fun _ => true) true fuel 24 (Value.agg cs).cells.toList = some x) :
    ∃ a b c, cs = #[.int .i64 a, .int .u64 b, .int .i64 c] ∧ (-9223372036854775808 ≤ a ∧ a ≤ 9223372036854775807) ∧ (0 ≤ b ∧ b ≤ 18446744073709551615) ∧ (-9223372036854775808 ≤ c ∧ c ≤ 9223372036854775807) := by
  rw [show Tryd.prog.cellsOf 24 = 3 by kernel_rfl] at hsz
  obtain ⟨xs, k, hk, hxy, _, hxl, hff⟩ := DataW.trod_struct Tryd.underlying24 hf
  obtain ⟨v0, v1, v2, rfl⟩ : ∃ v0 v1 v2, cs = #[v0, v1, v2] := by
    obtain ⟨l⟩ := cs
    match l, hsz with
    | [v0, v1, v2], _ => exact ⟨v0, v1, v2, rfl⟩
  match xs, hxl with
  | [y0, y1, y2], _ =>
    have g0 := hff 0 _ rfl
    have g1 := hff 1 _ rfl
    have g2 := hff 2 _ rfl
    have ci : Tryd.prog.cellsOf 3 = 1 := by kernel_rfl
    have cu : Tryd.prog.cellsOf 22 = 1 := by kernel_rfl
    simp [ci, cu, Value.cells] at g0 g1 g2
    obtain ⟨z0, e0, _, b0⟩ := DataW.trod_int Tryd.underlying3 g0
    obtain ⟨z1, e1, _, b1⟩ := DataW.trod_int Tryd.underlying22 g1
    obtain ⟨z2, e2, _, b2⟩ := DataW.trod_int Tryd.underlying3 g2
    simp at e0 e1 e2
    exact ⟨z0, z1, z2, by rw [e0, e1, e2], bounds_i64 b0, bounds_u64 b1, bounds_i64 b2⟩
end Go.Proofs.YtdhbhjfpjmmonaaDoor
