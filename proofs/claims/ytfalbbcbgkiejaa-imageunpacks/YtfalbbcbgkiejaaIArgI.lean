/-
  An image of the document's that came in.
-/
import Derived.Test.YtfalbbcbgkiejaaIArg
namespace Go.Proofs.Ytfalbbcbgkiejaa
open Go.ChangeShapes Go.WideShapes Go.ChangeAt Go.RowKit Go.Deep M

set_option maxRecDepth 100000 in
theorem iarg_open {H : Type} {enc : TypeId × Value → H} {w : World} {cs : Array Value} {fuel : Nat} {d : DataW H} {p : List MemPlace} (hsz : cs.size = Try.prog.cellsOf 24)
    (hf : DataW.trod enc Try.prog w 0 (fun _ => true) true fuel 24 (Value.agg cs).cells.toList = some (d, p)) :
    ∃ (level : Int) (a : Option Addr) (len cap : Nat) (l : List St), cs = #[.int .i64 level, .slice a len cap] ∧ i64B level ∧ ZIn w a len cap l ∧ (cap = 0 ∨ ∃ d0 elems spare, d = .agg [d0, .slice elems spare] ∧ elems.length + spare.length = cap) := by
  rw [show Try.prog.cellsOf 24 = 2 by kernel_rfl] at hsz
  obtain ⟨xs, k, hk, hxy, _, hxl, hff⟩ := DataW.trod_struct Try.underlying24 hf
  obtain ⟨v0, v1, rfl⟩ : ∃ v0 v1, cs = #[v0, v1] := by
    obtain ⟨l⟩ := cs
    match l, hsz with
    | [v0, v1], _ => exact ⟨v0, v1, rfl⟩
  match xs, hxl with
  | [y0, y1], _ =>
    have g0 := hff 0 _ rfl
    have g1 := hff 1 _ rfl
    have cu : Try.prog.cellsOf 3 = 1 := by kernel_rfl
    have cb : Try.prog.cellsOf 22 = 1 := by kernel_rfl
    simp [cu, cb, Value.cells] at g0 g1
    obtain ⟨z0, e0, _, b0⟩ := DataW.trod_int Try.underlying3 g0
    simp at e0
    subst e0
    obtain ⟨d1, p1⟩ := y1
    have hv : ∃ a len cap, v1 = .slice a len cap := by
      rcases open_slice Try.underlying22 g1 with ⟨hcs, _⟩ | ⟨ad, len', cap', m, n, D, Pl, hcs, _⟩
      · simp at hcs; exact ⟨_, _, _, hcs⟩
      · simp at hcs; exact ⟨_, _, _, hcs⟩
    obtain ⟨a, len, cap, rfl⟩ := hv
    obtain ⟨l, h1, h2⟩ := zarg_open g1
    refine ⟨z0, a, len, cap, l, rfl, bounds_i64 b0, h1, ?_⟩
    rcases h2 with q | ⟨elems, spare, q, hc⟩
    · exact .inl q
    · refine .inr ⟨y0.1, elems, spare, ?_, hc⟩
      have := congrArg Prod.fst hxy
      simp at this
      rw [this, q]
theorem sized_img {H : Type} {ts : List TypeId} {ds : List (DataW H)} (h : (DataW.weightsEach Try.prog ts ds).all (· ≤ reachBytes) = true) {j : Nat} {d0 : DataW H} {elems spare : List (DataW H)} (ht : ts[j]? = some 24) (hd : ds[j]? = some (.agg [d0, .slice elems spare])) :
    (elems.length + spare.length) * 40 ≤ reachBytes := by
  have hu := Try.underlying24
  have hv := Try.underlying22
  have := List.all_eq_true.1 h _ (DataW.weights_mem_each ht hd ((elems.length + spare.length) * 40) (by simp [DataW.weights, DataW.weightsEach, hu, hv, bytesZ]))
  simpa using this
end Go.Proofs.Ytfalbbcbgkiejaa
