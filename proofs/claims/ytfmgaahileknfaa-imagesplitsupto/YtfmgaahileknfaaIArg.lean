/-
  What comes in: lists of the document's slots, and its images, as the walks are told of them.
-/
import Derived.Test.YtfmgaahileknfaaIAlive
import Derived.ChangeMaps5
import Derived.ProofKit
import Derived.OpenShut
import Derived.ShutString
import Derived.ChangeOld
import Derived.SizedLaws
import Derived.Deep.Slices
import Derived.Deep.SlicePairs
namespace Go.Proofs.Ytfmgaahileknfaa
open Go.ChangeShapes Go.WideShapes Go.ChangeAt Go.RowKit Go.Deep M

theorem own : ownKnob Try.prog.godebug = none := by kernel_rfl
theorem laidOut : laidOutB Try.prog = true := by kernel_rfl
theorem bytesZ : Try.prog.bytesOf 44 = 40 := by kernel_rfl
def i64B (z : Int) : Prop := -9223372036854775808 ≤ z ∧ z ≤ 9223372036854775807
/-- A list of slots that came in. -/
structure ZIn (w : World) (a : Option Addr) (len cap : Nat) (l : List St) : Prop where
  arg : ZArg w a len cap l
  nil : a = none → cap = 0
  ints : ∀ s ∈ l, i64B s.leb ∧ i64B s.pos ∧ i64B s.size
set_option maxRecDepth 100000 in
theorem zarg_open {H : Type} {enc : TypeId × Value → H} {w : World} {a : Option Addr} {len cap fuel : Nat} {d : DataW H} {p : List MemPlace}
    (hf : DataW.trod enc Try.prog w 0 (fun _ => true) true fuel 22 [.slice a len cap] = some (d, p)) : ∃ l, ZIn w a len cap l ∧ (cap = 0 ∨ ∃ elems spare, d = .slice elems spare ∧ elems.length + spare.length = cap) := by
  rcases open_slice Try.underlying22 hf with ⟨hcs, _⟩ | ⟨ad, len', cap', m, n, D, Pl, hcs, _, hl, hm, hmm, hxx, hx⟩
  · simp at hcs
    obtain ⟨rfl, rfl, rfl⟩ := hcs
    exact ⟨[], ⟨⟨rfl, Nat.le_refl _, by decide, by simp, .inl rfl⟩, fun _ => rfl, by simp⟩, .inl rfl⟩
  · simp at hcs
    obtain ⟨rfl, rfl, rfl⟩ := hcs
    have hmm' : m = cap := by simpa using hmm
    subst hmm'
    have each : ∀ i, ∃ y : St, i < len → (w.cell? (ad.add (i * 4)) = some (.string y.key) ∧ w.cell? (ad.add (i * 4 + 1)) = some (.int .i64 y.leb) ∧ w.cell? (ad.add (i * 4 + 2)) = some (.int .i64 y.pos) ∧ w.cell? (ad.add (i * 4 + 3)) = some (.int .i64 y.size)) ∧ y.key.size ≤ maxLen ∧ i64B y.leb ∧ i64B y.pos ∧ i64B y.size := by
      intro i
      by_cases hi : i < len
      · obtain ⟨cs', h1, h2⟩ := hx i (by omega)
        rw [show Try.prog.cellsOf 44 = 4 by kernel_rfl] at h1
        obtain ⟨_, hlen, hcell⟩ := World.cells?_some h1
        obtain ⟨xs, k, hk, hxy, _, hxl, hff⟩ := DataW.trod_struct Try.underlying44 h2
        match xs, hxl, cs', hlen with
        | [y0, y1], _, [v0, v1, v2, v3], _ =>
          have g0 := hff 0 _ rfl
          have g1 := hff 1 _ rfl
          have ci : Try.prog.cellsOf 9 = 1 := by kernel_rfl
          have cj : Try.prog.cellsOf 42 = 3 := by kernel_rfl
          have ck : Try.prog.cellsOf 3 = 1 := by kernel_rfl
          simp [ci, cj] at g0 g1
          obtain ⟨xs1, k1, hk1, hxy1, _, hxl1, hff1⟩ := DataW.trod_struct Try.underlying42 g1
          match xs1, hxl1 with
          | [u1, u2, u3], _ =>
            have f1 := hff1 0 _ rfl
            have f2 := hff1 1 _ rfl
            have f3 := hff1 2 _ rfl
            simp [ck] at f1 f2 f3
            obtain ⟨z0, e0, _, b0⟩ := DataW.trod_string Try.underlying9 g0
            obtain ⟨z1, e1, _, b1⟩ := DataW.trod_int Try.underlying3 f1
            obtain ⟨z2, e2, _, b2⟩ := DataW.trod_int Try.underlying3 f2
            obtain ⟨z3, e3, _, b3⟩ := DataW.trod_int Try.underlying3 f3
            have c0 := hcell 0 (by omega)
            have c1 := hcell 1 (by omega)
            have c2 := hcell 2 (by omega)
            have c3 := hcell 3 (by omega)
            rw [add_add] at c0 c1 c2 c3
            simp at e0 e1 e2 e3
            subst e0 e1 e2 e3
            exact ⟨⟨z0, z1, z2, z3⟩, fun _ => ⟨⟨by simpa using c0, by simpa using c1, by simpa using c2, by simpa using c3⟩, b0, bounds_i64 b1, bounds_i64 b2, bounds_i64 b3⟩⟩
      · exact ⟨⟨⟨#[]⟩, 0, 0, 0⟩, fun h => absurd h hi⟩
    obtain ⟨F, hF⟩ := Classical.axiomOfChoice each
    refine ⟨(List.range len).map F, ⟨⟨by simp, hl, hm, ?_, ?_⟩, (fun e => by cases e), ?_⟩, .inr ⟨_, _, congrArg Prod.fst hxx, by simp; omega⟩⟩
    · intro s hs
      simp only [List.mem_map, List.mem_range] at hs
      obtain ⟨i, hi, rfl⟩ := hs
      exact (hF i hi).2.1
    · by_cases h0 : len = 0
      · exact .inl (by simp [h0])
      · obtain ⟨b, off, spot⟩ := ad
        have hspot : spot = none := by
          have := World.cell?_spot (hF 0 (by omega)).1.1
          simpa [Addr.add] using this
        subst hspot
        refine .inr ⟨b, off, rfl, fun i f hf => ?_⟩
        have hil : i < len := by
          have := (List.getElem?_eq_some_iff.1 hf).1
          simpa using this
        have hfi : F i = f := by simpa [hil] using hf
        have := (hF i hil).1
        rw [hfi, add_plain, add_plain, add_plain, add_plain] at this
        exact this
    · intro s hs
      simp only [List.mem_map, List.mem_range] at hs
      obtain ⟨i, hi, rfl⟩ := hs
      exact (hF i hi).2.2
end Go.Proofs.Ytfmgaahileknfaa
