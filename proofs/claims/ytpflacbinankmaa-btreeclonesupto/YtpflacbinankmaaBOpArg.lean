/-
  What comes in: lists of operations, as the walks are told of them.
-/
import Derived.Test.YtpflacbinankmaaBArg
namespace Go.Proofs.Ytpflacbinankmaa.Bt
open Go.ChangeShapes Go.WideShapes Go.ChangeAt Go.RowKit Go.Deep

/-- An operation of a list. -/
structure Opn where
  k : Int
  key : K
  val : K
  to : K
  n : Int
/-- The slice's elements are the operations l. -/
def ORow (w : World) (a : Option Addr) (l : List Opn) : Prop :=
  l = [] ∨ ∃ b off, a = some ⟨b, off, none⟩ ∧ ∀ i y, l[i]? = some y → w.cell? ⟨b, off + i * 5, none⟩ = some (.int .i64 y.k) ∧ w.cell? ⟨b, off + i * 5 + 1, none⟩ = some (.string y.key) ∧ w.cell? ⟨b, off + i * 5 + 2, none⟩ = some (.string y.val) ∧ w.cell? ⟨b, off + i * 5 + 3, none⟩ = some (.string y.to) ∧ w.cell? ⟨b, off + i * 5 + 4, none⟩ = some (.int .i64 y.n) ∧ y.n < 9223372036854775808
structure OpArg (w : World) (a : Option Addr) (len cap : Nat) (l : List Opn) : Prop where
  len_eq : len = l.length
  le : len ≤ cap
  max : cap ≤ maxLen
  row : ORow w a l
theorem ORow.later {w w' : World} {a : Option Addr} {l : List Opn} (h : ORow w a l) (hb : Below w.heap.size w w') : ORow w' a l := by
  rcases h with h | ⟨b, off, ha, hc⟩
  · exact .inl h
  · refine .inr ⟨b, off, ha, fun i y hy => ?_⟩
    obtain ⟨q0, q1, q2, q3, q4, q5⟩ := hc i y hy
    have key : ∀ {o v}, w.cell? ⟨b, o, none⟩ = some v → w'.cell? ⟨b, o, none⟩ = some v := fun {o v} q => (hb.cell (p := ⟨b, o, none⟩) (World.block_lt_of_cell? w _ q)).trans q
    exact ⟨key q0, key q1, key q2, key q3, key q4, q5⟩
set_option maxRecDepth 100000 in
theorem oparg_open {H : Type} {enc : TypeId × Value → H} {w : World} {a : Option Addr} {len cap fuel : Nat} {d : DataW H} {p : List MemPlace}
    (hf : DataW.trod enc Try.prog w 0 (fun _ => true) true fuel 23 [.slice a len cap] = some (d, p)) : ∃ l, OpArg w a len cap l ∧ (cap = 0 ∨ ∃ elems spare, d = .slice elems spare ∧ elems.length + spare.length = cap) := by
  rcases open_slice Try.underlying23 hf with ⟨hcs, _⟩ | ⟨ad, len', cap', m, n, D, Pl, hcs, _, hl, hm, hmm, hxx, hx⟩
  · simp at hcs
    obtain ⟨rfl, rfl, rfl⟩ := hcs
    exact ⟨[], ⟨rfl, Nat.le_refl _, by decide, .inl rfl⟩, .inl rfl⟩
  · simp at hcs
    obtain ⟨rfl, rfl, rfl⟩ := hcs
    have hmm' : m = cap := by simpa using hmm
    subst hmm'
    have each : ∀ i, ∃ y : Opn, i < len → w.cell? (ad.add (i * 5)) = some (.int .i64 y.k) ∧ w.cell? (ad.add (i * 5 + 1)) = some (.string y.key) ∧ w.cell? (ad.add (i * 5 + 2)) = some (.string y.val) ∧ w.cell? (ad.add (i * 5 + 3)) = some (.string y.to) ∧ w.cell? (ad.add (i * 5 + 4)) = some (.int .i64 y.n) ∧ y.n < 9223372036854775808 := by
      intro i
      by_cases hi : i < len
      · obtain ⟨cs', h1, h2⟩ := hx i (by omega)
        rw [show Try.prog.cellsOf 33 = 5 by kernel_rfl] at h1
        obtain ⟨_, hlen, hcell⟩ := World.cells?_some h1
        obtain ⟨xs, k, hk, hxy, _, hxl, hff⟩ := DataW.trod_struct Try.underlying33 h2
        match xs, hxl, cs', hlen with
        | [y0, y1, y2, y3, y4], _, [v0, v1, v2, v3, v4], _ =>
          have g0 := hff 0 _ rfl
          have g1 := hff 1 _ rfl
          have g2 := hff 2 _ rfl
          have g3 := hff 3 _ rfl
          have g4 := hff 4 _ rfl
          have ci : Try.prog.cellsOf 9 = 1 := by kernel_rfl
          have cj : Try.prog.cellsOf 3 = 1 := by kernel_rfl
          simp [ci, cj] at g0 g1 g2 g3 g4
          obtain ⟨z0, e0, _, _⟩ := DataW.trod_int Try.underlying3 g0
          obtain ⟨z1, e1, _, _⟩ := DataW.trod_string Try.underlying9 g1
          obtain ⟨z2, e2, _, _⟩ := DataW.trod_string Try.underlying9 g2
          obtain ⟨z3, e3, _, _⟩ := DataW.trod_string Try.underlying9 g3
          obtain ⟨z4, e4, q4, r4⟩ := DataW.trod_int Try.underlying3 g4
          have c0 := hcell 0 (by omega)
          have c1 := hcell 1 (by omega)
          have c2 := hcell 2 (by omega)
          have c3 := hcell 3 (by omega)
          have c4 := hcell 4 (by omega)
          rw [add_add] at c0 c1 c2 c3 c4
          simp at e0 e1 e2 e3 e4
          subst e0 e1 e2 e3 e4
          exact ⟨⟨z0, z1, z2, z3, z4⟩, fun _ => ⟨by simpa using c0, by simpa using c1, by simpa using c2, by simpa using c3, by simpa using c4, by
            unfold Lit.wf at r4
            rw [Bool.and_eq_true, decide_eq_true_eq, decide_eq_true_eq, show IntKind.max .i64 = 9223372036854775807 by decide] at r4
            have := r4.2
            show z4 < _
            omega⟩⟩
      · exact ⟨⟨0, ⟨#[]⟩, ⟨#[]⟩, ⟨#[]⟩, 0⟩, fun h => absurd h hi⟩
    obtain ⟨F, hF⟩ := Classical.axiomOfChoice each
    refine ⟨(List.range len).map F, ⟨by simp, hl, hm, ?_⟩, .inr ⟨_, _, congrArg Prod.fst hxx, by simp; omega⟩⟩
    by_cases h0 : len = 0
    · exact .inl (by simp [h0])
    · obtain ⟨b, off, spot⟩ := ad
      have hspot : spot = none := by
        have := World.cell?_spot (hF 0 (by omega)).1
        simpa [Addr.add] using this
      subst hspot
      refine .inr ⟨b, off, rfl, fun i f hf => ?_⟩
      have hil : i < len := by
        have := (List.getElem?_eq_some_iff.1 hf).1
        simpa using this
      have hfi : F i = f := by simpa [hil] using hf
      have := hF i hil
      rw [hfi, add_plain', add_plain', add_plain', add_plain', add_plain'] at this
      exact this
end Go.Proofs.Ytpflacbinankmaa.Bt
