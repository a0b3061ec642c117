/-
  Plans and scripts that come in, as the walks are told of them.
-/
import Derived.Test.YtiejkbncpbhcdaaCArg
import Derived.Deep.Slices
import Derived.Deep.SlicePairs
namespace Go.Proofs.Ytiejkbncpbhcdaa
open Go.ChangeShapes Go.WideShapes Go.ChangeAt Go.RowKit Go.Deep

/-- A step of a script. -/
structure OpD where
  kind : Int
  block : Int
  page : Int
  da : Option Addr
  dl : Nat
  dc : Nat
  data : List Nat
  pa : Option Addr
  pl : Nat
  pc : Nat
  plan : List Flt
theorem add_plain' (b off i : Nat) : (⟨b, off, none⟩ : Addr).add i = ⟨b, off + i, none⟩ := by unfold Addr.add; split <;> simp_all
/-- The slice's elements are the faults l. -/
structure FArg (w : World) (a : Option Addr) (len cap : Nat) (l : List Flt) : Prop where
  len_eq : len = l.length
  le : len ≤ cap
  max : cap ≤ maxLen
  row : FRow w a l
  nil : a = none → len = 0 ∧ cap = 0

set_option maxRecDepth 100000 in
theorem farg_open {H : Type} {enc : TypeId × Value → H} {w : World} {a : Option Addr} {len cap fuel : Nat} {x : DataW H × List MemPlace}
    (hf : DataW.trod enc Try.prog w 0 (fun _ => true) true fuel 24 [.slice a len cap] = some x) : ∃ l, FArg w a len cap l := by
  rcases open_slice Try.underlying24 hf with ⟨hcs, _⟩ | ⟨ad, len', cap', m, n, D, Pl, hcs, _, hl, hm, hmm, _, hx⟩
  · simp at hcs
    obtain ⟨rfl, rfl, rfl⟩ := hcs
    exact ⟨[], rfl, Nat.le_refl _, by decide, .inl rfl, fun _ => ⟨rfl, rfl⟩⟩
  · simp at hcs
    obtain ⟨rfl, rfl, rfl⟩ := hcs
    have hmm' : m = cap := by simpa using hmm
    subst hmm'
    have each : ∀ i, ∃ f : Flt, i < len → w.cell? (ad.add (i * 3)) = some (.int .i64 f.num) ∧ w.cell? (ad.add (i * 3 + 1)) = some (.int .i64 f.kind) ∧ w.cell? (ad.add (i * 3 + 2)) = some (.int .i64 f.torn) := by
      intro i
      by_cases hi : i < len
      · obtain ⟨cs', h1, h2⟩ := hx i (by omega)
        rw [show Try.prog.cellsOf 78 = 3 by kernel_rfl] at h1
        obtain ⟨_, hlen, hcell⟩ := World.cells?_some h1
        obtain ⟨xs, k, hk, hxy, _, hxl, hff⟩ := DataW.trod_struct Try.underlying78 h2
        match xs, hxl, cs', hlen with
        | [y0, y1, y2], _, [v0, v1, v2], _ =>
          have g0 := hff 0 _ rfl
          have g1 := hff 1 _ rfl
          have g2 := hff 2 _ rfl
          have ci : Try.prog.cellsOf 3 = 1 := by kernel_rfl
          simp [ci] at g0 g1 g2
          obtain ⟨z0, e0, _, _⟩ := DataW.trod_int Try.underlying3 g0
          obtain ⟨z1, e1, _, _⟩ := DataW.trod_int Try.underlying3 g1
          obtain ⟨z2, e2, _, _⟩ := DataW.trod_int Try.underlying3 g2
          have c0 := hcell 0 (by omega)
          have c1 := hcell 1 (by omega)
          have c2 := hcell 2 (by omega)
          rw [add_add] at c0 c1 c2
          simp at e0 e1 e2
          subst e0 e1 e2
          exact ⟨⟨z0, z1, z2⟩, fun _ => ⟨by simpa using c0, by simpa using c1, by simpa using c2⟩⟩
      · exact ⟨⟨0, 0, 0⟩, fun h => absurd h hi⟩
    obtain ⟨F, hF⟩ := Classical.axiomOfChoice each
    refine ⟨(List.range len).map F, by simp, hl, hm, ?_, fun h => by cases h⟩
    by_cases h0 : len = 0
    · exact .inl (by simp [h0])
    · obtain ⟨b, off, spot⟩ := ad
      have hspot : spot = none := by
        have := World.cell?_spot (hF 0 (by omega)).1
        simpa [Addr.add] using this
      subst hspot
      refine .inr ⟨b, off, rfl, fun i f hf => ?_⟩
      have hil : i < len := by
        have := (List.getElem?_eq_some_iff.1 hf).1
        simpa using this
      have hfi : F i = f := by simpa [hil] using hf
      have := hF i hil
      rw [hfi, add_plain', add_plain', add_plain'] at this
      exact this
/-- The slice's elements are the steps l. -/
structure OArg (w : World) (a : Option Addr) (len cap : Nat) (l : List OpD) : Prop where
  len_eq : len = l.length
  le : len ≤ cap
  max : cap ≤ maxLen
  row : l = [] ∨ ∃ b off, a = some ⟨b, off, none⟩ ∧ ∀ i o, l[i]? = some o → w.cell? ⟨b, off + i * 5, none⟩ = some (.int .i64 o.kind) ∧ w.cell? ⟨b, off + i * 5 + 1, none⟩ = some (.int .i64 o.block) ∧ w.cell? ⟨b, off + i * 5 + 2, none⟩ = some (.int .i64 o.page) ∧ w.cell? ⟨b, off + i * 5 + 3, none⟩ = some (.slice o.da o.dl o.dc) ∧ w.cell? ⟨b, off + i * 5 + 4, none⟩ = some (.slice o.pa o.pl o.pc)
  each : ∀ o ∈ l, BArg w o.da o.dl o.dc o.data ∧ FArg w o.pa o.pl o.pc o.plan
theorem slice_of {H : Type} {enc : TypeId × Value → H} {w : World} {t e : TypeId} {v : Value} {fuel : Nat} {x : DataW H × List MemPlace} (ht : Try.prog.underlying t = some (.slice e))
    (hf : DataW.trod enc Try.prog w 0 (fun _ => true) true fuel t [v] = some x) : ∃ a l c, v = .slice a l c := by
  rcases open_slice ht hf with ⟨hcs, _⟩ | ⟨ad, len', cap', m, n, D, Pl, hcs, _⟩
  · simp at hcs; exact ⟨_, _, _, hcs⟩
  · simp at hcs; exact ⟨_, _, _, hcs⟩
set_option maxRecDepth 100000 in
theorem oarg_open {H : Type} {enc : TypeId × Value → H} {w : World} {a : Option Addr} {len cap fuel : Nat} {x : DataW H × List MemPlace}
    (hf : DataW.trod enc Try.prog w 0 (fun _ => true) true fuel 25 [.slice a len cap] = some x) : ∃ l, OArg w a len cap l := by
  rcases open_slice Try.underlying25 hf with ⟨hcs, _⟩ | ⟨ad, len', cap', m, n, D, Pl, hcs, _, hl, hm, hmm, _, hx⟩
  · simp at hcs
    obtain ⟨rfl, rfl, rfl⟩ := hcs
    exact ⟨[], rfl, Nat.le_refl _, by decide, .inl rfl, by simp⟩
  · simp at hcs
    obtain ⟨rfl, rfl, rfl⟩ := hcs
    have hmm' : m = cap := by simpa using hmm
    subst hmm'
    have each : ∀ i, ∃ o : OpD, i < len → (w.cell? (ad.add (i * 5)) = some (.int .i64 o.kind) ∧ w.cell? (ad.add (i * 5 + 1)) = some (.int .i64 o.block) ∧ w.cell? (ad.add (i * 5 + 2)) = some (.int .i64 o.page) ∧ w.cell? (ad.add (i * 5 + 3)) = some (.slice o.da o.dl o.dc) ∧ w.cell? (ad.add (i * 5 + 4)) = some (.slice o.pa o.pl o.pc)) ∧ BArg w o.da o.dl o.dc o.data ∧ FArg w o.pa o.pl o.pc o.plan := by
      intro i
      by_cases hi : i < len
      · obtain ⟨cs', h1, h2⟩ := hx i (by omega)
        rw [show Try.prog.cellsOf 37 = 5 by kernel_rfl] at h1
        obtain ⟨_, hlen, hcell⟩ := World.cells?_some h1
        obtain ⟨xs, k, hk, hxy, _, hxl, hff⟩ := DataW.trod_struct Try.underlying37 h2
        match xs, hxl, cs', hlen with
        | [y0, y1, y2, y3, y4], _, [v0, v1, v2, v3, v4], _ =>
          have g0 := hff 0 _ rfl
          have g1 := hff 1 _ rfl
          have g2 := hff 2 _ rfl
          have g3 := hff 3 _ rfl
          have g4 := hff 4 _ rfl
          have ci : Try.prog.cellsOf 3 = 1 := by kernel_rfl
          have cj : Try.prog.cellsOf 35 = 1 := by kernel_rfl
          have ck : Try.prog.cellsOf 24 = 1 := by kernel_rfl
          simp [ci, cj, ck] at g0 g1 g2 g3 g4
          obtain ⟨z0, e0, _, _⟩ := DataW.trod_int Try.underlying3 g0
          obtain ⟨z1, e1, _, _⟩ := DataW.trod_int Try.underlying3 g1
          obtain ⟨z2, e2, _, _⟩ := DataW.trod_int Try.underlying3 g2
          obtain ⟨da, dl, dc, rfl⟩ := slice_of Try.underlying35 g3
          obtain ⟨pa, pl, pc, rfl⟩ := slice_of Try.underlying24 g4
          obtain ⟨data, hdata⟩ := barg_open (d := y3.1) (p := y3.2) (show DataW.trod enc Try.prog w 0 (fun _ => true) true k 35 (Value.slice da dl dc).cells.toList = some (y3.1, y3.2) from g3)
          obtain ⟨plan, hplan⟩ := farg_open g4
          have c0 := hcell 0 (by omega)
          have c1 := hcell 1 (by omega)
          have c2 := hcell 2 (by omega)
          have c3 := hcell 3 (by omega)
          have c4 := hcell 4 (by omega)
          rw [add_add] at c0 c1 c2 c3 c4
          simp at e0 e1 e2
          subst e0 e1 e2
          exact ⟨⟨z0, z1, z2, da, dl, dc, data, pa, pl, pc, plan⟩, fun _ => ⟨⟨by simpa using c0, by simpa using c1, by simpa using c2, by simpa using c3, by simpa using c4⟩, hdata, hplan⟩⟩
      · exact ⟨⟨0, 0, 0, none, 0, 0, [], none, 0, 0, []⟩, fun h => absurd h hi⟩
    obtain ⟨F, hF⟩ := Classical.axiomOfChoice each
    refine ⟨(List.range len).map F, by simp, hl, hm, ?_, ?_⟩
    · by_cases h0 : len = 0
      · exact .inl (by simp [h0])
      · obtain ⟨b, off, spot⟩ := ad
        have hspot : spot = none := by
          have := World.cell?_spot (hF 0 (by omega)).1.1
          simpa [Addr.add] using this
        subst hspot
        refine .inr ⟨b, off, rfl, fun i f hf => ?_⟩
        have hil : i < len := by
          have := (List.getElem?_eq_some_iff.1 hf).1
          simpa using this
        have hfi : F i = f := by simpa [hil] using hf
        have := (hF i hil).1
        rw [hfi, add_plain', add_plain', add_plain', add_plain', add_plain'] at this
        exact this
    · intro o ho
      obtain ⟨i, hi, rfl⟩ := List.mem_map.1 ho
      exact (hF i (by simpa using hi)).2
end Go.Proofs.Ytiejkbncpbhcdaa
