/-
  Scripts of the log's statements that come in, as the walks are told of them.
  Append of a log, whatever comes.
-/
import Derived.Test.YteodcjbbkekidaaGreatDoorZKQ
import Derived.Test.YteodcjbbkekidaaGreatDoorZKH
import Derived.Test.YteodcjbbkekidaaGreatDoorZQL
import Derived.Deep.Slices
import Derived.Deep.SlicePairs
namespace Go.Proofs.YteodcjbbkekidaaGreatDoor
open Go.ChangeShapes Go.WideShapes Go.ChangeAt Go.RowKit Go.Deep

/-- A step of a script. -/
structure WOp where
  kind : Int
  da : Option Addr
  dl : Nat
  dc : Nat
  data : List Nat
theorem eadd_plain (b off i : Nat) : (⟨b, off, none⟩ : Addr).add i = ⟨b, off + i, none⟩ := by unfold Addr.add; split <;> simp_all
theorem eslice_of {H : Type} {enc : TypeId × Value → H} {w : World} {t e : TypeId} {v : Value} {fuel : Nat} {x : DataW H × List MemPlace} (ht : Tryz.prog.underlying t = some (.slice e))
    (hf : DataW.trod enc Tryz.prog w 0 (fun _ => true) true fuel t [v] = some x) : ∃ a l c, v = .slice a l c := by
  rcases open_slice ht hf with ⟨hcs, _⟩ | ⟨ad, len', cap', m, n, D, Pl, hcs, _⟩
  · simp at hcs; exact ⟨_, _, _, hcs⟩
  · simp at hcs; exact ⟨_, _, _, hcs⟩
/-- The slice's elements are the steps l. -/
structure WArg (w : World) (a : Option Addr) (len cap : Nat) (l : List WOp) : Prop where
  len_eq : len = l.length
  le : len ≤ cap
  max : cap ≤ maxLen
  row : l = [] ∨ ∃ b off, a = some ⟨b, off, none⟩ ∧ ∀ i o, l[i]? = some o → w.cell? ⟨b, off + i * 2, none⟩ = some (.int .i64 o.kind) ∧ w.cell? ⟨b, off + i * 2 + 1, none⟩ = some (.slice o.da o.dl o.dc)
  each : ∀ o ∈ l, BArg w o.da o.dl o.dc o.data
set_option maxRecDepth 100000 in
theorem warg_open {H : Type} {enc : TypeId × Value → H} {w : World} {a : Option Addr} {len cap fuel : Nat} {x : DataW H × List MemPlace}
    (hf : DataW.trod enc Tryz.prog w 0 (fun _ => true) true fuel 25 [.slice a len cap] = some x) : ∃ l, WArg w a len cap l := by
  rcases open_slice Tryz.underlying25 hf with ⟨hcs, _⟩ | ⟨ad, len', cap', m, n, D, Pl, hcs, _, hl, hm, hmm, _, hx⟩
  · simp at hcs
    obtain ⟨rfl, rfl, rfl⟩ := hcs
    exact ⟨[], rfl, Nat.le_refl _, by decide, .inl rfl, by simp⟩
  · simp at hcs
    obtain ⟨rfl, rfl, rfl⟩ := hcs
    have hmm' : m = cap := by simpa using hmm
    subst hmm'
    have each : ∀ i, ∃ o : WOp, i < len → (w.cell? (ad.add (i * 2)) = some (.int .i64 o.kind) ∧ w.cell? (ad.add (i * 2 + 1)) = some (.slice o.da o.dl o.dc)) ∧ BArg w o.da o.dl o.dc o.data := by
      intro i
      by_cases hi : i < len
      · obtain ⟨cs', h1, h2⟩ := hx i (by omega)
        rw [show Tryz.prog.cellsOf 41 = 2 by kernel_rfl] at h1
        obtain ⟨_, hlen, hcell⟩ := World.cells?_some h1
        obtain ⟨xs, k, hk, hxy, _, hxl, hff⟩ := DataW.trod_struct Tryz.underlying41 h2
        match xs, hxl, cs', hlen with
        | [y0, y3], _, [v0, v3], _ =>
          have g0 := hff 0 _ rfl
          have g3 := hff 1 _ rfl
          have ci : Tryz.prog.cellsOf 3 = 1 := by kernel_rfl
          have cj : Tryz.prog.cellsOf 39 = 1 := by kernel_rfl
          simp [ci, cj] at g0 g3
          obtain ⟨z0, e0, _, _⟩ := DataW.trod_int Tryz.underlying3 g0
          obtain ⟨da, dl, dc, rfl⟩ := eslice_of Tryz.underlying39 g3
          obtain ⟨data, hdata⟩ := barg_open (d := y3.1) (p := y3.2) (show DataW.trod enc Tryz.prog w 0 (fun _ => true) true k 39 (Value.slice da dl dc).cells.toList = some (y3.1, y3.2) from g3)
          have c0 := hcell 0 (by omega)
          have c3 := hcell 1 (by omega)
          rw [add_add] at c0 c3
          simp at e0
          subst e0
          exact ⟨⟨z0, da, dl, dc, data⟩, fun _ => ⟨⟨by simpa using c0, by simpa using c3⟩, hdata⟩⟩
      · exact ⟨⟨0, none, 0, 0, []⟩, fun h => absurd h hi⟩
    obtain ⟨F, hF⟩ := Classical.axiomOfChoice each
    refine ⟨(List.range len).map F, by simp, hl, hm, ?_, ?_⟩
    · by_cases h0 : len = 0
      · exact .inl (by simp [h0])
      · obtain ⟨b, off, spot⟩ := ad
        have hspot : spot = none := by
          have := World.cell?_spot (hF 0 (by omega)).1.1
          simpa [Addr.add] using this
        subst hspot
        refine .inr ⟨b, off, rfl, fun i f hf => ?_⟩
        have hil : i < len := by
          have := (List.getElem?_eq_some_iff.1 hf).1
          simpa using this
        have hfi : F i = f := by simpa [hil] using hf
        have := (hF i hil).1
        rw [hfi, eadd_plain, eadd_plain] at this
        exact this
    · intro o ho
      obtain ⟨i, hi, rfl⟩ := List.mem_map.1 ho
      exact (hF i (by simpa using hi)).2
theorem WArg.later {w w' : World} {a : Option Addr} {len cap : Nat} {l : List WOp} (h : WArg w a len cap l) (hb : Below w.heap.size w w') : WArg w' a len cap l := by
  refine ⟨h.len_eq, h.le, h.max, ?_, fun o ho => ?_⟩
  · rcases h.row with e | ⟨b, off, e, hc⟩
    · exact .inl e
    · refine .inr ⟨b, off, e, fun i o hi => ?_⟩
      obtain ⟨q0, q1⟩ := hc i o hi
      exact ⟨(hb.cell (p := ⟨b, off + i * 2, none⟩) (World.block_lt_of_cell? w _ q0)).trans q0, (hb.cell (p := ⟨b, off + i * 2 + 1, none⟩) (World.block_lt_of_cell? w _ q1)).trans q1⟩
  · have h1 := h.each o ho
    exact ⟨h1.len_eq, h1.le, h1.max, h1.lt, h1.row.later hb, h1.nil⟩
end Go.Proofs.YteodcjbbkekidaaGreatDoor
namespace Go.Proofs.YteodcjbbkekidaaGreatDoor
open Go.RowKit Go.Extern.Stop Go.Stop Go.Extern
set_option maxRecDepth 10000

theorem right_leb {gb gp gz gr : Nat} (h : rightB gb gp gz gr = true) : 7 + gr + 2 < gb ∧ 16 ≤ gb := by
  unfold rightB at h
  simp only [Bool.and_eq_true, decide_eq_true_eq] at h
  obtain ⟨h1, _, _, _, _, _, h4⟩ := h
  rw [Int.tdiv_eq_ediv_of_nonneg (by omega)] at h4
  have : wrap64 ((gb : Int) / 4) = (gb : Int) / 4 := by unfold wrap64; omega
  omega
end Go.Proofs.YteodcjbbkekidaaGreatDoor
