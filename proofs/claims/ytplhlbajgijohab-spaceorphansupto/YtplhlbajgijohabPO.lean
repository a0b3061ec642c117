/-
  What comes in: lists of nodes, geometries, as the walks are told of them.
-/
import Derived.Test.YtplhlbajgijohabPD
import Derived.Test.YtplhlbajgijohabRows
namespace Go.Proofs.Ytplhlbajgijohab
open Go.ChangeShapes Go.WideShapes Go.ChangeAt Go.RowKit Go.Deep
set_option maxRecDepth 10000

theorem own : ownKnob Try.prog.godebug = none := by kernel_rfl
theorem laidOut : laidOutB Try.prog = true := by kernel_rfl
theorem bytesNd : Try.prog.bytesOf 24 = 40 := by kernel_rfl
theorem add_plain' (b off i : Nat) : (⟨b, off, none⟩ : Addr).add i = ⟨b, off + i, none⟩ := by unfold Addr.add; split <;> simp_all
theorem garg_open {H : Type} {enc : TypeId × Value → H} {w : World} {cs : Array Value} {fuel : Nat} {x : DataW H × List MemPlace} (hsz : cs.size = Try.prog.cellsOf 42)
    (hf : DataW.trod enc Try.prog w 0 (fun _ => true) true fuel 42 (Value.agg cs).cells.toList = some x) : ∃ b p z r, cs = #[.int .i64 b, .int .i64 p, .int .i64 z, .int .i64 r] := by
  rw [show Try.prog.cellsOf 42 = 4 by kernel_rfl] at hsz
  obtain ⟨xs, k, hk, hxy, _, hxl, hff⟩ := DataW.trod_struct Try.underlying42 hf
  obtain ⟨v0, v1, v2, v3, rfl⟩ : ∃ v0 v1 v2 v3, cs = #[v0, v1, v2, v3] := by
    obtain ⟨l⟩ := cs
    match l, hsz with
    | [v0, v1, v2, v3], _ => exact ⟨v0, v1, v2, v3, rfl⟩
  match xs, hxl with
  | [y0, y1, y2, y3], _ =>
    have g0 := hff 0 _ rfl
    have g1 := hff 1 _ rfl
    have g2 := hff 2 _ rfl
    have g3 := hff 3 _ rfl
    have ci : Try.prog.cellsOf 3 = 1 := by kernel_rfl
    simp [ci, Value.cells] at g0 g1 g2 g3
    obtain ⟨z0, e0, _, _⟩ := DataW.trod_int Try.underlying3 g0
    obtain ⟨z1, e1, _, _⟩ := DataW.trod_int Try.underlying3 g1
    obtain ⟨z2, e2, _, _⟩ := DataW.trod_int Try.underlying3 g2
    obtain ⟨z3, e3, _, _⟩ := DataW.trod_int Try.underlying3 g3
    simp at e0 e1 e2 e3
    exact ⟨z0, z1, z2, z3, by rw [e0, e1, e2, e3]⟩

theorem weightsAll_mem {H : Type} {P : Program} {e : TypeId} : ∀ {l : List (DataW H)} {d : DataW H}, d ∈ l → ∀ n ∈ d.weights P e, n ∈ DataW.weightsAll P e l
  | [], _, h, _, _ => by simp at h
  | x :: l, d, h, n, hn => by
    rcases List.mem_cons.1 h with rfl | h
    · simp only [DataW.weightsAll, List.mem_append]; exact .inl hn
    · simp only [DataW.weightsAll, List.mem_append]; exact .inr (weightsAll_mem h n hn)
/-- A node's reading. -/
def nwD {H : Type} (y : Nw) : DataW H := .agg [.lit (.string y.k.data.toList), .lit (.string y.v.data.toList), .lit (.bool y.g)]
theorem nwD_weights {H : Type} (y : Nw) : y.k.size ∈ (nwD (H := H) y).weights Try.prog 24 ∧ y.v.size ∈ (nwD (H := H) y).weights Try.prog 24 := by
  have e1 : y.k.data.toList.length = y.k.size := by rw [Array.length_toList]; rfl
  have e2 : y.v.data.toList.length = y.v.size := by rw [Array.length_toList]; rfl
  unfold nwD
  simp only [DataW.weights, Try.underlying24]
  simp [DataW.weightsEach, DataW.weights, e1, e2]
/-- The slice's elements read as the nodes l. -/
def NRead (H : Type) (w : World) (a : Option Addr) (len cap : Nat) (d : DataW H) (l : List Nw) : Prop :=
  len = l.length ∧ len ≤ cap ∧ cap ≤ maxLen ∧ NRow w a l ∧ (∀ y ∈ l, y.k.size ≤ maxLen ∧ y.v.size ≤ maxLen) ∧ ((cap = 0 ∧ l = []) ∨ ∃ spare, d = .slice (l.map nwD) spare ∧ l.length + spare.length = cap)
set_option maxRecDepth 100000 in
theorem narg_open {H : Type} {enc : TypeId × Value → H} {w : World} {a : Option Addr} {len cap fuel : Nat} {d : DataW H} {p : List MemPlace}
    (hf : DataW.trod enc Try.prog w 0 (fun _ => true) true fuel 22 [.slice a len cap] = some (d, p)) : ∃ l, NRead H w a len cap d l := by
  rcases open_slice Try.underlying22 hf with ⟨hcs, _⟩ | ⟨ad, len', cap', m, n, D, Pl, hcs, _, hl, hm, hmm, hxx, hx⟩
  · simp at hcs
    obtain ⟨rfl, rfl, rfl⟩ := hcs
    exact ⟨[], rfl, Nat.le_refl _, by decide, .inl rfl, by simp, .inl ⟨rfl, rfl⟩⟩
  · simp at hcs
    obtain ⟨rfl, rfl, rfl⟩ := hcs
    have hmm' : m = cap := by simpa using hmm
    subst hmm'
    have each : ∀ i, ∃ y : Nw, i < len → (w.cell? (ad.add (i * 3)) = some (.string y.k) ∧ w.cell? (ad.add (i * 3 + 1)) = some (.string y.v) ∧ w.cell? (ad.add (i * 3 + 2)) = some (.bool y.g)) ∧ D i = nwD y ∧ y.k.size ≤ maxLen ∧ y.v.size ≤ maxLen := by
      intro i
      by_cases hi : i < len
      · obtain ⟨cs', h1, h2⟩ := hx i (by omega)
        rw [show Try.prog.cellsOf 24 = 3 by kernel_rfl] at h1
        obtain ⟨_, hlen, hcell⟩ := World.cells?_some h1
        obtain ⟨xs, k, hk, hxy, _, hxl, hff⟩ := DataW.trod_struct Try.underlying24 h2
        match xs, hxl, cs', hlen with
        | [y0, y1, y2], _, [v0, v1, v2], _ =>
          have g0 := hff 0 _ rfl
          have g1 := hff 1 _ rfl
          have g2 := hff 2 _ rfl
          have ci : Try.prog.cellsOf 9 = 1 := by kernel_rfl
          have cj : Try.prog.cellsOf 4 = 1 := by kernel_rfl
          simp [ci, cj] at g0 g1 g2
          obtain ⟨z0, e0, x0, s0⟩ := DataW.trod_string Try.underlying9 g0
          obtain ⟨z1, e1, x1, s1⟩ := DataW.trod_string Try.underlying9 g1
          obtain ⟨z2, e2, x2⟩ := DataW.trod_bool Try.underlying4 g2
          have c0 := hcell 0 (by omega)
          have c1 := hcell 1 (by omega)
          have c2 := hcell 2 (by omega)
          rw [add_add] at c0 c1 c2
          simp at e0 e1 e2
          subst e0 e1 e2
          refine ⟨⟨z0, z1, z2⟩, fun _ => ⟨⟨by simpa using c0, by simpa using c1, by simpa using c2⟩, ?_, s0, s1⟩⟩
          have := congrArg Prod.fst hxy
          simp only [List.map_cons, List.map_nil, x0, x1, x2] at this
          exact this
      · exact ⟨⟨⟨#[]⟩, ⟨#[]⟩, false⟩, fun h => absurd h hi⟩
    obtain ⟨F, hF⟩ := Classical.axiomOfChoice each
    refine ⟨(List.range len).map F, by simp, hl, hm, ?_, ?_, .inr ⟨(List.range (m - len)).map fun j => D (len + j), ?_, ?_⟩⟩
    · by_cases h0 : len = 0
      · exact .inl (by simp [h0])
      · obtain ⟨b, off, spot⟩ := ad
        have hspot : spot = none := by
          have := World.cell?_spot (hF 0 (by omega)).1.1
          simpa [Addr.add] using this
        subst hspot
        refine .inr ⟨b, off, rfl, fun i f hf => ?_⟩
        have hil : i < len := by
          have := (List.getElem?_eq_some_iff.1 hf).1
          simpa using this
        have hfi : F i = f := by simpa [hil] using hf
        have := (hF i hil).1
        rw [hfi, add_plain', add_plain', add_plain'] at this
        exact ⟨this.1, this.2.1, this.2.2⟩
    · intro y hy
      simp only [List.mem_map, List.mem_range] at hy
      obtain ⟨i, hi, rfl⟩ := hy
      exact (hF i hi).2.2
    · have e := congrArg Prod.fst hxx
      have q : (List.range len).map D = ((List.range len).map F).map nwD := by
        rw [List.map_map]
        exact List.map_congr_left fun i hi => (hF i (List.mem_range.1 hi)).2.1
      rw [← q]
      exact e
    · simp; omega
/-- What the bound on what came in says of the nodes. -/
theorem narg_sized {H : Type} {w : World} {a : Option Addr} {len cap : Nat} {d : DataW H} {l : List Nw} {ts : List TypeId} {ds : List (DataW H)} {j : Nat}
    (h : NRead H w a len cap d l) (hs : (DataW.weightsEach Try.prog ts ds).all (· ≤ reachBytes) = true) (ht : ts[j]? = some 22) (hd : ds[j]? = some d) : NArg w a len cap l ∧ cap * 40 ≤ 140737488351232 := by
  obtain ⟨h1, h2, h3, h4, h5, h6⟩ := h
  have hk : (∀ y ∈ l, y.k.size ≤ 140737488355328 ∧ y.v.size ≤ 140737488355328) ∧ cap * 40 ≤ 140737488351232 := by
    rcases h6 with ⟨rfl, rfl⟩ | ⟨spare, rfl, hc⟩
    · exact ⟨by simp, by omega⟩
    · have hw := fun n hn => of_decide_eq_true (List.all_eq_true.1 hs n (DataW.weights_mem_each ht hd n hn))
      simp only [DataW.weights, Try.underlying22, List.mem_cons, List.mem_append] at hw
      refine ⟨fun y hy => ?_, ?_⟩
      · have hm : nwD (H := H) y ∈ l.map nwD := List.mem_map.2 ⟨y, hy, rfl⟩
        have q1 := hw _ (.inr (.inl (weightsAll_mem hm _ (nwD_weights y).1)))
        have q2 := hw _ (.inr (.inl (weightsAll_mem hm _ (nwD_weights y).2)))
        simp only [reachBytes] at q1 q2
        omega
      · have q := hw _ (.inl rfl)
        rw [bytesNd, List.length_map, hc] at q
        simp only [reachBytes] at q
        omega
  exact ⟨⟨h1, h2, h3, h4, fun y hy => (hk.1 y hy).1, fun y hy => (hk.1 y hy).2⟩, hk.2⟩
end Go.Proofs.Ytplhlbajgijohab
