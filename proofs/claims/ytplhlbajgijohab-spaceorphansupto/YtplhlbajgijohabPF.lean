/-
  Lists of nodes of one's own; a map with a node more or less, and Change and Room, as the document has them.
-/
import Derived.Test.YtplhlbajgijohabPO
import Derived.Test.YtplhlbajgijohabPA
import Derived.Laws.AppendOwnNone
import Derived.Deep.LoopGhost
namespace Go.Proofs.Ytplhlbajgijohab
open Go.RowKit M
set_option maxRecDepth 10000

/-- A node's cells. -/
def ndv (x : Nw) : List Value := [.string x.k, .string x.v, .bool x.g]
theorem ndv_len (x : Nw) : (ndv x).length = 3 := rfl
theorem ndv_one (l : List Nw) : ∀ u ∈ l.flatMap ndv, u.oneCell' = true := by
  intro u hu
  obtain ⟨x, _, hs⟩ := List.mem_flatMap.1 hu
  simp only [ndv, List.mem_cons, List.not_mem_nil, or_false] at hs
  rcases hs with rfl | rfl | rfl <;> rfl
theorem flat_len {α : Type} (f : α → List Value) (n : Nat) (hf : ∀ x, (f x).length = n) : ∀ l : List α, (l.flatMap f).length = l.length * n
  | [] => by simp
  | x :: l => by rw [List.flatMap_cons, List.length_append, flat_len f n hf l, hf, List.length_cons, Nat.succ_mul, Nat.add_comm]
theorem flat_get {α : Type} (f : α → List Value) (n : Nat) (hf : ∀ x, (f x).length = n) (k : Nat) (hk : k < n) : ∀ (l : List α) (i : Nat) (x : α), l[i]? = some x → (l.flatMap f)[i * n + k]? = (f x)[k]?
  | [], i, x, h => by simp at h
  | y :: l, 0, x, h => by
    simp at h; subst h
    rw [List.flatMap_cons, Nat.zero_mul, Nat.zero_add, List.getElem?_append_left (by rw [hf]; exact hk)]
  | y :: l, i + 1, x, h => by
    rw [List.flatMap_cons, List.getElem?_append_right (by rw [hf, Nat.succ_mul]; omega), hf, show (i + 1) * n + k - n = i * n + k by rw [Nat.succ_mul]; omega]
    exact flat_get f n hf k hk l i x (by simpa using h)

theorem NRow.cells {w : World} {ad : Addr} {l : List Nw} (h : NRow w (some ad) l) : ∀ j u, (l.flatMap ndv)[j]? = some u → w.cell? (ad.add j) = some u := by
  rcases h with rfl | ⟨b, off, ha, hc⟩
  · intro j u hj; simp at hj
  · cases ha
    intro j u hj
    have hlt := (List.getElem?_eq_some_iff.1 hj).1
    rw [flat_len ndv 3 ndv_len] at hlt
    obtain ⟨i, k, rfl, hk⟩ : ∃ i k, j = i * 3 + k ∧ k < 3 := ⟨j / 3, j % 3, by omega, by omega⟩
    obtain ⟨y, hy⟩ : ∃ y, l[i]? = some y := ⟨_, List.getElem?_eq_getElem (by omega)⟩
    rw [flat_get ndv 3 ndv_len k hk l i y hy] at hj
    obtain ⟨q0, q1, q2⟩ := hc i y hy
    rw [add_plain']
    match k, hk with
    | 0, _ => simp [ndv] at hj; subst hj; exact q0
    | 1, _ => simp [ndv] at hj; subst hj; exact q1
    | 2, _ => simp [ndv] at hj; subst hj; exact q2
theorem nrow_of {w : World} {b off : Nat} {l : List Nw} (h : ∀ j u, (l.flatMap ndv)[j]? = some u → w.cell? ⟨b, off + j, none⟩ = some u) : NRow w (some ⟨b, off, none⟩) l := by
  refine .inr ⟨b, off, rfl, fun i y hy => ?_⟩
  have g : ∀ k, k < 3 → ∀ u, (ndv y)[k]? = some u → w.cell? ⟨b, off + (i * 3 + k), none⟩ = some u := fun k hk u hu => h _ _ (by rw [flat_get ndv 3 ndv_len k hk l i y hy]; exact hu)
  exact ⟨g 0 (by omega) _ rfl, g 1 (by omega) _ rfl, g 2 (by omega) _ rfl⟩
/-- A list of nodes of one's own. -/
def ON (w : World) (base : Nat) (v : Value) (n : Nat) (l : List Nw) : Prop := w.ownsRow base 24 3 v n (l.flatMap ndv)
theorem ON.row {w : World} {base n : Nat} {v : Value} {l : List Nw} (hn : n = l.length) (h : ON w base v n l) :
    ∃ a cap, v = .slice a n cap ∧ NRow w a l ∧ (a = none → n = 0 ∧ cap = 0) ∧ n ≤ cap ∧ cap ≤ maxLen := by
  subst hn
  rcases h.2 with ⟨rfl, hn⟩ | ⟨g, cap, cur, rfl, hbg, hgg, hnc, hcm, hcs, htake⟩
  · have : l = [] := List.eq_nil_of_length_eq_zero hn
    subst this
    exact ⟨none, 0, rfl, .inl rfl, fun _ => ⟨rfl, rfl⟩, Nat.le_refl _, by decide⟩
  · refine ⟨_, cap, rfl, nrow_of fun j u hj => ?_, (fun e => by cases e), hnc, hcm⟩
    rw [Nat.zero_add, World.ownsRow.cellAt h j (by have := (List.getElem?_eq_some_iff.1 hj).1; rwa [flat_len ndv 3 ndv_len] at this)]
    exact hj
theorem ON.later {w w' : World} {base n : Nat} {v : Value} {l : List Nw} (h : ON w base v n l) (hb : Below w.heap.size w w') : ON w' base v n l := by
  refine ⟨h.1, ?_⟩
  rcases h.2 with hn | ⟨g, cap, cur, rfl, hbg, hgg, rest⟩
  · exact .inl hn
  · refine .inr ⟨g, cap, cur, rfl, hbg, ?_, rest⟩
    rw [hb.block g (Array.getElem?_eq_some_iff.1 hgg).1]
    exact hgg
theorem ON.grown {B : Nat} {w w1 w2 : World} {v : Value} {n : Nat} {l : List Nw} (h : Below B w w1) (hg : w1.grownBy w2 v.ownBlock) (hB : B ≤ w1.heap.size) (ho : ON w1 B v n l) : Below B w w2 :=
  h.grown hg hB (fun k hk => (World.ownsRow.lt ho k hk).1)
theorem infoNd : (Try.prog.info? 24).map (fun i => (i.zero, i.size, i.bytes)) = some (some (.agg #[.string ⟨#[]⟩, .string ⟨#[]⟩, .bool false]), 3, 40) := by kernel_rfl
/-- append(v, x...) where v is the call's own and x is any slice of nodes. -/
theorem wpList_append_nws {w : World} {ops : Array Oper} {rest : List Oper} {o : Oper} {a : Act} {Q : Exit → Act → World → Prop} (hgd : o.guard = none) (s x : Operand)
    (ho : o.op = .call { callee := .builtin .append, args := #[s, x], argTypes := #[22, 22] })
    (base : Nat) (v : Value) (n : Nat) (l1 : List Nw) (hs : a.eval s = v) (hown : ON w base v n l1)
    (ao : Option Addr) (m c : Nat) (l2 : List Nw) (hx : a.eval x = .slice ao m c) (hM : m = l2.length) (hr : NRow w ao l2) (hnil : ao = none → m = 0 ∧ c = 0)
    (h63 : n + m ≤ maxLen) (hbytes : (n + m) * 40 ≤ 140737488355328) (hbase : base ≤ w.heap.size)
    (h : ∀ v' w', ON w' base v' (n + m) (l1 ++ l2) → w.grownBy w' v.ownBlock → wpList Try.prog ops Q rest (a.put o.dst v') w') : wpList Try.prog ops Q (o :: rest) a w := by
  obtain ⟨i0, hi, hz0, hz1, hz2⟩ := info_parts infoNd
  cases ao with
  | none =>
    obtain ⟨rfl, rfl⟩ := hnil rfl
    have hM0 : l2 = [] := List.eq_nil_of_length_eq_zero hM.symm
    subst hM0
    refine wpList_append_own_none hgd s x 22 ho base 24 i0 3 Try.underlying22 hi v n _ hs hown hx ?_
    exact h v w (by simpa using hown) ⟨rfl, rfl, rfl, Nat.le_refl _, fun _ _ _ => rfl⟩
  | some ad =>
    exact wpList_append_own w hgd s x 22 ho base 24 i0 _ 3 40 Try.underlying22 hi hz0 hz1 hz2 rfl (by omega) v n _ hs hown ad m c (l2.flatMap ndv) hx (by rw [flat_len ndv 3 ndv_len, hM]) hr.cells (ndv_one _) h63 hbytes hbase
      (fun v' w' h1 h2 _ => h v' w' (by unfold ON; rw [List.flatMap_append]; exact h1) h2)
theorem nrow_one (w : World) (x : Nw) : NRow (w.alloc (.cells #[.string x.k, .string x.v, .bool x.g] 24)) (some ⟨w.heap.size, 0, none⟩) [x] := by
  refine .inr ⟨_, 0, rfl, fun i z hi => ?_⟩
  rcases i with _ | i
  · simp at hi; subst hi; simp
  · simp at hi
theorem ON.narg {w : World} {base n : Nat} {v : Value} {l : List Nw} (hn : n = l.length) (h : ON w base v n l) (hk : okK l) : ∃ a cap, v = .slice a n cap ∧ NArg w a n cap l := by
  obtain ⟨a, cap, e, r, _, h1, h2⟩ := h.row hn
  exact ⟨a, cap, e, hn, h1, h2, r, hk.1, hk.2⟩
theorem narg_nil {H : Type} {enc : TypeId × Value → H} {w : World} {a : Option Addr} {len cap fuel : Nat} {d : DataW H} {p : List MemPlace}
    (hf : DataW.trod enc Try.prog w 0 (fun _ => true) true fuel 22 [.slice a len cap] = some (d, p)) : a = none → len = 0 ∧ cap = 0 := by
  rcases Go.Deep.open_slice Try.underlying22 hf with ⟨hcs, _⟩ | ⟨ad, len', cap', m, n, D, Pl, hcs, _⟩
  · simp at hcs
    obtain ⟨rfl, rfl, rfl⟩ := hcs
    exact fun _ => ⟨rfl, rfl⟩
  · simp at hcs
    obtain ⟨rfl, rfl, rfl⟩ := hcs
    exact fun e => by cases e
end Go.Proofs.Ytplhlbajgijohab
