/-
  Range: what lies in its boxes while it goes on.
-/
import Derived.Test.YtpflacbinankmaaBSeq
namespace Go.Proofs.Ytpflacbinankmaa.Bt
open Go.RowKit Go.Shelf

def ndv (x : KV) : List Value := [.string x.1, .string x.2, .bool false]
theorem ndv_len (x : KV) : (ndv x).length = 3 := rfl
theorem ndv_one (l : List KV) : ∀ u ∈ l.flatMap ndv, u.oneCell' = true := by
  intro u hu
  obtain ⟨s, _, hs⟩ := List.mem_flatMap.1 hu
  simp only [ndv, List.mem_cons, List.not_mem_nil, or_false] at hs
  rcases hs with rfl | rfl | rfl <;> rfl
theorem infoNd : (Try.prog.info? 54).map (fun i => (i.zero, i.size, i.bytes)) = some (some (.agg #[.string ⟨#[]⟩, .string ⟨#[]⟩, .bool false]), 3, 40) := by kernel_rfl
/-- A list of nodes of one's own. -/
def Told (w w' : World) (v : Value) (l : List KV) : Prop := w'.ownsRow w.heap.size 54 3 v l.length (l.flatMap ndv) ∧ Below w.heap.size w w'
structure St (w : World) (k to : K) (most : Int) (acc : List KV) (W : World) : Prop where
  b0 : Boxed W w.heap.size 9 (.string k)
  b1 : Boxed W (w.heap.size + 1) 9 (.string to)
  b2 : Boxed W (w.heap.size + 1 + 1) 3 (.int .i64 most)
  b3 : Boxed W (w.heap.size + 1 + 1 + 1) 22 (.slice none 0 0)
  row : ∃ v, Boxed W (w.heap.size + 1 + 1 + 1 + 1) 22 v ∧ W.ownsRow w.heap.size 54 3 v acc.length (acc.flatMap ndv)
  below : Below w.heap.size w W
/-- What Range answers lies in its box. -/
structure Out (w : World) (l : List KV) (W : World) : Prop where
  row : ∃ v, Boxed W (w.heap.size + 1 + 1 + 1) 22 v ∧ W.ownsRow w.heap.size 54 3 v l.length (l.flatMap ndv)
  below : Below w.heap.size w W
theorem own_slice {W : World} {base : Nat} {e : TypeId} {size : Nat} {v : Value} {k : Nat} {xs : List Value} (h : W.ownsRow base e size v k xs) : ∃ a cap, v = .slice a k cap := by
  rcases h.2 with ⟨rfl, h0⟩ | ⟨g, cap, _, rfl, _⟩
  · exact ⟨none, 0, by rw [h0]⟩
  · exact ⟨_, cap, rfl⟩
theorem ne_cells {W : World} {B : Nat} {t : TypeId} {v : Value} {row : Option Nat} (h : Boxed W B t v) (hr : ∀ r, row = some r → ∃ o : Obj, W.heap[r]? = some o ∧ o.isCells = false) : some B ≠ row := fun e => by
  obtain ⟨o, ho, hc⟩ := hr B e.symm
  rw [show W.heap[B]? = _ from h] at ho; cases ho; cases hc
theorem own_ne {W : World} {base : Nat} {e : TypeId} {size : Nat} {v : Value} {k : Nat} {xs : List Value} (h : W.ownsRow base e size v k xs) {row : Option Nat} (hr : ∀ r, row = some r → ∃ o : Obj, W.heap[r]? = some o ∧ o.isCells = false) : v.ownBlock = none ∨ v.ownBlock ≠ row := by
  rcases h.2 with ⟨rfl, _⟩ | ⟨g, cap, cur, rfl, _, hgb, _⟩
  · exact .inl rfl
  · refine .inr fun e' => ?_
    obtain ⟨o, ho, hc⟩ := hr g (by simpa [Value.ownBlock] using e'.symm)
    rw [hgb] at ho; cases ho; cases hc
theorem St.own (w : World) (k to : K) (most : Int) {β : Type} (acc : β → List KV) (D : Nat) (hD : w.heap.size ≤ D) : OwnFrom D (fun (s : β) W => St w k to most (acc s) W) := by
  intro s W W' row h hg hr
  have hr2 := fun r e => (hr r e).2
  obtain ⟨v, hv, ho⟩ := h.row
  refine ⟨h.b0.kept hg (ne_cells h.b0 hr2), h.b1.kept hg (ne_cells h.b1 hr2), h.b2.kept hg (ne_cells h.b2 hr2), h.b3.kept hg (ne_cells h.b3 hr2), ⟨v, hv.kept hg (ne_cells hv hr2), ho.kept hg (own_ne ho hr2)⟩, ?_⟩
  exact h.below.grown hg (h.below.size) (fun k e => Nat.le_trans hD (hr k e).1)
theorem Out.own (w : World) {β : Type} (l : β → List KV) (D : Nat) (hD : w.heap.size ≤ D) : OwnFrom D (fun (s : β) W => Out w (l s) W) := by
  intro s W W' row h hg hr
  have hr2 := fun r e => (hr r e).2
  obtain ⟨v, hv, ho⟩ := h.row
  refine ⟨⟨v, hv.kept hg (ne_cells hv hr2), ho.kept hg (own_ne ho hr2)⟩, ?_⟩
  exact h.below.grown hg (h.below.size) (fun k e => Nat.le_trans hD (hr k e).1)
theorem St.later {w : World} {k to : K} {most : Int} {acc : List KV} {W W' : World} (h : St w k to most acc W) (hb : Below W.heap.size W W') : St w k to most acc W' :=
  St.own w k to most (β := Unit) (fun _ => acc) w.heap.size (Nat.le_refl _) () W W' none h (below_grown hb) (fun r e => by cases e)
theorem keeps_later {W W' : World} (hb : Below W.heap.size W W') : KeepsOthers W W' := KeepsOthers.of_grownBy (below_grown hb) (fun j o e _ => by cases e)
/-- One more is told. -/
theorem St.push {w : World} {k to : K} {most : Int} {acc : List KV} {W X w5 : World} {v v' : Value} {x : KV} (h : St w k to most acc W) (hX : Below W.heap.size W X) (hv : Boxed W (w.heap.size + 1 + 1 + 1 + 1) 22 v) (ho : W.ownsRow w.heap.size 54 3 v acc.length (acc.flatMap ndv))
    (ho' : w5.ownsRow w.heap.size 54 3 v' (acc.length + 1) (acc.flatMap ndv ++ ndv x)) (hg : X.grownBy w5 v.ownBlock) :
    w5.cell? ⟨w.heap.size + 1 + 1 + 1 + 1, 0, none⟩ = some v ∧ w5.frozen? ⟨w.heap.size + 1 + 1 + 1 + 1, 0, none⟩ = false ∧ St w k to most (acc ++ [x]) (w5.setCell ⟨w.heap.size + 1 + 1 + 1 + 1, 0, none⟩ v') ∧ KeepsOthers W (w5.setCell ⟨w.heap.size + 1 + 1 + 1 + 1, 0, none⟩ v') ∧ Below w.heap.size W (w5.setCell ⟨w.heap.size + 1 + 1 + 1 + 1, 0, none⟩ v') := by
  have hgX := below_grown hX
  have hs := h.below.size
  have hvX : Boxed X (w.heap.size + 1 + 1 + 1 + 1) 22 v := hv.kept hgX (by simp)
  have hoX : X.ownsRow w.heap.size 54 3 v acc.length (acc.flatMap ndv) := ho.kept hgX (own_ne ho (row := none) (fun r e => by cases e))
  have key : ∀ {B t u}, t ≠ 54 → Boxed W B t u → Boxed w5 B t u := fun ht hb => (hb.kept hgX (by simp)).kept hg ((hb.kept hgX (by simp)).not_row ht hoX)
  have h4 := key (by decide) hv
  have hlo : ∀ j, v.ownBlock = some j → w.heap.size ≤ j := fun j ej => by
    rcases ho.2 with ⟨rfl, _⟩ | ⟨g, cap, cur, rfl, hb, _, _⟩
    · simp [Value.ownBlock] at ej
    · obtain rfl : g = j := by simpa [Value.ownBlock] using ej
      exact hb
  have hbel : Below w.heap.size W (w5.setCell ⟨w.heap.size + 1 + 1 + 1 + 1, 0, none⟩ v') := ((hX.mono hs).grown hg (Nat.le_trans hs hX.size) hlo).setCell (p := ⟨w.heap.size + 1 + 1 + 1 + 1, 0, none⟩) (by show w.heap.size ≤ w.heap.size + 1 + 1 + 1 + 1; omega) v'
  refine ⟨h4.cell, h4.frozen, ⟨(key (by decide) h.b0).other (by omega) _, (key (by decide) h.b1).other (by omega) _, (key (by decide) h.b2).other (by omega) _, (key (by decide) h.b3).other (by omega) _, ⟨v', h4.set v', ?_⟩, h.below.trans hbel⟩, ?_, hbel⟩
  · rw [List.length_append, List.flatMap_append, List.flatMap_singleton]
    exact ho'.kept (grownBy_setCell' w5 _ v') (.inr (h4.not_row (by decide) ho').symm)
  · refine ((keeps_later hX).trans (KeepsOthers.of_grownBy hg fun j o ej hj => ?_)).trans (KeepsOthers.setCell _ _ _)
    rcases hoX.2 with ⟨rfl, _⟩ | ⟨g, cap, cur, rfl, _, hgb, _⟩
    · simp [Value.ownBlock] at ej
    · obtain rfl : g = j := by simpa [Value.ownBlock] using ej
      rw [hgb] at hj; cases hj; rfl
/-- .. and no more. -/
theorem St.out {w : World} {k to : K} {most : Int} {acc : List KV} {W : World} {v : Value} (h : St w k to most acc W) (ho : W.ownsRow w.heap.size 54 3 v acc.length (acc.flatMap ndv)) :
    Out w acc (W.setCell ⟨w.heap.size + 1 + 1 + 1, 0, none⟩ v) ∧ KeepsOthers W (W.setCell ⟨w.heap.size + 1 + 1 + 1, 0, none⟩ v) :=
  ⟨⟨⟨v, h.b3.set v, ho.kept (grownBy_setCell' W _ v) (.inr (h.b3.not_row (by decide) ho).symm)⟩, h.below.setCell (p := ⟨w.heap.size + 1 + 1 + 1, 0, none⟩) (by show w.heap.size ≤ w.heap.size + 1 + 1 + 1; omega) v⟩, KeepsOthers.setCell _ _ _⟩
theorem nd_new (w : World) (x : KV) : ∀ j u, (ndv x)[j]? = some u → (w.alloc (.cells #[.string x.1, .string x.2, .bool false] 54)).cell? ((⟨w.heap.size, 0, none⟩ : Addr).add j) = some u := by
  intro j u hj
  have e : (⟨w.heap.size, 0, none⟩ : Addr).add j = ⟨w.heap.size, j, none⟩ := by unfold Addr.add; split <;> simp_all
  rw [e]
  exact (Row.new w (ndv x) 54).cell hj
end Go.Proofs.Ytpflacbinankmaa.Bt
