/-
  Rows of texts in memory: what a call owns, what it may read.
-/
import Derived.Test.YtfmgaahileknfaaIPack
import Derived.OwnWalk
namespace Go.Proofs.Ytfmgaahileknfaa
open Go.RowKit M
set_option maxRecDepth 10000

/-- A slice's elements, as they lie: it is empty, or its address leads to the texts l. -/
def SRow (w : World) (a : Option Addr) (l : List K) : Prop :=
  l = [] ∨ ∃ b off, a = some ⟨b, off, none⟩ ∧ ∀ i y, l[i]? = some y → w.cell? ⟨b, off + i, none⟩ = some (.string y)
theorem SRow.later {w w' : World} {a : Option Addr} {l : List K} (h : SRow w a l) (hb : Below w.heap.size w w') : SRow w' a l := by
  rcases h with h | ⟨b, off, ha, hc⟩
  · exact .inl h
  · exact .inr ⟨b, off, ha, fun i y hy => (hb.cell (p := ⟨b, off + i, none⟩) (World.block_lt_of_cell? w _ (hc i y hy))).trans (hc i y hy)⟩
/-- A slice of texts that came in, or was made. -/
structure SArg (w : World) (a : Option Addr) (len cap : Nat) (l : List K) : Prop where
  len_eq : len = l.length
  le : len ≤ cap
  max : cap ≤ maxLen
  lt : ∀ x ∈ l, x.size ≤ maxLen
  row : SRow w a l
theorem SArg.later {w w' : World} {a : Option Addr} {len cap : Nat} {l : List K} (h : SArg w a len cap l) (hb : Below w.heap.size w w') : SArg w' a len cap l :=
  ⟨h.len_eq, h.le, h.max, h.lt, h.row.later hb⟩
theorem srow_at {w : World} {a : Option Addr} {l : List K} (h : SRow w a l) {k : Nat} (hk : k < l.length) :
    ∃ b off y, a = some ⟨b, off, none⟩ ∧ l[k]? = some y ∧ l.drop k = y :: l.drop (k + 1) ∧ l.take (k + 1) = l.take k ++ [y] ∧ w.cell? ⟨b, off + k, none⟩ = some (.string y) := by
  rcases h with rfl | ⟨b, off, ha, hc⟩
  · simp at hk
  · have hy : l[k]? = some (l[k]'hk) := List.getElem?_eq_getElem hk
    exact ⟨b, off, _, ha, hy, List.drop_eq_getElem_cons hk, List.take_succ_eq_append_getElem hk, hc k _ hy⟩
theorem infoS : (Try.prog.info? 9).map (fun i => (i.zero, i.size, i.bytes)) = some (some (.string ⟨#[]⟩), 1, 16) := by kernel_rfl
theorem sown_row {w : World} {base n : Nat} {v : Value} {l : List K} (hn : n = l.length) (h : w.ownsRow base 9 1 v n (l.map Value.string)) :
    ∃ a cap, v = .slice a n cap ∧ SRow w a l ∧ (a = none → n = 0 ∧ cap = 0) ∧ n ≤ cap ∧ cap ≤ maxLen := by
  subst hn
  rcases h.2 with ⟨rfl, hn⟩ | ⟨g, cap, cur, rfl, hbg, hgg, hnc, hcm, hcs, htake⟩
  · have : l = [] := List.eq_nil_of_length_eq_zero hn
    subst this
    exact ⟨none, 0, rfl, .inl rfl, fun _ => ⟨rfl, rfl⟩, Nat.le_refl _, by decide⟩
  · refine ⟨_, cap, rfl, .inr ⟨g, 0, rfl, fun i y hy => ?_⟩, (fun e => by cases e), hnc, hcm⟩
    have := h.cellAt i (by simpa using (List.getElem?_eq_some_iff.1 hy).1)
    simp only [Nat.zero_add]
    rw [this]
    simp [hy]
/-- append(v, x) where v is the call's own and x one text in a box. -/
theorem wpList_append_str {w : World} {ops : Array Oper} {rest : List Oper} {o : Oper} {a : Act} {Q : Exit → Act → World → Prop} (hgd : o.guard = none) (s x : Operand)
    (ho : o.op = .call { callee := .builtin .append, args := #[s, x], argTypes := #[23, 23] })
    (base : Nat) (v : Value) (n : Nat) (l : List K) (hs : a.eval s = v) (hown : w.ownsRow base 9 1 v n (l.map Value.string))
    (ad : Addr) (c : Nat) (y : K) (hx : a.eval x = .slice (some ad) 1 c) (hr : w.cell? (ad.add 0) = some (.string y))
    (h63 : n + 1 ≤ maxLen) (hbytes : (n + 1) * 16 ≤ 140737488355328) (hbase : base ≤ w.heap.size)
    (h : ∀ v' w', w'.ownsRow base 9 1 v' (n + 1) ((l ++ [y]).map Value.string) → w.grownBy w' v.ownBlock → wpList Try.prog ops Q rest (a.put o.dst v') w') : wpList Try.prog ops Q (o :: rest) a w := by
  obtain ⟨i0, hi, hz0, hz1, hz2⟩ := info_parts infoS
  exact wpList_append_own w hgd s x 23 ho base 9 i0 (.string ⟨#[]⟩) 1 16 Try.underlying23 hi hz0 hz1 hz2 rfl (by omega) v n _ hs hown ad 1 c [.string y] hx rfl
    (fun j z hj => by
      have hj0 : j = 0 := by have := (List.getElem?_eq_some_iff.1 hj).1; simp at this; omega
      subst hj0
      simp at hj
      subst hj
      exact hr) (by simp [Value.oneCell']) h63 hbytes hbase
    (fun v' w' h1 h2 _ => h v' w' (by rw [List.map_append]; exact h1) h2)
end Go.Proofs.Ytfmgaahileknfaa
