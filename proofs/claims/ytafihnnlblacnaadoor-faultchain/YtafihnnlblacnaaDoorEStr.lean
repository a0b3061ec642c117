/-
  Rows of texts in memory: what a call owns, what it may read, and that both stay while others are made.
-/
import Derived.Test.YtafihnnlblacnaaDoorEMem
import Derived.Laws.AppendOwnNone
namespace Go.Proofs.YtafihnnlblacnaaDoor
open Go.RowKit

/-- A slice's elements, as they lie: it is empty, or its address leads to the texts l. -/
def SRow (w : World) (a : Option Addr) (l : List ByteArray) : Prop :=
  l = [] ∨ ∃ b off, a = some ⟨b, off, none⟩ ∧ ∀ i, i < l.length → w.cell? ⟨b, off + i, none⟩ = some (.string (l.getD i ByteArray.empty))

/-- The call that began in w has made the texts l, in new memory: v leads to them. -/
def SOwn (w w' : World) (v : Value) (l : List ByteArray) : Prop :=
  w'.ownsRow w.heap.size 9 1 v l.length (l.map Value.string) ∧ Below w.heap.size w w'

theorem SRow.later {w w' : World} {a : Option Addr} {l : List ByteArray} (h : SRow w a l) (hb : Below w.heap.size w w') : SRow w' a l := by
  rcases h with h | ⟨b, off, ha, hc⟩
  · exact .inl h
  · exact .inr ⟨b, off, ha, fun i hi => by
      have h1 := hc i hi
      have h2 := World.block_lt_of_cell? w _ h1
      rw [hb.cell (p := ⟨b, off + i, none⟩) h2]
      exact h1⟩

theorem owns_later {w w' : World} {base e size n : Nat} {v : Value} {xs : List Value} (h : w.ownsRow base e size v n xs) (hb : Below w.heap.size w w') : w'.ownsRow base e size v n xs := by
  refine ⟨h.1, ?_⟩
  rcases h.2 with hn | ⟨g, cap, cur, rfl, hbg, hgg, rest⟩
  · exact .inl hn
  · refine .inr ⟨g, cap, cur, rfl, hbg, ?_, rest⟩
    rw [hb.block g (Array.getElem?_eq_some_iff.1 hgg).1]
    exact hgg

/-- What is owned can be read. -/
theorem owns_row {w : World} {base : Nat} {v : Value} {l : List ByteArray} (h : w.ownsRow base 9 1 v l.length (l.map Value.string)) :
    ∃ a cap, v = .slice a l.length cap ∧ SRow w a l ∧ (a = none → l.length = 0 ∧ cap = 0) ∧ l.length ≤ cap ∧ cap ≤ maxLen := by
  rcases h.2 with ⟨rfl, hn⟩ | ⟨g, cap, cur, rfl, hbg, hgg, hnc, hcm, hcs, htake⟩
  · have : l = [] := List.eq_nil_of_length_eq_zero hn
    subst this
    exact ⟨none, 0, rfl, .inl rfl, fun _ => ⟨rfl, rfl⟩, Nat.le_refl _, by decide⟩
  · refine ⟨_, cap, rfl, .inr ⟨g, 0, rfl, fun i hi => ?_⟩, (fun e => by cases e), hnc, hcm⟩
    have := h.cellAt i (by simpa using hi)
    simp only [Nat.zero_add]
    rw [this]
    simp [hi, List.getD]
theorem owns_row' {w : World} {base n : Nat} {v : Value} {l : List ByteArray} (hn : n = l.length) (h : w.ownsRow base 9 1 v n (l.map Value.string)) :
    ∃ a cap, v = .slice a n cap ∧ SRow w a l ∧ (a = none → n = 0 ∧ cap = 0) ∧ n ≤ cap ∧ cap ≤ maxLen := by
  subst hn
  exact owns_row h

theorem infoS : (Tryd.prog.info? 9).map (fun i => (i.zero, i.size, i.bytes)) = some (some (.string ⟨#[]⟩), 1, 16) := by kernel_rfl

/-- The texts l of a row, cell by cell, as the laws on append ask for them. -/
theorem SRow.cells {w : World} {ad : Addr} {l : List ByteArray} (h : SRow w (some ad) l) :
    ∀ j u, (l.map Value.string)[j]? = some u → w.cell? (ad.add j) = some u := by
  rcases h with rfl | ⟨b, off, ha, hc⟩
  · intro j u hj; simp at hj
  · cases ha
    intro j u hj
    have hjl : j < l.length := by
      have := (List.getElem?_eq_some_iff.1 hj).1
      simpa using this
    have := hc j hjl
    have hu : u = .string (l.getD j ByteArray.empty) := by
      simp [hjl] at hj
      simp [← hj, List.getD, hjl]
    have e : (⟨b, off, none⟩ : Addr).add j = ⟨b, off + j, none⟩ := by unfold Addr.add; split <;> simp_all
    rw [e, this, hu]
theorem str_one (l : List ByteArray) : ∀ u ∈ l.map Value.string, u.oneCell' = true := by
  intro u hu
  simp only [List.mem_map] at hu
  obtain ⟨x, _, rfl⟩ := hu
  rfl
theorem own_empty (w : World) (base : Nat) (h : base ≤ w.heap.size) : (w.alloc (.cells #[] 9)).ownsRow base 9 1 (.slice (some ⟨w.heap.size, 0, none⟩) 0 0) 0 [] :=
  World.ownsRow_lit (e := 9) (size := 1) w #[] 0 h (by decide) rfl

/-- append(v, x...) where v is the call's own and x is any slice of texts. -/
theorem wpList_append_strs {w : World} {ops : Array Oper} {rest : List Oper} {o : Oper} {a : Act} {Q : Exit → Act → World → Prop} (hgd : o.guard = none) (s x : Operand)
    (ho : o.op = .call { callee := .builtin .append, args := #[s, x], argTypes := #[34, 34] })
    (base : Nat) (v : Value) (n : Nat) (xs : List Value) (hs : a.eval s = v) (hown : w.ownsRow base 9 1 v n xs)
    (ao : Option Addr) (m c : Nat) (M : List ByteArray) (hx : a.eval x = .slice ao m c) (hM : m = M.length) (hr : SRow w ao M) (hnil : ao = none → m = 0 ∧ c = 0)
    (h63 : n + m ≤ maxLen) (hbytes : (n + m) * 16 ≤ 140737488355328) (hbase : base ≤ w.heap.size)
    (h : ∀ v' w', w'.ownsRow base 9 1 v' (n + m) (xs ++ M.map Value.string) → w.grownBy w' v.ownBlock → wpList Tryd.prog ops Q rest (a.put o.dst v') w') : wpList Tryd.prog ops Q (o :: rest) a w := by
  obtain ⟨i0, hi, hz0, hz1, hz2⟩ := info_parts infoS
  cases ao with
  | none =>
    obtain ⟨rfl, rfl⟩ := hnil rfl
    have hM0 : M = [] := List.eq_nil_of_length_eq_zero hM.symm
    subst hM0
    refine wpList_append_own_none hgd s x 34 ho base 9 i0 1 Tryd.underlying34 hi v n xs hs hown hx ?_
    exact h v w (by simpa using hown) ⟨rfl, rfl, rfl, Nat.le_refl _, fun _ _ _ => rfl⟩
  | some ad =>
    exact wpList_append_own w hgd s x 34 ho base 9 i0 (.string ⟨#[]⟩) 1 16 Tryd.underlying34 hi hz0 hz1 hz2 rfl (by omega) v n xs hs hown ad m c (M.map Value.string) hx (by simp [hM]) hr.cells (str_one _) h63 hbytes hbase
      (fun v' w' h1 h2 _ => h v' w' h1 h2)
theorem grown_own {B : Nat} {w w1 w2 : World} {v : Value} {e n : Nat} {xs : List Value} (h : Below B w w1) (hg : w1.grownBy w2 v.ownBlock) (hB : B ≤ w1.heap.size) (ho : w1.ownsRow B e 1 v n xs) : Below B w w2 :=
  h.grown hg hB (fun k hk => (ho.lt k hk).1)
theorem one_row (w : World) (x : ByteArray) : SRow (w.alloc (Obj.cells #[Value.string x] 9)) (some ⟨w.heap.size, 0, none⟩) [x] := by
  refine .inr ⟨_, _, rfl, fun i hi => ?_⟩
  have : i = 0 := by simp at hi; exact hi
  subst this
  exact (Row.new w [.string x] 9).cell (i := 0) rfl
theorem owns_kept {S : Nat → Prop} {w w' : World} {base e size n : Nat} {v : Value} {xs : List Value} (h : w.ownsRow base e size v n xs) (hk : Kept S w w') (hn : ∀ k, v.ownBlock = some k → ¬ S k) : w'.ownsRow base e size v n xs := by
  refine ⟨h.1, ?_⟩
  rcases h.2 with hn' | ⟨g, cap, cur, rfl, hbg, hgg, rest⟩
  · exact .inl hn'
  · refine .inr ⟨g, cap, cur, rfl, hbg, ?_, rest⟩
    rw [hk.block g (Array.getElem?_eq_some_iff.1 hgg).1 (hn g rfl)]
    exact hgg
theorem owns_type {w : World} {base e size n k : Nat} {v : Value} {xs : List Value} (h : w.ownsRow base e size v n xs) (hk : v.ownBlock = some k) : Row w k [] e := by
  rcases h.2 with ⟨rfl, _⟩ | ⟨g, cap, cur, rfl, hbg, hgg, rest⟩
  · cases hk
  · cases hk
    exact ⟨cur.toList, by simpa using hgg⟩
theorem Kept.grown {w w' : World} {row : Option Nat} (hg : w.grownBy w' row) : Kept (fun k => row = some k) w w' :=
  ⟨hg.os, hg.tape, hg.output, hg.size, fun k hk hn => hg.block k hk (fun e => hn e.symm)⟩
theorem owns_succ {w : World} {base e size n : Nat} {v : Value} {xs : List Value} (h : w.ownsRow base e size v n xs) : ∃ a cap, v = .slice a n cap := by
  rcases h.2 with ⟨rfl, hn⟩ | ⟨g, cap, cur, rfl, _⟩
  · exact ⟨none, 0, by rw [hn]⟩
  · exact ⟨_, cap, rfl⟩
end Go.Proofs.YtafihnnlblacnaaDoor
