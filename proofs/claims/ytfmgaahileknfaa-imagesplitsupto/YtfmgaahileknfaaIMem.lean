/-
  Slots: what they are, and how lists of them lie in memory.
-/
import Derived.Test.YtfmgaahileknfaaIOrd
import Derived.Laws.AppendOwnNone
import Derived.Deep.LoopGhost
import Derived.Laws.ResultCell
import Derived.Laws.StructEq
import Derived.BigQuiet
import Derived.Deep.RegionLaw
import Derived.Deep.RegionWith
import Derived.Deep.RegionHeld3
import Derived.Lib.MakeNoZero
namespace Go.Proofs.Ytfmgaahileknfaa
open Go.RowKit M

/-- A slot: its key and its place. -/
structure St where
  key : K
  leb : Int
  pos : Int
  size : Int
/-- A slot's cells. -/
def stv (s : St) : List Value := [.string s.key, .int .i64 s.leb, .int .i64 s.pos, .int .i64 s.size]
theorem stv_len (s : St) : (stv s).length = 4 := rfl
theorem stv_one (l : List St) : ∀ u ∈ l.flatMap stv, u.oneCell' = true := by
  intro u hu
  obtain ⟨x, _, hs⟩ := List.mem_flatMap.1 hu
  simp only [stv, List.mem_cons, List.not_mem_nil, or_false] at hs
  rcases hs with rfl | rfl | rfl | rfl <;> rfl
theorem flat_len {α : Type} (f : α → List Value) (n : Nat) (hf : ∀ x, (f x).length = n) : ∀ l : List α, (l.flatMap f).length = l.length * n
  | [] => by simp
  | x :: l => by rw [List.flatMap_cons, List.length_append, flat_len f n hf l, hf, List.length_cons, Nat.succ_mul, Nat.add_comm]
theorem flat_get {α : Type} (f : α → List Value) (n : Nat) (hf : ∀ x, (f x).length = n) (k : Nat) (hk : k < n) : ∀ (l : List α) (i : Nat) (x : α), l[i]? = some x → (l.flatMap f)[i * n + k]? = (f x)[k]?
  | [], i, x, h => by simp at h
  | y :: l, 0, x, h => by
    simp at h; subst h
    rw [List.flatMap_cons, Nat.zero_mul, Nat.zero_add, List.getElem?_append_left (by rw [hf]; exact hk)]
  | y :: l, i + 1, x, h => by
    rw [List.flatMap_cons, List.getElem?_append_right (by rw [hf, Nat.succ_mul]; omega), hf, show (i + 1) * n + k - n = i * n + k by rw [Nat.succ_mul]; omega]
    exact flat_get f n hf k hk l i x (by simpa using h)
theorem add_plain (b off i : Nat) : (⟨b, off, none⟩ : Addr).add i = ⟨b, off + i, none⟩ := by unfold Addr.add; split <;> simp_all
theorem bafter {w w1 w2 : World} (h : Below w.heap.size w w1) (h2 : Below w1.heap.size w1 w2) : Below w.heap.size w w2 :=
  h.trans (h2.mono h.size)

/-- The slice's elements are the slots l. -/
def ZRow (w : World) (a : Option Addr) (l : List St) : Prop :=
  l = [] ∨ ∃ b off, a = some ⟨b, off, none⟩ ∧ ∀ i y, l[i]? = some y → w.cell? ⟨b, off + i * 4, none⟩ = some (.string y.key) ∧ w.cell? ⟨b, off + i * 4 + 1, none⟩ = some (.int .i64 y.leb) ∧ w.cell? ⟨b, off + i * 4 + 2, none⟩ = some (.int .i64 y.pos) ∧ w.cell? ⟨b, off + i * 4 + 3, none⟩ = some (.int .i64 y.size)
theorem ZRow.later {w w' : World} {a : Option Addr} {l : List St} (h : ZRow w a l) (hb : Below w.heap.size w w') : ZRow w' a l := by
  rcases h with h | ⟨b, off, ha, hc⟩
  · exact .inl h
  · refine .inr ⟨b, off, ha, fun i y hy => ?_⟩
    obtain ⟨q0, q1, q2, q3⟩ := hc i y hy
    exact ⟨(hb.cell (p := ⟨b, off + i * 4, none⟩) (World.block_lt_of_cell? w _ q0)).trans q0, (hb.cell (p := ⟨b, off + i * 4 + 1, none⟩) (World.block_lt_of_cell? w _ q1)).trans q1, (hb.cell (p := ⟨b, off + i * 4 + 2, none⟩) (World.block_lt_of_cell? w _ q2)).trans q2, (hb.cell (p := ⟨b, off + i * 4 + 3, none⟩) (World.block_lt_of_cell? w _ q3)).trans q3⟩
theorem ZRow.cells {w : World} {ad : Addr} {l : List St} (h : ZRow w (some ad) l) : ∀ j u, (l.flatMap stv)[j]? = some u → w.cell? (ad.add j) = some u := by
  rcases h with rfl | ⟨b, off, ha, hc⟩
  · intro j u hj; simp at hj
  · cases ha
    intro j u hj
    have hlt := (List.getElem?_eq_some_iff.1 hj).1
    rw [flat_len stv 4 stv_len] at hlt
    obtain ⟨i, k, rfl, hk⟩ : ∃ i k, j = i * 4 + k ∧ k < 4 := ⟨j / 4, j % 4, by omega, by omega⟩
    obtain ⟨y, hy⟩ : ∃ y, l[i]? = some y := ⟨_, List.getElem?_eq_getElem (by omega)⟩
    rw [flat_get stv 4 stv_len k hk l i y hy] at hj
    obtain ⟨q0, q1, q2, q3⟩ := hc i y hy
    rw [add_plain]
    match k, hk with
    | 0, _ => simp [stv] at hj; subst hj; exact q0
    | 1, _ => simp [stv] at hj; subst hj; exact q1
    | 2, _ => simp [stv] at hj; subst hj; exact q2
    | 3, _ => simp [stv] at hj; subst hj; exact q3
theorem zrow_of {w : World} {b off : Nat} {l : List St} (h : ∀ j u, (l.flatMap stv)[j]? = some u → w.cell? ⟨b, off + j, none⟩ = some u) : ZRow w (some ⟨b, off, none⟩) l := by
  refine .inr ⟨b, off, rfl, fun i y hy => ?_⟩
  have g : ∀ k, k < 4 → ∀ u, (stv y)[k]? = some u → w.cell? ⟨b, off + (i * 4 + k), none⟩ = some u := fun k hk u hu => h _ _ (by rw [flat_get stv 4 stv_len k hk l i y hy]; exact hu)
  exact ⟨g 0 (by omega) _ rfl, g 1 (by omega) _ rfl, g 2 (by omega) _ rfl, g 3 (by omega) _ rfl⟩
/-- A piece of a row. -/
theorem ZRow.sub {w : World} {b off : Nat} {l : List St} (h : ZRow w (some ⟨b, off, none⟩) l) (i j : Nat) : ZRow w (some ⟨b, off + i * 4, none⟩) ((l.drop i).take j) := by
  rcases h with rfl | ⟨b', off', ha, hc⟩
  · exact .inl (by simp)
  · cases ha
    refine .inr ⟨b, off + i * 4, rfl, fun k y hk => ?_⟩
    have hy : l[i + k]? = some y := by
      rw [List.getElem?_take] at hk
      split at hk
      · rw [List.getElem?_drop] at hk; exact hk
      · cases hk
    have := hc (i + k) y hy
    rw [show off + i * 4 + k * 4 = off + (i + k) * 4 by omega]
    exact this
/-- What one owns can be read. -/
theorem zown_row {w : World} {base n : Nat} {v : Value} {l : List St} (hn : n = l.length) (h : w.ownsRow base 41 4 v n (l.flatMap stv)) :
    ∃ a cap, v = .slice a n cap ∧ ZRow w a l ∧ (a = none → n = 0 ∧ cap = 0) ∧ n ≤ cap ∧ cap ≤ maxLen := by
  subst hn
  rcases h.2 with ⟨rfl, hn⟩ | ⟨g, cap, cur, rfl, hbg, hgg, hnc, hcm, hcs, htake⟩
  · have : l = [] := List.eq_nil_of_length_eq_zero hn
    subst this
    exact ⟨none, 0, rfl, .inl rfl, fun _ => ⟨rfl, rfl⟩, Nat.le_refl _, by decide⟩
  · refine ⟨_, cap, rfl, zrow_of fun j u hj => ?_, (fun e => by cases e), hnc, hcm⟩
    rw [Nat.zero_add, h.cellAt j (by have := (List.getElem?_eq_some_iff.1 hj).1; rwa [flat_len stv 4 stv_len] at this)]
    exact hj
theorem infoZ : (Try.prog.info? 41).map (fun i => (i.zero, i.size, i.bytes)) = some (some (.agg #[.string ⟨#[]⟩, .int .i64 0, .int .i64 0, .int .i64 0]), 4, 40) := by kernel_rfl

/-- append(v, x...) where v is the call's own and x is any slice of slots. -/
theorem wpList_append_sts {w : World} {ops : Array Oper} {rest : List Oper} {o : Oper} {a : Act} {Q : Exit → Act → World → Prop} (hgd : o.guard = none) (s x : Operand)
    (ho : o.op = .call { callee := .builtin .append, args := #[s, x], argTypes := #[26, 26] })
    (base : Nat) (v : Value) (n : Nat) (l1 : List St) (hs : a.eval s = v) (hown : w.ownsRow base 41 4 v n (l1.flatMap stv))
    (ao : Option Addr) (m c : Nat) (l2 : List St) (hx : a.eval x = .slice ao m c) (hM : m = l2.length) (hr : ZRow w ao l2) (hnil : ao = none → m = 0 ∧ c = 0)
    (h63 : n + m ≤ maxLen) (hbytes : (n + m) * 40 ≤ 140737488355328) (hbase : base ≤ w.heap.size)
    (h : ∀ v' w', w'.ownsRow base 41 4 v' (n + m) ((l1 ++ l2).flatMap stv) → w.grownBy w' v.ownBlock → wpList Try.prog ops Q rest (a.put o.dst v') w') : wpList Try.prog ops Q (o :: rest) a w := by
  obtain ⟨i0, hi, hz0, hz1, hz2⟩ := info_parts infoZ
  cases ao with
  | none =>
    obtain ⟨rfl, rfl⟩ := hnil rfl
    have hM0 : l2 = [] := List.eq_nil_of_length_eq_zero hM.symm
    subst hM0
    refine wpList_append_own_none hgd s x 26 ho base 41 i0 4 Try.underlying26 hi v n _ hs hown hx ?_
    exact h v w (by simpa using hown) ⟨rfl, rfl, rfl, Nat.le_refl _, fun _ _ _ => rfl⟩
  | some ad =>
    exact wpList_append_own w hgd s x 26 ho base 41 i0 _ 4 40 Try.underlying26 hi hz0 hz1 hz2 rfl (by omega) v n _ hs hown ad m c (l2.flatMap stv) hx (by rw [flat_len stv 4 stv_len, hM]) hr.cells (stv_one _) h63 hbytes hbase
      (fun v' w' h1 h2 _ => h v' w' (by rw [List.flatMap_append]; exact h1) h2)
theorem grown_own {B : Nat} {w w1 w2 : World} {v : Value} {e n size : Nat} {xs : List Value} (h : Below B w w1) (hg : w1.grownBy w2 v.ownBlock) (hB : B ≤ w1.heap.size) (ho : w1.ownsRow B e size v n xs) : Below B w w2 :=
  h.grown hg hB (fun k hk => (ho.lt k hk).1)
end Go.Proofs.Ytfmgaahileknfaa
