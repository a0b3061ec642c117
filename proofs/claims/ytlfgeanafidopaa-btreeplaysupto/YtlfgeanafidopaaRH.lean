/-
  The document's levels: rows of shapes, as they lie while they are made.
  The document's levels, of rows that fall by one.
  The document's levels: bounds, a new row, the end.
-/
import Derived.Test.YtlfgeanafidopaaRG
import Derived.OwnWalk
namespace Go.Proofs.Ytlfgeanafidopaa.Bt
open Go.RowKit Go.Shelf
set_option maxRecDepth 10000

theorem infoRow : (Try.prog.info? 42).map (fun i => (i.zero, i.size, i.bytes)) = some (some (.slice none 0 0), 1, 24) := by kernel_rfl
/-- A row of shapes that lies in a block. -/
def RowAt (W : World) (b : Nat) (r : List Shc) : Prop := ∃ cs, Whole W b cs 86 ∧ cs.take (r.length * 3) = r.flatMap shcv
theorem RowAt.later {W W' : World} {b : Nat} {r : List Shc} (h : RowAt W b r) (hb : Below W.heap.size W W') : RowAt W' b r := by
  obtain ⟨cs, h1, h2⟩ := h; exact ⟨cs, h1.later hb, h2⟩
theorem RowAt.cells {W : World} {b : Nat} {r : List Shc} (h : RowAt W b r) {i : Nat} {s : Shc} (hs : r[i]? = some s) : W.cell? ⟨b, i * 3, none⟩ = some (.int .i64 (s.s.lv : Int)) ∧ W.cell? ⟨b, i * 3 + 1, none⟩ = some (.slice (some ⟨s.B, 0, none⟩) s.s.ks.length s.s.ks.length) ∧ W.cell? ⟨b, i * 3 + 2, none⟩ = some (.bool s.s.d) := by
  obtain ⟨cs, h1, h2⟩ := h
  have hil := (List.getElem?_eq_some_iff.1 hs).1
  have hc : ∀ j, j < 3 → W.cell? ⟨b, i * 3 + j, none⟩ = (shcv s)[j]? := fun j hj => by
    rw [h1.cell, ← flat_get shcv 3 shcv_len j hj r i s hs, ← h2, List.getElem?_take, if_pos (by omega)]
  exact ⟨hc 0 (by omega), hc 1 (by omega), hc 2 (by omega)⟩
theorem own_rowAt {W : World} {base b n c : Nat} {r : List Shc} (h : W.ownsRow base 86 3 (.slice (some ⟨b, 0, none⟩) n c) n (r.flatMap shcv)) (hn : n = r.length) : RowAt W b r := by
  rcases h.2 with ⟨e, _⟩ | ⟨g, cap, cur, e, _, hgg, _, _, _, ht⟩
  · cases e
  · cases e
    exact ⟨cur.toList, by unfold Whole; simpa using hgg, by rw [← hn]; exact ht⟩
def rowV (p : Nat × Nat) (r : List Shc) : Value := .slice (some ⟨p.1, 0, none⟩) r.length p.2
/-- Rows, all but the last one done. -/
structure LvS (w : World) (R0 : List (List Shc)) (ps : List (Nat × Nat)) (row : List Shc) (G cap b c Bb : Nat) (W : World) : Prop where
  outer : W.ownsRow w.heap.size 42 1 (.slice (some ⟨G, 0, none⟩) (R0.length + 1) cap) (R0.length + 1) ((List.zipWith rowV ps R0) ++ [rowV (b, c) row])
  plen : ps.length = R0.length
  done : ∀ (k : Nat) (p : Nat × Nat) (r : List Shc), ps[k]? = some p → R0[k]? = some r → RowAt W p.1 r ∧ p.1 < Bb
  last : W.ownsRow Bb 86 3 (rowV (b, c) row) row.length (row.flatMap shcv)
  base : w.heap.size ≤ Bb
  below : Below w.heap.size w W
theorem LvS.later {w : World} {R0 : List (List Shc)} {ps : List (Nat × Nat)} {row : List Shc} {G cap b c Bb : Nat} {W W' : World} (h : LvS w R0 ps row G cap b c Bb W) (hb : Below W.heap.size W W') : LvS w R0 ps row G cap b c Bb W' :=
  ⟨own_lat h.outer hb, h.plen, fun k p r hp hr => ⟨(h.done k p r hp hr).1.later hb, (h.done k p r hp hr).2⟩, own_lat h.last hb, h.base, bafter h.below hb⟩
theorem outer_cell {W : World} {base G n cap : Nat} {vs : List Value} (h : W.ownsRow base 42 1 (.slice (some ⟨G, 0, none⟩) n cap) n vs) (hn : vs.length = n) {k : Nat} {v : Value} (hk : vs[k]? = some v) : W.cell? ⟨G, k, none⟩ = some v ∧ W.frozen? ⟨G, k, none⟩ = false ∧ n ≤ cap ∧ cap ≤ maxLen := by
  rcases h.2 with ⟨e, _⟩ | ⟨g, cap', cur, e, _, hgg, hnc, hcm, _, ht⟩
  · cases e
  · cases e
    have hw : Whole W G cur.toList 42 := by unfold Whole; simpa using hgg
    have hlt := (List.getElem?_eq_some_iff.1 hk).1
    refine ⟨?_, hw.frozen k, hnc, hcm⟩
    rw [hw.cell, ← hk, ← ht, List.getElem?_take, if_pos (by omega)]
theorem LvS.at_last {w : World} {R0 : List (List Shc)} {ps : List (Nat × Nat)} {row : List Shc} {G cap b c Bb : Nat} {W : World} (h : LvS w R0 ps row G cap b c Bb W) : W.cell? ⟨G, R0.length, none⟩ = some (.slice (some ⟨b, 0, none⟩) row.length c) ∧ W.frozen? ⟨G, R0.length, none⟩ = false ∧ R0.length + 1 ≤ cap ∧ cap ≤ maxLen :=
  outer_cell h.outer (by simp [h.plen]) (by
    rw [List.getElem?_append_right (by rw [List.length_zipWith, h.plen, Nat.min_self]; exact Nat.le_refl _), List.length_zipWith, h.plen, Nat.min_self, Nat.sub_self]
    rfl)
theorem LvS.head {w : World} {R0 : List (List Shc)} {ps : List (Nat × Nat)} {row : List Shc} {G cap b c Bb : Nat} {W : World} (h : LvS w R0 ps row G cap b c Bb W) {s : Shc} (hs : row[0]? = some s) : W.cell? ⟨b, 0, none⟩ = some (.int .i64 (s.s.lv : Int)) := by
  have := (own_rowAt (r := row) h.last rfl).cells hs
  simpa using this.1
/-- A new row. -/
theorem LvS.new {w : World} {R0 : List (List Shc)} {ps : List (Nat × Nat)} {row : List Shc} {G cap b c Bb : Nat} {W X W' : World} (h : LvS w R0 ps row G cap b c Bb W) (hX : Below W.heap.size W X) {s : Shc} {b1 : Nat} (hb1 : W.heap.size ≤ b1) (hr : X.ownsRow b1 86 3 (.slice (some ⟨b1, 0, none⟩) 1 1) 1 (shcv s)) {G' cap' : Nat}
    (ho : W'.ownsRow w.heap.size 42 1 (.slice (some ⟨G', 0, none⟩) (R0.length + 1 + 1) cap') (R0.length + 1 + 1) (((List.zipWith rowV ps R0) ++ [rowV (b, c) row]) ++ [.slice (some ⟨b1, 0, none⟩) 1 1])) (hg : X.grownBy W' (Value.slice (some ⟨G, 0, none⟩) (R0.length + 1) cap).ownBlock) : LvS w (R0 ++ [row]) (ps ++ [(b, c)]) [s] G' cap' b1 1 b1 W' := by
  have hoX := own_lat h.outer hX
  have key : ∀ {q : Nat} {r : List Shc}, RowAt X q r → RowAt W' q r := fun {q r} ⟨cs, h1, h2⟩ => ⟨cs, whole_keptG h1 hg (whole_ne h1 hoX (by decide)), h2⟩
  have hlb : b < W.heap.size := (h.last.lt b rfl).2
  refine ⟨?_, by simp [h.plen], fun k p r hp hr' => ?_, ?_, Nat.le_trans h.below.size hb1, ?_⟩
  · have e : List.zipWith rowV (ps ++ [(b, c)]) (R0 ++ [row]) = List.zipWith rowV ps R0 ++ [rowV (b, c) row] := by
      rw [List.zipWith_append h.plen]; rfl
    rw [e, List.length_append]
    exact ho
  · by_cases hk : k < R0.length
    · rw [List.getElem?_append_left hk] at hr'
      rw [List.getElem?_append_left (by rw [h.plen]; exact hk)] at hp
      obtain ⟨d1, d2⟩ := h.done k p r hp hr'
      have : p.1 < W.heap.size := by
        obtain ⟨cs, q1, _⟩ := d1
        exact q1.lt
      exact ⟨key (d1.later hX), by omega⟩
    · rw [List.getElem?_append_right (by omega)] at hr'
      rw [List.getElem?_append_right (by rw [h.plen]; omega), h.plen] at hp
      have hk0 : k - R0.length = 0 := by
        have := (List.getElem?_eq_some_iff.1 hr').1
        simp at this; omega
      rw [hk0] at hr' hp
      cases hr'; cases hp
      exact ⟨key ((own_rowAt (r := row) h.last rfl).later hX), by show b < b1; omega⟩
  · have := hr.kept hg (rows_ne hr hoX (by decide))
    simpa [rowV] using this
  · have hb := bafter h.below hX
    exact hb.grown hg hb.size (fun k ek => (hoX.lt k ek).1)
/-- One more in the last row. -/
theorem LvS.push {w : World} {R0 : List (List Shc)} {ps : List (Nat × Nat)} {row : List Shc} {G cap b c Bb : Nat} {W X W' : World} (h : LvS w R0 ps row G cap b c Bb W) (hX : Below W.heap.size W X) {s : Shc} {b2 c2 : Nat}
    (ho : W'.ownsRow Bb 86 3 (.slice (some ⟨b2, 0, none⟩) (row.length + 1) c2) (row.length + 1) (row.flatMap shcv ++ shcv s)) (hg : X.grownBy W' (Value.slice (some ⟨b, 0, none⟩) row.length c).ownBlock) :
    W'.cell? ⟨G, R0.length, none⟩ = some (.slice (some ⟨b, 0, none⟩) row.length c) ∧ W'.frozen? ⟨G, R0.length, none⟩ = false ∧ LvS w R0 ps (row ++ [s]) G cap b2 c2 Bb (W'.setCell ⟨G, R0.length, none⟩ (.slice (some ⟨b2, 0, none⟩) (row.length + 1) c2)) := by
  have hlX : X.ownsRow Bb 86 3 (rowV (b, c) row) row.length (row.flatMap shcv) := own_lat h.last hX
  have hoX := own_lat h.outer hX
  have ho1 := hoX.kept hg (rows_ne hoX hlX (by decide))
  have hcl := outer_cell ho1 (by simp [h.plen]) (k := R0.length) (v := rowV (b, c) row) (by
    rw [List.getElem?_append_right (by rw [List.length_zipWith, h.plen, Nat.min_self]; exact Nat.le_refl _), List.length_zipWith, h.plen, Nat.min_self, Nat.sub_self]
    rfl)
  have hGw : ∃ cur : List Value, Whole W' G cur 42 ∧ cur.take (R0.length + 1) = (List.zipWith rowV ps R0) ++ [rowV (b, c) row] ∧ cur.length = cap ∧ R0.length + 1 ≤ cap ∧ cap ≤ maxLen ∧ w.heap.size ≤ G := by
    rcases ho1.2 with ⟨e, _⟩ | ⟨g, cap', cur, e, q0, hgg, q1, q2, q3, ht⟩
    · cases e
    · cases e
      exact ⟨cur.toList, by unfold Whole; simpa using hgg, by simpa using ht, by simpa using q3, q1, q2, q0⟩
  obtain ⟨cur, g1, g2, g3, g4, g5, g6⟩ := hGw
  have hne : ∀ {q : Nat} {cs : List Value}, Whole W' q cs 86 → q ≠ G := fun hq e => Row.ne hq.row g1.row (by decide) e
  refine ⟨hcl.1, hcl.2.1, ⟨?_, h.plen, fun k p r hp hr' => ?_, ?_, h.base, ?_⟩⟩
  · have g7 := g1.set (i := R0.length) (.slice (some ⟨b2, 0, none⟩) (row.length + 1) c2)
    refine ⟨by simp [h.plen], .inr ⟨G, cap, (cur.set R0.length (.slice (some ⟨b2, 0, none⟩) (row.length + 1) c2)).toArray, rfl, g6, by have := g7; unfold Whole at this; simpa using this, g4, g5, by simp [g3], ?_⟩⟩
    rw [Nat.mul_one]
    show (cur.set R0.length _).take (R0.length + 1) = _
    rw [List.take_set, g2, List.set_append_right _ _ (by rw [List.length_zipWith, h.plen, Nat.min_self]; exact Nat.le_refl _), List.length_zipWith, h.plen, Nat.min_self, Nat.sub_self, List.set_cons_zero]
    simp [rowV]
  · obtain ⟨d1, d2⟩ := h.done k p r hp hr'
    refine ⟨?_, d2⟩
    obtain ⟨cs, q1, q2⟩ := d1.later hX
    have q3 : Whole W' p.1 cs 86 := whole_keptG q1 hg (fun e => by
      have := (hlX.lt p.1 e.symm).1
      omega)
    exact ⟨cs, q3.same (Below.heap_setCell _ _ _ _ (hne q3)), q2⟩
  · have hk := ho
    rcases ho.2 with ⟨e, _⟩ | ⟨g, cap', cur', e, q0, hgg, q4⟩
    · cases e
    · cases e
      have hw' : Whole W' b2 cur'.toList 86 := by unfold Whole; simpa using hgg
      refine ⟨by simp [shcv_len, flat_len shcv 3 shcv_len, List.length_append]; omega, .inr ⟨b2, c2, cur', by simp [rowV], q0, (Below.heap_setCell _ _ _ _ (hne hw')).trans hgg, ?_⟩⟩
      rw [List.length_append, List.flatMap_append, List.flatMap_singleton]
      exact q4
  · have hb := bafter h.below hX
    exact (hb.grown hg hb.size (fun k ek => Nat.le_trans h.base (hlX.lt k ek).1)).setCell (p := ⟨G, R0.length, none⟩) g6 _
end Go.Proofs.Ytlfgeanafidopaa.Bt
namespace Go.Proofs.Ytlfgeanafidopaa.Bt
open Go.RowKit Go.Shelf
set_option maxRecDepth 10000

/-- Rows of shapes, as they are read. -/
structure LvAt (W : World) (G cap : Nat) (RR : List (List Shc)) : Prop where
  le : RR.length ≤ cap
  rows : ∀ (k : Nat) (r : List Shc), RR[k]? = some r → ∃ b c, W.cell? ⟨G, k, none⟩ = some (.slice (some ⟨b, 0, none⟩) r.length c) ∧ RowAt W b r
/-- The rows that a list of shapes falls into. -/
structure Fall (S : List Shc) (top : Nat) (RR : List (List Shc)) : Prop where
  flat : RR.flatten = S
  len : RR.length = top + 1
  lv : ∀ (k : Nat) (r : List Shc), RR[k]? = some r → r ≠ [] ∧ ∀ s ∈ r, s.s.lv + k = top
  one : ∀ r, RR[0]? = some r → r.length = 1
theorem LvS.first {w X W' : World} (hX : Below w.heap.size w X) {s : Shc} {b1 : Nat} (hb1 : w.heap.size ≤ b1) (hr : X.ownsRow b1 86 3 (.slice (some ⟨b1, 0, none⟩) 1 1) 1 (shcv s)) {G' cap' : Nat}
    (ho : W'.ownsRow w.heap.size 42 1 (.slice (some ⟨G', 0, none⟩) 1 cap') 1 [.slice (some ⟨b1, 0, none⟩) 1 1]) (hg : X.grownBy W' none) : LvS w [] [] [s] G' cap' b1 1 b1 W' := by
  refine ⟨ho, rfl, fun k p r hp => (by simp at hp), ?_, hb1, ?_⟩
  · have := hr.kept hg (.inr (fun e => by cases e))
    simpa [rowV] using this
  · exact hX.grown hg hX.size (fun k ek => (by cases ek))
theorem sh_row (w : World) (s : Shc) : (w.alloc (.cells #[.int .i64 (s.s.lv : Int), .slice (some ⟨s.B, 0, none⟩) s.s.ks.length s.s.ks.length, .bool s.s.d] 86)).ownsRow w.heap.size 86 3 (.slice (some ⟨w.heap.size, 0, none⟩) 1 1) 1 (shcv s) :=
  ⟨rfl, .inr ⟨w.heap.size, 1, _, rfl, Nat.le_refl _, World.alloc_heap_new w _, Nat.le_refl _, by unfold maxLen; omega, rfl, rfl⟩⟩
theorem flatten_nil {RR : List (List Shc)} {j : Nat} (h : ∀ (k : Nat) (r : List Shc), RR[k]? = some r → r ≠ []) (e : (RR.drop j).flatten = []) : RR.length ≤ j := by
  by_cases hj : j < RR.length
  · have := List.drop_eq_getElem_cons hj
    rw [this, List.flatten_cons] at e
    exact absurd (List.append_eq_nil_iff.1 e).1 (h j _ (List.getElem?_eq_getElem hj))
  · omega
theorem wpList_append_row {w : World} {ops : Array Oper} {rest : List Oper} {o : Oper} {a : Act} {Q : Exit → Act → World → Prop} (hgd : o.guard = none) (s x : Operand)
    (ho : o.op = .call { callee := .builtin .append, args := #[s, x], argTypes := #[79, 79] })
    (base : Nat) (v : Value) (n : Nat) (vs : List Value) (hs : a.eval s = v) (hown : w.ownsRow base 42 1 v n vs)
    (g : Nat) (u : Value) (hx : a.eval x = .slice (some ⟨g, 0, none⟩) 1 1) (hu : w.cell? ⟨g, 0, none⟩ = some u) (h1 : u.oneCell' = true) (hb : n ≤ 1000000000) (hbase : base ≤ w.heap.size)
    (h : ∀ v' w', w'.ownsRow base 42 1 v' (n + 1) (vs ++ [u]) → w.grownBy w' v.ownBlock → wpList Try.prog ops Q rest (a.put o.dst v') w') : wpList Try.prog ops Q (o :: rest) a w := by
  obtain ⟨i0, hi, hz0, hz1, hz2⟩ := info_parts infoRow
  refine wpList_append_own w hgd s x 79 ho base 42 i0 _ 1 24 Try.underlying79 hi hz0 hz1 hz2 rfl (by omega) v n _ hs hown ⟨g, 0, none⟩ 1 1 [u] hx rfl ?_ ?_ (by unfold maxLen; omega) (by omega) hbase (fun v' w' q1 q2 _ => h v' w' q1 q2)
  · intro j z hj
    cases j with
    | zero => simp at hj; subst hj; rw [show (⟨g, 0, none⟩ : Addr).add 0 = ⟨g, 0, none⟩ by unfold Addr.add; split <;> simp_all]; exact hu
    | succ j => simp at hj
  · intro z hz; rw [List.mem_singleton.1 hz]; exact h1
/-- Where the walk is. -/
def LvI (w : World) (S : List Shc) (RR : List (List Shc)) (i : Nat) (v : Value) (W : World) : Prop :=
  (i = 0 ∧ v = .slice none 0 0 ∧ W = w) ∨ ∃ (j m : Nat) (rf : List Shc) (ps : List (Nat × Nat)) (G cap b c Bb : Nat), v = .slice (some ⟨G, 0, none⟩) ((RR.take j).length + 1) cap ∧ RR[j]? = some rf ∧ 1 ≤ m ∧ m ≤ rf.length ∧ S.drop i = rf.drop m ++ (RR.drop (j + 1)).flatten ∧ LvS w (RR.take j) ps (rf.take m) G cap b c Bb W
theorem RSh.later {w W W' : World} {v : Value} {S : List Shc} (h : RSh w W v S) (hb : Below W.heap.size W W') : RSh w W' v S := ⟨own_lat h.own hb, fun c hc => (h.keys c hc).later hb⟩
theorem RSh.cells {w W : World} {a : Option Addr} {n c : Nat} {S : List Shc} (h : RSh w W (.slice a n c) S) {i : Nat} {s : Shc} (hi : S[i]? = some s) : ∃ g, a = some ⟨g, 0, none⟩ ∧ RowAt W g S := by
  have hil := (List.getElem?_eq_some_iff.1 hi).1
  rcases h.own.2 with ⟨_, h0⟩ | ⟨g, cap, cur, e, q⟩
  · omega
  · cases e
    refine ⟨g, rfl, ?_⟩
    obtain ⟨_, hgg, _, _, _, ht⟩ := q
    exact ⟨cur.toList, by unfold Whole; simpa using hgg, ht⟩
theorem LvI.start {w : World} {S : List Shc} {top : Nat} {RR : List (List Shc)} (hF : Fall S top RR) {s : Shc} (hs : S[0]? = some s) {G cap b Bb : Nat} {W : World} (h : LvS w [] [] [s] G cap b 1 Bb W) : LvI w S RR 1 (.slice (some ⟨G, 0, none⟩) 1 cap) W := by
  obtain ⟨rf, hrf⟩ : ∃ rf, RR[0]? = some rf := ⟨_, List.getElem?_eq_getElem (by have := hF.len; omega)⟩
  obtain ⟨hlt, he⟩ := List.getElem?_eq_some_iff.1 hrf
  have hd : RR = rf :: RR.drop 1 := by have := List.drop_eq_getElem_cons hlt; rw [he] at this; simpa using this
  obtain ⟨hne, _⟩ := hF.lv 0 rf hrf
  obtain ⟨s0, r0, hr0⟩ : ∃ s0 r0, rf = s0 :: r0 := by
    cases rf with
    | nil => exact absurd rfl hne
    | cons s0 r0 => exact ⟨s0, r0, rfl⟩
  have hS : S = s0 :: (r0 ++ (RR.drop 1).flatten) := by
    rw [← hF.flat]
    conv => lhs; rw [hd, List.flatten_cons, hr0]
    rfl
  have es : s = s0 := by rw [hS] at hs; simpa using hs.symm
  refine .inr ⟨0, 1, rf, [], G, cap, b, 1, Bb, by simp, hrf, Nat.le_refl _, by rw [hr0]; simp, ?_, ?_⟩
  · rw [hS, hr0]; simp
  · rw [List.take_zero, hr0, ← es]
    exact h
theorem Fall.next {S : List Shc} {top : Nat} {RR : List (List Shc)} (hF : Fall S top RR) {i j m : Nat} {rf : List Shc} (hrf : RR[j]? = some rf) (hm : 1 ≤ m) (hml : m ≤ rf.length) (hd : S.drop i = rf.drop m ++ (RR.drop (j + 1)).flatten) {s : Shc} (hs : S[i]? = some s) :
    ∃ s0, (rf.take m)[0]? = some s0 ∧ ((m < rf.length ∧ rf.take (m + 1) = rf.take m ++ [s] ∧ s.s.lv = s0.s.lv ∧ S.drop (i + 1) = rf.drop (m + 1) ++ (RR.drop (j + 1)).flatten) ∨
      (∃ r', RR[j + 1]? = some r' ∧ rf.take m = rf ∧ r'.take 1 = [s] ∧ 1 ≤ r'.length ∧ s.s.lv + 1 = s0.s.lv ∧ S.drop (i + 1) = r'.drop 1 ++ (RR.drop (j + 1 + 1)).flatten)) := by
  obtain ⟨hil, hie⟩ := List.getElem?_eq_some_iff.1 hs
  have hdi : S.drop i = s :: S.drop (i + 1) := by rw [← hie, ← List.drop_eq_getElem_cons hil]
  obtain ⟨s0, hs0⟩ : ∃ s0, rf[0]? = some s0 := ⟨_, List.getElem?_eq_getElem (by omega)⟩
  have l0 := (hF.lv j rf hrf).2 s0 (List.mem_of_getElem? hs0)
  refine ⟨s0, by rw [List.getElem?_take, if_pos (by omega)]; exact hs0, ?_⟩
  by_cases hlt : m < rf.length
  · left
    have hdm := List.drop_eq_getElem_cons hlt
    rw [hdi, hdm, List.cons_append] at hd
    injection hd with e1 e2
    have hgm : rf[m]? = some s := by rw [List.getElem?_eq_getElem hlt, ← e1]
    have l1 := (hF.lv j rf hrf).2 s (List.mem_of_getElem? hgm)
    exact ⟨hlt, by rw [List.take_add_one, hgm]; rfl, by omega, e2⟩
  · right
    have e0 : rf.drop m = [] := List.drop_eq_nil_of_le (by omega)
    rw [e0, List.nil_append, hdi] at hd
    have hj : j + 1 < RR.length := by
      by_cases q : j + 1 < RR.length
      · exact q
      · have e1 : RR.drop (j + 1) = [] := List.drop_eq_nil_of_le (by omega)
        rw [e1] at hd; simp at hd
    obtain ⟨r', hr'⟩ : ∃ r', RR[j + 1]? = some r' := ⟨_, List.getElem?_eq_getElem hj⟩
    have hdj := List.drop_eq_getElem_cons hj
    have er : RR[j + 1] = r' := (List.getElem?_eq_some_iff.1 hr').2
    rw [hdj, er, List.flatten_cons] at hd
    obtain ⟨hne, hlv⟩ := hF.lv (j + 1) r' hr'
    cases r' with
    | nil => exact absurd rfl hne
    | cons s1 t1 =>
      rw [List.cons_append] at hd
      injection hd with e1 e2
      have l1 := hlv s1 (by simp)
      rw [← e1] at l1
      exact ⟨s1 :: t1, hr', List.take_of_length_le (by omega), by rw [← e1]; rfl, by simp, by omega, by simpa using e2⟩
end Go.Proofs.Ytlfgeanafidopaa.Bt
namespace Go.Proofs.Ytlfgeanafidopaa.Bt
open Go.RowKit Go.Shelf
set_option maxRecDepth 10000

theorem flat_ge : ∀ {RR : List (List Shc)}, (∀ r ∈ RR, r ≠ []) → RR.length ≤ RR.flatten.length
  | [], _ => Nat.le_refl _
  | r :: t, h => by
    have h1 := flat_ge (RR := t) fun x hx => h x (List.mem_cons_of_mem _ hx)
    have h2 : 0 < r.length := List.length_pos_iff.2 (h r List.mem_cons_self)
    rw [List.flatten_cons, List.length_append, List.length_cons]; omega
theorem flat_mem : ∀ {RR : List (List Shc)} {r : List Shc}, r ∈ RR → r.length ≤ RR.flatten.length
  | x :: t, r, h => by
    rw [List.flatten_cons, List.length_append]
    rcases List.mem_cons.1 h with rfl | h
    · omega
    · have := flat_mem h; omega
theorem Fall.rows_le {S : List Shc} {top : Nat} {RR : List (List Shc)} (hF : Fall S top RR) : RR.length ≤ S.length := by
  rw [← hF.flat]
  refine flat_ge fun r hr => ?_
  obtain ⟨k, hk⟩ := List.getElem?_of_mem hr
  exact (hF.lv k r hk).1
theorem Fall.row_le {S : List Shc} {top : Nat} {RR : List (List Shc)} (hF : Fall S top RR) {k : Nat} {r : List Shc} (h : RR[k]? = some r) : r.length ≤ S.length := by
  rw [← hF.flat]; exact flat_mem (List.mem_of_getElem? h)
theorem take_row {RR : List (List Shc)} {j : Nat} {rf : List Shc} (h : RR[j]? = some rf) : RR.take (j + 1) = RR.take j ++ [rf] := by
  rw [List.take_add_one, h]; rfl
theorem LvI.row {w : World} {S : List Shc} {RR : List (List Shc)} {i j m : Nat} {rf r' : List Shc} {ps : List (Nat × Nat)} {G cap b c Bb : Nat} {W X W' : World} (hrf : RR[j]? = some rf) (hr' : RR[j + 1]? = some r') (htk : rf.take m = rf) {s : Shc} (hr1 : r'.take 1 = [s]) (hr2 : 1 ≤ r'.length) (hdn : S.drop (i + 1) = r'.drop 1 ++ (RR.drop (j + 1 + 1)).flatten)
    (h : LvS w (RR.take j) ps (rf.take m) G cap b c Bb W) (hX : Below W.heap.size W X) {b1 : Nat} (hb1 : W.heap.size ≤ b1) (hr : X.ownsRow b1 86 3 (.slice (some ⟨b1, 0, none⟩) 1 1) 1 (shcv s)) {G' cap' : Nat}
    (ho : W'.ownsRow w.heap.size 42 1 (.slice (some ⟨G', 0, none⟩) ((RR.take j).length + 1 + 1) cap') ((RR.take j).length + 1 + 1) (((List.zipWith rowV ps (RR.take j)) ++ [rowV (b, c) (rf.take m)]) ++ [.slice (some ⟨b1, 0, none⟩) 1 1])) (hg : X.grownBy W' (Value.slice (some ⟨G, 0, none⟩) ((RR.take j).length + 1) cap).ownBlock) :
    LvI w S RR (i + 1) (.slice (some ⟨G', 0, none⟩) ((RR.take j).length + 1 + 1) cap') W' := by
  have hn := h.new hX hb1 hr ho hg
  rw [htk, ← take_row hrf] at hn
  refine .inr ⟨j + 1, 1, r', ps ++ [(b, c)], G', cap', b1, 1, b1, ?_, hr', Nat.le_refl _, hr2, hdn, by rw [hr1]; exact hn⟩
  rw [take_row hrf, List.length_append]; rfl
theorem LvI.fin {w : World} {S : List Shc} {top : Nat} {RR : List (List Shc)} (hF : Fall S top RR) {v : Value} {W : World} (h : LvI w S RR S.length v W) : ∃ (G cap b c m b0 c0 : Nat), v = .slice (some ⟨G, 0, none⟩) (top + 1) cap ∧ LvAt W G cap RR ∧ Below w.heap.size w W ∧ W.cell? ⟨G, top, none⟩ = some (.slice (some ⟨b, 0, none⟩) m c) ∧ 1 ≤ m ∧ W.cell? ⟨b, 0, none⟩ = some (.int .i64 0) ∧ W.cell? ⟨G, 0, none⟩ = some (.slice (some ⟨b0, 0, none⟩) 1 c0) := by
  have hlen := hF.len
  rcases h with ⟨h0, _, _⟩ | ⟨j, m, rf, ps, G, cap, b, c, Bb, ev, hrf, hm, hml, hd, hLS⟩
  · have := hF.rows_le; omega
  · rw [List.drop_length] at hd
    obtain ⟨e1, e2⟩ := List.append_eq_nil_iff.1 hd.symm
    have hml2 : rf.length ≤ m := by
      have := congrArg List.length e1; rw [List.length_drop] at this; simp at this; omega
    have hj2 := flatten_nil (fun k r hk => (hF.lv k r hk).1) e2
    have hjl := (List.getElem?_eq_some_iff.1 hrf).1
    have ej : j = top := by omega
    subst ej
    have et : rf.take m = rf := List.take_of_length_le hml2
    rw [et] at hLS
    have ell : (RR.take j).length = j := by rw [List.length_take]; omega
    obtain ⟨o1, _, o3, _⟩ := hLS.at_last
    rw [ell] at o1 o3
    obtain ⟨s0, hs0⟩ : ∃ s0, rf[0]? = some s0 := ⟨_, List.getElem?_eq_getElem (by omega)⟩
    have o5 := hLS.head hs0
    have l0 := (hF.lv j rf hrf).2 s0 (List.mem_of_getElem? hs0)
    have hz : s0.s.lv = 0 := by omega
    rw [hz] at o5
    have hrows : ∀ (k : Nat) (r : List Shc), RR[k]? = some r → ∃ b c, W.cell? ⟨G, k, none⟩ = some (.slice (some ⟨b, 0, none⟩) r.length c) ∧ RowAt W b r := fun k r hk => by
      have hkl := (List.getElem?_eq_some_iff.1 hk).1
      by_cases q : k = j
      · subst q
        rw [hrf] at hk; cases hk
        exact ⟨b, c, o1, own_rowAt (r := rf) hLS.last rfl⟩
      · have hkj : k < j := by omega
        obtain ⟨p, hp⟩ : ∃ p, ps[k]? = some p := ⟨_, List.getElem?_eq_getElem (by rw [hLS.plen, ell]; exact hkj)⟩
        have hk2 : (RR.take j)[k]? = some r := by rw [List.getElem?_take, if_pos hkj]; exact hk
        have hz : (List.zipWith rowV ps (RR.take j))[k]? = some (rowV p r) := by
          rw [List.getElem?_zipWith, hp, hk2]
        have := outer_cell hLS.outer (by simp [hLS.plen]) (k := k) (v := rowV p r) (by
          rw [List.getElem?_append_left (by rw [List.length_zipWith, hLS.plen, Nat.min_self, ell]; exact hkj)]; exact hz)
        exact ⟨p.1, p.2, this.1, (hLS.done k p r hp hk2).1⟩
    obtain ⟨r0, hr0⟩ : ∃ r0, RR[0]? = some r0 := ⟨_, List.getElem?_eq_getElem (by omega)⟩
    obtain ⟨b0, c0, z1, _⟩ := hrows 0 r0 hr0
    rw [hF.one r0 hr0] at z1
    exact ⟨G, cap, b, c, rf.length, b0, c0, by rw [ev, ell], ⟨by omega, hrows⟩, hLS.below, o1, by omega, o5, z1⟩
end Go.Proofs.Ytlfgeanafidopaa.Bt
