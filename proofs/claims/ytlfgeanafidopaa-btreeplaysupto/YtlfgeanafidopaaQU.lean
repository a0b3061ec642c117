/-
  Shapes: what is told of a tree, level by level; rows of shapes and of nodes.
-/
import Derived.Test.YtlfgeanafidopaaQR
import Derived.Test.YtlfgeanafidopaaQT
import Derived.Laws.AppendOwnNone
namespace Go.Proofs.Ytlfgeanafidopaa.Bt
open Go.RowKit Go.Shelf
set_option maxRecDepth 10000

structure Shp where
  lv : Nat
  ks : List K
  d : Bool
def shp (n : Nat) (t : El (n + 1)) : Shp := ⟨n, t.l.map (ek n), t.d⟩
def shps : (n : Nat) → List (El (n + 1)) → List Shp
  | 0, l => l.map (shp 0)
  | n + 1, l => l.map (shp (n + 1)) ++ shps n (l.flatMap El.l)
/-- A shape, and the block in which its keys lie. -/
structure Shc where
  s : Shp
  B : Nat
def shcv (c : Shc) : List Value := [.int .i64 (c.s.lv : Int), .slice (some ⟨c.B, 0, none⟩) c.s.ks.length c.s.ks.length, .bool c.s.d]
theorem shcv_len (c : Shc) : (shcv c).length = 3 := rfl
theorem shcv_one (l : List Shc) : ∀ u ∈ l.flatMap shcv, u.oneCell' = true := by
  intro u hu
  obtain ⟨s, _, hs⟩ := List.mem_flatMap.1 hu
  simp only [shcv, List.mem_cons, List.not_mem_nil, or_false] at hs
  rcases hs with rfl | rfl | rfl <;> rfl
theorem infoSh : (Try.prog.info? 48).map (fun i => (i.zero, i.size, i.bytes)) = some (some (.agg #[.int .i64 0, .slice none 0 0, .bool false]), 3, 40) := by kernel_rfl
structure ShRow (w W : World) (v : Value) (S : List Shc) : Prop where
  own : W.ownsRow w.heap.size 48 3 v S.length (S.flatMap shcv)
  keys : ∀ c ∈ S, Whole W c.B (c.s.ks.map Value.string) 9
def ptrV (p : Nat) : Value := .pointer (some ⟨p, 0, none⟩)
theorem ptr_one (l : List Nat) : ∀ u ∈ l.map ptrV, u.oneCell' = true := by
  intro u hu
  obtain ⟨p, _, rfl⟩ := List.mem_map.1 hu
  rfl
def pks : (m : Nat) → En (m + 1) → List Nat
  | 0, _ => []
  | _ + 1, e => e.l.map fun c => c.h.p
def restOf : (m : Nat) → List (En (m + 1)) → List Shp
  | 0, _ => []
  | m + 1, ks => shps m ((ks.flatMap En.l).map (abs (m + 1)))
theorem shps_rest : ∀ (m : Nat) (ks : List (En (m + 1))), shps m (ks.map (abs (m + 1))) = (ks.map (abs (m + 1))).map (shp m) ++ restOf m ks
  | 0, ks => by simp [shps, restOf]
  | m + 1, ks => by
    show _ ++ shps m _ = _ ++ shps m _
    congr 2
    rw [List.flatMap_map, List.map_flatMap]
    rfl
/-- What is known of a row's nodes. -/
structure Nds (F : Nat) (w : World) (m : Nat) (e : En (m + 1)) : Prop where
  lies : Lies w (m + 1) e
  le : e.l.length ≤ F
  pos : 0 < m → 0 < e.l.length
  kids : ∀ c ∈ (abs (m + 1) e).l, Fill F m c
theorem Nds.kid {F : Nat} (hF : 4 ≤ F) {w : World} {m : Nat} {e : En (m + 2)} (h : Nds F w (m + 1) e) {c : En (m + 1)} (hc : c ∈ e.l) : Nds F w m c := by
  have hm : abs (m + 1) c ∈ (abs (m + 2) e).l := by rw [abs_l]; exact List.mem_map_of_mem hc
  obtain ⟨f1, f2, f3⟩ := h.kids _ hm
  rw [abs_l, List.length_map] at f1 f2
  exact ⟨h.lies.2 c hc, f2, fun _ => by omega, f3⟩
theorem rows_ne {W : World} {b1 b2 : Nat} {e1 e2 : TypeId} {s1 s2 : Nat} {v1 v2 : Value} {k1 k2 : Nat} {x1 x2 : List Value} (h1 : W.ownsRow b1 e1 s1 v1 k1 x1) (h2 : W.ownsRow b2 e2 s2 v2 k2 x2) (hne : e1 ≠ e2) : v1.ownBlock = none ∨ v1.ownBlock ≠ v2.ownBlock := by
  rcases h1.2 with ⟨rfl, _⟩ | ⟨g, cap, cur, rfl, _, hgb, _⟩
  · exact .inl rfl
  · refine .inr fun e => ?_
    rcases h2.2 with ⟨rfl, _⟩ | ⟨g2, cap2, cur2, rfl, _, hgb2, _⟩
    · cases e
    · have : g = g2 := by simpa [Value.ownBlock] using e
      subst this
      rw [hgb] at hgb2
      simp at hgb2
      exact hne hgb2.2
theorem whole_ne {W : World} {B : Nat} {cs : List Value} {t : TypeId} {b2 : Nat} {e2 : TypeId} {s2 : Nat} {v2 : Value} {k2 : Nat} {x2 : List Value} (h1 : Whole W B cs t) (h2 : W.ownsRow b2 e2 s2 v2 k2 x2) (hne : t ≠ e2) : some B ≠ v2.ownBlock := fun e => by
  rcases h2.2 with ⟨rfl, _⟩ | ⟨g2, cap2, cur2, rfl, _, hgb2, _⟩
  · cases e
  · have : B = g2 := by simpa [Value.ownBlock] using e
    subst this
    rw [show W.heap[B]? = _ from h1] at hgb2
    simp at hgb2
    exact hne hgb2.2
theorem own_lat {base : Nat} {ty : TypeId} {sz : Nat} {w w' : World} {v : Value} {n : Nat} {xs : List Value} (h : w.ownsRow base ty sz v n xs) (hb : Below w.heap.size w w') : w'.ownsRow base ty sz v n xs :=
  h.kept (below_grown hb) (own_ne h (row := none) (fun r e => by cases e))
/-- A level's row, while it is walked: i shapes are told, the kids of j nodes are in the row below. -/
structure InS (w W0 : World) (tot : List Shp) (m : Nat) (ks : List (En (m + 1))) (vr : Value) (i j : Nat) (vl vb : Value) (W : World) : Prop where
  sh : ∃ S, ShRow w W vl S ∧ S.map Shc.s ++ (((ks.drop i).map (abs (m + 1))).map (shp m) ++ restOf m ks) = tot
  row : W.ownsRow w.heap.size 65 1 vr ks.length (ks.map fun e => ptrV e.h.p)
  low : ∀ g, vr.ownBlock = some g → g < W0.heap.size
  bel : W.ownsRow W0.heap.size 65 1 vb ((ks.take j).flatMap (pks m)).length (((ks.take j).flatMap (pks m)).map ptrV)
  below : Below w.heap.size w W
  base : w.heap.size ≤ W0.heap.size
  size : W0.heap.size ≤ W.heap.size
theorem ShRow.later {w W W' : World} {v : Value} {S : List Shc} (h : ShRow w W v S) (hb : Below W.heap.size W W') : ShRow w W' v S := ⟨own_lat h.own hb, fun c hc => (h.keys c hc).later hb⟩
theorem InS.later {w W0 : World} {tot : List Shp} {m : Nat} {ks : List (En (m + 1))} {vr : Value} {i j : Nat} {vl vb : Value} {W W' : World} (h : InS w W0 tot m ks vr i j vl vb W) (hb : Below W.heap.size W W') : InS w W0 tot m ks vr i j vl vb W' := by
  obtain ⟨S, h1, h2⟩ := h.sh
  exact ⟨⟨S, h1.later hb, h2⟩, own_lat h.row hb, h.low, own_lat h.bel hb, bafter h.below hb, h.base, Nat.le_trans h.size hb.size⟩
theorem whole_keptG {W W' : World} {row : Option Nat} {B : Nat} {t : TypeId} {cs : List Value} (h : Whole W B cs t) (hg : W.grownBy W' row) (hne : some B ≠ row) : Whole W' B cs t := (hg.block B h.lt hne).trans h
/-- One more shape. -/
theorem InS.push {w W0 : World} {tot : List Shp} {m : Nat} {ks : List (En (m + 1))} {vr : Value} {i j : Nat} {vl vl' vb : Value} {W X W3 : World} {e : En (m + 1)} {S : List Shc} (h : InS w W0 tot m ks vr i j vl vb W) (hS : ShRow w W vl S) (hE : S.map Shc.s ++ (((ks.drop i).map (abs (m + 1))).map (shp m) ++ restOf m ks) = tot) (he : ks[i]? = some e) (B : Nat) (hX : Below W.heap.size W X) (hB : Whole X B ((e.l.map (slE m)).map keyV) 9)
    (ho : W3.ownsRow w.heap.size 48 3 vl' (S.length + 1) (S.flatMap shcv ++ shcv ⟨shp m (abs (m + 1) e), B⟩)) (hg : X.grownBy W3 vl.ownBlock) : InS w W0 tot m ks vr (i + 1) j vl' vb W3 := by
  have hSX := hS.later hX
  have hrX := own_lat h.row hX
  have hbX := own_lat h.bel hX
  obtain ⟨hil, hie⟩ := List.getElem?_eq_some_iff.1 he
  have hdr : ks.drop i = e :: ks.drop (i + 1) := by rw [← hie, ← List.drop_eq_getElem_cons hil]
  have hb := bafter h.below hX
  refine ⟨⟨S ++ [⟨shp m (abs (m + 1) e), B⟩], ⟨?_, fun c hc => ?_⟩, ?_⟩, hrX.kept hg (rows_ne hrX hSX.own (by decide)), h.low, hbX.kept hg (rows_ne hbX hSX.own (by decide)), ?_, h.base, Nat.le_trans h.size (Nat.le_trans hX.size hg.size)⟩
  · rw [List.length_append, List.flatMap_append, List.flatMap_singleton]; exact ho
  · rcases List.mem_append.1 hc with hc | hc
    · exact whole_keptG (hSX.keys c hc) hg (whole_ne (hSX.keys c hc) hSX.own (by decide))
    · rw [List.mem_singleton.1 hc]
      have e1 : (shp m (abs (m + 1) e)).ks.map Value.string = (e.l.map (slE m)).map keyV := by
        show ((abs (m + 1) e).l.map (ek m)).map Value.string = _
        rw [abs_l, ← keysE, List.map_map]
        rfl
      show Whole W3 B ((shp m (abs (m + 1) e)).ks.map Value.string) _
      rw [e1]
      exact whole_keptG hB hg (whole_ne hB hSX.own (by decide))
  · rw [← hE, hdr]
    simp
  · exact hb.grown hg hb.size (fun k ek => (hSX.own.lt k ek).1)
/-- The kids of one more node. -/
theorem InS.kids {w W0 : World} {tot : List Shp} {m : Nat} {ks : List (En (m + 1))} {vr : Value} {i j : Nat} {vl vb vb' : Value} {W W5 : World} {e : En (m + 1)} (h : InS w W0 tot m ks vr i j vl vb W) (he : ks[j]? = some e)
    (ho : W5.ownsRow W0.heap.size 65 1 vb' ((ks.take j).flatMap (pks m) ++ pks m e).length (((ks.take j).flatMap (pks m) ++ pks m e).map ptrV)) (hg : W.grownBy W5 vb.ownBlock) : InS w W0 tot m ks vr i (j + 1) vl vb' W5 := by
  obtain ⟨S, hS, hE⟩ := h.sh
  have et : ks.take (j + 1) = ks.take j ++ [e] := by rw [List.take_add_one, he]; rfl
  refine ⟨⟨S, ⟨hS.own.kept hg (rows_ne hS.own h.bel (by decide)), fun c hc => whole_keptG (hS.keys c hc) hg (whole_ne (hS.keys c hc) h.bel (by decide))⟩, hE⟩, ?_, h.low, ?_, ?_, h.base, Nat.le_trans h.size hg.size⟩
  · refine h.row.kept hg ?_
    cases hv : vr.ownBlock with
    | none => exact .inl rfl
    | some g =>
      refine .inr fun e => ?_
      have := h.low g hv
      have := (h.bel.lt g e.symm).1
      omega
  · rw [et, List.flatMap_append, List.flatMap_singleton]; exact ho
  · exact h.below.grown hg h.below.size (fun k ek => Nat.le_trans h.base (h.bel.lt k ek).1)
theorem InS.cell {w W0 : World} {tot : List Shp} {m : Nat} {ks : List (En (m + 1))} {vr : Value} {i j : Nat} {vl vb : Value} {W : World} (h : InS w W0 tot m ks vr i j vl vb W) {q : Nat} {e : En (m + 1)} (he : ks[q]? = some e) : ∃ g cap, vr = .slice (some ⟨g, 0, none⟩) ks.length cap ∧ W.cell? ⟨g, q, none⟩ = some (.pointer (some ⟨e.h.p, 0, none⟩)) := by
  have hil := (List.getElem?_eq_some_iff.1 he).1
  rcases h.row.2 with ⟨_, h0⟩ | ⟨g, cap, cur, rfl, _, hgg, hnc, hcm, hcs, htake⟩
  · omega
  · refine ⟨g, cap, rfl, ?_⟩
    have hw : Whole W g cur.toList 65 := by unfold Whole; simpa using hgg
    have e1 : (ks.map fun e => ptrV e.h.p)[q]? = some (ptrV e.h.p) := by rw [List.getElem?_map, he]; rfl
    rw [← htake, List.getElem?_take, if_pos (by omega)] at e1
    rw [hw.cell]
    exact e1
/-- Kids, as kids answers them. -/
def KidR (W : World) (v : Value) (ps : List Nat) : Prop := (v = .slice none 0 0 ∧ ps = []) ∨ ∃ B, v = .slice (some ⟨B, 0, none⟩) ps.length ps.length ∧ Whole W B (ps.map ptrV) 65
theorem kids_row {F : Nat} (hF2 : F ≤ 64) {w : World} : ∀ (m : Nat) (e : En (m + 1)), Nds F w m e → ∀ X, Below w.heap.size w X → Calls Try.prog 45 #[.pointer (some ⟨e.h.p, 0, none⟩)] X fun e' w' => ∃ a n c, e' = .returned (.slice a n c) ∧ KidR w' (.slice a n c) (pks m e) ∧ Below X.heap.size X w'
  | 0, e, h, X, hX => by
    refine (kids_leaf e.h _ X (h.lies.1.later hX)).mono ?_
    rintro e' w' ⟨rfl, rfl⟩
    exact ⟨_, _, _, rfl, .inl ⟨rfl, rfl⟩, Below.refl _ _⟩
  | m + 1, e, h, X, hX => by
    refine (kids_any e.h (m + 1) _ X (h.lies.1.later hX) (by have := h.le; rw [List.length_map]; omega) (by rw [List.length_map]; exact h.pos (by omega)) (by omega)).mono ?_
    rintro e' w' ⟨B, rfl, hb, _, hw⟩
    have e1 : (e.l.map (slE (m + 1))).map kidP = (pks (m + 1) e).map ptrV := by
      show _ = (e.l.map fun c => c.h.p).map ptrV
      rw [List.map_map, List.map_map]; rfl
    have e2 : (pks (m + 1) e).length = (e.l.map (slE (m + 1))).length := by rw [List.length_map]; exact List.length_map _
    rw [e1] at hw
    exact ⟨_, _, _, rfl, .inr ⟨B, by rw [e2], hw⟩, hb⟩
theorem wpList_append_ps {w : World} {ops : Array Oper} {rest : List Oper} {o : Oper} {a : Act} {Q : Exit → Act → World → Prop} (hgd : o.guard = none) (s x : Operand)
    (ho : o.op = .call { callee := .builtin .append, args := #[s, x], argTypes := #[87, 87] })
    (base : Nat) (v : Value) (n : Nat) (l1 : List Nat) (hs : a.eval s = v) (hn : n = l1.length) (hown : w.ownsRow base 65 1 v n (l1.map ptrV))
    (u : Value) (l2 : List Nat) (hx : a.eval x = u) (hu : KidR w u l2) (hb : l1.length + l2.length ≤ 3600000000000) (hbase : base ≤ w.heap.size)
    (h : ∀ v' w', w'.ownsRow base 65 1 v' (l1 ++ l2).length ((l1 ++ l2).map ptrV) → w.grownBy w' v.ownBlock → wpList Try.prog ops Q rest (a.put o.dst v') w') : wpList Try.prog ops Q (o :: rest) a w := by
  obtain ⟨i0, hi, hz0, hz1, hz2⟩ := info_parts infoN
  subst hn
  rcases hu with ⟨rfl, rfl⟩ | ⟨B, rfl, hw⟩
  · refine wpList_append_own_none hgd s x 87 ho base 65 i0 1 Try.underlying87 hi v l1.length _ hs hown hx ?_
    exact h v w (by simpa using hown) ⟨rfl, rfl, rfl, Nat.le_refl _, fun _ _ _ => rfl⟩
  · refine wpList_append_own w hgd s x 87 ho base 65 i0 _ 1 8 Try.underlying87 hi hz0 hz1 hz2 rfl (by omega) v l1.length _ hs hown ⟨B, 0, none⟩ l2.length l2.length (l2.map ptrV) hx (by rw [List.length_map]; omega) ?_ (ptr_one _) (by unfold maxLen; omega) (by omega) hbase
      (fun v' w' h1 h2 _ => h v' w' (by rw [List.length_append, List.map_append]; exact h1) h2)
    intro j z hj
    rw [show (⟨B, 0, none⟩ : Addr).add j = ⟨B, j, none⟩ by unfold Addr.add; split <;> simp_all, hw.cell]
    exact hj
end Go.Proofs.Ytlfgeanafidopaa.Bt
