/-
  Memory: rows of cells, what stays while others are written; a node and its slots as they lie.
-/
import Derived.Test.YtpflacbinankmaaBNode
import Derived.WalkKit
import Derived.WalkSpells
import Derived.WalkLawsBesides
import Derived.Laws.BytesArg
import Derived.Laws.Cover1
import Derived.Laws.IdiomCopy
import Derived.Deep.AppendLies
namespace Go.Proofs.Ytpflacbinankmaa.Bt
open Go.RowKit

theorem ret_int {k : IntKind} {a b : Int} (h : a = b) : Ending.returned (.int k a) = .returned (.int k b) := by rw [h]
theorem ret_bool {a b : Bool} (h : a = b) : Ending.returned (.bool a) = .returned (.bool b) := by rw [h]
theorem bafter {w w1 w2 : World} (h : Below w.heap.size w w1) (h2 : Below w1.heap.size w1 w2) : Below w.heap.size w w2 := h.trans (h2.mono h.size)
theorem below_new (w : World) (o : Obj) : Below w.heap.size w (w.alloc o) := (Below.refl _ w).alloc (Nat.le_refl _) _
theorem below_drawn (w : World) (n : Nat) : Below w.heap.size w (w.drewN n) := by
  induction n with
  | zero => exact Below.refl _ _
  | succ n ih => exact (ih.drew)

/-- A block whose cells begin with cs. -/
def Row (W : World) (B : Nat) (cs : List Value) (t : TypeId) : Prop := ∃ rest : List Value, W.heap[B]? = some (.cells (cs ++ rest).toArray t (0, 0))
theorem Row.lt {W : World} {B : Nat} {cs : List Value} {t : TypeId} (h : Row W B cs t) : B < W.heap.size := by
  obtain ⟨r, h⟩ := h; exact (Array.getElem?_eq_some_iff.1 h).1
theorem Row.cell {W : World} {B i : Nat} {cs : List Value} {t : TypeId} {v : Value} (h : Row W B cs t) (hi : cs[i]? = some v) : W.cell? ⟨B, i, none⟩ = some v := by
  obtain ⟨r, h⟩ := h
  have hlt := (List.getElem?_eq_some_iff.1 hi).1
  simp only [World.cell?, h]
  simp [List.getElem?_append_left hlt, hi]
theorem Row.frozen {W : World} {B : Nat} {cs : List Value} {t : TypeId} (h : Row W B cs t) (i : Nat) : W.frozen? ⟨B, i, none⟩ = false := by
  obtain ⟨r, h⟩ := h
  simp [World.frozen?, h]
theorem Row.set {W : World} {B i : Nat} {cs : List Value} {t : TypeId} (v : Value) (h : Row W B cs t) (hi : i < cs.length) : Row (W.setCell ⟨B, i, none⟩ v) B (cs.set i v) t := by
  obtain ⟨r, h⟩ := h
  obtain ⟨hlt, hk⟩ := Array.getElem?_eq_some_iff.1 h
  refine ⟨r, ?_⟩
  show (W.heap.modify B _)[B]? = _
  rw [Array.getElem?_eq_getElem (by rw [Array.size_modify]; exact hlt), Array.getElem_modify_self, hk]
  simp [List.set_append_left _ _ hi]
theorem Row.same {W W' : World} {B : Nat} {cs : List Value} {t : TypeId} (h : Row W B cs t) (e : W'.heap[B]? = W.heap[B]?) : Row W' B cs t := by
  obtain ⟨r, h⟩ := h; exact ⟨r, e.trans h⟩
theorem Row.other {W : World} {B : Nat} {cs : List Value} {t : TypeId} (p : Addr) (v : Value) (h : Row W B cs t) (hne : B ≠ p.block) : Row (W.setCell p v) B cs t := h.same (Below.heap_setCell _ _ _ B hne)
theorem Row.alloc {W : World} {B : Nat} {cs : List Value} {t : TypeId} (h : Row W B cs t) (o : Obj) : Row (W.alloc o) B cs t := h.same (Below.heap_alloc _ _ _ h.lt)
theorem Row.drew {W : World} {B : Nat} {cs : List Value} {t : TypeId} (h : Row W B cs t) : Row W.drew B cs t := h
theorem Row.drewN {W : World} {B : Nat} {cs : List Value} {t : TypeId} (h : Row W B cs t) (n : Nat) : Row (W.drewN n) B cs t := h
theorem Row.later {W W' : World} {B : Nat} {cs : List Value} {t : TypeId} (h : Row W B cs t) (hb : Below W.heap.size W W') : Row W' B cs t := h.same (hb.block B h.lt)
theorem Row.ne {W : World} {B C : Nat} {cs ds : List Value} {t u : TypeId} (h : Row W B cs t) (g : Row W C ds u) (hn : t ≠ u) : B ≠ C := by
  rintro rfl
  obtain ⟨r, h⟩ := h
  obtain ⟨s, g⟩ := g
  have := h.symm.trans g
  simp at this
  exact hn this.2
theorem Row.new (W : World) (cs : List Value) (t : TypeId) : Row (W.alloc (.cells cs.toArray t)) W.heap.size cs t := ⟨[], by show (W.heap.push _)[W.heap.size]? = _; simp⟩

/-- But for the blocks S all that there was is as it was. -/
structure Kept (S : Nat → Prop) (w w' : World) : Prop where
  os : w'.os = w.os
  tape : w'.tape = w.tape
  output : w'.output = w.output
  size : w.heap.size ≤ w'.heap.size
  block : ∀ k, k < w.heap.size → ¬ S k → w'.heap[k]? = w.heap[k]?
theorem Kept.refl (S : Nat → Prop) (w : World) : Kept S w w := ⟨rfl, rfl, rfl, Nat.le_refl _, fun _ _ _ => rfl⟩
theorem Kept.trans {S : Nat → Prop} {a b c : World} (h : Kept S a b) (k : Kept S b c) : Kept S a c :=
  ⟨k.os.trans h.os, k.tape.trans h.tape, k.output.trans h.output, Nat.le_trans h.size k.size, fun i hi hs => (k.block i (Nat.lt_of_lt_of_le hi h.size) hs).trans (h.block i hi hs)⟩
theorem Kept.mono {S T : Nat → Prop} {a b : World} (h : Kept S a b) (hs : ∀ k, S k → T k) : Kept T a b := ⟨h.os, h.tape, h.output, h.size, fun k hk hn => h.block k hk (fun x => hn (hs k x))⟩
theorem Kept.of_below {S : Nat → Prop} {a b : World} (h : Below a.heap.size a b) : Kept S a b := ⟨h.os, h.tape, h.output, h.size, fun k hk _ => h.block k hk⟩
theorem Kept.later {S : Nat → Prop} {a b c : World} (h : Kept S a b) (k : Below b.heap.size b c) : Kept S a c := h.trans (.of_below k)
theorem Kept.of_grown {S : Nat → Prop} {a b : World} {r : Option Nat} (h : a.grownBy b r) (hr : ∀ k, r = some k → S k) : Kept S a b := ⟨h.os, h.tape, h.output, h.size, fun k hk hn => h.block k hk (fun e => hn (hr k e.symm))⟩
theorem Kept.setCell {S : Nat → Prop} {a w : World} (h : Kept S a w) {p : Addr} (hp : S p.block) (u : Value) : Kept S a (w.setCell p u) :=
  h.trans ⟨rfl, rfl, rfl, by simp [World.setCell], fun k _ hn => Below.heap_setCell _ _ _ _ (fun e => hn (e ▸ hp))⟩
theorem Kept.setNew {S : Nat → Prop} {a w : World} (h : Kept S a w) {p : Addr} (hp : a.heap.size ≤ p.block) (u : Value) : Kept S a (w.setCell p u) :=
  ⟨h.os, h.tape, h.output, by have := h.size; simpa [World.setCell] using this, fun k hk hn => (Below.heap_setCell _ _ _ _ (by omega)).trans (h.block k hk hn)⟩
theorem Kept.alloc {S : Nat → Prop} {a w : World} (h : Kept S a w) (o : Obj) : Kept S a (w.alloc o) := h.trans ⟨rfl, rfl, rfl, by simp, fun k hk _ => Below.heap_alloc _ _ _ hk⟩
theorem Kept.drew {S : Nat → Prop} {a w : World} (h : Kept S a w) : Kept S a w.drew := ⟨h.os, h.tape, h.output, h.size, h.block⟩
theorem Kept.drewN {S : Nat → Prop} {a w : World} (h : Kept S a w) (n : Nat) : Kept S a (w.drewN n) := ⟨h.os, h.tape, h.output, h.size, h.block⟩
/-- What is turned of blocks that are new is nothing to what was ahead. -/
theorem Kept.comp {S T : Nat → Prop} {a b c : World} (h : Kept S a b) (k : Kept T b c) (hT : ∀ i, T i → S i ∨ a.heap.size ≤ i) : Kept S a c :=
  ⟨k.os.trans h.os, k.tape.trans h.tape, k.output.trans h.output, Nat.le_trans h.size k.size, fun i hi hs => (k.block i (Nat.lt_of_lt_of_le hi h.size) (fun x => by rcases hT i x with q | q; exact hs q; omega)).trans (h.block i hi hs)⟩
theorem Kept.below {S : Nat → Prop} {B : Nat} {a b : World} (h : Kept S a b) (hB : B ≤ a.heap.size) (hs : ∀ k, S k → B ≤ k) : Below B a b :=
  ⟨h.os, h.tape, h.output, h.size, fun k hk => h.block k (by omega) (fun x => by have := hs k x; omega)⟩
theorem Row.kept {S : Nat → Prop} {W W' : World} {B : Nat} {cs : List Value} {t : TypeId} (h : Row W B cs t) (hk : Kept S W W') (hn : ¬ S B) : Row W' B cs t := h.same (hk.block B h.lt hn)
theorem kept_setCells {S : Nat → Prop} {a : World} {b : Nat} (hb : S b) : ∀ (vs : List Value) (o : Nat) (w : World), Kept S a w → Kept S a (w.setCells b o vs)
  | [], _, _, h => h
  | v :: r, o, _, h => kept_setCells hb r (o + 1) _ (h.setCell (p := ⟨b, o, none⟩) hb v)
theorem setCells_new {a : World} {S : Nat → Prop} {b : Nat} (hb : a.heap.size ≤ b) : ∀ (vs : List Value) (o : Nat) (w : World), Kept S a w → Kept S a (w.setCells b o vs)
  | [], _, _, h => h
  | v :: r, o, _, h => setCells_new hb r (o + 1) _ (h.setNew (p := ⟨b, o, none⟩) hb v)

/-- A block known whole. -/
def Whole (W : World) (B : Nat) (cs : List Value) (t : TypeId) : Prop := W.heap[B]? = some (.cells cs.toArray t (0, 0))
theorem Whole.set {W : World} {B i : Nat} {cs : List Value} {t : TypeId} (v : Value) (h : Whole W B cs t) : Whole (W.setCell ⟨B, i, none⟩ v) B (cs.set i v) t := by
  obtain ⟨hlt, hk⟩ := Array.getElem?_eq_some_iff.1 h
  show (W.heap.modify B _)[B]? = _
  rw [Array.getElem?_eq_getElem (by rw [Array.size_modify]; exact hlt), Array.getElem_modify_self, hk]
  simp
theorem Whole.setCells {B : Nat} {t : TypeId} : ∀ (vs : List Value) (o : Nat) (W : World) (cs : List Value), Whole W B cs t → o + vs.length ≤ cs.length → Whole (W.setCells B o vs) B (cs.take o ++ vs ++ cs.drop (o + vs.length)) t
  | [], o, W, cs, h, _ => by simpa [World.setCells] using h
  | v :: r, o, W, cs, h, hl => by
    have h1 := Whole.setCells r (o + 1) _ _ (h.set (i := o) v) (by rw [List.length_set]; simp only [List.length_cons] at hl; omega)
    have e : (cs.set o v).take (o + 1) ++ r ++ (cs.set o v).drop (o + 1 + r.length) = cs.take o ++ (v :: r) ++ cs.drop (o + (v :: r).length) := by
      simp only [List.length_cons] at hl
      have e1 : (cs.set o v).take (o + 1) = cs.take o ++ [v] := by
        rw [List.set_eq_take_append_cons_drop, if_pos (by omega), List.take_append, List.length_take, Nat.min_eq_left (by omega)]
        rw [List.take_of_length_le (by rw [List.length_take]; omega)]
        simp
      have e2 : (cs.set o v).drop (o + 1 + r.length) = cs.drop (o + (r.length + 1)) := by
        rw [List.drop_set_of_lt (by omega)]; congr 1; omega
      rw [e1, e2]; simp
    rw [e] at h1
    exact h1
theorem Whole.cell {W : World} {B i : Nat} {cs : List Value} {t : TypeId} (h : Whole W B cs t) : W.cell? ⟨B, i, none⟩ = cs[i]? := by
  simp only [World.cell?, show W.heap[B]? = _ from h]
  simp
theorem Whole.frozen {W : World} {B : Nat} {cs : List Value} {t : TypeId} (h : Whole W B cs t) (i : Nat) : W.frozen? ⟨B, i, none⟩ = false := by simp [World.frozen?, show W.heap[B]? = _ from h]
theorem Whole.lt {W : World} {B : Nat} {cs : List Value} {t : TypeId} (h : Whole W B cs t) : B < W.heap.size := (Array.getElem?_eq_some_iff.1 h).1

/-- Cells laid one behind the other, n to each. -/
theorem flat_len {α : Type} (f : α → List Value) (n : Nat) (hf : ∀ x, (f x).length = n) : ∀ l : List α, (l.flatMap f).length = l.length * n
  | [] => by simp
  | x :: l => by rw [List.flatMap_cons, List.length_append, flat_len f n hf l, hf, List.length_cons, Nat.succ_mul, Nat.add_comm]
theorem flat_get {α : Type} (f : α → List Value) (n : Nat) (hf : ∀ x, (f x).length = n) (k : Nat) (hk : k < n) : ∀ (l : List α) (i : Nat) (x : α), l[i]? = some x → (l.flatMap f)[i * n + k]? = (f x)[k]?
  | [], i, x, h => by simp at h
  | y :: l, 0, x, h => by
    simp at h; subst h
    rw [List.flatMap_cons, Nat.zero_mul, Nat.zero_add, List.getElem?_append_left (by rw [hf]; exact hk)]
  | y :: l, i + 1, x, h => by
    rw [List.flatMap_cons, List.getElem?_append_right (by rw [hf, Nat.succ_mul]; omega), hf, show (i + 1) * n + k - n = i * n + k by rw [Nat.succ_mul]; omega]
    exact flat_get f n hf k hk l i x (by simpa using h)
theorem flat_take {α : Type} (f : α → List Value) (n : Nat) (hf : ∀ x, (f x).length = n) : ∀ (l : List α) (i : Nat), (l.flatMap f).take (i * n) = (l.take i).flatMap f
  | [], i => by simp
  | y :: l, 0 => by simp
  | y :: l, i + 1 => by
    rw [List.flatMap_cons, List.take_append, hf, List.take_of_length_le (by rw [hf, Nat.succ_mul]; omega), show (i + 1) * n - n = i * n by rw [Nat.succ_mul]; omega, flat_take f n hf l i, List.take_succ_cons, List.flatMap_cons]
theorem flat_drop {α : Type} (f : α → List Value) (n : Nat) (hf : ∀ x, (f x).length = n) : ∀ (l : List α) (i : Nat), (l.flatMap f).drop (i * n) = (l.drop i).flatMap f
  | [], i => by simp
  | y :: l, 0 => by simp
  | y :: l, i + 1 => by
    rw [List.flatMap_cons, List.drop_append, hf, List.drop_eq_nil_of_le (by rw [hf, Nat.succ_mul]; omega), show (i + 1) * n - n = i * n by rw [Nat.succ_mul]; omega, flat_drop f n hf l i, List.drop_succ_cons, List.nil_append]

/-- A slot of a node. -/
structure Sl where
  k : K
  v : K
  kid : Option Nat
def slv (s : Sl) : List Value := [.string s.k, .string s.v, .pointer (s.kid.map fun b => ⟨b, 0, none⟩)]
theorem slv_len (s : Sl) : (slv s).length = 3 := rfl
theorem slv_one (l : List Sl) : ∀ u ∈ l.flatMap slv, u.oneCell' = true := by
  intro u hu
  obtain ⟨s, _, hs⟩ := List.mem_flatMap.1 hu
  simp only [slv, List.mem_cons, List.not_mem_nil, or_false] at hs
  rcases hs with rfl | rfl | rfl <;> rfl
/-- A slice of slots of one's own. -/
def Slots (w : World) (v : Value) (l : List Sl) : Prop := w.ownsRow 0 77 3 v l.length (l.flatMap slv)
theorem infoS : (Try.prog.info? 77).map (fun i => (i.zero, i.size, i.bytes)) = some (some (.agg #[.string ⟨#[]⟩, .string ⟨#[]⟩, .pointer none]), 3, 40) := by kernel_rfl
theorem Slots.form {w : World} {v : Value} {l : List Sl} (h : Slots w v l) : (v = .slice none 0 0 ∧ l = []) ∨ ∃ g cap cs, v = .slice (some ⟨g, 0, none⟩) l.length cap ∧ v.ownBlock = some g ∧ Whole w g cs 77 ∧ l.length ≤ cap ∧ cap ≤ maxLen ∧ cs.length = cap * 3 ∧ cs.take (l.length * 3) = l.flatMap slv := by
  rcases h.2 with ⟨e, hn⟩ | ⟨g, cap, cur, rfl, _, hg, h1, h2, h3, h4⟩
  · exact .inl ⟨e, List.eq_nil_of_length_eq_zero hn⟩
  · exact .inr ⟨g, cap, cur.toList, rfl, rfl, by unfold Whole; simpa using hg, h1, h2, by simpa using h3, h4⟩
theorem Slots.of {w : World} {g cap : Nat} {l : List Sl} {cs : List Value} (h : Whole w g cs 77) (h1 : l.length ≤ cap) (h2 : cap ≤ maxLen) (h3 : cs.length = cap * 3) (h4 : cs.take (l.length * 3) = l.flatMap slv) : Slots w (.slice (some ⟨g, 0, none⟩) l.length cap) l :=
  ⟨by rw [flat_len slv 3 slv_len], .inr ⟨g, cap, cs.toArray, rfl, Nat.zero_le _, h, h1, h2, by simpa using h3, by simpa using h4⟩⟩
theorem Slots.slice {w : World} {v : Value} {l : List Sl} (h : Slots w v l) : ∃ a cap, v = .slice a l.length cap ∧ l.length ≤ cap ∧ cap ≤ maxLen := by
  rcases h.form with ⟨rfl, rfl⟩ | ⟨g, cap, cs, rfl, _, _, h1, h2, _⟩
  · exact ⟨none, 0, rfl, Nat.le_refl _, by decide⟩
  · exact ⟨_, cap, rfl, h1, h2⟩
theorem Slots.at {w : World} {v : Value} {l : List Sl} (h : Slots w v l) {i : Nat} {s : Sl} (hi : l[i]? = some s) :
    ∃ g cap, v = .slice (some ⟨g, 0, none⟩) l.length cap ∧ v.ownBlock = some g ∧ l.length ≤ cap ∧ cap ≤ maxLen ∧ g < w.heap.size ∧ w.cell? ⟨g, i * 3, none⟩ = some (.string s.k) ∧ w.cell? ⟨g, i * 3 + 1, none⟩ = some (.string s.v) ∧ w.cell? ⟨g, i * 3 + 2, none⟩ = some (.pointer (s.kid.map fun b => ⟨b, 0, none⟩)) ∧ (∀ j, w.frozen? ⟨g, j, none⟩ = false) := by
  have hil := (List.getElem?_eq_some_iff.1 hi).1
  rcases h.form with ⟨rfl, rfl⟩ | ⟨g, cap, cs, rfl, ho, hw, h1, h2, h3, h4⟩
  · simp at hi
  · have hc : ∀ k, k < 3 → w.cell? ⟨g, i * 3 + k, none⟩ = (slv s)[k]? := fun k hk => by
      rw [hw.cell, ← flat_get slv 3 slv_len k hk l i s hi, ← h4, List.getElem?_take, if_pos (by omega)]
    exact ⟨g, cap, rfl, rfl, h1, h2, hw.lt, hc 0 (by omega), hc 1 (by omega), hc 2 (by omega), fun j => hw.frozen j⟩
theorem Slots.same {w w' : World} {v : Value} {l : List Sl} (h : Slots w v l) (e : ∀ g, v.ownBlock = some g → w'.heap[g]? = w.heap[g]?) : Slots w' v l := by
  refine ⟨h.1, ?_⟩
  rcases h.2 with hn | ⟨g, cap, cur, rfl, hbg, hgg, rest⟩
  · exact .inl hn
  · exact .inr ⟨g, cap, cur, rfl, hbg, (e g rfl).trans hgg, rest⟩
theorem Slots.lt {w : World} {v : Value} {l : List Sl} (h : Slots w v l) : ∀ g, v.ownBlock = some g → g < w.heap.size ∧ ∃ cs, Whole w g cs 77 := by
  intro g hg
  rcases h.form with ⟨rfl, rfl⟩ | ⟨g', cap, cs, rfl, ho, hw, _⟩
  · cases hg
  · rw [ho] at hg; cases hg; exact ⟨hw.lt, _, hw⟩
theorem Slots.later {w w' : World} {v : Value} {l : List Sl} (h : Slots w v l) (hb : Below w.heap.size w w') : Slots w' v l := h.same fun g hg => hb.block g (h.lt g hg).1
theorem Slots.kept {S : Nat → Prop} {w w' : World} {v : Value} {l : List Sl} (h : Slots w v l) (hk : Kept S w w') (hn : ∀ g, v.ownBlock = some g → ¬ S g) : Slots w' v l := h.same fun g hg => hk.block g (h.lt g hg).1 (hn g hg)

/-- Where a node lies: its block, its slice of slots, its mark. -/
structure Hd where
  p : Nat
  v : Value
  d : Bool
def Hd.blks (h : Hd) : List Nat := h.p :: h.v.ownBlock.toList
structure At (w : World) (h : Hd) (lv : Nat) (l : List Sl) : Prop where
  row : Row w h.p [.int .i64 (lv : Int), h.v, .bool h.d] 74
  own : Slots w h.v l
theorem At.lt {w : World} {h : Hd} {lv : Nat} {l : List Sl} (x : At w h lv l) : ∀ b ∈ h.blks, b < w.heap.size := by
  intro b hb
  rcases List.mem_cons.1 hb with rfl | hb
  · exact x.row.lt
  · exact (x.own.lt b (by simpa using hb)).1
theorem At.same {w w' : World} {h : Hd} {lv : Nat} {l : List Sl} (x : At w h lv l) (e : ∀ b ∈ h.blks, w'.heap[b]? = w.heap[b]?) : At w' h lv l :=
  ⟨x.row.same (e _ (by simp [Hd.blks])), x.own.same fun g hg => e g (by simp [Hd.blks, hg])⟩
theorem At.kept {S : Nat → Prop} {w w' : World} {h : Hd} {lv : Nat} {l : List Sl} (x : At w h lv l) (hk : Kept S w w') (hn : ∀ b ∈ h.blks, ¬ S b) : At w' h lv l := x.same fun b hb => hk.block b (x.lt b hb) (hn b hb)
theorem At.later {w w' : World} {h : Hd} {lv : Nat} {l : List Sl} (x : At w h lv l) (hb : Below w.heap.size w w') : At w' h lv l := x.same fun b hm => hb.block b (x.lt b hm)
theorem At.ne {w : World} {h : Hd} {lv : Nat} {l : List Sl} (x : At w h lv l) : ∀ g, h.v.ownBlock = some g → g ≠ h.p := by
  rintro g hg rfl
  obtain ⟨_, cs, hw⟩ := x.own.lt _ hg
  exact Row.ne (⟨[], by rw [List.append_nil]; exact hw⟩ : Row w h.p cs 77) x.row (by decide) rfl
end Go.Proofs.Ytpflacbinankmaa.Bt
