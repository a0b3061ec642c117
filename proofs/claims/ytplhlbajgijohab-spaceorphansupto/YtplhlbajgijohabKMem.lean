/-
  Memory: rows of cells, what stays while others are written.
-/
import Derived.Test.YtplhlbajgijohabKTxt
namespace Go.Proofs.Ytplhlbajgijohab
open Go.RowKit


/-- A block whose cells begin with cs. -/
def Row (W : World) (B : Nat) (cs : List Value) (t : TypeId) : Prop := ∃ rest : List Value, W.heap[B]? = some (.cells (cs ++ rest).toArray t (0, 0))
theorem Row.lt {W : World} {B : Nat} {cs : List Value} {t : TypeId} (h : Row W B cs t) : B < W.heap.size := by
  obtain ⟨r, h⟩ := h; exact (Array.getElem?_eq_some_iff.1 h).1
theorem Row.cell {W : World} {B i : Nat} {cs : List Value} {t : TypeId} {v : Value} (h : Row W B cs t) (hi : cs[i]? = some v) : W.cell? ⟨B, i, none⟩ = some v := by
  obtain ⟨r, h⟩ := h
  have hlt := (List.getElem?_eq_some_iff.1 hi).1
  simp only [World.cell?, h]
  simp [List.getElem?_append_left hlt, hi]
theorem Row.frozen {W : World} {B : Nat} {cs : List Value} {t : TypeId} (h : Row W B cs t) (i : Nat) : W.frozen? ⟨B, i, none⟩ = false := by
  obtain ⟨r, h⟩ := h
  simp [World.frozen?, h]
theorem Row.set {W : World} {B i : Nat} {cs : List Value} {t : TypeId} (v : Value) (h : Row W B cs t) (hi : i < cs.length) : Row (W.setCell ⟨B, i, none⟩ v) B (cs.set i v) t := by
  obtain ⟨r, h⟩ := h
  obtain ⟨hlt, hk⟩ := Array.getElem?_eq_some_iff.1 h
  refine ⟨r, ?_⟩
  show (W.heap.modify B _)[B]? = _
  rw [Array.getElem?_eq_getElem (by rw [Array.size_modify]; exact hlt), Array.getElem_modify_self, hk]
  simp [List.set_append_left _ _ hi]
theorem Row.same {W W' : World} {B : Nat} {cs : List Value} {t : TypeId} (h : Row W B cs t) (e : W'.heap[B]? = W.heap[B]?) : Row W' B cs t := by
  obtain ⟨r, h⟩ := h; exact ⟨r, e.trans h⟩
theorem Row.other {W : World} {B : Nat} {cs : List Value} {t : TypeId} (p : Addr) (v : Value) (h : Row W B cs t) (hne : B ≠ p.block) : Row (W.setCell p v) B cs t := h.same (Below.heap_setCell _ _ _ B hne)
theorem Row.setNew {w W : World} {B : Nat} {cs : List Value} {t : TypeId} (p : Addr) (v : Value) (h : Row W B cs t) (hB : B < w.heap.size) (hp : w.heap.size ≤ p.block) : Row (W.setCell p v) B cs t := h.other p v (by omega)
theorem Row.alloc {W : World} {B : Nat} {cs : List Value} {t : TypeId} (h : Row W B cs t) (o : Obj) : Row (W.alloc o) B cs t := h.same (Below.heap_alloc _ _ _ h.lt)
theorem Row.drew {W : World} {B : Nat} {cs : List Value} {t : TypeId} (h : Row W B cs t) : Row W.drew B cs t := h
theorem Row.drewN {W : World} {B : Nat} {cs : List Value} {t : TypeId} (h : Row W B cs t) (n : Nat) : Row (W.drewN n) B cs t := h
theorem Row.later {W W' : World} {B : Nat} {cs : List Value} {t : TypeId} (h : Row W B cs t) (hb : Below W.heap.size W W') : Row W' B cs t := h.same (hb.block B h.lt)
theorem Row.ne {W : World} {B C : Nat} {cs ds : List Value} {t u : TypeId} (h : Row W B cs t) (g : Row W C ds u) (hn : t ≠ u) : B ≠ C := by
  rintro rfl
  obtain ⟨r, h⟩ := h
  obtain ⟨s, g⟩ := g
  have := h.symm.trans g
  simp at this
  exact hn this.2
theorem Row.new (W : World) (cs : List Value) (t : TypeId) : Row (W.alloc (.cells cs.toArray t)) W.heap.size cs t := ⟨[], by show (W.heap.push _)[W.heap.size]? = _; simp⟩
theorem Row.of_owns {W : World} {base size n : Nat} {t : TypeId} {v : Value} {xs : List Value} (h : W.ownsRow base t size v n xs) (hn : 0 < n) : ∃ g cap, v = .slice (some ⟨g, 0, none⟩) n cap ∧ n ≤ cap ∧ cap ≤ maxLen ∧ base ≤ g ∧ Row W g xs t := by
  rcases h.2 with ⟨rfl, hn'⟩ | ⟨g, cap, cur, rfl, hbg, hgg, hnc, hcm, hcs, htake⟩
  · omega
  · refine ⟨g, cap, rfl, hnc, hcm, hbg, cur.toList.drop (n * size), ?_⟩
    rw [hgg, ← htake, List.take_append_drop]

/-- But for the blocks S all that there was is as it was. -/
structure Kept (S : Nat → Prop) (w w' : World) : Prop where
  os : w'.os = w.os
  tape : w'.tape = w.tape
  output : w'.output = w.output
  size : w.heap.size ≤ w'.heap.size
  block : ∀ k, k < w.heap.size → ¬ S k → w'.heap[k]? = w.heap[k]?
theorem Kept.refl (S : Nat → Prop) (w : World) : Kept S w w := ⟨rfl, rfl, rfl, Nat.le_refl _, fun _ _ _ => rfl⟩
theorem Kept.trans {S : Nat → Prop} {a b c : World} (h : Kept S a b) (k : Kept S b c) : Kept S a c :=
  ⟨k.os.trans h.os, k.tape.trans h.tape, k.output.trans h.output, Nat.le_trans h.size k.size, fun i hi hs => (k.block i (Nat.lt_of_lt_of_le hi h.size) hs).trans (h.block i hi hs)⟩
theorem Kept.mono {S T : Nat → Prop} {a b : World} (h : Kept S a b) (hs : ∀ k, S k → T k) : Kept T a b := ⟨h.os, h.tape, h.output, h.size, fun k hk hn => h.block k hk (fun x => hn (hs k x))⟩
theorem Kept.of_below {S : Nat → Prop} {a b : World} (h : Below a.heap.size a b) : Kept S a b := ⟨h.os, h.tape, h.output, h.size, fun k hk _ => h.block k hk⟩
theorem Kept.later {S : Nat → Prop} {a b c : World} (h : Kept S a b) (k : Below b.heap.size b c) : Kept S a c := h.trans (.of_below k)
theorem Kept.setCell {S : Nat → Prop} {a w : World} (h : Kept S a w) {p : Addr} (hp : S p.block) (u : Value) : Kept S a (w.setCell p u) :=
  h.trans ⟨rfl, rfl, rfl, by simp [World.setCell], fun k _ hn => Below.heap_setCell _ _ _ _ (fun e => hn (e ▸ hp))⟩
theorem Kept.setNew {S : Nat → Prop} {a w : World} (h : Kept S a w) {p : Addr} (hp : a.heap.size ≤ p.block) (u : Value) : Kept S a (w.setCell p u) :=
  ⟨h.os, h.tape, h.output, by have := h.size; simpa [World.setCell] using this, fun k hk hn => (Below.heap_setCell _ _ _ _ (by omega)).trans (h.block k hk hn)⟩
theorem Kept.alloc {S : Nat → Prop} {a w : World} (h : Kept S a w) (o : Obj) : Kept S a (w.alloc o) := h.trans ⟨rfl, rfl, rfl, by simp, fun k hk _ => Below.heap_alloc _ _ _ hk⟩
theorem Kept.drew {S : Nat → Prop} {a w : World} (h : Kept S a w) : Kept S a w.drew := ⟨h.os, h.tape, h.output, h.size, h.block⟩
theorem Kept.drewN {S : Nat → Prop} {a w : World} (h : Kept S a w) (n : Nat) : Kept S a (w.drewN n) := ⟨h.os, h.tape, h.output, h.size, h.block⟩
theorem Kept.below {S : Nat → Prop} {B : Nat} {a b : World} (h : Kept S a b) (hB : B ≤ a.heap.size) (hs : ∀ k, S k → B ≤ k) : Below B a b :=
  ⟨h.os, h.tape, h.output, h.size, fun k hk => h.block k (by omega) (fun x => by have := hs k x; omega)⟩
theorem Row.kept {S : Nat → Prop} {W W' : World} {B : Nat} {cs : List Value} {t : TypeId} (h : Row W B cs t) (hk : Kept S W W') (hn : ¬ S B) : Row W' B cs t := h.same (hk.block B h.lt hn)
end Go.Proofs.Ytplhlbajgijohab
