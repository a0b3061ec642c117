/-
  What readRow answers: a line's numbers, and whether it says that a block is closed.
-/
import Derived.Test.YtmaekpfkkpkgpaaGreatDoorBPieces
import Derived.Stop.RegionWithIn
namespace Go.Proofs.YtmaekpfkkpkgpaaGreatDoor
open Go.RowKit Go.Shelf
attribute [local go_sem] Oper.semAt_some

def closedB : ByteArray := ⟨#[99, 108, 111, 115, 101, 100]⟩
/-- A word of a line. -/
def rowS (st : List Int × Bool) (x : ByteArray) : Option (List Int × Bool) :=
  if x = closedB then some (st.1, true) else match Lib.atoiAll x.data.toList with
    | .ok v => if st.1.length = 4 then none else some (st.1 ++ [v], st.2)
    | _ => none
/-- The words of a line. -/
def rowF : List Int × Bool → List Pc → Option (List Int × Bool)
  | st, [] => some st
  | st, x :: r => match rowS st x.1 with
    | some st' => rowF st' r
    | none => none
theorem rowF_snoc (x : Pc) : ∀ (pre : List Pc) (st : List Int × Bool), rowF st (pre ++ [x]) = (rowF st pre).bind fun s => rowS s x.1
  | [], st => by
    show (match rowS st x.1 with | some st' => rowF st' [] | none => none) = rowS st x.1
    cases rowS st x.1 <;> rfl
  | y :: r, st => by
    show (match rowS st y.1 with | some st' => rowF st' (r ++ [x]) | none => none) = (match rowS st y.1 with | some st' => rowF st' r | none => none).bind fun s => rowS s x.1
    cases rowS st y.1 with
    | none => rfl
    | some s => exact rowF_snoc x r s
theorem rowF_app : ∀ (pre r : List Pc) (st : List Int × Bool), rowF st pre = none → rowF st (pre ++ r) = none
  | [], r, st, h => by cases h
  | y :: p, r, st, h => by
    have h' : (match rowS st y.1 with | some st' => rowF st' p | none => none) = none := h
    show (match rowS st y.1 with | some st' => rowF st' (p ++ r) | none => none) = none
    cases hs : rowS st y.1 with
    | none => rfl
    | some s => rw [hs] at h'; exact rowF_app p r s h'
theorem rowF_prefix {pre l : List Pc} {st : List Int × Bool} (h : pre <+: l) (hn : rowF st pre = none) : rowF st l = none := by
  obtain ⟨r, rfl⟩ := h
  exact rowF_app pre r st hn
theorem rowS_len {st st' : List Int × Bool} {x : ByteArray} (h : rowS st x = some st') (hl : st.1.length ≤ 4) : st'.1.length ≤ 4 := by
  unfold rowS at h
  split at h
  · cases h; exact hl
  · split at h
    · split at h
      · cases h
      · cases h; simp; omega
    · cases h
/-- A block of cells, as it lies. -/
def Blk (W : World) (B : Nat) (cs : Array Value) (t : TypeId) : Prop := W.heap[B]? = some (.cells cs t (0, 0))
theorem blk_own {β : Type} (B : Nat) (cs : Array Value) (t : TypeId) : Go.Own (fun (_ : β) W => Blk W B cs t) := by
  intro s X Y row h hg hr
  refine (hg.block B (Array.getElem?_eq_some_iff.1 h).1 (fun e => ?_)).trans h
  obtain ⟨o, ho, hc⟩ := hr B e.symm
  rw [show X.heap[B]? = _ from h] at ho
  cases ho
  cases hc
theorem owns_own {β : Type} (n₀ e size k : Nat) (v : Value) (xs : List Value) : Go.Own (fun (_ : β) W => W.ownsRow n₀ e size v k xs) := by
  intro s X Y row hr hg hrow
  refine hr.kept hg ?_
  rcases hr.2 with ⟨rfl, _⟩ | ⟨g, cap, cur, rfl, _, hgb, _⟩
  · exact .inl rfl
  · refine .inr fun e' => ?_
    obtain ⟨o, ho, hc⟩ := hrow g (by simpa [Value.ownBlock] using e'.symm)
    rw [hgb] at ho; cases ho; cases hc
theorem Blk.lt {W : World} {B : Nat} {cs : Array Value} {t : TypeId} (h : Blk W B cs t) : B < W.heap.size := (Array.getElem?_eq_some_iff.1 h).1
theorem Blk.cell0 {W : World} {B : Nat} {a b : Value} {t : TypeId} (h : Blk W B #[a, b] t) : W.cell? ⟨B, 0, none⟩ = some a := by simp [World.cell?, show W.heap[B]? = _ from h]
theorem Blk.cell1 {W : World} {B : Nat} {a b : Value} {t : TypeId} (h : Blk W B #[a, b] t) : W.cell? ⟨B, 1, none⟩ = some b := by simp [World.cell?, show W.heap[B]? = _ from h]
theorem Blk.frozen {W : World} {B : Nat} {cs : Array Value} {t : TypeId} (h : Blk W B cs t) (i : Nat) : W.frozen? ⟨B, i, none⟩ = false := by simp [World.frozen?, show W.heap[B]? = _ from h]
theorem Blk.set0 {W : World} {B : Nat} {a b : Value} {t : TypeId} (v : Value) (h : Blk W B #[a, b] t) : Blk (W.setCell ⟨B, 0, none⟩ v) B #[v, b] t := by
  obtain ⟨hlt, hk⟩ := Array.getElem?_eq_some_iff.1 h
  show (W.heap.modify B _)[B]? = _
  rw [Array.getElem?_eq_getElem (by rw [Array.size_modify]; exact hlt), Array.getElem_modify_self, hk]
  rfl
theorem Blk.set1 {W : World} {B : Nat} {a b : Value} {t : TypeId} (v : Value) (h : Blk W B #[a, b] t) : Blk (W.setCell ⟨B, 1, none⟩ v) B #[a, v] t := by
  obtain ⟨hlt, hk⟩ := Array.getElem?_eq_some_iff.1 h
  show (W.heap.modify B _)[B]? = _
  rw [Array.getElem?_eq_getElem (by rw [Array.size_modify]; exact hlt), Array.getElem_modify_self, hk]
  rfl
theorem Blk.other {W : World} {B : Nat} {cs : Array Value} {t : TypeId} (p : Addr) (v : Value) (h : Blk W B cs t) (hne : B ≠ p.block) : Blk (W.setCell p v) B cs t :=
  (Below.heap_setCell _ _ _ B hne).trans h
theorem Blk.later {W W' : World} {B : Nat} {cs : Array Value} {t : TypeId} (h : Blk W B cs t) (hb : Below W.heap.size W W') : Blk W' B cs t := (hb.block B h.lt).trans h
theorem Blk.not_row {W : World} {B : Nat} {t e : TypeId} {cs : Array Value} (h : Blk W B cs t) (hte : t ≠ e) {base size k : Nat} {v : Value} {xs : List Value} (hr : W.ownsRow base e size v k xs) : some B ≠ v.ownBlock := by
  rcases hr.2 with ⟨rfl, _⟩ | ⟨g, cap, cur, rfl, _, hgb, _⟩
  · simp [Value.ownBlock]
  · intro e'
    obtain rfl : B = g := by simpa [Value.ownBlock] using e'
    have := (show W.heap[B]? = _ from h).symm.trans hgb
    simp at this
    exact hte this.2
theorem Blk.kept {W W' : World} {row : Option Nat} {B : Nat} {cs : Array Value} {t : TypeId} (h : Blk W B cs t) (hg : W.grownBy W' row) (hne : some B ≠ row) : Blk W' B cs t := (hg.block B h.lt hne).trans h
theorem Blk.new (W : World) (cs : Array Value) (t : TypeId) : Blk (W.alloc (.cells cs t)) W.heap.size cs t := World.alloc_heap_new W _
theorem Blk.alloc {W : World} {B : Nat} {cs : Array Value} {t : TypeId} (h : Blk W B cs t) (o : Obj) : Blk (W.alloc o) B cs t := h.kept (World.grownBy_alloc W o none) (by simp)
theorem keepsO_below {W W' : World} (h : Below W.heap.size W W') : KeepsOthers W W' := ⟨h.size, fun k _ hk _ => (h.block k (Array.getElem?_eq_some_iff.1 hk).1).trans hk⟩
theorem Blk.same {W W' : World} {B : Nat} {cs : Array Value} {t : TypeId} (h : Blk W B cs t) (h' : Blk W' B cs t) : KpB B W W' := h'.trans h.symm
theorem owns_cell {w : World} {base e size n : Nat} {v : Value} {xs : List Value} {p : Addr} {u : Value} (hr : w.ownsRow base e size v n xs) (hne : some p.block ≠ v.ownBlock) : (w.setCell p u).ownsRow base e size v n xs :=
  hr.kept (row := some p.block) ⟨rfl, rfl, rfl, (KeepsWalks.setCell w _ u).size, fun k _ hk => Below.heap_setCell _ _ _ k (fun e => hk (by rw [e]))⟩ (.inr hne.symm)
/-- The slice in a row's first cell grows. -/
theorem Blk.appended {W w1 : World} {n₀ B : Nat} {t e : TypeId} {size : Nat} {v v' b : Value} {k m : Nat} {xs ys : List Value} {tmp : Obj}
    (hv : Blk W B #[v, b] t) (hte : t ≠ e) (hrow : W.ownsRow n₀ e size v k xs) (hn₀ : n₀ ≤ W.heap.size) (hB : n₀ ≤ B)
    (hown' : w1.ownsRow n₀ e size v' m ys) (hgrow : (W.alloc tmp).grownBy w1 v.ownBlock) :
    Blk w1 B #[v, b] t ∧ Blk (w1.setCell ⟨B, 0, none⟩ v') B #[v', b] t ∧ (w1.setCell ⟨B, 0, none⟩ v').ownsRow n₀ e size v' m ys ∧ KeepsOthers W (w1.setCell ⟨B, 0, none⟩ v') ∧ Below n₀ W (w1.setCell ⟨B, 0, none⟩ v') := by
  have hv1 : Blk w1 B #[v, b] t := (hv.alloc tmp).kept hgrow (hv.not_row hte hrow)
  refine ⟨hv1, hv1.set0 v', hown'.kept (grownBy_setCell' w1 B v') (.inr (hv1.not_row hte hown').symm), ?_, ?_⟩
  · refine ((KeepsOthers.alloc W tmp).trans (KeepsOthers.of_grownBy hgrow fun j o ej hj => ?_)).trans (KeepsOthers.setCell _ _ _)
    rcases (hrow.alloc tmp).2 with ⟨rfl, _⟩ | ⟨g, cap, cur, rfl, _, hgb, _⟩
    · simp [Value.ownBlock] at ej
    · obtain rfl : g = j := by simpa [Value.ownBlock] using ej
      rw [hgb] at hj; cases hj; rfl
  · refine (((Below.refl n₀ W).alloc hn₀ tmp).grown hgrow (by simp; omega) fun j ej => ?_).setCell (p := ⟨B, 0, none⟩) hB v'
    rcases hrow.2 with ⟨rfl, _⟩ | ⟨g, cap, cur, rfl, hb, _, _⟩
    · simp [Value.ownBlock] at ej
    · obtain rfl : g = j := by simpa [Value.ownBlock] using ej
      exact hb
/-- The variables that Atoi reaches. -/
structure Errs (w : World) : Prop where
  syn : ∃ te pe, w.cell? ⟨1, 0, none⟩ = some (.iface te pe)
  rng : ∃ te pe, w.cell? ⟨2, 0, none⟩ = some (.iface te pe)
theorem Errs.later {w W : World} (h : Errs w) (hb : Below w.heap.size w W) : Errs W := by
  obtain ⟨⟨a, b, h1⟩, ⟨c, d, h2⟩⟩ := h
  exact ⟨⟨a, b, (hb.cell (p := ⟨1, 0, none⟩) (Lib.lt_of_cell h1)).trans h1⟩, ⟨c, d, (hb.cell (p := ⟨2, 0, none⟩) (Lib.lt_of_cell h2)).trans h2⟩⟩
/-- What Atoi answers: the number, or an error. -/
theorem atoi_ok (s : ByteArray) (hs : s.size ≤ 281474976710656) (v : Int) (h : Lib.atoiAll s.data.toList = .ok v) (w : World) :
    Calls Tryz.prog 70 #[.string s] w fun e w' => e = .returned (.tuple #[.int .i64 v, .nilIface]) ∧ Below w.heap.size w w' := by
  refine (Tryz.strconv_Atoi_ok s (by omega) v h w).mono ?_
  rintro e w' ⟨rfl, rfl | ⟨t, rfl⟩⟩
  · exact ⟨rfl, Below.refl _ _⟩
  · exact ⟨rfl, Lib.bytesWorld_below _ _ _⟩
theorem atoi_no (s : ByteArray) (hs : s.size ≤ 281474976710656) (h : ∀ v, Lib.atoiAll s.data.toList ≠ .ok v) (w : World) (hE : Errs w) :
    Calls Tryz.prog 70 #[.string s] w fun e w' => ∃ n t p, e = .returned (.tuple #[.int .i64 n, .iface t p]) ∧ Below w.heap.size w w' := by
  cases hc : Lib.atoiAll s.data.toList with
  | ok v => exact absurd hc (h v)
  | «syntax» =>
    obtain ⟨te, pe, he⟩ := hE.syn
    refine (Tryz.strconv_Atoi_syntax s hs hc _ w he (.inr ⟨te, pe, rfl⟩)).mono ?_
    rintro e w' ⟨N, rfl, _, _, hb⟩
    exact ⟨_, _, _, rfl, hb⟩
  | range =>
    obtain ⟨te, pe, he⟩ := hE.rng
    refine (Tryz.strconv_Atoi_range s hs hc _ w he (.inr ⟨te, pe, rfl⟩)).mono ?_
    rintro e w' ⟨N, rfl, _, _, hb⟩
    exact ⟨_, _, _, rfl, hb⟩
end Go.Proofs.YtmaekpfkkpkgpaaGreatDoor
