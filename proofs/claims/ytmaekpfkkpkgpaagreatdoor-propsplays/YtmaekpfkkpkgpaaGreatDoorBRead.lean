/-
  read: the book that a text tells, in whatever way.
-/
import Derived.Test.YtmaekpfkkpkgpaaGreatDoorBEnt
namespace Go.Proofs.YtmaekpfkkpkgpaaGreatDoor
open Go.RowKit Go.Shelf
attribute [local go_sem] Oper.semAt_some

/-- A book, as it is read so far. -/
abbrev Rb := Option (Int × List PB)
/-- A line's numbers more. -/
def rdT (st : Rb) (ns : List Int) (c : Bool) : Option Rb := match st with
  | none => (begF ns).map some
  | some (size, l) => (entF size l ns c).map fun l' => some (size, l')
/-- A line more. -/
def rdS (st : Rb) (x : ByteArray) : Option Rb := match rowF ([], false) (pieces 32 x.data.toList) with
  | none => none
  | some (ns, c) => rdT st ns c
/-- The lines of a text. -/
def rdF : Rb → List Pc → Option Rb
  | st, [] => some st
  | st, x :: r => match rdS st x.1 with
    | some st' => rdF st' r
    | none => none
theorem rdF_snoc (x : Pc) : ∀ (pre : List Pc) (st : Rb), rdF st (pre ++ [x]) = (rdF st pre).bind fun s => rdS s x.1
  | [], st => by
    show (match rdS st x.1 with | some st' => rdF st' [] | none => none) = rdS st x.1
    cases rdS st x.1 <;> rfl
  | y :: r, st => by
    show (match rdS st y.1 with | some st' => rdF st' (r ++ [x]) | none => none) = (match rdS st y.1 with | some st' => rdF st' r | none => none).bind fun s => rdS s x.1
    cases rdS st y.1 with
    | none => rfl
    | some s => exact rdF_snoc x r s
theorem rdF_app : ∀ (pre r : List Pc) (st : Rb), rdF st pre = none → rdF st (pre ++ r) = none
  | [], r, st, h => by cases h
  | y :: p, r, st, h => by
    have h' : (match rdS st y.1 with | some st' => rdF st' p | none => none) = none := h
    show (match rdS st y.1 with | some st' => rdF st' (p ++ r) | none => none) = none
    cases hs : rdS st y.1 with
    | none => rfl
    | some s => rw [hs] at h'; exact rdF_app p r s h'
theorem rdF_prefix {pre l : List Pc} {st : Rb} (h : pre <+: l) (hn : rdF st pre = none) : rdF st l = none := by
  obtain ⟨r, rfl⟩ := h
  exact rdF_app pre r st hn
/-- A book that can be. -/
structure BkOk (size : Int) (l : List PB) : Prop where
  s1 : 1 ≤ size
  s2 : size ≤ 16777216
  n1 : 1 ≤ l.length
  n2 : l.length ≤ 256
  ok : AllOk size l
theorem bkOk_new {n : Nat} {size : Int} (h : newOk n size) : BkOk size (List.replicate n PB.none) := by
  obtain ⟨h1, h2, h3, h4⟩ := h
  refine ⟨h3, h4, by simp; omega, by simp; omega, fun x hx => ?_⟩
  rw [(List.mem_replicate.1 hx).2]
  exact ok_none (by omega)
theorem ent_ok {size : Int} {l l' : List PB} {ns : List Int} {c : Bool} (h : BkOk size l) (he : entF size l ns c = some l') : BkOk size l' := by
  unfold entF at he
  split at he
  · rename_i leb use used live
    have o1 := take_ok h.ok leb use
    have o2 := use_ok o1 leb used
    have o3 := kill_ok o2 leb (used - live)
    have o4 := close_ok o3 leb
    have n1 := take_len l leb use
    have n2 := use_len size (takeF l leb use).2 leb used
    have n3 := kill_len (useF size (takeF l leb use).2 leb used).2 leb (used - live)
    have n4 := close_len (killF (useF size (takeF l leb use).2 leb used).2 leb (used - live)).2 leb
    have m1 := h.n1
    have m2 := h.n2
    split at he
    · cases he
    · split at he
      · cases he
      · split at he
        · cases he
        · split at he
          · cases he
          · split at he
            · cases he; exact ⟨h.s1, h.s2, by omega, by omega, o3⟩
            · split at he
              · cases he
              · cases he; exact ⟨h.s1, h.s2, by omega, by omega, o4⟩
  · cases he
theorem rowS_bnd {st st' : List Int × Bool} {x : ByteArray} (h : rowS st x = some st') (hb : ∀ y ∈ st.1, -9223372036854775808 ≤ y ∧ y ≤ 9223372036854775807) : ∀ y ∈ st'.1, -9223372036854775808 ≤ y ∧ y ≤ 9223372036854775807 := by
  unfold rowS at h
  split at h
  · cases h; exact hb
  · split at h
    · rename_i v hv
      split at h
      · cases h
      · cases h
        intro y hy
        rcases List.mem_append.1 hy with hy | hy
        · exact hb y hy
        · simp at hy; subst hy; exact Lib.atoiAll_bounds hv
    · cases h
theorem rowF_bnd : ∀ (l : List Pc) (st st' : List Int × Bool), rowF st l = some st' → (∀ y ∈ st.1, -9223372036854775808 ≤ y ∧ y ≤ 9223372036854775807) → ∀ y ∈ st'.1, -9223372036854775808 ≤ y ∧ y ≤ 9223372036854775807
  | [], st, st', h, hb => by cases h; exact hb
  | x :: r, st, st', h, hb => by
    have h' : (match rowS st x.1 with | some s => rowF s r | none => none) = some st' := h
    cases hs : rowS st x.1 with
    | none => rw [hs] at h'; cases h'
    | some s => rw [hs] at h'; exact rowF_bnd r s st' h' (rowS_bnd hs hb)
/-- The book that is read so far, as it lies: where the pointer to it points. -/
def BkAt (base : Nat) (W : World) (v : Value) : Rb → Prop
  | none => v = .pointer none
  | some (size, l) => ∃ p q cap, v = .pointer (some ⟨p, 0, none⟩) ∧ BLies W p q cap size l ∧ base ≤ p ∧ base ≤ q ∧ BkOk size l
theorem row_own {β : Type} (B : Nat) (cs : List Value) (t : TypeId) : Go.Own (fun (_ : β) W => Row W B cs t) := by
  intro s X Y row h hg hr
  obtain ⟨r, h⟩ := h
  exact ⟨r, blk_own (β := Unit) B _ t () X Y row h hg hr⟩
theorem bkAt_own {base : Nat} {v : Value} {A B : World} {row : Option Nat} (st : Rb) (h : BkAt base A v st) (hg : A.grownBy B row) (hr : ∀ r, row = some r → ∃ o : Obj, A.heap[r]? = some o ∧ o.isCells = false) : BkAt base B v st := by
  cases st with
  | none => exact h
  | some s =>
    obtain ⟨size, l⟩ := s
    obtain ⟨p, q, cap, h1, h2, h3, h4, h5⟩ := h
    exact ⟨p, q, cap, h1, ⟨row_own (β := Unit) _ _ _ () A B row h2.box hg hr, row_own (β := Unit) _ _ _ () A B row h2.row hg hr, h2.le, h2.max⟩, h3, h4, h5⟩
theorem BkAt.later {base : Nat} {v : Value} {A B : World} {st : Rb} (h : BkAt base A v st) (hb : Below A.heap.size A B) : BkAt base B v st := by
  cases st with
  | none => exact h
  | some s =>
    obtain ⟨size, l⟩ := s
    obtain ⟨p, q, cap, h1, h2, h3⟩ := h
    exact ⟨p, q, cap, h1, h2.later hb, h3⟩
theorem BkAt.other {base : Nat} {v : Value} {A : World} {st : Rb} (h : BkAt base A v st) {B : Nat} {cs : Array Value} {t : TypeId} (hB : Blk A B cs t) (h1 : t ≠ 42) (h2 : t ≠ 54) (i : Nat) (u : Value) : BkAt base (A.setCell ⟨B, i, none⟩ u) v st := by
  have hR : Row A B cs.toList t := ⟨[], by rw [List.append_nil, Array.toArray_toList]; exact hB⟩
  cases st with
  | none => exact h
  | some s =>
    obtain ⟨size, l⟩ := s
    obtain ⟨p, q, cap, e1, e2, e3⟩ := h
    exact ⟨p, q, cap, e1, ⟨e2.box.other _ _ (fun e => hR.ne e2.box h1 e.symm), e2.row.other _ _ (fun e => hR.ne e2.row h2 e.symm), e2.le, e2.max⟩, e3⟩
/-- Between two lines of a text. -/
def DI (w : World) (pre : List Pc) (W : World) : Prop :=
  ∃ st v, rdF none pre = some st ∧ Blk W (w.heap.size + 1 + 1) #[v] 23 ∧ BkAt w.heap.size W v st ∧ Blk W w.heap.size #[.pointer none] 23 ∧ Blk W (w.heap.size + 1) #[.bool false] 4 ∧ Blk W (w.heap.size + 1 + 1 + 1 + 1) #[.string ⟨#[10]⟩] 9 ∧ Below w.heap.size w W
def DX (w : World) (c : Code) (pre : List Pc) (W : World) : Prop :=
  c = .ret ∧ rdF none pre = none ∧ Blk W w.heap.size #[.pointer none] 23 ∧ Blk W (w.heap.size + 1) #[.bool false] 4 ∧ Below w.heap.size w W
theorem di_own (w : World) (b : Nat) (hb : w.heap.size ≤ b) : OwnFrom b (DI w) := by
  rintro pre A B row ⟨st, v, h1, h3, h4, h5, h6, h7, h8⟩ hg hr
  have hr' := fun r e => (hr r e).2
  exact ⟨st, v, h1, blk_own (β := Unit) _ _ _ () A B row h3 hg hr', bkAt_own st h4 hg hr', blk_own (β := Unit) _ _ _ () A B row h5 hg hr', blk_own (β := Unit) _ _ _ () A B row h6 hg hr', blk_own (β := Unit) _ _ _ () A B row h7 hg hr', below_own hb h8 hg (fun r e => (hr r e).1)⟩
theorem dx_own (w : World) (b : Nat) (hb : w.heap.size ≤ b) (c : Code) : OwnFrom b (DX w c) := by
  rintro pre A B row ⟨h1, h2, h5, h6, h8⟩ hg hr
  have hr' := fun r e => (hr r e).2
  exact ⟨h1, h2, blk_own (β := Unit) _ _ _ () A B row h5 hg hr', blk_own (β := Unit) _ _ _ () A B row h6 hg hr', below_own hb h8 hg (fun r e => (hr r e).1)⟩
end Go.Proofs.YtmaekpfkkpkgpaaGreatDoor
