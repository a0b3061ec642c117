/-
  Images whose keys rise; a box with an image in it.
-/
import Derived.Test.YtfmgaahileknfaaIPack
namespace Go.Proofs.Ytfmgaahileknfaa
open Go.RowKit M

theorem rises_ahead : ∀ {l : List St} {x : K}, rises x l = true → ∀ (i : Nat) (s : St), l[i]? = some s → klt x s.key = true
  | [], _, _, i, s, h => by simp at h
  | y :: l, x, h, i, s, hs => by
    simp only [rises, fol, Bool.and_eq_true] at h
    obtain ⟨⟨⟨h1, _⟩, _⟩, h6⟩ := h
    cases i with
    | zero => simp at hs; subst hs; exact h1
    | succ i => exact klt_trans h1 (rises_ahead h6 i s (by simpa using hs))
theorem rises_lt : ∀ {l : List St} {x : K}, rises x l = true → ∀ (i j : Nat) (s t : St), l[i]? = some s → l[j]? = some t → i < j → klt s.key t.key = true
  | [], _, _, i, _, s, _, h, _, _ => by simp at h
  | y :: l, x, h, i, j, s, t, hs, ht, hij => by
    simp only [rises, Bool.and_eq_true] at h
    obtain ⟨_, h6⟩ := h
    cases j with
    | zero => omega
    | succ j =>
      have ht' : l[j]? = some t := by simpa using ht
      cases i with
      | zero => simp at hs; subst hs; exact rises_ahead h6 j t ht'
      | succ i => exact rises_lt h6 i j s t (by simpa using hs) ht' (by omega)

/-- A box with an image of the document's, whose slots lie on. -/
structure Bx (w W : World) (B : Nat) (level : Int) (a : Option Addr) (len cap : Nat) (l : List St) : Prop where
  box : Row W B [.int .i64 level, .slice a len cap] 52
  arg : ZArg W a len cap l
  bel : Below w.heap.size w W
theorem Bx.later {w W W' : World} {B : Nat} {level : Int} {a : Option Addr} {len cap : Nat} {l : List St} (h : Bx w W B level a len cap l) (hb : Below W.heap.size W W') : Bx w W' B level a len cap l :=
  ⟨h.box.later hb, h.arg.later hb, bafter h.bel hb⟩
theorem Bx.new {w : World} {level : Int} {a : Option Addr} {len cap : Nat} {l : List St} (h : ZArg w a len cap l) : Bx w (w.alloc (.cells #[.int .i64 level, .slice a len cap] 52)) w.heap.size level a len cap l :=
  ⟨Row.new w [.int .i64 level, .slice a len cap] 52, h.later (below_new _ _), below_new _ _⟩
theorem Bx.seen {w W : World} {B : Nat} {level : Int} {a : Option Addr} {len cap : Nat} {l : List St} (h : Bx w W B level a len cap l) : W.cell? ⟨B, 0, none⟩ = some (.int .i64 level) ∧ W.cell? ⟨B, 1, none⟩ = some (.slice a len cap) :=
  ⟨h.box.cell (i := 0) rfl, h.box.cell (i := 1) rfl⟩
theorem Bx.drew {w W : World} {B : Nat} {level : Int} {a : Option Addr} {len cap : Nat} {l : List St} (h : Bx w W B level a len cap l) : Bx w W.drew B level a len cap l := h.later (below_drawn W 1)
end Go.Proofs.Ytfmgaahileknfaa
