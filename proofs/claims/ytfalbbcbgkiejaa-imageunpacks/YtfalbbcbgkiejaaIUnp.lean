/-
  What Unpack of package image answers.
-/
import Derived.Test.YtfalbbcbgkiejaaISlot
namespace Go.Proofs.Ytfalbbcbgkiejaa
open Go.RowKit M
set_option maxRecDepth 10000

/-- So many slots, one behind the other; what is left; whether something was lacking. -/
def rdS : Nat → List UInt8 → List St
  | 0, _ => []
  | c + 1, r => slV r :: rdS c (sl5 r)
def rdR : Nat → List UInt8 → List UInt8
  | 0, r => r
  | c + 1, r => rdR c (sl5 r)
def rdF : Nat → List UInt8 → Bool → Bool
  | 0, _, sh => sh
  | c + 1, r, sh => rdF c (sl5 r) (slS r sh)
/-- What stands first in the bytes: mark, level, count; the rest, and whether something was lacking. -/
def upM (r : List UInt8) : Nat := numV 1 r
def upL (r : List UInt8) : Nat := numV 1 (txR 1 r)
def upC (r : List UInt8) : Nat := numV 1 (txR 1 (txR 1 r))
def upR (r : List UInt8) : List UInt8 := txR 1 (txR 1 (txR 1 r))
def upF (r : List UInt8) : Bool := txS 1 (txR 1 (txR 1 r)) (txS 1 (txR 1 r) (txS 1 r false))
/-- The image that the bytes are, or none. -/
def upk (r : List UInt8) : Option (Nat × List St) :=
  if 579 < r.length then none
  else if (upM r != 84) || decide (8 < upC r) then none
  else if dn (rdR (upC r) (upR r)) (rdF (upC r) (upR r) (upF r)) && imgOk (upL r) (rdS (upC r) (upR r)) then some (upL r, rdS (upC r) (upR r)) else none

structure Up (w W : World) (IB : Nat) (level : Int) (v : Value) (acc : List St) (r : List UInt8) (sh : Bool) : Prop where
  res : Row W w.heap.size [.int .i64 0, .slice none 0 0] 31
  rd : Rd W (w.heap.size + 1) 77 r sh
  img : Row W IB [.int .i64 level, v] 31
  own : W.ownsRow (w.heap.size + 2) 69 4 v acc.length (acc.flatMap stv)
  ib : w.heap.size + 2 ≤ IB
  bel : Below w.heap.size w W
theorem owns_kept {w w' : World} {S : Nat → Prop} {base e size n : Nat} {v : Value} {xs : List Value} (h : w.ownsRow base e size v n xs) (hk : Kept S w w') (hS : ∀ k, S k → k < base) : w'.ownsRow base e size v n xs := by
  refine ⟨h.1, ?_⟩
  rcases h.2 with hn | ⟨g, cap, cur, rfl, hbg, hgg, rest⟩
  · exact .inl hn
  · refine .inr ⟨g, cap, cur, rfl, hbg, ?_, rest⟩
    rw [hk.block g (Array.getElem?_eq_some_iff.1 hgg).1 (fun q => by have := hS g q; omega)]
    exact hgg
theorem Up.read {w W W' : World} {IB : Nat} {level : Int} {v : Value} {acc : List St} {r r' : List UInt8} {sh sh' : Bool} (h : Up w W IB level v acc r sh) (p : RPost W (w.heap.size + 1) 77 r' sh' W') : Up w W' IB level v acc r' sh' :=
  ⟨h.res.kept p.kept (by omega), p.rd, h.img.kept p.kept (by have := h.ib; omega), owns_kept h.own p.kept (fun k e => by omega), h.ib, h.bel.trans (p.kept.below (h.bel.size) (fun k e => by omega))⟩
theorem Up.later {w W W' : World} {IB : Nat} {level : Int} {v : Value} {acc : List St} {r : List UInt8} {sh : Bool} (h : Up w W IB level v acc r sh) (hb : Below W.heap.size W W') : Up w W' IB level v acc r sh :=
  ⟨h.res.later hb, Row.later h.rd hb, h.img.later hb, owns_later h.own hb, h.ib, bafter h.bel hb⟩
theorem Row.grown4 {W W' : World} {B base e n size : Nat} {cs : List Value} {t : TypeId} {v : Value} {xs : List Value} (h : Row W B cs t) (ho : W.ownsRow base e size v n xs) (hg : W.grownBy W' v.ownBlock) (ht : t ≠ e) : Row W' B cs t := by
  refine h.same (hg.block B h.lt fun hk => ?_)
  rcases ho.2 with ⟨rfl, _⟩ | ⟨g, cap, cur, rfl, _, hgg, _⟩
  · simp [Value.ownBlock] at hk
  · simp only [Value.ownBlock, Option.some.injEq] at hk
    subst hk
    obtain ⟨r, h⟩ := h
    rw [hgg] at h
    simp at h
    exact ht h.2.symm
theorem owns_set {w : World} {base e size n : Nat} {v : Value} {xs : List Value} (h : w.ownsRow base e size v n xs) {B : Nat} {cs : List Value} {t : TypeId} (hB : Row w B cs t) (ht : t ≠ e) (i : Nat) (u : Value) : (w.setCell ⟨B, i, none⟩ u).ownsRow base e size v n xs := by
  refine ⟨h.1, ?_⟩
  rcases h.2 with hn | ⟨g, cap, cur, rfl, hbg, hgg, rest⟩
  · exact .inl hn
  · refine .inr ⟨g, cap, cur, rfl, hbg, ?_, rest⟩
    rw [Below.heap_setCell _ _ _ g (fun e' => by
      obtain ⟨r, hB⟩ := hB
      have e2 : g = B := e'
      subst e2
      rw [hgg] at hB
      simp at hB
      exact ht hB.2.symm)]
    exact hgg
theorem Up.app {w W W' : World} {IB : Nat} {level : Int} {v v' : Value} {acc : List St} {r : List UInt8} {sh : Bool} {s : St} (h : Up w W IB level v acc r sh) (ho : W'.ownsRow (w.heap.size + 2) 69 4 v' (acc.length + 1) ((acc ++ [s]).flatMap stv)) (hg : W.grownBy W' v.ownBlock) : Up w (W'.setCell ⟨IB, 1, none⟩ v') IB level v' (acc ++ [s]) r sh := by
  have h1 := h.res.grown4 h.own hg (by decide)
  have h2 := Row.grown4 h.rd h.own hg (by decide)
  have h3 := h.img.grown4 h.own hg (by decide)
  have hib := h.ib
  have hb : Below w.heap.size w W' := h.bel.grown hg h.bel.size (fun k hk => by have := (h.own.lt k hk).1; omega)
  refine ⟨h1.other _ _ (by simp; omega), Row.other _ _ h2 (by simp; omega), h3.set (i := 1) v' (by simp), ?_, hib, hb.setCell (by simp; omega) _⟩
  rw [List.length_append]
  exact owns_set ho h3 (by decide) 1 v'
theorem Up.seen {w W : World} {IB : Nat} {level : Int} {v : Value} {acc : List St} {r : List UInt8} {sh : Bool} (h : Up w W IB level v acc r sh) : W.cell? ⟨IB, 0, none⟩ = some (.int .i64 level) ∧ W.cell? ⟨IB, 1, none⟩ = some v ∧ W.frozen? ⟨IB, 1, none⟩ = false ∧ IB < W.heap.size := ⟨h.img.cell (i := 0) rfl, h.img.cell (i := 1) rfl, h.img.frozen 1, h.img.lt⟩
theorem sl5_len (r : List UInt8) : (sl5 r).length ≤ r.length :=
  Nat.le_trans (txR_len _ _) (Nat.le_trans (txR_len _ _) (Nat.le_trans (txR_len _ _) (Nat.le_trans (txR_len _ _) (txR_len _ _))))
end Go.Proofs.Ytfalbbcbgkiejaa
