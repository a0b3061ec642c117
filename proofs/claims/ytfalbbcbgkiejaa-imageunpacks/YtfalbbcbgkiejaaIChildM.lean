/-
  Children of keys, in images whose keys rise; a box with an image in it.
-/
import Derived.Test.YtfalbbcbgkiejaaIChild
import Derived.Test.YtfalbbcbgkiejaaIArgI
namespace Go.Proofs.Ytfalbbcbgkiejaa
open Go.RowKit M

theorem rises_ahead : ∀ {l : List St} {x : K}, rises x l = true → ∀ (i : Nat) (s : St), l[i]? = some s → klt x s.key = true
  | [], _, _, i, s, h => by simp at h
  | y :: l, x, h, i, s, hs => by
    simp only [rises, fol, Bool.and_eq_true] at h
    obtain ⟨⟨⟨h1, _⟩, _⟩, h6⟩ := h
    cases i with
    | zero => simp at hs; subst hs; exact h1
    | succ i => exact klt_trans h1 (rises_ahead h6 i s (by simpa using hs))
theorem rises_lt : ∀ {l : List St} {x : K}, rises x l = true → ∀ (i j : Nat) (s t : St), l[i]? = some s → l[j]? = some t → i < j → klt s.key t.key = true
  | [], _, _, i, _, s, _, h, _, _ => by simp at h
  | y :: l, x, h, i, j, s, t, hs, ht, hij => by
    simp only [rises, Bool.and_eq_true] at h
    obtain ⟨_, h6⟩ := h
    cases j with
    | zero => omega
    | succ j =>
      have ht' : l[j]? = some t := by simpa using ht
      cases i with
      | zero => simp at hs; subst hs; exact rises_ahead h6 j t ht'
      | succ i => exact rises_lt h6 i j s t (by simpa using hs) ht' (by omega)
theorem lst_eq {p : Nat → Bool} : ∀ {n k : Nat}, k < n → p k = true → (∀ j, k < j → j < n → p j = false) → lst p n = (k : Int)
  | 0, k, h, _, _ => by omega
  | n + 1, k, h, hk, hj => by
    by_cases e : k = n
    · subst e; rw [lst, if_pos hk]
    · rw [lst, hj n (by omega) (by omega)]
      exact lst_eq (by omega) hk (fun j h1 h2 => hj j h1 (by omega))
theorem lst_none {p : Nat → Bool} : ∀ {n : Nat}, (∀ j, j < n → p j = false) → lst p n = -1
  | 0, _ => rfl
  | n + 1, h => by rw [lst, h n (by omega)]; exact lst_none (fun j hj => h j (by omega))
theorem lst_some {p : Nat → Bool} : ∀ {n k : Nat}, k < n → p k = true → (k : Int) ≤ lst p n
  | 0, k, h, _ => by omega
  | n + 1, k, h, hk => by
    rw [lst]
    split
    · omega
    · rename_i q
      have : k ≠ n := fun e => q (e ▸ hk)
      exact lst_some (by omega) hk
theorem lst_mono {p q : Nat → Bool} (h : ∀ i, p i = true → q i = true) : ∀ n, lst p n ≤ lst q n
  | 0 => by simp [lst]
  | n + 1 => by
    have := lst_mono h n
    have := (lst_ge p n).2
    rw [lst, lst]
    split
    · rename_i e; rw [if_pos (h n e)]; omega
    · split <;> omega
theorem chl_own {l : List St} (h : rises ⟨#[]⟩ l = true) {k : Nat} {y : St} (hk : l[k]? = some y) : chl l y.key = (k : Int) := by
  refine lst_eq (List.getElem?_eq_some_iff.1 hk).1 (by rw [noG_at _ hk, klt_irrefl]; rfl) (fun j h1 h2 => ?_)
  have hj : l[j]? = some (l[j]'h2) := List.getElem?_eq_getElem h2
  rw [noG_at _ hj, rises_lt h k j y _ hk hj h1]; rfl
theorem chl_none {l : List St} (h : rises ⟨#[]⟩ l = true) {y : St} (h0 : l[0]? = some y) (a : K) : klt a y.key = (chl l a == -1) := by
  have hl := (List.getElem?_eq_some_iff.1 h0).1
  cases e : klt a y.key with
  | true =>
    have : chl l a = -1 := lst_none fun j hj => by
      have hj' : l[j]? = some (l[j]'hj) := List.getElem?_eq_getElem hj
      rw [noG_at _ hj']
      cases j with
      | zero => rw [h0] at hj'; cases hj'; rw [e]; rfl
      | succ j => rw [klt_trans e (rises_lt h 0 (j + 1) y _ h0 hj' (by omega))]; rfl
    rw [this]; rfl
  | false =>
    have : (0 : Int) ≤ chl l a := lst_some (k := 0) hl (by rw [noG_at _ h0, e]; rfl)
    symm; rw [beq_eq_false_iff_ne]; omega
theorem chl_mono (l : List St) {a b : K} (h : klt b a = false) : chl l a ≤ chl l b := by
  refine lst_mono (fun i hi => ?_) l.length
  unfold noG at hi ⊢
  split at hi
  · rename_i s _
    cases e : klt b s.key with
    | false => rfl
    | true =>
      exfalso
      have ha : klt a s.key = false := by simpa using hi
      by_cases eab : a = b
      · subst eab; rw [e] at ha; cases ha
      · have : klt a b = true := by
          cases q : klt a b with
          | true => rfl
          | false => exact absurd (klt_total q h) eab
        rw [klt_trans this e] at ha; cases ha
  · cases hi

/-- A box with an image of the document's, whose slots lie on. -/
structure Bx (w W : World) (B : Nat) (level : Int) (a : Option Addr) (len cap : Nat) (l : List St) : Prop where
  box : Row W B [.int .i64 level, .slice a len cap] 24
  arg : ZArg W a len cap l
  bel : Below w.heap.size w W
theorem Bx.later {w W W' : World} {B : Nat} {level : Int} {a : Option Addr} {len cap : Nat} {l : List St} (h : Bx w W B level a len cap l) (hb : Below W.heap.size W W') : Bx w W' B level a len cap l :=
  ⟨h.box.later hb, h.arg.later hb, bafter h.bel hb⟩
theorem Bx.new {w : World} {level : Int} {a : Option Addr} {len cap : Nat} {l : List St} (h : ZArg w a len cap l) : Bx w (w.alloc (.cells #[.int .i64 level, .slice a len cap] 24)) w.heap.size level a len cap l :=
  ⟨Row.new w [.int .i64 level, .slice a len cap] 24, h.later (below_new _ _), below_new _ _⟩
theorem Bx.seen {w W : World} {B : Nat} {level : Int} {a : Option Addr} {len cap : Nat} {l : List St} (h : Bx w W B level a len cap l) : W.cell? ⟨B, 0, none⟩ = some (.int .i64 level) ∧ W.cell? ⟨B, 1, none⟩ = some (.slice a len cap) :=
  ⟨h.box.cell (i := 0) rfl, h.box.cell (i := 1) rfl⟩
theorem Bx.drew {w W : World} {B : Nat} {level : Int} {a : Option Addr} {len cap : Nat} {l : List St} (h : Bx w W B level a len cap l) : Bx w W.drew B level a len cap l := h.later (below_drawn W 1)
end Go.Proofs.Ytfalbbcbgkiejaa
