/-
  Numbers in the document's order of victims: inserting one by one gives the one sorted list.
-/
import Derived.Test.YtmaekpfkkpkgpaaGreatDoorRB
import Derived.Test.YtmaekpfkkpkgpaaGreatDoorSVict
namespace Go.Proofs.YtmaekpfkkpkgpaaGreatDoor
open Go.RowKit
set_option maxRecDepth 10000

/-- One step of the document's inner loop: what was gathered, and whether the new one stands. -/
def stV (d : Int → Int) (x : Int) (s : List Int × Bool) (y : Int) : List Int × Bool := if s.2 = false ∧ d y < d x then (s.1 ++ [x] ++ [y], true) else (s.1 ++ [y], s.2)
/-- The new one put in. -/
def inV (d : Int → Int) (x : Int) (B : List Int) : List Int := let s := B.foldl (stV d x) ([], false); if s.2 = true then s.1 else s.1 ++ [x]
/-- Ahead of the first that has less. -/
def insV (d : Int → Int) (x : Int) : List Int → List Int
  | [] => [x]
  | y :: B => if d y < d x then x :: y :: B else y :: insV d x B
theorem fold_true (d : Int → Int) (x : Int) : ∀ (B N : List Int), B.foldl (stV d x) (N, true) = (N ++ B, true)
  | [], N => by simp
  | y :: B, N => by
    rw [List.foldl_cons, show stV d x (N, true) y = (N ++ [y], true) by unfold stV; rw [if_neg (by simp)], fold_true d x B]
    simp
theorem fold_false (d : Int → Int) (x : Int) : ∀ (B N : List Int), (let s := B.foldl (stV d x) (N, false); if s.2 = true then s.1 else s.1 ++ [x]) = N ++ insV d x B
  | [], N => by simp [insV]
  | y :: B, N => by
    rw [List.foldl_cons]
    unfold insV
    by_cases h : d y < d x
    · rw [show stV d x (N, false) y = (N ++ [x] ++ [y], true) by unfold stV; rw [if_pos ⟨rfl, h⟩], fold_true, if_pos h]
      simp
    · rw [show stV d x (N, false) y = (N ++ [y], false) by unfold stV; rw [if_neg (fun e => h e.2)], if_neg h]
      have := fold_false d x B (N ++ [y])
      rw [this]
      simp
theorem inV_eq (d : Int → Int) (x : Int) (B : List Int) : inV d x B = insV d x B := by
  have := fold_false d x B []
  rw [List.nil_append] at this
  exact this
theorem insV_perm (d : Int → Int) (x : Int) : ∀ B, (insV d x B).Perm (x :: B)
  | [] => List.Perm.refl _
  | y :: B => by
    unfold insV
    split
    · exact List.Perm.refl _
    · exact ((insV_perm d x B).cons y).trans (List.Perm.swap x y B)
theorem insV_sd (l : List PB) (x : Int) : ∀ B, Sd (Tv l) B → (∀ y ∈ B, y < x) → Sd (Tv l) (insV (dk l) x B)
  | [], _, _ => by unfold insV; exact List.pairwise_singleton _ _
  | y :: B, h, hx => by
    unfold insV
    have h1 := List.pairwise_cons.1 h
    split
    · rename_i hd
      refine List.pairwise_cons.2 ⟨fun z hz => ?_, h⟩
      rcases List.mem_cons.1 hz with rfl | hz
      · exact .inl hd
      · exact (ord_v l).tr (.inl hd) (h1.1 z hz)
    · rename_i hd
      refine List.pairwise_cons.2 ⟨fun z hz => ?_, insV_sd l x B h1.2 (fun z hz => hx z (List.mem_cons_of_mem _ hz))⟩
      rcases List.mem_cons.1 ((insV_perm (dk l) x B).mem_iff.1 hz) with rfl | hz
      · have := hx y (List.mem_cons_self ..)
        unfold Tv
        omega
      · exact h1.1 z hz
/-- Sorted lists with the same numbers are one list. -/
theorem sd_uniq {T : Int → Int → Prop} (hT : Ord T) : ∀ {a b : List Int}, Sd T a → Sd T b → (∀ x, x ∈ a ↔ x ∈ b) → a = b
  | [], [], _, _, _ => rfl
  | [], y :: b, _, _, h => by have := (h y).2 (List.mem_cons_self ..); cases this
  | x :: a, [], _, _, h => by have := (h x).1 (List.mem_cons_self ..); cases this
  | x :: a, y :: b, ha, hb, h => by
    have a1 := List.pairwise_cons.1 ha
    have b1 := List.pairwise_cons.1 hb
    have e : x = y := Classical.byContradiction fun n => by
      have hx : x ∈ b := by rcases List.mem_cons.1 ((h x).1 (List.mem_cons_self ..)) with e | e; exact absurd e n; exact e
      have hy : y ∈ a := by rcases List.mem_cons.1 ((h y).2 (List.mem_cons_self ..)) with e | e; exact absurd e.symm n; exact e
      exact hT.ir x (hT.tr (a1.1 y hy) (b1.1 x hx))
    subst e
    have : a = b := sd_uniq hT a1.2 b1.2 (fun z => by
      constructor
      · intro hz
        rcases List.mem_cons.1 ((h z).1 (List.mem_cons_of_mem _ hz)) with e | e
        · subst e; exact absurd (a1.1 z hz) (hT.ir z)
        · exact e
      · intro hz
        rcases List.mem_cons.1 ((h z).2 (List.mem_cons_of_mem _ hz)) with e | e
        · subst e; exact absurd (b1.1 z hz) (hT.ir z)
        · exact e)
    rw [this]
/-- Is the block of that number one to be worked on? -/
def isV (l : List PB) (x : Int) : Bool := match l[x.toNat]? with
  | some b => b.closed && !decide (b.used = b.live)
  | none => false
def outV (l : List PB) (L : List Int) : List Int := L.foldl (fun B x => if isV l x = true then inV (dk l) x B else B) []
theorem outV_snoc (l : List PB) (L : List Int) (x : Int) : outV l (L ++ [x]) = if isV l x = true then inV (dk l) x (outV l L) else outV l L := by
  unfold outV; rw [List.foldl_append]; rfl
theorem outV_mem (l : List PB) (L : List Int) : ∀ x, x ∈ outV l L ↔ x ∈ L ∧ isV l x = true := by
  have : ∀ (L B : List Int) x, x ∈ L.foldl (fun B x => if isV l x = true then inV (dk l) x B else B) B ↔ x ∈ B ∨ (x ∈ L ∧ isV l x = true) := by
    intro L
    induction L with
    | nil => intro B x; simp
    | cons y L ih =>
      intro B x
      rw [List.foldl_cons, ih]
      by_cases h : isV l y = true
      · rw [if_pos h, inV_eq, (insV_perm (dk l) y B).mem_iff, List.mem_cons, List.mem_cons]
        constructor
        · rintro ((rfl | h1) | h1)
          · exact .inr ⟨.inl rfl, h⟩
          · exact .inl h1
          · exact .inr ⟨.inr h1.1, h1.2⟩
        · rintro (h1 | ⟨rfl | h1, h2⟩)
          · exact .inl (.inr h1)
          · exact .inl (.inl rfl)
          · exact .inr ⟨h1, h2⟩
      · rw [if_neg h, List.mem_cons]
        constructor
        · rintro (h1 | h1)
          · exact .inl h1
          · exact .inr ⟨.inr h1.1, h1.2⟩
        · rintro (h1 | ⟨rfl | h1, h2⟩)
          · exact .inl h1
          · exact absurd h2 h
          · exact .inr ⟨h1, h2⟩
  intro x
  have := this L [] x
  simpa [outV] using this
theorem outV_sd (l : List PB) : ∀ (k : Nat) (L : List Int), L.length = k → L.Pairwise (· < ·) → Sd (Tv l) (outV l L)
  | 0, L, hk, _ => by rw [List.eq_nil_of_length_eq_zero hk]; exact List.Pairwise.nil
  | k + 1, L, hk, h => by
    rcases List.eq_nil_or_concat L with rfl | ⟨L', x, rfl⟩
    · exact List.Pairwise.nil
    · rw [List.concat_eq_append] at hk h ⊢
      have h1 := List.pairwise_append.1 h
      have ih := outV_sd l k L' (by simpa using hk) h1.1
      rw [outV_snoc]
      split
      · rw [inV_eq]
        exact insV_sd l x _ ih (fun y hy => h1.2.2 y ((outV_mem l L' y).1 hy).1 x (List.mem_singleton.2 rfl))
      · exact ih
theorem outV_len (l : List PB) : ∀ (k : Nat) (L : List Int), L.length = k → (outV l L).length ≤ k
  | 0, L, hk => by rw [List.eq_nil_of_length_eq_zero hk]; exact Nat.le_refl _
  | k + 1, L, hk => by
    rcases List.eq_nil_or_concat L with rfl | ⟨L', x, rfl⟩
    · exact Nat.zero_le _
    · rw [List.concat_eq_append] at hk ⊢
      have ih := outV_len l k L' (by simpa using hk)
      rw [outV_snoc]
      split
      · rw [inV_eq, (insV_perm (dk l) x _).length_eq, List.length_cons]; omega
      · omega
/-- The document's victims are the code's. -/
theorem vict_same {size : Int} {l : List PB} (hO : BkOk size l) (use : Int) (h1 : ¬ use < 1) (Z : List Int) (hp : Z.Perm (thoseF (vicB use) 0 l)) (hs : Sd (Tv l) Z) : outV l (thoseF (useB use) 0 l) = Z := by
  refine sd_uniq (ord_v l) (outV_sd l _ _ rfl (thoseF_up _ l 0)) hs (fun x => ?_)
  rw [outV_mem, hp.mem_iff, thoseF_mem, thoseF_mem]
  constructor
  · rintro ⟨⟨i, y, hy, rfl, hu⟩, hv⟩
    refine ⟨i, y, hy, rfl, ?_⟩
    have hok := hO.ok y (List.mem_of_getElem? hy)
    unfold isV at hv
    rw [show ((0 + i : Nat) : Int).toNat = i by omega, hy] at hv
    simp [useB] at hu
    simp at hv
    simp [vicB, hv.1]
    have := hok.lu
    have h2 := hv.2
    refine ⟨⟨by omega, hu⟩, by omega⟩
  · rintro ⟨i, y, hy, rfl, hv⟩
    have hok := hO.ok y (List.mem_of_getElem? hy)
    simp [vicB] at hv
    refine ⟨⟨i, y, hy, rfl, by simp [useB, hv.1.1.2]⟩, ?_⟩
    unfold isV
    rw [show ((0 + i : Nat) : Int).toNat = i by omega, hy]
    simp [hv.1.2]
    have := hv.2
    omega
theorem vict_none {size : Int} {l : List PB} (hO : BkOk size l) (use : Int) (h1 : use < 1 ∨ 3 < use) : thoseF (vicB use) 0 l = [] := by
  refine List.eq_nil_iff_forall_not_mem.2 (fun x hx => ?_)
  obtain ⟨i, y, hy, rfl, hv⟩ := (thoseF_mem _ l 0 x).1 hx
  have hok := hO.ok y (List.mem_of_getElem? hy)
  simp [vicB] at hv
  have := hok.use0
  have := hok.use3
  omega
end Go.Proofs.YtmaekpfkkpkgpaaGreatDoor
