/-
  Lists that are merged: what swaps of ranges and rotations make of a list; an order.
-/
import Derived.Test.YtmaekpfkkpkgpaaGreatDoorBMem
namespace Go.Proofs.YtmaekpfkkpkgpaaGreatDoor

/-- Two places change what they hold. -/
def swp (d : List Int) (i j : Nat) : List Int := (d.set i (d[j]?.getD 0)).set j (d[i]?.getD 0)
theorem swp_len (d : List Int) (i j : Nat) : (swp d i j).length = d.length := by simp [swp]
theorem get_mid (P : List Int) (x : Int) (S : List Int) : (P ++ x :: S)[P.length]? = some x := by simp
theorem set_mid (P : List Int) (x y : Int) (S : List Int) : (P ++ x :: S).set P.length y = P ++ y :: S := by
  rw [List.set_append_right _ _ (Nat.le_refl _)]
  simp
theorem swp_mid (P : List Int) (x : Int) (M : List Int) (y : Int) (S : List Int) : swp (P ++ x :: (M ++ y :: S)) P.length (P.length + 1 + M.length) = P ++ y :: (M ++ x :: S) := by
  have h1 : (P ++ x :: (M ++ y :: S))[P.length + 1 + M.length]? = some y := by
    have := get_mid (P ++ x :: M) y S
    simp only [List.length_append, List.length_cons, List.append_assoc, List.cons_append] at this
    rw [show P.length + 1 + M.length = P.length + (M.length + 1) by omega]
    exact this
  have h2 := get_mid P x (M ++ y :: S)
  unfold swp
  rw [h1, h2]
  simp only [Option.getD_some]
  rw [set_mid]
  have := set_mid (P ++ y :: M) y x S
  simp only [List.length_append, List.length_cons, List.append_assoc, List.cons_append] at this
  rw [show P.length + 1 + M.length = P.length + (M.length + 1) by omega]
  exact this
/-- n swaps, from the first on. -/
def swpN (d : List Int) (a b : Nat) : Nat → List Int
  | 0 => d
  | n + 1 => swp (swpN d a b n) (a + n) (b + n)
theorem swpN_len (d : List Int) (a b n : Nat) : (swpN d a b n).length = d.length := by
  induction n with
  | zero => rfl
  | succ n ih => rw [swpN, swp_len, ih]
theorem swpN_mid : ∀ (n : Nat) (X Y P M S : List Int), X.length = n → Y.length = n → swpN (P ++ X ++ M ++ Y ++ S) P.length (P.length + n + M.length) n = P ++ Y ++ M ++ X ++ S := by
  intro n
  induction n with
  | zero =>
    intro X Y P M S h1 h2
    have e1 : X = [] := List.eq_nil_of_length_eq_zero h1
    have e2 : Y = [] := List.eq_nil_of_length_eq_zero h2
    subst e1 e2
    simp [swpN]
  | succ n ih =>
    intro X Y P M S h1 h2
    rcases List.eq_nil_or_concat X with rfl | ⟨X', x, rfl⟩
    · simp at h1
    · rcases List.eq_nil_or_concat Y with rfl | ⟨Y', y, rfl⟩
      · simp at h2
      · simp only [List.concat_eq_append] at h1 h2 ⊢
        simp at h1 h2
        rw [swpN]
        have e1 : P ++ (X' ++ [x]) ++ M ++ (Y' ++ [y]) ++ S = P ++ X' ++ (x :: M) ++ Y' ++ (y :: S) := by simp
        rw [e1, show P.length + (n + 1) + M.length = P.length + n + (x :: M).length by simp; omega]
        rw [ih X' Y' P (x :: M) (y :: S) h1 h2]
        have e2 : P ++ Y' ++ (x :: M) ++ X' ++ (y :: S) = (P ++ Y') ++ x :: ((M ++ X') ++ y :: S) := by simp
        have e3 := swp_mid (P ++ Y') x (M ++ X') y S
        rw [e2, show P.length + n = (P ++ Y').length by simp; omega, show (P ++ Y').length + (x :: M).length + n = (P ++ Y').length + 1 + (M ++ X').length by simp; omega, e3]
        simp
/-- A strict order in which any two that are unlike are told apart. -/
structure Ord (T : Int → Int → Prop) : Prop where
  tr : ∀ {x y z}, T x y → T y z → T x z
  ir : ∀ x, ¬ T x x
  tt : ∀ x y, x ≠ y → T x y ∨ T y x
def Sd (T : Int → Int → Prop) (l : List Int) : Prop := l.Pairwise T
theorem sd_app {T : Int → Int → Prop} {a b : List Int} : Sd T (a ++ b) ↔ Sd T a ∧ Sd T b ∧ ∀ x ∈ a, ∀ y ∈ b, T x y := List.pairwise_append
/-- The last of one and the first of another say it of all. -/
theorem cross_last {T : Int → Int → Prop} (hT : Ord T) {A B : List Int} {x y : Int} (hA : Sd T (A ++ [x])) (hB : Sd T (y :: B)) (h : T x y) : ∀ u ∈ A ++ [x], ∀ v ∈ y :: B, T u v := by
  intro u hu v hv
  have h1 : u = x ∨ T u x := by
    rcases List.mem_append.1 hu with hu | hu
    · exact .inr ((sd_app.1 hA).2.2 u hu x (by simp))
    · exact .inl (by simpa using hu)
  have h2 : y = v ∨ T y v := by
    rcases List.mem_cons.1 hv with rfl | hv
    · exact .inl rfl
    · exact .inr ((List.pairwise_cons.1 hB).1 v hv)
  rcases h1 with rfl | h1 <;> rcases h2 with rfl | h2
  · exact h
  · exact hT.tr h h2
  · exact hT.tr h1 h
  · exact hT.tr h1 (hT.tr h h2)
/-- Two sorted lists that are each all ahead of or behind: what a merge gives. -/
structure Mg (T : Int → Int → Prop) (X Y Z : List Int) : Prop where
  pm : Z.Perm (X ++ Y)
  sd : Sd T Z
theorem Mg.two {T : Int → Int → Prop} {X1 X2 Y1 Y2 Z1 Z2 : List Int} (h1 : Mg T X1 Y1 Z1) (h2 : Mg T X2 Y2 Z2) (hc : ∀ x ∈ X1 ++ Y1, ∀ y ∈ X2 ++ Y2, T x y) : Mg T (X1 ++ X2) (Y1 ++ Y2) (Z1 ++ Z2) := by
  refine ⟨?_, sd_app.2 ⟨h1.sd, h2.sd, fun x hx y hy => hc x (h1.pm.mem_iff.1 hx) y (h2.pm.mem_iff.1 hy)⟩⟩
  refine (h1.pm.append h2.pm).trans ?_
  have : (X1 ++ Y1 ++ (X2 ++ Y2)).Perm (X1 ++ X2 ++ (Y1 ++ Y2)) := by
    rw [List.append_assoc, List.append_assoc]
    refine List.Perm.append_left X1 ?_
    rw [← List.append_assoc, ← List.append_assoc]
    exact List.Perm.append_right Y2 List.perm_append_comm
  exact this
theorem Mg.left {T : Int → Int → Prop} {X : List Int} (h : Sd T X) : Mg T X [] X := ⟨by simp, h⟩
theorem Mg.right {T : Int → Int → Prop} {Y : List Int} (h : Sd T Y) : Mg T [] Y Y := ⟨by simp, h⟩
end Go.Proofs.YtmaekpfkkpkgpaaGreatDoor
