/-
  What a search for where two sides are parted says of them.
-/
import Derived.Test.YtmaekpfkkpkgpaaGreatDoorSSymR
namespace Go.Proofs.YtmaekpfkkpkgpaaGreatDoor
open Go.RowKit

/-- Two sides that are to be merged. -/
structure Two (T lt : Int → Int → Prop) (U : List Int) (n : Nat) (P X Y S : List Int) : Prop where
  sx : Sd T X
  sy : Sd T Y
  cr : ∀ x ∈ X, ∀ y ∈ Y, (lt y x ↔ T y x) ∧ y ≠ x
  iu : ∀ u ∈ X ++ Y, u ∈ U
  len : (P ++ X ++ Y ++ S).length = n
  x1 : 1 ≤ X.length
  y1 : 1 ≤ Y.length
theorem get_x {P X Y S : List Int} {k : Nat} (hk : k < X.length) : (P ++ X ++ Y ++ S)[P.length + k]? = X[k]? := by
  rw [List.getElem?_append_left (by simp; omega), List.getElem?_append_left (by simp; omega), List.getElem?_append_right (by simp)]
  simp
theorem get_y {P X Y S : List Int} {k : Nat} (hk : k < Y.length) : (P ++ X ++ Y ++ S)[P.length + X.length + k]? = Y[k]? := by
  rw [List.getElem?_append_left (by simp; omega), List.getElem?_append_right (by simp)]
  congr 1
  simp
/-- Where the search stands. -/
structure Sr (T : Int → Int → Prop) (d : List Int) (p lo hi i j : Nat) : Prop where
  dn : ∀ c x y, lo ≤ c → c < i → d[c]? = some x → d[p - c]? = some y → T x y
  up : ∀ c x y, j ≤ c → c < hi → d[c]? = some x → d[p - c]? = some y → T y x
/-- What each side's order says of the pairs. -/
structure Bi (T lt : Int → Int → Prop) (U : List Int) (d : List Int) (p lo hi : Nat) : Prop where
  mx : ∀ c k x x', lo ≤ c → c < k → k < hi → d[c]? = some x → d[k]? = some x' → T x x'
  my : ∀ c k y y', lo ≤ c → c < k → k < hi → d[p - k]? = some y' → d[p - c]? = some y → T y' y
  at_ : ∀ c, lo ≤ c → c < hi → ∃ x y, d[c]? = some x ∧ d[p - c]? = some y ∧ x ∈ U ∧ y ∈ U ∧ (lt y x ↔ T y x) ∧ y ≠ x ∧ c ≤ p ∧ c < d.length ∧ p - c < d.length
theorem Sr.go {T lt : Int → Int → Prop} (hT : Ord T) {U d : List Int} {p lo hi i j : Nat} (h : Sr T d p lo hi i j) (hb : Bi T lt U d p lo hi) {k : Nat} {x y : Int} (_h1 : i ≤ k) (h3 : k < hi) (hx : d[k]? = some x) (hy : d[p - k]? = some y) (ht : T x y) : Sr T d p lo hi (k + 1) j := by
  refine ⟨fun c u v q1 q2 hu hv => ?_, h.up⟩
  by_cases e : c = k
  · subst e
    rw [hx] at hu
    rw [hy] at hv
    cases hu
    cases hv
    exact ht
  · exact hT.tr (hb.mx c k u x q1 (by omega) h3 hu hx) (hT.tr ht (hb.my c k v y q1 (by omega) h3 hy hv))
theorem Sr.back {T lt : Int → Int → Prop} (hT : Ord T) {U d : List Int} {p lo hi i j : Nat} (h : Sr T d p lo hi i j) (hb : Bi T lt U d p lo hi) {k : Nat} {x y : Int} (h1 : lo ≤ k) (hx : d[k]? = some x) (hy : d[p - k]? = some y) (ht : T y x) : Sr T d p lo hi i k := by
  refine ⟨h.dn, fun c u v q1 q2 hu hv => ?_⟩
  by_cases e : c = k
  · subst e
    rw [hx] at hu
    rw [hy] at hv
    cases hu
    cases hv
    exact ht
  · exact hT.tr (hb.my k c y v h1 (by omega) q2 hv hy) (hT.tr ht (hb.mx k c x u h1 (by omega) q2 hx hu))
theorem Two.bi {T lt : Int → Int → Prop} {U : List Int} {n : Nat} {P X Y S : List Int} (h : Two T lt U n P X Y S) {a m b mid lo hi : Nat} (ha : a = P.length) (hm : m = P.length + X.length) (hb : b = P.length + X.length + Y.length) (h1 : a ≤ lo) (h2 : hi ≤ m) (h3 : hi ≤ mid) (h4 : mid + m ≤ lo + b) : Bi T lt U (P ++ X ++ Y ++ S) (mid + m - 1) lo hi := by
  have hlen := h.len
  have gx : ∀ c, lo ≤ c → c < hi → (P ++ X ++ Y ++ S)[c]? = X[c - a]? := fun c q1 q2 => by
    have := get_x (P := P) (X := X) (Y := Y) (S := S) (k := c - a) (by omega)
    rw [show P.length + (c - a) = c by omega] at this
    exact this
  have gy : ∀ c, lo ≤ c → c < hi → (P ++ X ++ Y ++ S)[mid + m - 1 - c]? = Y[mid - 1 - c]? := fun c q1 q2 => by
    have := get_y (P := P) (X := X) (Y := Y) (S := S) (k := mid - 1 - c) (by omega)
    rw [show P.length + X.length + (mid - 1 - c) = mid + m - 1 - c by omega] at this
    exact this
  refine ⟨fun c k x x' q1 q2 q3 hx hx' => ?_, fun c k y y' q1 q2 q3 hy' hy => ?_, fun c q1 q2 => ?_⟩
  · rw [gx c q1 (by omega)] at hx
    rw [gx k (by omega) q3] at hx'
    exact sd_get h.sx (by omega) hx hx'
  · rw [gy c q1 (by omega)] at hy
    rw [gy k (by omega) q3] at hy'
    exact sd_get h.sy (by omega) hy' hy
  · have l1 : c - a < X.length := by omega
    have l2 : mid - 1 - c < Y.length := by omega
    have hx := gx c q1 q2
    have hy := gy c q1 q2
    rw [List.getElem?_eq_getElem l1] at hx
    rw [List.getElem?_eq_getElem l2] at hy
    have m1 : X[c - a] ∈ X := List.getElem_mem l1
    have m2 : Y[mid - 1 - c] ∈ Y := List.getElem_mem l2
    simp only [List.length_append] at hlen ⊢
    exact ⟨_, _, hx, hy, h.iu _ (List.mem_append_left _ m1), h.iu _ (List.mem_append_right _ m2), (h.cr _ m1 _ m2).1, (h.cr _ m1 _ m2).2, by omega, by omega, by omega⟩
theorem cross_of {T : Int → Int → Prop} (hT : Ord T) {X1 X2 Y1 Y2 : List Int} (hX : Sd T (X1 ++ X2)) (hY : Sd T (Y1 ++ Y2)) (h1 : ∀ A x B y, X1 = A ++ [x] → Y2 = y :: B → T x y) (h2 : ∀ A y B x, Y1 = A ++ [y] → X2 = x :: B → T y x) : ∀ u ∈ X1 ++ Y1, ∀ v ∈ X2 ++ Y2, T u v := by
  obtain ⟨a1, a2, a3⟩ := sd_app.1 hX
  obtain ⟨b1, b2, b3⟩ := sd_app.1 hY
  have c1 : ∀ u ∈ X1, ∀ v ∈ Y2, T u v := by
    rcases List.eq_nil_or_concat X1 with rfl | ⟨A, x, rfl⟩
    · intro u hu; simp at hu
    · rcases Y2 with _ | ⟨y, B⟩
      · intro u _ v hv; simp at hv
      · rw [List.concat_eq_append] at a1 ⊢
        exact cross_last hT a1 b2 (h1 A x B y (List.concat_eq_append ..) rfl)
  have c2 : ∀ u ∈ Y1, ∀ v ∈ X2, T u v := by
    rcases List.eq_nil_or_concat Y1 with rfl | ⟨A, y, rfl⟩
    · intro u hu; simp at hu
    · rcases X2 with _ | ⟨x, B⟩
      · intro u _ v hv; simp at hv
      · rw [List.concat_eq_append] at b1 ⊢
        exact cross_last hT b1 a2 (h2 A y B x (List.concat_eq_append ..) rfl)
  intro u hu v hv
  rcases List.mem_append.1 hu with hu | hu <;> rcases List.mem_append.1 hv with hv | hv
  · exact a3 u hu v hv
  · exact c1 u hu v hv
  · exact c2 u hu v hv
  · exact b3 u hu v hv
/-- The two sides parted where the search ended. -/
theorem Two.parts {T lt : Int → Int → Prop} (hT : Ord T) {U : List Int} {n : Nat} {P X Y S : List Int} (h : Two T lt U n P X Y S) {a m b mid lo hi s : Nat} (ha : a = P.length) (hm : m = P.length + X.length) (hb : b = P.length + X.length + Y.length) (hlo : lo = a ∨ lo + b = mid + m) (hhi : hi = mid ∨ hi = m) (h1 : a ≤ lo) (h2 : hi ≤ m) (h3 : hi ≤ mid) (h4 : mid + m ≤ lo + b) (hs : Sr T (P ++ X ++ Y ++ S) (mid + m - 1) lo hi s s) (hls : lo ≤ s) (hsh : s ≤ hi) :
    ∃ X1 X2 Y1 Y2, X = X1 ++ X2 ∧ Y = Y1 ++ Y2 ∧ a + X1.length = s ∧ s + Y1.length = mid ∧ ∀ u ∈ X1 ++ Y1, ∀ v ∈ X2 ++ Y2, T u v := by
  obtain ⟨X1, X2, rfl, e1⟩ : ∃ X1 X2, X = X1 ++ X2 ∧ X1.length = s - a := ⟨X.take (s - a), X.drop (s - a), by simp, by rw [List.length_take]; omega⟩
  obtain ⟨Y1, Y2, rfl, e2⟩ : ∃ Y1 Y2, Y = Y1 ++ Y2 ∧ Y1.length = mid - s := ⟨Y.take (mid - s), Y.drop (mid - s), by simp, by rw [List.length_take]; omega⟩
  refine ⟨X1, X2, Y1, Y2, rfl, rfl, by omega, by omega, cross_of hT h.sx h.sy ?_ ?_⟩
  · rintro A x B y rfl rfl
    simp only [List.length_append, List.length_cons, List.length_nil] at *
    refine hs.dn (s - 1) x y (by omega) (by omega) ?_ ?_
    · have := get_mid (P ++ A) x (X2 ++ (Y1 ++ y :: B) ++ S)
      rw [show s - 1 = (P ++ A).length by simp; omega, ← this]
      simp
    · have := get_mid (P ++ (A ++ [x] ++ X2) ++ Y1) y (B ++ S)
      rw [show mid + m - 1 - (s - 1) = (P ++ (A ++ [x] ++ X2) ++ Y1).length by simp; omega, ← this]
      simp
  · rintro A y B x rfl rfl
    simp only [List.length_append, List.length_cons, List.length_nil] at *
    refine hs.up s x y (by omega) (by omega) ?_ ?_
    · have := get_mid (P ++ X1) x (B ++ (A ++ [y] ++ Y2) ++ S)
      rw [show s = (P ++ X1).length by simp; omega, ← this]
      simp
    · have := get_mid (P ++ (X1 ++ x :: B) ++ A) y (Y2 ++ S)
      rw [show mid + m - 1 - s = (P ++ (X1 ++ x :: B) ++ A).length by simp; omega, ← this]
      simp
end Go.Proofs.YtmaekpfkkpkgpaaGreatDoor
