/-
  Images as lists: what was made is parsed as it was, never as the other kind; with a byte turned as nothing.
-/
import Derived.Test.YtdhbhjfpjmmonaaDoorHParseM
import Derived.Test.YtdhbhjfpjmmonaaDoorBackMath
namespace Go.Proofs.YtdhbhjfpjmmonaaDoor
open M

theorem img_eq (p : List Nat) (page : Nat) (h : p.length + 6 ≤ page) : imgL p page = frameL p ++ List.replicate (page - (p.length + 6)) 255 := by
  unfold imgL fillL
  rw [frameL_length, List.take_of_length_le (by rw [frameL_length]; exact h)]
theorem rest_frame (p m : List Nat) (h : p.length ≤ 1024) : restL (frameL p ++ m) = m := by
  unfold restL
  rw [size_frame p m h, List.drop_append, List.drop_eq_nil_of_le (by rw [frameL_length]; omega)]
  rw [frameL_length, List.nil_append, show 6 + p.length - (p.length + 6) = 0 by omega, List.drop_zero]
theorem all_255 (k : Nat) : (List.replicate k 255).all (· == 255) = true := by simp
theorem open_img (m : Nat) (p : List Nat) (page : Nat) (h1 : 1 ≤ p.length) (h2 : p.length ≤ 58) (h3 : 64 ≤ page) (h4 : page ≤ 512) : openL m (imgL p page) = markS m (some p) := by
  have hl : pageOk (imgL p page).length := by rw [imgL_length]; unfold pageOk; omega
  rw [img_eq p page (by omega)] at hl ⊢
  rw [openL_yes hl (frame_is p _ h1 (by omega)) (by rw [rest_frame p _ (by omega)]; exact all_255 _), body_frame p _ (by omega)]
theorem mark_yes (x : Nat) (t : List Nat) : markS x (some (x :: t)) = some t := by simp [markS, numV, numS, getL]
theorem mark_no (x y : Nat) (t : List Nat) (h : x ≠ y) : markS y (some (x :: t)) = none := by simp [markS, numV, getL, h]

theorem parseC_yes {l : List Nat} {z : Nat} (h1 : endS (numS 4 (openL 69 l)) = some []) (h2 : numV 4 (openL 69 l) = z) (h3 : z ≤ 2147483647) : parseC l = some z := by
  subst h2
  exact if_pos ⟨h1, h3⟩
theorem parseC_no {l : List Nat} (h : openL 69 l = none) : parseC l = none := by
  refine if_neg fun hh => ?_
  rw [h] at hh
  cases hh.1
theorem parseM_no {l : List Nat} (h : openL 77 l = none) : parseM l = none := by
  refine if_neg fun hh => ?_
  have := hh.1
  unfold mS at this
  rw [h] at this
  cases this
theorem back_c (n page : Nat) (h1 : n ≤ 2147483647) (h3 : 64 ≤ page) (h4 : page ≤ 512) : parseC (imgL (countL n) page) = some n := by
  have ho : openL 69 (imgL (countL n) page) = some (putL 4 n) := by
    rw [open_img 69 _ page (by rw [countL_length]; decide) (by rw [countL_length]; decide) h3 h4]
    exact mark_yes 69 _
  have hv : numV 4 (some (putL 4 n)) = n := by
    simp only [numV, putL_length]
    rw [if_neg (by decide), List.take_of_length_le (by rw [putL_length]; exact Nat.le_refl _), getL_putL]
    exact Nat.mod_eq_of_lt (by omega)
  have hs : numS 4 (some (putL 4 n)) = some [] := by
    simp only [numS, putL_length]
    rw [if_neg (by decide), List.drop_eq_nil_of_le (by rw [putL_length]; exact Nat.le_refl _)]
  exact parseC_yes (by rw [ho, hs]; rfl) (by rw [ho]; exact hv) h1
theorem cross_c (n page : Nat) (h3 : 64 ≤ page) (h4 : page ≤ 512) : parseM (imgL (countL n) page) = none := by
  refine parseM_no ?_
  rw [open_img 77 _ page (by rw [countL_length]; decide) (by rw [countL_length]; decide) h3 h4]
  exact mark_no 69 77 _ (by decide)
theorem cross_m (a b c page : Nat) (h3 : 64 ≤ page) (h4 : page ≤ 512) : parseC (imgL (mapL a b c) page) = none := by
  refine parseC_no ?_
  rw [open_img 69 _ page (by rw [mapL_length]; decide) (by rw [mapL_length]; decide) h3 h4]
  exact mark_no 77 69 _ (by decide)
theorem numV_put (k n : Nat) (m : List Nat) : numV k (some (putL k n ++ m)) = n % 256 ^ k := by
  simp only [numV, List.length_append, putL_length]
  rw [if_neg (by omega), List.take_append_of_le_length (by rw [putL_length]; exact Nat.le_refl _), List.take_of_length_le (by rw [putL_length]; exact Nat.le_refl _), getL_putL]
theorem numS_put (k n : Nat) (m : List Nat) : numS k (some (putL k n ++ m)) = some m := by
  simp only [numS, List.length_append, putL_length]
  rw [if_neg (by omega), List.drop_append, List.drop_eq_nil_of_le (by rw [putL_length]; exact Nat.le_refl _)]
  simp [putL_length]
theorem open_m (a b c page : Nat) (h3 : 64 ≤ page) (h4 : page ≤ 512) : openL 77 (imgL (mapL a b c) page) = some (putL 2 a ++ (putL 8 b ++ putL 1 c)) := by
  rw [open_img 77 _ page (by rw [mapL_length]; decide) (by rw [mapL_length]; decide) h3 h4]
  exact mark_yes 77 _
theorem back_m (a b c page : Nat) (h1 : a ≤ 255) (h2 : b < 18446744073709551616) (hc : c ≤ 64) (h3 : 64 ≤ page) (h4 : page ≤ 512) : parseM (imgL (mapL a b c) page) = some (a, b, c) := by
  have ho := open_m a b c page h3 h4
  have e1 : mV1 (imgL (mapL a b c) page) = a := by unfold mV1; rw [ho, numV_put]; exact Nat.mod_eq_of_lt (by omega)
  have e2 : mV2 (imgL (mapL a b c) page) = b := by unfold mV2; rw [ho, numS_put, numV_put]; exact Nat.mod_eq_of_lt (by omega)
  have e3 : mV3 (imgL (mapL a b c) page) = c := by
    unfold mV3
    rw [ho, numS_put, numS_put]
    have := numV_put 1 c []
    rw [List.append_nil] at this
    rw [this]
    exact Nat.mod_eq_of_lt (by omega)
  have e4 : mS (imgL (mapL a b c) page) = some [] := by
    unfold mS
    rw [ho, numS_put, numS_put]
    have := numS_put 1 c []
    rw [List.append_nil] at this
    rw [this]
    rfl
  unfold parseM
  rw [e1, e2, e3, e4, if_pos ⟨rfl, h1, hc⟩]

/-- What begins with a whole frame's bytes, and no frame stands in them. -/
theorem not_frame_more (f m : List Nat) (h6 : 6 ≤ f.length) (hs : sizeL f ≤ f.length - 6) (h : ¬ isFrame f) : ¬ isFrame (f ++ m) := by
  rintro ⟨_, g2, g3, _, g5⟩
  have e1 : sizeL (f ++ m) = sizeL f := by unfold sizeL; rw [List.take_append_of_le_length (by omega)]
  have e2 : bodyL (f ++ m) = bodyL f := by
    unfold bodyL
    rw [e1, List.drop_append_of_le_length h6, List.take_append_of_le_length (by simp; omega)]
  have e3 : toldL (f ++ m) = toldL f := by
    unfold toldL
    rw [List.drop_append_of_le_length (by omega), List.take_append_of_le_length (by simp; omega)]
  rw [e1] at g2 g3
  rw [e2, e3] at g5
  exact h ⟨h6, g2, g3, hs, g5⟩
theorem turned_c (n page k y : Nat) (h3 : 64 ≤ page) (h4 : page ≤ 512) (hk : 2 ≤ k) (hk2 : k < page) (hy : y < 256) (hne : y ≠ (imgL (countL n) page).getD k 0) : parseC ((imgL (countL n) page).set k y) = none := by
  refine parseC_no (openL_no ?_)
  rintro ⟨_, hf, hb⟩
  have hcl := countL_length n
  rw [img_eq (countL n) page (by omega)] at hf hb hne
  have hfl : (frameL (countL n)).length = 11 := by rw [frameL_length, hcl]
  by_cases hlt : k < 11
  · rw [List.set_append_left _ _ (by omega)] at hf
    refine not_frame_more _ _ (by simp; omega) ?_ (not_frame_turned (countL n) (countL_lt n) (by omega) k y hk (by omega) hy ?_) hf
    · have : sizeL ((frameL (countL n)).set k y) = 5 := by
        unfold sizeL
        rw [List.take_set_of_le hk]
        have := size_frame (countL n) [] (by omega)
        rw [List.append_nil, hcl] at this
        exact this
      rw [this]
      simp
      omega
    · intro e
      apply hne
      rw [e]
      simp [List.getD, List.getElem?_append_left (show k < (frameL (countL n)).length by omega)]
  · rw [List.set_append_right _ _ (by omega), rest_frame _ _ (by omega)] at hb
    rw [List.all_eq_true] at hb
    have hin : k - (frameL (countL n)).length < (List.replicate (page - ((countL n).length + 6)) 255).length := by simp; omega
    have := hb y (List.mem_set hin _)
    have hy5 : y = 255 := by simpa using this
    apply hne
    rw [hy5]
    have hin2 : k - 11 < page - ((countL n).length + 6) := by omega
    simp [List.getD, List.getElem?_append_right (show (frameL (countL n)).length ≤ k by omega), hfl, hin2]
end Go.Proofs.YtdhbhjfpjmmonaaDoor
