/-
  Frames as lists: what was framed is a frame, whatever stands behind it; with a byte of its sum or its payload turned it is none.
-/
import Derived.Test.YtdhbhjfpjmmonaaDoorUnframe
import Derived.Test.YtdhbhjfpjmmonaaDoorCrc
namespace Go.Proofs.YtdhbhjfpjmmonaaDoor
open M

theorem frameL_lt {l : List Nat} (h : ∀ x ∈ l, x < 256) : ∀ x ∈ frameL l, x < 256 := by
  intro x hx
  simp only [frameL, List.mem_append] at hx
  rcases hx with hx | hx | hx
  · exact putL_lt _ _ x hx
  · exact putL_lt _ _ x hx
  · exact h x hx
theorem take2 (l m : List Nat) : (frameL l ++ m).take 2 = putL 2 l.length := by
  simp only [frameL, List.append_assoc]
  rw [List.take_append_of_le_length (by simp [putL_length])]
  exact List.take_of_length_le (by simp [putL_length])
theorem size_frame (l m : List Nat) (h : l.length ≤ 1024) : sizeL (frameL l ++ m) = l.length := by
  unfold sizeL
  rw [take2, getL_putL]
  exact Nat.mod_eq_of_lt (by omega)
theorem drop2 (l m : List Nat) : (frameL l ++ m).drop 2 = putL 4 (sumL l) ++ (l ++ m) := by
  simp only [frameL, List.append_assoc]
  rw [List.drop_append, List.drop_eq_nil_of_le (by simp [putL_length])]
  simp [putL_length]
theorem told_frame (l m : List Nat) : toldL (frameL l ++ m) = sumL l := by
  unfold toldL
  rw [drop2, List.take_append_of_le_length (by simp [putL_length]), List.take_of_length_le (by simp [putL_length]), getL_putL]
  exact Nat.mod_eq_of_lt (sumL_lt l)
theorem drop6 (l m : List Nat) : (frameL l ++ m).drop 6 = l ++ m := by
  have : (frameL l ++ m).drop 6 = ((frameL l ++ m).drop 2).drop 4 := by rw [List.drop_drop]
  rw [this, drop2, List.drop_append, List.drop_eq_nil_of_le (by simp [putL_length])]
  simp [putL_length]
theorem body_frame (l m : List Nat) (h : l.length ≤ 1024) : bodyL (frameL l ++ m) = l := by
  unfold bodyL
  rw [size_frame l m h, drop6, List.take_append_of_le_length (Nat.le_refl _), List.take_length]
theorem frame_is (l m : List Nat) (h1 : 1 ≤ l.length) (h2 : l.length ≤ 1024) : isFrame (frameL l ++ m) := by
  refine ⟨by simp [frameL_length]; omega, ?_, ?_, ?_, ?_⟩
  · rw [size_frame l m h2]; exact h1
  · rw [size_frame l m h2]; exact h2
  · rw [size_frame l m h2]; simp [frameL_length]; omega
  · rw [body_frame l m h2, told_frame]

theorem getL_inj {a b : List Nat} (ha : ∀ x ∈ a, x < 256) (hb : ∀ x ∈ b, x < 256) (hl : a.length = b.length) (h : getL a = getL b) : a = b := by
  have e1 := putL_getL a ha
  have e2 := putL_getL b hb
  rw [← e1, ← e2, hl, h]
theorem set_lt {l : List Nat} (h : ∀ x ∈ l, x < 256) {y : Nat} (hy : y < 256) (i : Nat) : ∀ x ∈ l.set i y, x < 256 := by
  intro x hx
  rcases List.mem_or_eq_of_mem_set hx with hx | rfl
  · exact h x hx
  · exact hy
theorem turned_ne {x y : Nat} (h : y ≠ 0) : x ^^^ y ≠ x := by
  intro e
  have : x ^^^ (x ^^^ y) = x ^^^ x := by rw [e]
  rw [← Nat.xor_assoc] at this
  simp at this
  exact h this
theorem set_split (l : List Nat) (i y : Nat) (h : i < l.length) : l.set i y = l.take i ++ y :: l.drop (i + 1) ∧ l = l.take i ++ l.getD i 0 :: l.drop (i + 1) := by
  constructor
  · rw [List.set_eq_take_append_cons_drop, if_pos h]
  · have e : l.getD i 0 = l[i] := by simp [List.getD, h]
    rw [e, List.getElem_cons_drop, List.take_append_drop]

/-- A turned byte of the payload. -/
theorem not_frame_body (l : List Nat) (hl : ∀ x ∈ l, x < 256) (h2 : l.length ≤ 1024) (i y : Nat) (hi : i < l.length) (hy : y < 256) (hne : y ≠ l.getD i 0) : ¬ isFrame (putL 2 l.length ++ (putL 4 (sumL l) ++ l.set i y)) := by
  rintro ⟨_, _, _, _, h5⟩
  obtain ⟨m, hm⟩ : ∃ m, m = l.set i y := ⟨_, rfl⟩
  have hml : m.length = l.length := by rw [hm]; simp
  rw [← hm] at h5
  have e1 : sizeL (putL 2 l.length ++ (putL 4 (sumL l) ++ m)) = l.length := by
    unfold sizeL
    rw [List.take_append_of_le_length (by simp [putL_length]), List.take_of_length_le (by simp [putL_length]), getL_putL]
    exact Nat.mod_eq_of_lt (by omega)
  have e2 : (putL 2 l.length ++ (putL 4 (sumL l) ++ m)).drop 2 = putL 4 (sumL l) ++ m := by
    rw [List.drop_append, List.drop_eq_nil_of_le (by simp [putL_length])]
    simp [putL_length]
  have e3 : toldL (putL 2 l.length ++ (putL 4 (sumL l) ++ m)) = sumL l := by
    unfold toldL
    rw [e2, List.take_append_of_le_length (by simp [putL_length]), List.take_of_length_le (by simp [putL_length]), getL_putL]
    exact Nat.mod_eq_of_lt (sumL_lt l)
  have e4 : (putL 2 l.length ++ (putL 4 (sumL l) ++ m)).drop 6 = m := by
    have : (putL 2 l.length ++ (putL 4 (sumL l) ++ m)).drop 6 = ((putL 2 l.length ++ (putL 4 (sumL l) ++ m)).drop 2).drop 4 := by rw [List.drop_drop]
    rw [this, e2, List.drop_append, List.drop_eq_nil_of_le (by simp [putL_length])]
    simp [putL_length]
  have e5 : bodyL (putL 2 l.length ++ (putL 4 (sumL l) ++ m)) = m := by
    unfold bodyL
    rw [e1, e4]
    exact List.take_of_length_le (by omega)
  rw [e3, e5, hm] at h5
  obtain ⟨s1, s2⟩ := set_split l i y hi
  rw [s1] at h5
  have h6 : sumL l = sumL (l.take i ++ l.getD i 0 :: l.drop (i + 1)) := congrArg sumL s2
  rw [h6] at h5
  exact sumL_turned (fun z hz => hl z (List.mem_of_mem_take hz)) (fun z hz => hl z (List.mem_of_mem_drop hz)) hy (hl _ (by simp [List.getD, hi])) hne h5
/-- A turned byte of the sum. -/
theorem not_frame_sum (l : List Nat) (h2 : l.length ≤ 1024) (i y : Nat) (hi : i < 4) (hy : y < 256) (hne : y ≠ (putL 4 (sumL l)).getD i 0) : ¬ isFrame (putL 2 l.length ++ ((putL 4 (sumL l)).set i y ++ l)) := by
  rintro ⟨_, _, _, _, h5⟩
  obtain ⟨m, hm⟩ : ∃ m, m = (putL 4 (sumL l)).set i y := ⟨_, rfl⟩
  have hml : m.length = 4 := by rw [hm]; simp [putL_length]
  rw [← hm] at h5
  have e1 : sizeL (putL 2 l.length ++ (m ++ l)) = l.length := by
    unfold sizeL
    rw [List.take_append_of_le_length (by simp [putL_length]), List.take_of_length_le (by simp [putL_length]), getL_putL]
    exact Nat.mod_eq_of_lt (by omega)
  have e2 : (putL 2 l.length ++ (m ++ l)).drop 2 = m ++ l := by
    rw [List.drop_append, List.drop_eq_nil_of_le (by simp [putL_length])]
    simp [putL_length]
  have e3 : toldL (putL 2 l.length ++ (m ++ l)) = getL m := by
    unfold toldL
    rw [e2, List.take_append_of_le_length (by omega), List.take_of_length_le (by omega)]
  have e4 : (putL 2 l.length ++ (m ++ l)).drop 6 = l := by
    have : (putL 2 l.length ++ (m ++ l)).drop 6 = ((putL 2 l.length ++ (m ++ l)).drop 2).drop 4 := by rw [List.drop_drop]
    rw [this, e2, List.drop_append, List.drop_eq_nil_of_le (by omega)]
    simp [hml]
  have e5 : bodyL (putL 2 l.length ++ (m ++ l)) = l := by
    unfold bodyL
    rw [e1, e4, List.take_length]
  rw [e3, e5] at h5
  have h6 : getL (putL 4 (sumL l)) = sumL l := by rw [getL_putL]; exact Nat.mod_eq_of_lt (sumL_lt l)
  have h7 : putL 4 (sumL l) = m := getL_inj (putL_lt _ _) (by rw [hm]; exact set_lt (putL_lt _ _) hy i) (by rw [putL_length, hml]) (by rw [h6, h5])
  have h8 : m.getD i 0 = y := by rw [hm]; simp [List.getD, putL_length, hi]
  rw [← h7] at h8
  exact hne h8.symm
theorem not_frame_turned (l : List Nat) (hl : ∀ x ∈ l, x < 256) (h2 : l.length ≤ 1024) (k y : Nat) (hk : 2 ≤ k) (hk2 : k < 6 + l.length) (hy : y < 256) (hne : y ≠ (frameL l).getD k 0) : ¬ isFrame ((frameL l).set k y) := by
  by_cases h6 : k < 6
  · have e : (frameL l).set k y = putL 2 l.length ++ ((putL 4 (sumL l)).set (k - 2) y ++ l) := by
      simp only [frameL]
      rw [List.set_append_right _ _ (by simp [putL_length]; omega), List.set_append_left _ _ (by simp [putL_length]; omega), putL_length]
    have e2 : (frameL l).getD k 0 = (putL 4 (sumL l)).getD (k - 2) 0 := by
      simp only [frameL, List.getD]
      rw [List.getElem?_append_right (by simp [putL_length]; omega), List.getElem?_append_left (by simp [putL_length]; omega), putL_length]
    rw [e]
    rw [e2] at hne
    exact not_frame_sum l h2 (k - 2) y (by omega) hy hne
  · have e : (frameL l).set k y = putL 2 l.length ++ (putL 4 (sumL l) ++ l.set (k - 6) y) := by
      simp only [frameL]
      rw [List.set_append_right _ _ (by simp [putL_length]; omega), List.set_append_right _ _ (by simp [putL_length]; omega), putL_length, putL_length]
      have : k - 2 - 4 = k - 6 := by omega
      rw [this]
    have e2 : (frameL l).getD k 0 = l.getD (k - 6) 0 := by
      simp only [frameL, List.getD]
      rw [List.getElem?_append_right (by simp [putL_length]; omega), List.getElem?_append_right (by simp [putL_length]; omega), putL_length, putL_length]
      have : k - 2 - 4 = k - 6 := by omega
      rw [this]
    rw [e]
    rw [e2] at hne
    exact not_frame_body l hl h2 (k - 6) y (by omega) hy hne
end Go.Proofs.YtdhbhjfpjmmonaaDoor
