/-
  What the document's ParseCount and ParseMapping answer of any bytes: the same as the program's.
-/
import Derived.Test.YtdhbhjfpjmmonaaDoorHRefP
namespace Go.Proofs.YtdhbhjfpjmmonaaDoor
open Go.RowKit Go.Extern.Stop Go.Stop Go.Extern M

theorem body_len {l : List Nat} (hf : isFrame l) : (bodyL l).length = sizeL l := by have := hf.2.2.2.1; simp [bodyL]; omega
open Classical in
/-- What open makes of such an image, and of none. -/
theorem openL_pay {kind : Nat} {l : List Nat} : openL kind l = if (isFrame l ∧ pageOk l.length ∧ (restL l).all (· == 255) = true) ∧ (bodyL l).getD 0 0 = kind then some ((bodyL l).drop 1) else none := by
  by_cases h : pageOk l.length ∧ isFrame l ∧ (restL l).all (· == 255) = true
  · rw [openL_yes h.1 h.2.1 h.2.2]
    have hl := body_len h.2.1
    have h1 := h.2.1.2.1
    obtain ⟨x, t, hb⟩ : ∃ x t, bodyL l = x :: t := by
      cases hb : bodyL l with
      | nil => rw [hb] at hl; simp at hl; omega
      | cons x t => exact ⟨x, t, rfl⟩
    rw [hb]
    by_cases hk : x = kind
    · subst hk
      rw [mark_yes, if_pos ⟨⟨h.2.1, h.1, h.2.2⟩, rfl⟩]
      rfl
    · rw [mark_no x kind t hk, if_neg (fun hh => hk hh.2)]
  · rw [openL_no h, if_neg (fun hh => h ⟨hh.1.2.1, hh.1.1, hh.1.2.2⟩)]
theorem parseC_pay {l : List Nat} (hp : payOk 69 5 l) : parseC l = if getL ((bodyL l).drop 1) ≤ 2147483647 then some (getL ((bodyL l).drop 1)) else none := by
  have ho : openL 69 l = some ((bodyL l).drop 1) := by rw [openL_pay, if_pos ⟨⟨hp.1, hp.2.1, hp.2.2.2.2⟩, hp.2.2.2.1⟩]
  have hl : ((bodyL l).drop 1).length = 4 := by rw [List.length_drop, body_len hp.1, hp.2.2.1]
  have hv : numV 4 (some ((bodyL l).drop 1)) = getL ((bodyL l).drop 1) := by simp only [numV]; rw [if_neg (by omega), List.take_of_length_le (by omega)]
  have hs : endS (numS 4 (some ((bodyL l).drop 1))) = some [] := by simp only [numS]; rw [if_neg (by omega), List.drop_eq_nil_of_le (by omega)]; rfl
  unfold parseC
  rw [ho, hv, hs]
  by_cases h : getL ((bodyL l).drop 1) ≤ 2147483647
  · rw [if_pos ⟨rfl, h⟩, if_pos h]
  · rw [if_neg (fun hh => h hh.2), if_neg h]
theorem parseC_nopay {l : List Nat} (hp : ¬ payOk 69 5 l) : parseC l = none := by
  refine if_neg ?_
  rintro ⟨h, _⟩
  rw [openL_pay] at h
  split at h
  · rename_i hh
    refine hp ⟨hh.1.1, hh.1.2.1, ?_, hh.2, hh.1.2.2⟩
    have hl := body_len hh.1.1
    have h1 := hh.1.1.2.1
    simp only [numS] at h
    split at h
    · cases h
    · rename_i h4
      have hl2 : ((bodyL l).drop 1).length = sizeL l - 1 := by rw [List.length_drop, hl]
      cases ht : ((bodyL l).drop 1).drop 4 with
      | nil =>
        have := List.drop_eq_nil_iff.1 ht
        omega
      | cons x t => rw [ht] at h; cases h
  · cases h
theorem parseM_pay {l : List Nat} (hp : payOk 77 12 l) : parseM l = if getL (((bodyL l).drop 1).take 2) ≤ 255 ∧ (bodyL l).getD 11 0 ≤ 64 then some (getL (((bodyL l).drop 1).take 2), getL (((bodyL l).drop 3).take 8), (bodyL l).getD 11 0) else none := by
  have ho : openL 77 l = some ((bodyL l).drop 1) := by rw [openL_pay, if_pos ⟨⟨hp.1, hp.2.1, hp.2.2.2.2⟩, hp.2.2.2.1⟩]
  have hbl : (bodyL l).length = 12 := by rw [body_len hp.1, hp.2.2.1]
  have s2 : numS 2 (openL 77 l) = some ((bodyL l).drop 3) := by rw [ho]; simp only [numS, List.length_drop]; rw [if_neg (by omega), List.drop_drop]
  have s8 : numS 8 (numS 2 (openL 77 l)) = some ((bodyL l).drop 11) := by rw [s2]; simp only [numS, List.length_drop]; rw [if_neg (by omega), List.drop_drop]
  have s1 : numS 1 (numS 8 (numS 2 (openL 77 l))) = some [] := by rw [s8]; simp only [numS, List.length_drop]; rw [if_neg (by omega), List.drop_drop, List.drop_eq_nil_of_le (by omega)]
  have v1 : mV1 l = getL (((bodyL l).drop 1).take 2) := by unfold mV1; rw [ho]; simp only [numV, List.length_drop]; rw [if_neg (by omega)]
  have v2 : mV2 l = getL (((bodyL l).drop 3).take 8) := by unfold mV2; rw [s2]; simp only [numV, List.length_drop]; rw [if_neg (by omega)]
  have v3 : mV3 l = (bodyL l).getD 11 0 := by
    unfold mV3
    rw [s8]
    simp only [numV, List.length_drop]
    have h11 : 11 < (bodyL l).length := by omega
    rw [if_neg (by omega), List.drop_eq_getElem_cons h11, List.take_succ_cons, List.take_zero]
    simp only [getL, Nat.mul_zero, Nat.add_zero]
    simp [List.getD, h11]
  have hS : mS l = some [] := by unfold mS; rw [s1]; rfl
  unfold parseM
  rw [v1, v2, v3, hS]
  by_cases h : getL (((bodyL l).drop 1).take 2) ≤ 255 ∧ (bodyL l).getD 11 0 ≤ 64
  · rw [if_pos ⟨rfl, h⟩, if_pos h]
  · rw [if_neg (fun hh => h hh.2), if_neg h]
theorem numS_some {k : Nat} {st : Option (List Nat)} {t : List Nat} (h : numS k st = some t) : ∃ u, st = some u ∧ k ≤ u.length ∧ t = u.drop k := by
  cases st with
  | none => cases h
  | some u =>
    simp only [numS] at h
    split at h
    · cases h
    · cases h
      exact ⟨u, rfl, by omega, rfl⟩
theorem endS_some {st : Option (List Nat)} (h : endS st = some []) : st = some [] := by
  rcases st with _ | l
  · cases h
  · cases l
    · rfl
    · cases h
theorem parseM_nopay {l : List Nat} (hp : ¬ payOk 77 12 l) : parseM l = none := by
  refine if_neg ?_
  rintro ⟨h, _⟩
  unfold mS at h
  obtain ⟨u1, e1, g1, f1⟩ := numS_some (endS_some h)
  obtain ⟨u2, e2, g2, f2⟩ := numS_some e1
  obtain ⟨u3, e3, g3, f3⟩ := numS_some e2
  rw [openL_pay] at e3
  split at e3
  · rename_i hh
    refine hp ⟨hh.1.1, hh.1.2.1, ?_, hh.2, hh.1.2.2⟩
    have hl := body_len hh.1.1
    have h1 := hh.1.1.2.1
    cases e3
    have k1 : u1.length = u2.length - 8 := by rw [f2, List.length_drop]
    have k2 : u2.length = ((bodyL l).drop 1).length - 2 := by rw [f3, List.length_drop]
    have k3 : u1.length ≤ 1 := List.drop_eq_nil_iff.1 f1.symm
    rw [List.length_drop] at k2
    omega
  · cases e3
end Go.Proofs.YtdhbhjfpjmmonaaDoor
