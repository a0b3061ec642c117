/-
  Parting slots: how long the lists are, and that they are all the slots.
-/
import Derived.Test.YtfmgaahileknfaaISpl
namespace Go.Proofs.Ytfmgaahileknfaa
open Go.RowKit M

theorem div_of {n c q r : Nat} (h : n = q * c + r) (hr : r < c) : n / c = q ∧ n % c = r := by
  have hc : 0 < c := by omega
  rw [h]
  exact ⟨by rw [Nat.mul_comm, Nat.mul_add_div hc, Nat.div_eq_of_lt hr, Nat.add_zero], by rw [Nat.mul_comm, Nat.mul_add_mod, Nat.mod_eq_of_lt hr]⟩
theorem prt_next {n c : Nat} (hc : 1 ≤ c) : (n - prt n (c + 1)) / c = n / (c + 1) ∧ (n - prt n (c + 1)) % c = n % (c + 1) - 1 := by
  have e := Nat.div_add_mod n (c + 1)
  have hm := Nat.mod_lt n (show 0 < c + 1 by omega)
  obtain ⟨q, hq⟩ : ∃ q, q = n / (c + 1) := ⟨_, rfl⟩
  obtain ⟨r, hr⟩ : ∃ r, r = n % (c + 1) := ⟨_, rfl⟩
  have hmul : (c + 1) * q = q * c + q := by rw [Nat.mul_comm, Nat.mul_succ]
  unfold prt
  rw [← hq, ← hr] at e
  rw [← hr] at hm
  rw [← hq, ← hr]
  clear hq hr
  refine div_of ?_ (by omega)
  split <;> omega
theorem splN_size : ∀ (c : Nat) (l : List St) (k : Nat) (y : List St), (splN c l)[k]? = some y → y.length = l.length / c + (if k < l.length % c then 1 else 0)
  | 0, l, k, y, h => by simp [splN] at h
  | c + 1, l, 0, y, h => by
    have e := Nat.div_add_mod l.length (c + 1)
    simp only [splN, List.getElem?_cons_zero, Option.some.injEq] at h
    rw [← h, List.length_take]
    have hp := prt_le (n := l.length) (s := c + 1) (by omega)
    rw [Nat.min_eq_left hp]
    unfold prt
    split
    · rename_i q; rw [q]; simp
    · rename_i q; rw [if_pos (by omega)]
  | c + 1, l, k + 1, y, h => by
    simp only [splN, List.getElem?_cons_succ] at h
    have hc : 1 ≤ c := by
      rcases Nat.eq_zero_or_pos c with e | e
      · subst e; simp [splN] at h
      · exact e
    have := splN_size c _ k y h
    rw [List.length_drop, (prt_next hc).1, (prt_next hc).2] at this
    rw [this]
    by_cases hk : k < l.length % (c + 1) - 1
    · rw [if_pos hk, if_pos (by omega)]
    · rw [if_neg hk, if_neg (by omega)]
theorem splN_flat : ∀ (c : Nat) (l : List St), 1 ≤ c → (splN c l).flatten = l
  | 1, l, _ => by
    have : prt l.length 1 = l.length := by unfold prt; simp [Nat.mod_one]
    simp [splN, this]
  | c + 2, l, _ => by
    rw [splN, List.flatten_cons, splN_flat (c + 1) _ (by omega), List.take_append_drop]
theorem prt8 (n : Nat) : prt n 8 = (n + 7) / 8 := by
  unfold prt; split <;> omega
theorem spl_flat (l : List St) : (spl l).flatten = l := by
  by_cases h : l = []
  · subst h; rfl
  · refine splN_flat _ l ?_
    rw [prt8]
    have : 0 < l.length := List.length_pos_iff.2 h
    omega
theorem spl_len (l : List St) : (spl l).length = (l.length + 7) / 8 := by rw [spl, splN_len, prt8]
/-- The lists' lengths. -/
theorem spl_sizes {l : List St} {i : Nat} {y : List St} (h : (spl l)[i]? = some y) : 1 ≤ y.length ∧ y.length ≤ 8 ∧ ∀ j z, (spl l)[j]? = some z → j ≤ i → y.length ≤ z.length ∧ z.length ≤ y.length + 1 := by
  have hi := (List.getElem?_eq_some_iff.1 h).1
  rw [spl_len] at hi
  have hs := splN_size _ _ _ _ h
  rw [prt8] at hs
  obtain ⟨c, hc⟩ : ∃ c, c = (l.length + 7) / 8 := ⟨_, rfl⟩
  have e := Nat.div_add_mod l.length c
  have hm := Nat.mod_lt l.length (show 0 < c by omega)
  have h1 : 1 ≤ l.length / c := Nat.div_pos (by omega) (by omega)
  have hmul : l.length ≤ 8 * c := by omega
  have key : ∀ j z, (spl l)[j]? = some z → z.length = l.length / c + (if j < l.length % c then 1 else 0) := fun j z hz => by
    have := splN_size _ _ _ _ hz
    rw [prt8, ← hc] at this
    exact this
  rw [← hc] at hs
  have h8 : l.length / c ≤ 8 := by
    rcases Nat.lt_or_ge 8 (l.length / c) with q | q
    · exfalso
      have : c * 9 ≤ c * (l.length / c) := Nat.mul_le_mul_left _ q
      omega
    · exact q
  have h88 : l.length / c = 8 → l.length % c = 0 := fun q => by
    rw [q] at e
    omega
  refine ⟨by split at hs <;> omega, by split at hs <;> omega, fun j z hz hj => ?_⟩
  have hz' := key j z hz
  split at hs <;> split at hz' <;> omega
end Go.Proofs.Ytfmgaahileknfaa
