/-
  The document's answers of Has and Right.
-/
import Derived.Test.YtefpcdpclpignaaNLong
namespace Go.Proofs.Ytefpcdpclpignaa
open Go.RowKit Go.Shelf M

set_option maxHeartbeats 1000000 in
theorem has_any (l : List UInt8) (c : UInt8) (hs : l.length ≤ maxLen) (w : World) :
    Calls Try.prog 81 #[.string (bs l), .int .u8 (c.toNat : Int)] w fun e w' => e = .returned (.bool (decide (c ∈ l))) ∧ w = w' := by
  unfold maxLen at hs
  have hz := bs_size l
  obtain ⟨S, hS⟩ : ∃ S, S = bs l := ⟨_, rfl⟩
  rw [← hS] at hz ⊢
  have HS : Hid (S = bs l) := hS
  obtain ⟨n, hn⟩ : ∃ n, n = S.size := ⟨_, rfl⟩
  clear hS
  go_enter Try.func81, Try.ntmps81
  go_wp2
  go_loop [5] (fun i => ∃ k : Nat, k ≤ S.size ∧ i = .int .i64 k ∧ c ∉ l.take k) (fun i => S.size - (intOf i).toNat)
  case atStart => exact ⟨0, by omega, rfl, by simp⟩
  case round =>
    obtain ⟨k, hk, rfl, hno⟩ := hrel
    have HN : Hid (c ∉ l.take k) := hno
    clear hno
    by_cases hlt : k < S.size
    · obtain ⟨x, hx⟩ : ∃ x, x = S[k]'hlt := ⟨_, rfl⟩
      have hkl : k < l.length := by omega
      have HX : Hid (x = l[k]'hkl) := by
        have H2 := HS.out
        subst H2
        obtain ⟨_, e⟩ := bs_get hlt
        exact hx.trans e
      by_cases hc : x = c
      · have e1 : ((x.toNat : Int) == (c.toNat : Int)) = true := by rw [hc]; simp
        have HM : Hid (decide (c ∈ l) = true) := decide_eq_true (by rw [← hc, HX.out]; exact List.getElem_mem _)
        have hx' := hx.symm
        clear hc hx
        go_wp2
        go_ret
        exact ⟨by rw [HM.out]; rfl, rfl⟩
      · have e1 : ((x.toNat : Int) == (c.toNat : Int)) = false := by
          rw [beq_eq_false_iff_ne]; intro e; exact hc (UInt8.toNat_inj.1 (by omega))
        have HM : Hid (c ∉ l.take (k + 1)) := by
          rw [List.take_succ_eq_append_getElem hkl, ← HX.out]
          intro h
          rcases List.mem_append.1 h with h | h
          · exact HN.out h
          · simp at h; exact hc h.symm
        have hx' := hx.symm
        clear hc hx
        go_wp2
        go_round
        case rel => exact ⟨k + 1, by omega, by go_num, HM.out⟩
        case measure => simp [intOf]; omega
    · have HM : Hid (decide (c ∈ l) = false) := decide_eq_false (by have := HN.out; rwa [List.take_of_length_le (by omega)] at this)
      go_wp2
      go_ret
      exact ⟨by rw [HM.out]; rfl, rfl⟩

theorem rright_cond (l : List UInt8) (a b c d : Bool) (ha : a = decide (47 ∈ l)) (hb : b = decide (0 ∈ l)) (hc : c = decide (l = [46])) (hd : d = decide (l = [46, 46])) :
    rightOf l = if l = [] then 2 else if (a || b || c || d) = true then 22 else if 24 < l.length then 36 else 0 := by
  subst ha hb hc hd
  unfold rightOf
  have e : ((decide (47 ∈ l) || decide (0 ∈ l) || decide (l = [46]) || decide (l = [46, 46])) = true) ↔ ((47 ∈ l ∨ 0 ∈ l) ∨ l = [46] ∨ l = [46, 46]) := by
    simp only [Bool.or_eq_true, decide_eq_true_eq]
    constructor
    · rintro (((h | h) | h) | h)
      · exact .inl (.inl h)
      · exact .inl (.inr h)
      · exact .inr (.inl h)
      · exact .inr (.inr h)
    · rintro ((h | h) | h | h)
      · exact .inl (.inl (.inl h))
      · exact .inl (.inl (.inr h))
      · exact .inl (.inr h)
      · exact .inr h
  simp only [e]

set_option maxHeartbeats 2000000 in
theorem rright_any (l : List UInt8) (hs : l.length ≤ maxLen) (w : World) :
    Calls Try.prog 56 #[.string (bs l)] w fun e w' => e = .returned (.int .i64 (rightOf l)) ∧ w = w' := by
  have h47 := fun w => has_any l 47 hs w
  have h00 := fun w => has_any l 0 hs w
  obtain ⟨a, ha⟩ : ∃ a, a = decide (47 ∈ l) := ⟨_, rfl⟩
  obtain ⟨b, hb⟩ : ∃ b, b = decide (0 ∈ l) := ⟨_, rfl⟩
  obtain ⟨c, hc⟩ : ∃ c, c = decide (l = [46]) := ⟨_, rfl⟩
  obtain ⟨d, hd⟩ : ∃ d, d = decide (l = [46, 46]) := ⟨_, rfl⟩
  rw [rright_cond l a b c d ha hb hc hd]
  rw [← ha] at h47
  rw [← hb] at h00
  have e47 : ((47 : UInt8).toNat : Int) = 47 := rfl
  have e00 : ((0 : UInt8).toNat : Int) = 0 := rfl
  rw [e47] at h47
  rw [e00] at h00
  have hl := bs_toList l
  have hz := bs_size l
  obtain ⟨S, hS⟩ : ∃ S, S = bs l := ⟨_, rfl⟩
  rw [← hS] at h47 h00 hl hz ⊢
  have ec : (S.toList == [46]) = c := by rw [hl, hc]; rw [Bool.eq_iff_iff]; simp
  have ed : (S.toList == [46, 46]) = d := by rw [hl, hd]; rw [Bool.eq_iff_iff]; simp
  have e0 : S.toList.isEmpty = decide (l = []) := by rw [hl]; cases l <;> rfl
  clear hS ha hb hc hd e47 e00
  by_cases hl0 : l = []
  · rw [if_pos hl0]
    have e1 : S.toList = [] := by rw [hl]; exact hl0
    rw [decide_eq_true hl0] at e0
    clear hl hz hl0 ec ed
    go_enter Try.func56, Try.ntmps56
    go_wp2
    go_ret
    exact ⟨rfl, rfl⟩
  · rw [if_neg hl0]
    have e1 : ¬ S.toList = [] := by rw [hl]; exact hl0
    rw [decide_eq_false hl0] at e0
    have M1 : Hid True := trivial
    cases a <;> cases b <;> cases c <;> cases d
    all_goals
      first
      | (rw [if_neg (by decide)]
         by_cases h4 : 24 < l.length
         · have e4 : (24 : Int) < (S.size : Int) := by omega
           rw [if_pos h4]
           clear hl hz hl0 h4
           go_enter Try.func56, Try.ntmps56
           go_wp2_with (first
             | (go_at_call 81; clear M1; refine (h47 _).mono ?_; rintro e w' ⟨rfl, rfl⟩)
             | (go_at_call 81; refine (h00 _).mono ?_; rintro e w' ⟨rfl, rfl⟩))
           go_ret
           exact ⟨rfl, rfl⟩
         · have e4 : ¬ (24 : Int) < (S.size : Int) := by omega
           rw [if_neg h4]
           clear hl hz hl0 h4
           go_enter Try.func56, Try.ntmps56
           go_wp2_with (first
             | (go_at_call 81; clear M1; refine (h47 _).mono ?_; rintro e w' ⟨rfl, rfl⟩)
             | (go_at_call 81; refine (h00 _).mono ?_; rintro e w' ⟨rfl, rfl⟩))
           go_ret
           exact ⟨rfl, rfl⟩)
      | (rw [if_pos (by decide)]
         clear hl hz hl0
         go_enter Try.func56, Try.ntmps56
         go_wp2_with (first
           | (go_at_call 81; clear M1; refine (h47 _).mono ?_; rintro e w' ⟨rfl, rfl⟩)
           | (go_at_call 81; refine (h00 _).mono ?_; rintro e w' ⟨rfl, rfl⟩))
         go_ret
         exact ⟨rfl, rfl⟩)
end Go.Proofs.Ytefpcdpclpignaa
