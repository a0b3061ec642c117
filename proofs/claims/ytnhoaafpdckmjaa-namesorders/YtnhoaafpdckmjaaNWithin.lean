/-
  What Within, Less and Sort answer.
-/
import Derived.Test.YtnhoaafpdckmjaaNAlive
namespace Go.Proofs.Ytnhoaafpdckmjaa
open Go.RowKit Go.Shelf M

/-- slices.Equal at two lists of texts. -/
theorem equal_any (a : Option Addr) (n c : Nat) (l : List ByteArray) (b : Option Addr) (m d : Nat) (k : List ByteArray) (w : World) (hn : n = l.length) (hm : m = k.length) (hbig : n ≤ maxLen) (hbig2 : m ≤ maxLen) (ha : SRow w a l) (hb : SRow w b k) :
    Calls Try.prog 37 #[.slice a n c, .slice b m d] w fun e w' => e = .returned (.bool (decide (l = k))) ∧ ∃ q, w' = w.drewN q := by
  unfold maxLen at hbig hbig2
  by_cases hnm : n = m
  · by_cases h0 : n = 0
    · subst h0
      refine (Try.slices_Equal_string_empty a b c m d w (by omega)).mono ?_
      rintro e w' ⟨rfl, rfl⟩
      refine ⟨?_, 0, rfl⟩
      have h1 : l = [] := List.eq_nil_of_length_eq_zero hn.symm
      have h2 : k = [] := List.eq_nil_of_length_eq_zero (by omega)
      rw [h1, h2, decide_eq_true (show m = 0 by omega)]
      rfl
    · rcases ha with rfl | ⟨b1, o1, rfl, hc1⟩
      · simp at hn; omega
      · rcases hb with rfl | ⟨b2, o2, rfl, hc2⟩
        · simp at hm; omega
        · refine (Try.slices_Equal_string b1 o1 n c b2 o2 m d l k w (by omega) (by omega) (by omega) (by omega) hc1 hc2).mono ?_
          rintro e w' ⟨rfl, h⟩
          refine ⟨?_, h⟩
          rw [hn, hm, List.take_length, List.take_length]
  · refine (Try.slices_Equal_string_lens a b n c m d w hnm).mono ?_
    rintro e w' ⟨rfl, rfl⟩
    refine ⟨?_, 0, rfl⟩
    rw [decide_eq_false (fun e => hnm (by rw [hn, hm, e]))]

theorem prefix_take {l k : List ByteArray} (_ : k.length ≤ l.length) : decide (l.take k.length = k) = decide (k <+: l) := by
  rw [decide_eq_decide]
  constructor
  · intro e; rw [← e]; exact List.take_prefix _ _
  · intro e; exact (List.prefix_iff_eq_take.1 e).symm

set_option maxHeartbeats 1000000 in
theorem within_any (a : Option Addr) (n c : Nat) (l : List ByteArray) (b : Option Addr) (m d : Nat) (k : List ByteArray) (w : World) (hn : n = l.length) (hm : m = k.length) (hnc : n ≤ c) (hbig : n ≤ maxLen) (hbig2 : m ≤ maxLen) (ha : SRow w a l) (hnil : a = none → n = 0 ∧ c = 0) (hb : SRow w b k) :
    Calls Try.prog 26 #[.slice a n c, .slice b m d] w fun e w' => e = .returned (.bool (decide (k <+: l))) ∧ ∃ q, w' = w.drewN q := by
  by_cases hle : m ≤ n
  · have he : ∀ a', SRow w a' (l.take m) → Calls Try.prog 37 #[.slice a' m c, .slice b m d] w fun e w' => e = .returned (.bool (decide (k <+: l))) ∧ ∃ q, w' = w.drewN q := by
      intro a' hr
      have := equal_any a' m c (l.take m) b m d k w (by rw [List.length_take]; omega) hm hbig2 hbig2 hr hb
      rw [hm, prefix_take (by omega)] at this
      rw [hm]
      exact this
    have h1 : (m : Int) ≤ (n : Int) := by omega
    have h2 : (m : Int) ≤ (c : Int) := by omega
    have hT := ha.take m
    cases a with
    | none =>
      obtain ⟨rfl, rfl⟩ := hnil rfl
      have hm0 : m = 0 := by omega
      have hE := he none hT
      rw [hm0] at hE ⊢
      clear he hT hn hm ha hb hnil hm0
      go_enter Try.func26, Try.ntmps26
      go_wp2_with (go_at_call 37; go_must (refine hE.mono ?_); rintro e w1 ⟨rfl, q, rfl⟩)
      go_ret
      exact ⟨rfl, q, rfl⟩
    | some ad =>
      have hE := he (some ad) hT
      clear he hT hn hm ha hb hnil
      go_enter Try.func26, Try.ntmps26
      go_wp2_with (go_at_call 37; go_must (refine hE.mono ?_); rintro e w1 ⟨rfl, q, rfl⟩)
      go_ret
      exact ⟨rfl, q, rfl⟩
  · have h1 : ¬ (m : Int) ≤ (n : Int) := by omega
    have HD : Hid (decide (k <+: l) = false) := decide_eq_false (fun e => hle (by rw [hn, hm]; exact e.length_le))
    clear hn hm ha hb hnil hle
    go_enter Try.func26, Try.ntmps26
    go_wp2
    go_ret
    exact ⟨by rw [HD.out]; rfl, 0, rfl⟩
end Go.Proofs.Ytnhoaafpdckmjaa
