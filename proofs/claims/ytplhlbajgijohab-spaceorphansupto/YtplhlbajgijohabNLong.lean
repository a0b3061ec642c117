/-
  The library's IndexAny at a text of more than eight bytes; ContainsAny at any text; and what Right answers.
-/
import Derived.Test.YtplhlbajgijohabNAny
namespace Go.Proofs.Ytplhlbajgijohab
open Go.RowKit Go.Shelf M

theorem info75 : (Try.prog.info? 71).map (fun i => (i.zero, i.size)) = some (some (.agg (Array.replicate 256 (.bool false))), 256) := by kernel_rfl

set_option maxRecDepth 100000 in
set_option maxHeartbeats 2000000 in
theorem any_long (s : ByteArray) (h8 : 8 < s.size) (hs : s.size ≤ maxLen) (w : World) :
    Calls Try.prog 40 #[.string s, .string ⟨#[47, 0]⟩] w fun e w' => (∃ k, e = .returned (.int .i64 k) ∧ Tells s k) ∧ Below w.heap.size w w' := by
  unfold maxLen at hs
  have hsh : ∀ W, Calls Try.prog 44 #[.int .i64 (s.size : Int)] W fun e w' => e = .returned (.bool true) ∧ W = w' := by
    intro W
    refine (Try.strings_shouldUseASCIISet (s.size : Int) W).mono ?_
    rintro e w' ⟨rfl, rfl⟩
    rw [decide_eq_true (by omega)]
    exact ⟨rfl, rfl⟩
  obtain ⟨SC, hSC⟩ : ∃ SC, SC = Lib.setCells [47, 0] := ⟨_, rfl⟩
  have hM : Calls Try.prog 45 #[.string ⟨#[47, 0]⟩] w fun e w' => e = .returned (.tuple #[.agg SC, .bool true]) ∧ w' = w.alloc (.cells SC 71) := by
    rw [hSC]
    refine Try.strings_makeASCIISet (zero_of_info info75).1 ⟨#[47, 0]⟩ w (by decide) ?_
    intro j b hj
    rcases j with _ | _ | j <;> simp at hj <;> subst hj <;> decide
  have hsz : SC.size = 256 := by rw [hSC]; exact Lib.setCells_size _
  have hone := Lib.setCells_one [47, 0]
  have hsc : (storeCells ⟨w.heap.size + 1, 0, none⟩ SC.toList 0).run Try.prog ((w.alloc (.cells SC 71)).alloc (.cells (Array.replicate 256 (.bool false)) 71)) = .ok () ((w.alloc (.cells SC 71)).alloc (.cells SC 71)) := by
    have := run_storeCells_new (P := Try.prog) (w.alloc (.cells SC 71)) 71 (Array.replicate 256 (.bool false)) SC (by rw [hsz]; kernel_rfl) (by rw [hsz, Array.size_replicate]) (by rw [hSC]; exact hone)
    simpa using this
  have HC : Hid (∀ x : UInt8, ((w.alloc (.cells SC 71)).alloc (.cells SC 71)).cell? ⟨w.heap.size + 1, x.toNat, none⟩ = some (.bool (([47, 0] : List UInt8).contains x))) := fun x => by
    rw [World.cell?_alloc_at _ _ _ _ (by simp), hSC, Lib.setCells_at]
  clear hSC hone
  have hzero := (zero_of_info info75).1
  go_enter Try.func40, Try.ntmps40
  go_wp2_with (first
    | (go_at_call 44; refine (hsh _).mono ?_; rintro e w' ⟨rfl, rfl⟩)
    | (go_at_call 45; refine hM.mono ?_; rintro e w' ⟨rfl, rfl⟩))
  clear hM hsc hzero hsh
  obtain ⟨w2, hw2⟩ : ∃ w2, w2 = (w.alloc (.cells SC 71)).alloc (.cells SC 71) := ⟨_, rfl⟩
  have HB2 : Hid (Below w.heap.size w w2) := by rw [hw2]; exact ((Below.refl _ w).alloc (Nat.le_refl _) _).alloc (by simp) _
  rw [← hw2] at HC ⊢
  clear hw2 hsz
  go_loopg [8] s.size (fun g s8 wx => ∃ i : Nat, i + g = s.size ∧ s8 = .int .i64 i ∧ wx = w2 ∧ okTo s i)
  case atStart => exact ⟨0, by omega, rfl, rfl, fun j _ h => absurd h (Nat.not_lt_zero _)⟩
  case round =>
    obtain ⟨i, hig, rfl, rfl, hok⟩ := hrel
    have HOK : Hid (okTo s i) := hok
    clear hok
    cases gk with
    | zero =>
      obtain rfl : i = s.size := by omega
      have hiz : ¬ ((s.size : Int) < (s.size : Int)) := by omega
      have HE : Hid (¬ (47 ∈ s.data.toList ∨ 0 ∈ s.data.toList)) := okTo_end HOK.out
      go_wp2
      go_ret
      exact ⟨⟨-1, rfl, by show 0 ≤ (-1 : Int) ↔ _; exact ⟨fun h => by omega, fun h => absurd h HE.out⟩⟩, HB2.out⟩
    | succ g =>
      have hi : i < s.size := by omega
      have hiz : (i : Int) < (s.size : Int) := by omega
      obtain ⟨x, hx⟩ : ∃ x : UInt8, s[i]'hi = x := ⟨_, rfl⟩
      have hcx := HC.out x
      by_cases hhit : x = 47 ∨ x = 0
      · have hin : ([47, 0] : List UInt8).contains x = true := by rcases hhit with rfl | rfl <;> decide
        rw [hin] at hcx
        have HM : Hid (47 ∈ s.data.toList ∨ 0 ∈ s.data.toList) := mem_at hi (by rw [hx]; exact hhit)
        clear hhit
        go_wp2_with (go_at_call 46; refine (Try.asciiSet_contains _ x _ _ hcx).mono ?_; rintro e w' ⟨rfl, rfl⟩)
        go_ret
        exact ⟨⟨i, rfl, by show 0 ≤ (i : Int) ↔ _; exact ⟨fun _ => HM.out, fun _ => by omega⟩⟩, HB2.out⟩
      · have hx47 : (s[i]'hi) ≠ 47 ∧ (s[i]'hi) ≠ 0 := by rw [hx]; exact ⟨fun e => hhit (.inl e), fun e => hhit (.inr e)⟩
        have hin : ([47, 0] : List UInt8).contains x = false := by
          rw [← hx]; simp [hx47.1, hx47.2]
        rw [hin] at hcx
        have HOK2 : Hid (okTo s (i + 1)) := okTo_succ HOK.out hi hx47 (fun k h1 h2 => by omega)
        clear hhit hx47
        go_wp2_with (go_at_call 46; refine (Try.asciiSet_contains _ x _ _ hcx).mono ?_; rintro e w' ⟨rfl, rfl⟩)
        go_roundg g
        case measure => omega
        case rel => exact ⟨i + 1, by omega, by go_num, rfl, HOK2.out⟩

theorem any_any (s : ByteArray) (hs : s.size ≤ maxLen) (w : World) :
    Calls Try.prog 40 #[.string s, .string ⟨#[47, 0]⟩] w fun e w' => (∃ k, e = .returned (.int .i64 k) ∧ Tells s k) ∧ Below w.heap.size w w' := by
  by_cases h : 8 < s.size
  · exact any_long s h hs w
  · exact any_short s (by omega) w
theorem contains_bad (s : ByteArray) (hs : s.size ≤ maxLen) (w : World) :
    Calls Try.prog 37 #[.string s, .string ⟨#[47, 0]⟩] w fun e w' => e = .returned (.bool (decide (47 ∈ s.data.toList ∨ 0 ∈ s.data.toList))) ∧ Below w.heap.size w w' := by
  have h := any_any s hs
  go_enter Try.func37, Try.ntmps37
  go_wp2_with (go_at_call 40; refine (h _).mono ?_; rintro e w1 ⟨⟨k, rfl, hk⟩, hb⟩; have HK : Hid (Tells s k) := hk; clear hk)
  go_ret
  refine ⟨?_, hb⟩
  have := HK.out
  unfold Tells at this
  show Ending.returned (.bool (decide (0 ≤ k))) = _
  rw [decide_eq_decide.2 this]

/-- The number of the error of a name; 0: it is one. -/
def rightOf (l : List UInt8) : Int :=
  if l = [] then 2 else if (47 ∈ l ∨ 0 ∈ l) ∨ l = [46] ∨ l = [46, 46] then 22 else if 24 < l.length then 36 else 0

set_option maxHeartbeats 1000000 in
theorem right_any (l : List UInt8) (hs : l.length ≤ maxLen) (w : World) :
    Calls Try.prog 33 #[.string (bs l)] w fun e w' => e = .returned (.int .i64 (rightOf l)) ∧ Below w.heap.size w w' := by
  have hc := contains_bad (bs l) (by rw [bs_size]; exact hs)
  rw [bs_data] at hc
  have hl := bs_toList l
  have hz := bs_size l
  obtain ⟨S, hS⟩ : ∃ S, S = bs l := ⟨_, rfl⟩
  rw [← hS] at hc hl hz ⊢
  clear hS
  unfold rightOf
  by_cases h0 : l = []
  · rw [if_pos h0]
    have e0 : S.toList = [] := by rw [hl]; exact h0
    have e1 : S.toList.isEmpty = true := by rw [e0]; rfl
    clear hl hz
    go_enter Try.func33, Try.ntmps33
    go_wp2
    go_ret
    exact ⟨rfl, Below.refl _ _⟩
  · rw [if_neg h0]
    have e0 : ¬ S.toList = [] := by rw [hl]; exact h0
    have e1 : S.toList.isEmpty = false := by rw [hl]; cases l with
      | nil => exact absurd rfl h0
      | cons _ _ => rfl
    by_cases h1 : 47 ∈ l ∨ 0 ∈ l
    · rw [if_pos (.inl h1)]
      rw [decide_eq_true h1] at hc
      clear hl hz
      go_enter Try.func33, Try.ntmps33
      go_wp2_with (go_at_call 37; refine (hc _).mono ?_; rintro e w1 ⟨rfl, hb⟩)
      go_ret
      exact ⟨rfl, hb⟩
    · rw [decide_eq_false h1] at hc
      by_cases h2 : l = [46]
      · have e2 : (S.toList == [46]) = true := by rw [hl, h2]; rfl
        rw [if_pos (.inr (.inl h2))]
        clear hl hz
        go_enter Try.func33, Try.ntmps33
        go_wp2_with (go_at_call 37; refine (hc _).mono ?_; rintro e w1 ⟨rfl, hb⟩)
        go_ret
        exact ⟨rfl, hb⟩
      · have e2 : (S.toList == [46]) = false := by rw [hl]; simpa using h2
        by_cases h3 : l = [46, 46]
        · have e3 : (S.toList == [46, 46]) = true := by rw [hl, h3]; rfl
          rw [if_pos (.inr (.inr h3))]
          clear hl hz
          go_enter Try.func33, Try.ntmps33
          go_wp2_with (go_at_call 37; refine (hc _).mono ?_; rintro e w1 ⟨rfl, hb⟩)
          go_ret
          exact ⟨rfl, hb⟩
        · have e3 : (S.toList == [46, 46]) = false := by rw [hl]; simpa using h3
          rw [if_neg (by rintro (h | h | h); exact h1 h; exact h2 h; exact h3 h)]
          by_cases h4 : 24 < l.length
          · have e4 : (24 : Int) < (S.size : Int) := by rw [hz]; omega
            rw [if_pos h4]
            clear hl hz
            go_enter Try.func33, Try.ntmps33
            go_wp2_with (go_at_call 37; refine (hc _).mono ?_; rintro e w1 ⟨rfl, hb⟩)
            go_ret
            exact ⟨rfl, hb⟩
          · have e4 : ¬ (24 : Int) < (S.size : Int) := by rw [hz]; omega
            rw [if_neg h4]
            clear hl hz
            go_enter Try.func33, Try.ntmps33
            go_wp2_with (go_at_call 37; refine (hc _).mono ?_; rintro e w1 ⟨rfl, hb⟩)
            go_ret
            exact ⟨rfl, hb⟩
end Go.Proofs.Ytplhlbajgijohab
