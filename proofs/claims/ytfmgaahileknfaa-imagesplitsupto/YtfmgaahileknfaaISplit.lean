/-
  What parts, Levels, slices.Clone and Split of package image answer.
-/
import Derived.Test.YtfmgaahileknfaaISlots
namespace Go.Proofs.Ytfmgaahileknfaa
open Go.RowKit M
set_option maxRecDepth 10000

/-- How many parts of a size make n. -/
def prt (n s : Nat) : Nat := if n % s = 0 then n / s else n / s + 1
theorem parts_any (n s : Nat) (hn : n < 9223372036854775808) (hs : 1 ≤ s) (hs2 : s < 9223372036854775808) (w : World) :
    Calls Try.prog 14 #[.int .i64 (n : Int), .int .i64 (s : Int)] w fun e w' => e = .returned (.int .i64 (prt n s : Nat)) ∧ w = w' := by
  unfold prt
  have h0 : ¬ (s : Int) = 0 := by omega
  have h1 : (n : Int).tmod (s : Int) = ((n % s : Nat) : Int) := by rw [Int.tmod_eq_emod_of_nonneg (by omega)]; simp
  have h2 : (n : Int).tdiv (s : Int) = ((n / s : Nat) : Int) := by rw [Int.tdiv_eq_ediv_of_nonneg (by omega)]; simp
  have hd : n / s ≤ n := Nat.div_le_self n s
  obtain ⟨q, hq⟩ : ∃ q, q = n / s := ⟨_, rfl⟩
  obtain ⟨r, hr⟩ : ∃ r, r = n % s := ⟨_, rfl⟩
  have hqn : 1 < s → q < n ∨ n = 0 := fun h => by
    rw [hq]
    rcases Nat.eq_zero_or_pos n with e | e
    · exact .inr e
    · exact .inl (Nat.div_lt_self e h)
  rw [← hq] at h2 hd ⊢
  rw [← hr] at h1 ⊢
  have HQ : Hid (s = 1 → r = 0) := fun e => by rw [hr, e]; exact Nat.mod_one n
  by_cases hz : r = 0
  · subst hz
    clear hq hr hqn
    go_enter Try.func14, Try.ntmps14
    go_wp2
    go_ret
    exact ⟨rfl, rfl⟩
  · have hz2 : ((r : Int) == 0) = false := by simpa using hz
    have hq1 : q + 1 ≤ n ∨ q = 0 := by
      by_cases h : s = 1
      · exact absurd (HQ.out h) hz
      · have := hqn (by omega); omega
    rw [if_neg hz]
    clear hq hr hqn
    go_enter Try.func14, Try.ntmps14
    go_wp2
    go_ret
    exact ⟨ret_int (by omega), rfl⟩

theorem prt_lt {n s : Nat} (h1 : 1 < s) (h2 : 1 < n) : prt n s < n := by
  unfold prt
  split
  · exact Nat.div_lt_self (by omega) h1
  · rename_i h
    have e := Nat.div_add_mod n s
    rcases Nat.lt_or_ge (n / s) 1 with q | q
    · omega
    · have : s * (n / s) ≥ 2 * (n / s) := Nat.mul_le_mul_right _ h1
      omega
theorem prt_pos {n s : Nat} (hs : 1 ≤ s) (hn : 1 ≤ n) : 1 ≤ prt n s := by
  unfold prt
  split
  · rename_i h
    exact Nat.div_pos (Nat.le_of_dvd (by omega) (Nat.dvd_of_mod_eq_zero h)) (by omega)
  · exact Nat.le_add_left _ _
theorem prt_le {n s : Nat} (hs : 1 ≤ s) : prt n s ≤ n := by
  by_cases h : s = 1
  · subst h; unfold prt; simp [Nat.mod_one]
  · by_cases h2 : 1 < n
    · exact Nat.le_of_lt (prt_lt (by omega) h2)
    · rcases Nat.eq_zero_or_pos n with e | e
      · subst e; simp [prt]
      · obtain rfl : n = 1 := by omega
        have h3 : 1 / s = 0 := Nat.div_eq_of_lt (by omega)
        unfold prt; rw [h3]; split <;> omega
/-- As many lists as are wanted leave one slot at least for each. -/
theorem prt_rest {n c : Nat} (hc : 1 ≤ c) (h : c ≤ n) : c - 1 ≤ n - prt n c := by
  have e := Nat.div_add_mod n c
  have hm := Nat.mod_lt n (show 0 < c by omega)
  obtain ⟨q, hq⟩ : ∃ q, q = n / c := ⟨_, rfl⟩
  obtain ⟨r, hr⟩ : ∃ r, r = n % c := ⟨_, rfl⟩
  have hq1 : 1 ≤ q := by rw [hq]; exact Nat.div_pos h (by omega)
  unfold prt
  rw [← hq, ← hr] at e
  rw [← hr] at hm
  rw [← hq, ← hr]
  clear hq hr
  have hmul : (c - 1) * 1 ≤ (c - 1) * q := Nat.mul_le_mul_left _ hq1
  have hsub : c * q = (c - 1) * q + q := by
    obtain ⟨d, rfl⟩ : ∃ d, c = d + 1 := ⟨c - 1, by omega⟩
    simp [Nat.succ_mul]
  split <;> omega

/-- How many levels a tree of n keys has. -/
def lev (n : Nat) : Nat := if h : n ≤ 8 then 1 else lev (prt n 8) + 1
termination_by n
decreasing_by exact prt_lt (by decide) (by omega)
theorem lev_le8 {n : Nat} (h : n ≤ 8) : lev n = 1 := by rw [lev]; simp [h]
theorem lev_more {n : Nat} (h : 8 < n) : lev n = lev (prt n 8) + 1 := by rw [lev]; simp [show ¬ n ≤ 8 by omega]
theorem lev_pos (n : Nat) : 1 ≤ lev n := by
  by_cases h : n ≤ 8
  · rw [lev_le8 h]; omega
  · rw [lev_more (by omega)]; omega
theorem lev_le (n : Nat) : 1 ≤ n → lev n ≤ n := by
  induction n using Nat.strongRecOn with
  | ind n ih =>
    intro h1
    by_cases h : n ≤ 8
    · rw [lev_le8 h]; omega
    · rw [lev_more (by omega)]
      have := ih (prt n 8) (prt_lt (by decide) (by omega)) (prt_pos (by decide) (by omega))
      have := prt_lt (s := 8) (by decide) (show 1 < n by omega)
      omega
/-- What Levels answers. -/
def levZ (n : Int) : Nat := if n < 1 then 0 else lev n.toNat
set_option maxHeartbeats 1000000 in
theorem levels_any (n : Int) (hn : -9223372036854775808 ≤ n ∧ n ≤ 9223372036854775807) (w : World) :
    Calls Try.prog 9 #[.int .i64 n] w fun e w' => e = .returned (.int .i64 (levZ n : Nat)) ∧ w = w' := by
  obtain ⟨hn1, hn2⟩ := hn
  unfold levZ
  by_cases h : n < 1
  · rw [if_pos h]
    go_enter Try.func9, Try.ntmps9
    go_wp2
    go_ret
    exact ⟨rfl, rfl⟩
  · rw [if_neg h]
    obtain ⟨N, rfl⟩ : ∃ N : Nat, n = (N : Int) := ⟨n.toNat, by omega⟩
    rw [Int.toNat_natCast]
    have HLe : Hid (lev N ≤ N) := lev_le N (by omega)
    obtain ⟨R, hR⟩ : ∃ R, R = lev N := ⟨_, rfl⟩
    have HR : Hid (R = lev N) := hR
    rw [← hR] at HLe ⊢
    clear hR hn1
    go_enter Try.func9, Try.ntmps9
    go_wp2
    go_loopg [0, 3] N (fun kx s0 s3 wr => ∃ (m k : Nat), m = kx ∧ 1 ≤ m ∧ m ≤ N ∧ s0 = .int .i64 (m : Nat) ∧ s3 = .int .i64 (k : Nat) ∧ wr = w ∧ Hid (lev m + k = R + 1))
    case atStart => exact ⟨N, 1, rfl, by omega, by omega, rfl, rfl, rfl, by show _ = _; rw [HR.out]⟩
    case round =>
      obtain ⟨m, k, rfl, hm, hmN, rfl, rfl, rfl, I⟩ := hrel
      by_cases hlt : 8 < m
      · have kp : ∀ W, Calls Try.prog 14 #[.int .i64 (m : Int), .int .i64 8] W fun e w' => e = .returned (.int .i64 (prt m 8 : Nat)) ∧ W = w' := fun W => parts_any m 8 (by omega) (by decide) (by decide) W
        have HS : Hid (lev (prt m 8) + (k + 1) = R + 1) := by have := I.out; rw [lev_more hlt] at this; show _ = _; omega
        have h1 : prt m 8 < m := prt_lt (by decide) (by omega)
        have h2 : 1 ≤ prt m 8 := prt_pos (by decide) (by omega)
        have hk : (k : Int) + 1 < 9223372036854775808 := by have := HS.out; have := HLe.out; have := lev_pos (prt m 8); omega
        have hk0 : (0 : Int) ≤ (k : Int) := by omega
        obtain ⟨p, hp⟩ : ∃ p, p = prt m 8 := ⟨_, rfl⟩
        rw [← hp] at kp HS h1 h2
        have hm8 : (8 : Int) < (m : Int) := by omega
        have HP : Hid (p < m ∧ 1 ≤ p ∧ p ≤ N) := ⟨h1, h2, by omega⟩
        clear hp h hmN hm hk0 h1 h2 hlt
        go_wp2_with (go_at_call 14; refine (kp _).mono ?_; rintro e w1 ⟨rfl, rfl⟩)
        go_roundg p
        case measure => exact HP.out.1
        case rel => exact ⟨p, k + 1, rfl, HP.out.2.1, HP.out.2.2, rfl, by go_num, rfl, HS.out⟩
      · have HS : Hid (k = R) := by have := I.out; rw [lev_le8 (by omega)] at this; show _ = _; omega
        go_wp2
        go_ret
        exact ⟨ret_int (by rw [HS.out]), rfl⟩

set_option maxHeartbeats 1000000 in
theorem clone_any (a : Option Addr) (m cap : Nat) (l : List St) (w : World) (hm : m = l.length) (hb : m * 40 ≤ 140737488355328) (hr : ZRow w a l) (hnil : a = none → cap = 0) :
    Calls Try.prog 15 #[.slice a m cap] w fun e w' => ZPost w l e w' := by
  have q24 : ∀ (w : World) (a : Option Addr) (n c n' c' : Nat), (binOp .eql 26 (.slice a n c) (.slice none n' c')).run Try.prog w = .ok (.bool a.isNone) w := fun w a n c n' c' => Lib.run_eql_slice_nil w _ _ a n c n' c' Try.underlying26
  cases a with
  | none =>
    have e : l = [] := by
      rcases hr with e | ⟨b, off, e, _⟩
      · exact e
      · cases e
    subst e
    have e0 : m = 0 := hm
    subst e0
    clear hm hr hnil
    go_enter Try.func15, Try.ntmps15
    go_wp2
    go_ret
    exact ⟨none, 0, 0, rfl, rfl, World.ownsRow_nil _ _ _ 4, Below.refl _ _⟩
  | some ad =>
    have HR : Hid (ZRow w (some ad) l) := hr
    have HM : Hid (m = l.length) := hm
    clear hr hm hnil
    go_enter Try.func15, Try.ntmps15
    go_wp2_with (at_builtin; refine wpList_append_sts rfl (.tmp 5) (.tmp 6) rfl w.heap.size (.slice (some ⟨w.heap.size, 0, none⟩) 0 0) 0 [] rfl (World.ownsRow_lit (e := 41) (size := 4) w #[] 0 (Nat.le_refl _) (by decide) rfl) (some ad) m cap l rfl HM.out (HR.out.later (below_new _ _)) (fun h => by cases h) (by unfold maxLen; omega) (by omega) (by simp) ?_; intro v2 w2 hown2 hgrow2; rw [Nat.zero_add, List.nil_append] at hown2; have HB2 : Hid (Below w.heap.size w w2) := (below_new w _).grown hgrow2 (by simp) (fun k hk => by simp [Value.ownBlock] at hk; omega); obtain ⟨na, nc, rfl, hf⟩ := zown_row HM.out hown2; have HO2 : Hid (w2.ownsRow w.heap.size 41 4 (.slice na m nc) m (l.flatMap stv)) := hown2; clear hf hown2 hgrow2)
    go_ret
    refine ⟨na, m, nc, rfl, HM.out, ?_, HB2.out⟩
    have := HO2.out
    rw [HM.out] at this
    rw [HM.out]
    exact this
end Go.Proofs.Ytfmgaahileknfaa
