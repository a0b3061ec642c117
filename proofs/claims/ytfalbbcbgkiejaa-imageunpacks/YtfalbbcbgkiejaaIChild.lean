/-
  What Child of package image answers.
-/
import Derived.Test.YtfalbbcbgkiejaaIMine
import Derived.Deep.QuietTactic
namespace Go.Proofs.Ytfalbbcbgkiejaa
open Go.RowKit M
set_option maxRecDepth 10000

/-- The last number below n of which p holds; -1, if there is none. -/
def lst (p : Nat → Bool) : Nat → Int
  | 0 => -1
  | n + 1 => if p n then (n : Int) else lst p n
theorem lst_ge (p : Nat → Bool) : ∀ n, -1 ≤ lst p n ∧ lst p n < n
  | 0 => ⟨by simp [lst], by simp [lst]⟩
  | n + 1 => by
    have := lst_ge p n
    rw [lst]; split <;> omega
/-- Is the key of the i-th slot no greater? -/
def noG (l : List St) (key : K) (i : Nat) : Bool := match l[i]? with | some s => !klt key s.key | none => false
theorem noG_at {l : List St} {i : Nat} {y : St} (key : K) (h : l[i]? = some y) : noG l key i = !klt key y.key := by unfold noG; rw [h]
def chl (l : List St) (key : K) : Int := lst (noG l key) l.length

set_option maxHeartbeats 1000000 in
theorem child1_any (B C : Nat) (level : Int) (a : Option Addr) (len cap : Nat) (l : List St) (key : K) (i : Nat) (w : World) (hi : i < len) (h : ZArg w a len cap l) (hB : Row w B [.int .i64 level, .slice a len cap] 31) (hC : Row w C [.string key] 9) :
    Calls Try.prog 44 #[.int .i64 (i : Int), .pointer (some ⟨B, 0, none⟩), .pointer (some ⟨C, 0, none⟩)] w fun e w' => e = .returned (.bool (!noG l key i)) ∧ ∃ q, w' = w.drewN q := by
  have c1 : w.cell? ⟨B, 1, none⟩ = some (.slice a len cap) := hB.cell (i := 1) rfl
  have c2 : w.cell? ⟨C, 0, none⟩ = some (.string key) := hC.cell (i := 0) rfl
  have hln := h.len_eq
  have hcm := h.max
  have hlc := h.le
  unfold maxLen at hcm
  obtain ⟨b, off, y, rfl, hy, hd, q0, q1, q2, q3⟩ := zrow_at h.row (k := i) (by omega)
  rw [noG_at key hy, Bool.not_not, ← kgt]
  have hi1 : (i : Int) < (len : Int) := by omega
  clear h hB hC hd hy hln
  go_enter Try.func44, Try.ntmps44
  go_wp2
  go_quiet (fail)
  go_wp2
  go_ret
  exact ⟨by rw [Bool.not_or]; rfl, _, rfl⟩
set_option maxHeartbeats 2000000 in
theorem search_child (cb : Array Value) (n : Nat) (p : Nat → Bool) (w : World) (hsz : n < 4611686018427387904)
    (hf : ∀ (m : Nat) (i : Nat), i < n → Calls Try.prog 44 (#[.int .i64 i] ++ cb) (w.drewN m) fun e w' => e = .returned (.bool (!p i)) ∧ ∃ q, w' = w.drewN q) :
    Calls Try.prog 45 #[.int .i64 n, .func (.func 44) #[] cb] w fun e w' => ∃ lo : Nat, e = .returned (.int .i64 (lo : Int)) ∧ lo ≤ n ∧ (lo = 0 ∨ p (lo - 1) = true) ∧ ∃ q, w' = w.drewN q := by
  have HF : Hid (∀ (m : Nat) (i : Nat), i < n → Calls Try.prog 44 (#[.int .i64 i] ++ cb) (w.drewN m) fun e w' => e = .returned (.bool (!p i)) ∧ ∃ q, w' = w.drewN q) := hf
  clear hf
  go_enter Try.func45, Try.ntmps45
  go_wp2
  go_loopg [5, 6] n (fun kx s5 s6 wr => ∃ (lo hi q : Nat), s5 = .int .i64 lo ∧ s6 = .int .i64 hi ∧ lo ≤ hi ∧ hi ≤ n ∧ hi - lo ≤ kx ∧ wr = w.drewN q ∧ Hid (lo = 0 ∨ p (lo - 1) = true))
  case atStart => exact ⟨0, n, 0, rfl, rfl, Nat.zero_le _, Nat.le_refl _, by omega, rfl, (.inl rfl : (0 : Nat) = 0 ∨ _)⟩
  case round =>
    obtain ⟨lo, hi, q, rfl, rfl, hlh, hin, hg, rfl, I⟩ := hrel
    by_cases hlt : lo < hi
    · have hc := HF.out q ((lo + hi) / 2) (by omega)
      rw [show (((lo + hi) / 2 : Nat) : Int) = ((lo : Int) + (hi : Int)) / 2 by omega] at hc
      cases hp : p ((lo + hi) / 2) <;> rw [hp] at hc
      · clear hp
        go_wp2_with (go_at_call 44; refine hc.mono ?_; rintro e w' ⟨rfl, nq, rfl⟩)
        go_roundg ((lo + hi) / 2 - lo)
        case measure => omega
        case rel => exact ⟨lo, (lo + hi) / 2, nq, rfl, by rw [show ((lo : Int) + (hi : Int)) / 2 = (((lo + hi) / 2 : Nat) : Int) by omega], by omega, by omega, Nat.le_refl _, rfl, I.out⟩
      · have HP : Hid (p ((lo + hi) / 2) = true) := hp
        clear hp
        go_wp2_with (go_at_call 44; refine hc.mono ?_; rintro e w' ⟨rfl, nq, rfl⟩)
        go_roundg (hi - ((lo + hi) / 2 + 1))
        case measure => omega
        case rel => exact ⟨(lo + hi) / 2 + 1, hi, nq, by rw [show ((lo : Int) + (hi : Int)) / 2 + 1 = (((lo + hi) / 2 + 1 : Nat) : Int) by omega], rfl, by omega, hin, Nat.le_refl _, rfl, (.inr HP.out : _ ∨ p ((lo + hi) / 2 + 1 - 1) = true)⟩
    · go_wp2
      go_ret
      exact ⟨lo, rfl, by omega, I.out, q, rfl⟩

theorem lst_at {p : Nat → Bool} {lo : Nat} (h : lo = 0 ∨ p (lo - 1) = true) : lst p lo = (lo : Int) - 1 := by
  rcases h with rfl | h
  · rfl
  · cases lo with
    | zero => rfl
    | succ m =>
      rw [Nat.add_sub_cancel] at h
      rw [lst, if_pos h]; omega
set_option maxHeartbeats 4000000 in
theorem child_any (level : Int) (a : Option Addr) (len cap : Nat) (l : List St) (key : K) (w : World) (h : ZArg w a len cap l) (hl : len < 4611686018427387904) :
    Calls Try.prog 20 #[.agg #[.int .i64 level, .slice a len cap], .string key] w fun e w' => e = .returned (.int .i64 (chl l key)) ∧ Below w.heap.size w w' := by
  obtain ⟨W, hW⟩ : ∃ W, W = (w.alloc (.cells #[.int .i64 level, .slice a len cap] 31)).alloc (.cells #[.string key] 9) := ⟨_, rfl⟩
  obtain ⟨hR1, hR2, hBW⟩ := two_boxes w [.int .i64 level, .slice a len cap] [.string key] 31 9 W hW
  have c1 : W.cell? ⟨w.heap.size, 1, none⟩ = some (.slice a len cap) := hR1.cell (i := 1) rfl
  have HC : Hid (∀ (m i : Nat), i < len → Calls Try.prog 44 #[.int .i64 (i : Int), .pointer (some ⟨w.heap.size, 0, none⟩), .pointer (some ⟨w.heap.size + 1, 0, none⟩)] (W.drewN m) fun e w' => e = .returned (.bool (!noG l key i)) ∧ ∃ q, w' = W.drewN q) := fun m i hi => by
    refine (child1_any w.heap.size (w.heap.size + 1) level a len cap l key i (W.drewN m) hi (h.later (bafter hBW (below_drawn W m))) (hR1.drewN m) (hR2.drewN m)).mono ?_
    rintro e w' ⟨rfl, q, rfl⟩
    exact ⟨rfl, m + q, by rw [World.drewN_drewN]⟩
  have ks := search_child #[.pointer (some ⟨w.heap.size, 0, none⟩), .pointer (some ⟨w.heap.size + 1, 0, none⟩)] len (noG l key) W hl HC.out
  have HBW : Hid (Below w.heap.size w W) := hBW
  have hlen : l.length = len := h.len_eq.symm
  obtain ⟨p, hp⟩ : ∃ p, p = noG l key := ⟨_, rfl⟩
  unfold chl
  rw [hlen]
  rw [← hp] at HC ks ⊢
  clear hR1 hR2 hBW h hp hlen
  go_enter Try.func20, Try.ntmps20
  go_wp2_with fail
  rw [← hW]
  clear hW
  go_wp2_with (go_at_call 45; refine ks.mono ?_; rintro e w1 ⟨lo, rfl, hlo, hpp, q, rfl⟩; have HP : Hid (lst p lo = (lo : Int) - 1) := lst_at hpp; clear hpp)
  clear ks
  go_loopg [6, 7] len (fun kx s6 s7 wr => ∃ (m q : Nat) (z : Int), m ≤ len ∧ len - m ≤ kx ∧ s7 = .int .i64 (m : Nat) ∧ s6 = .int .i64 z ∧ wr = W.drewN q ∧ Hid (z = lst p m))
  case atStart => exact ⟨lo, _, _, hlo, by omega, by go_num, rfl, rfl, HP.out.symm⟩
  case round =>
    obtain ⟨m, q, z, hm, hk, rfl, rfl, rfl, I⟩ := hrel
    by_cases hlt : m < len
    · have hc := HC.out q m hlt
      have hi1 : (m : Int) < (len : Int) := by omega
      cases hpm : p m with
      | false =>
        rw [hpm] at hc
        have HI : Hid (z = lst p (m + 1)) := by show _ = _; rw [lst, hpm]; exact I.out
        go_wp2_with (go_at_call 44; refine hc.mono ?_; rintro e w' ⟨rfl, nq, rfl⟩)
        go_roundg (len - (m + 1))
        case measure => omega
        case rel => exact ⟨m + 1, nq, z, by omega, by omega, by go_num, rfl, rfl, HI.out⟩
      | true =>
        rw [hpm] at hc
        have HI : Hid ((m : Int) = lst p (m + 1)) := by show _ = _; rw [lst, hpm]; rfl
        go_wp2_with (go_at_call 44; refine hc.mono ?_; rintro e w' ⟨rfl, nq, rfl⟩)
        go_roundg (len - (m + 1))
        case measure => omega
        case rel => exact ⟨m + 1, nq, m, by omega, by omega, by go_num, rfl, rfl, HI.out⟩
    · have hml : m = len := by omega
      have HI : Hid (z = lst p len) := by rw [← hml]; exact I.out
      have hi1 : ¬ (m : Int) < (len : Int) := by omega
      clear hml
      go_wp2
      go_ret
      exact ⟨by rw [← HI.out]; rfl, bafter HBW.out (below_drawn W _)⟩
end Go.Proofs.Ytfalbbcbgkiejaa
