/-
  What the chip's inner functions answer: view, reach, has.
-/
import Derived.Test.YtiejkbncpbhcdaaCMem
namespace Go.Proofs.Ytiejkbncpbhcdaa
open Go.RowKit

theorem within_any (n a b : Int) (w : World) : Calls Try.prog 19 #[.int .i64 n, .int .i64 a, .int .i64 b] w fun e w' => e = .returned (.bool (decide (a ≤ n ∧ n ≤ b))) ∧ w = w' := by
  by_cases h1 : a ≤ n
  · go_enter Try.func19, Try.ntmps19
    go_wp2
    go_ret
    exact ⟨by simp [h1], rfl⟩
  · go_enter Try.func19, Try.ntmps19
    go_wp2
    go_ret
    exact ⟨by simp; omega, rfl⟩

theorem view_nil (n : Int) (w : World) : Calls Try.prog 60 #[.pointer none, .int .i64 n] w fun e w' => e = .returned (.pointer none) ∧ w = w' := by
  go_enter Try.func60, Try.ntmps60
  go_wp2
  go_ret
  exact ⟨rfl, rfl⟩
theorem view_no (p q m cap : Nat) (n : Int) (w : World) (hc : w.cell? ⟨p, 4, none⟩ = some (.slice (some ⟨q, 0, none⟩) m cap)) (hn : n < 0 ∨ (m : Int) ≤ n) :
    Calls Try.prog 60 #[.pointer (some ⟨p, 0, none⟩), .int .i64 n] w fun e w' => e = .returned (.pointer none) ∧ w = w' := by
  by_cases h0 : n < 0
  · go_enter Try.func60, Try.ntmps60
    go_wp2
    go_ret
    exact ⟨rfl, rfl⟩
  · have h1 : (m : Int) ≤ n := by omega
    clear hn
    go_enter Try.func60, Try.ntmps60
    go_wp2
    go_ret
    exact ⟨rfl, rfl⟩
theorem view_yes (p q m cap i : Nat) (w : World) (hc : w.cell? ⟨p, 4, none⟩ = some (.slice (some ⟨q, 0, none⟩) m cap)) (hi : i < m) :
    Calls Try.prog 60 #[.pointer (some ⟨p, 0, none⟩), .int .i64 i] w fun e w' => e = .returned (.pointer (some ⟨q, i * 4, none⟩)) ∧ w = w' := by
  have h0 : ¬ (i : Int) < 0 := by omega
  have h1 : ¬ (m : Int) ≤ (i : Int) := by omega
  have h2 : (i : Int) < (m : Int) := by omega
  go_enter Try.func60, Try.ntmps60
  go_wp2
  go_ret
  exact ⟨rfl, rfl⟩
theorem reach_nil (n : Int) (w : World) : Calls Try.prog 29 #[.pointer none, .int .i64 n] w fun e w' => e = .returned (.tuple #[.pointer none, .int .i64 14]) ∧ w = w' := by
  go_enter Try.func29, Try.ntmps29
  go_wp2_with (go_at_call 60; refine (view_nil n _).mono ?_; rintro e w' ⟨rfl, rfl⟩)
  go_ret2
  exact ⟨rfl, rfl⟩
theorem reach_off (p q m cap : Nat) (n : Int) (w : World) (hc : w.cell? ⟨p, 4, none⟩ = some (.slice (some ⟨q, 0, none⟩) m cap)) (ho : w.cell? ⟨p, 5, none⟩ = some (.bool false)) :
    Calls Try.prog 29 #[.pointer (some ⟨p, 0, none⟩), .int .i64 n] w fun e w' => e = .returned (.tuple #[.pointer none, .int .i64 6]) ∧ w = w' := by
  have hv : Calls Try.prog 60 #[.pointer (some ⟨p, 0, none⟩), .int .i64 n] w fun e w' => (∃ u, e = .returned (.pointer u)) ∧ w = w' := by
    by_cases h : n < 0 ∨ (m : Int) ≤ n
    · exact (view_no p q m cap n w hc h).mono fun e w' ⟨h1, h2⟩ => ⟨⟨_, h1⟩, h2⟩
    · obtain ⟨i, rfl⟩ : ∃ i : Nat, n = i := ⟨n.toNat, by omega⟩
      exact (view_yes p q m cap i w hc (by omega)).mono fun e w' ⟨h1, h2⟩ => ⟨⟨_, h1⟩, h2⟩
  go_enter Try.func29, Try.ntmps29
  go_wp2_with (go_at_call 60; refine hv.mono ?_; rintro e w' ⟨⟨u, rfl⟩, rfl⟩)
  go_ret2
  exact ⟨rfl, rfl⟩
theorem reach_no (p q m cap : Nat) (n : Int) (w : World) (hc : w.cell? ⟨p, 4, none⟩ = some (.slice (some ⟨q, 0, none⟩) m cap)) (ho : w.cell? ⟨p, 5, none⟩ = some (.bool true)) (hn : n < 0 ∨ (m : Int) ≤ n) :
    Calls Try.prog 29 #[.pointer (some ⟨p, 0, none⟩), .int .i64 n] w fun e w' => e = .returned (.tuple #[.pointer none, .int .i64 22]) ∧ w = w' := by
  have hv := view_no p q m cap n w hc hn
  clear hn
  go_enter Try.func29, Try.ntmps29
  go_wp2_with (go_at_call 60; refine hv.mono ?_; rintro e w' ⟨rfl, rfl⟩)
  go_ret2
  exact ⟨rfl, rfl⟩
theorem reach_yes (p q m cap i : Nat) (w : World) (hc : w.cell? ⟨p, 4, none⟩ = some (.slice (some ⟨q, 0, none⟩) m cap)) (ho : w.cell? ⟨p, 5, none⟩ = some (.bool true)) (hi : i < m) :
    Calls Try.prog 29 #[.pointer (some ⟨p, 0, none⟩), .int .i64 i] w fun e w' => e = .returned (.tuple #[.pointer (some ⟨q, i * 4, none⟩), .int .i64 0]) ∧ w = w' := by
  have hv := view_yes p q m cap i w hc hi
  go_enter Try.func29, Try.ntmps29
  go_wp2_with (go_at_call 60; refine hv.mono ?_; rintro e w' ⟨rfl, rfl⟩)
  go_ret2
  exact ⟨rfl, rfl⟩
theorem has_any (q o r len cap : Nat) (n : Int) (w : World) (hc : w.cell? ⟨q, o, none⟩ = some (.slice (some ⟨r, 0, none⟩) len cap)) :
    Calls Try.prog 52 #[.pointer (some ⟨q, o, none⟩), .int .i64 n] w fun e w' => e = .returned (.bool (decide (0 ≤ n ∧ n < (len : Int)))) ∧ w = w' := by
  by_cases h1 : 0 ≤ n
  · go_enter Try.func52, Try.ntmps52
    go_wp2
    go_ret
    exact ⟨by simp [h1], rfl⟩
  · go_enter Try.func52, Try.ntmps52
    go_wp2
    go_ret
    exact ⟨by simp; omega, rfl⟩
end Go.Proofs.Ytiejkbncpbhcdaa
