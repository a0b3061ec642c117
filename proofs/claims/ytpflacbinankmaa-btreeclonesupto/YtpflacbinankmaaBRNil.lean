/-
  The document's tree, where there is none; a list that is unlike another.
-/
import Derived.Test.YtpflacbinankmaaBNext
import Derived.Test.YtpflacbinankmaaBSame
import Derived.Test.YtpflacbinankmaaBCloneT
import Derived.Deep.RegionHeld3
namespace Go.Proofs.Ytpflacbinankmaa.Bt
open Go.RowKit
set_option maxRecDepth 10000

set_option maxHeartbeats 1000000 in
theorem rget_nil (k : K) (w : World) : Calls Try.prog 33 #[.pointer none, .string k] w fun e w' => e = .returned (.tuple #[.string ⟨#[]⟩, .bool false]) ∧ w = w' := by
  go_enter Try.func33, Try.ntmps33
  go_wp2
  go_loopg [6] 0 (fun kx s wr => kx = 0 ∧ s = .int .i64 0 ∧ wr = w)
  case atStart => exact ⟨rfl, rfl, rfl⟩
  case round =>
    obtain ⟨rfl, rfl, rfl⟩ := hrel
    go_wp2
    go_ret2
    exact ⟨rfl, rfl⟩
set_option maxHeartbeats 1000000 in
theorem rput_nil (k v : K) (w : World) : Calls Try.prog 31 #[.pointer none, .string k, .string v] w fun e w' => e = .returned (.int .i64 14) ∧ w = w' := by
  go_enter Try.func31, Try.ntmps31
  go_wp2
  go_ret
  exact ⟨rfl, rfl⟩
set_option maxHeartbeats 1000000 in
theorem rdel_nil (k : K) (w : World) : Calls Try.prog 30 #[.pointer none, .string k] w fun e w' => e = .returned (.bool false) ∧ w = w' := by
  go_enter Try.func30, Try.ntmps30
  go_wp2_with (go_at_call 33; refine (rget_nil k w).mono ?_; rintro e w' ⟨rfl, rfl⟩)
  go_ret
  exact ⟨rfl, rfl⟩
set_option maxHeartbeats 1000000 in
theorem rrange_nil (k to : K) (m : Int) (w : World) : Calls Try.prog 34 #[.pointer none, .string k, .string to, .int .i64 m] w fun e w' => e = .returned (.slice none 0 0) ∧ w = w' := by
  go_enter Try.func34, Try.ntmps34
  go_wp2
  go_loopg [9, 10] 0 (fun kx s7 s8 wr => kx = 0 ∧ s7 = .slice none 0 0 ∧ s8 = .int .i64 0 ∧ wr = w)
  case atStart => exact ⟨rfl, rfl, rfl, rfl⟩
  case round =>
    obtain ⟨rfl, rfl, rfl, rfl⟩ := hrel
    go_wp2
    go_ret
    exact ⟨rfl, rfl⟩
set_option maxHeartbeats 1000000 in
theorem rnext_nil (k : K) (w : World) : Calls Try.prog 35 #[.pointer none, .string k] w fun e w' => e = .returned (nxtV none) ∧ Below w.heap.size w w' := by
  go_enter Try.func35, Try.ntmps35
  go_wp2
  go_loopg [6] 0 (fun kx s wr => kx = 0 ∧ s = .int .i64 0 ∧ wr = w.alloc (.cells #[.string ⟨#[]⟩, .string ⟨#[]⟩, .bool false] 54))
  case atStart => exact ⟨rfl, rfl, rfl⟩
  case round =>
    obtain ⟨rfl, rfl, rfl⟩ := hrel
    go_wp2
    refine bodyPost_ret (v := nxtV none) ?_ rfl ⟨rfl, below_new w _⟩
    simp [results, Try.f35, go_sem, nxtV, nodeOf]
set_option maxHeartbeats 1000000 in
theorem same_no (v u : Value) (l1 l2 : List KV) (w : World) (hv : NdAt w v l1) (hu : NdAt w u l2) (hne : l1.length ≠ l2.length) :
    Calls Try.prog 16 #[v, u] w fun e w' => e = .returned (.bool false) ∧ Below w.heap.size w w' := by
  obtain ⟨a, ca, ea⟩ := own_slice hv.own
  obtain ⟨b, cb, eb⟩ := own_slice hu.own
  subst ea eb
  clear hv hu
  generalize l1.length = N at *
  generalize l2.length = M at *
  have h1 : ((N : Int) != (M : Int)) = true := by simp; omega
  have h2 : ¬ (N : Int) = (M : Int) := by omega
  clear hne
  go_enter Try.func16, Try.ntmps16
  go_wp2
  go_ret
  exact ⟨rfl, Below.refl _ _⟩
set_option maxHeartbeats 1000000 in
theorem range_low (p : Nat) (k to : K) (m : Int) (w : World) (hm : m ≤ 0) : Calls Try.prog 17 #[.pointer (some ⟨p, 0, none⟩), .string k, .string to, .int .i64 m] w fun e w' => e = .returned (.slice none 0 0) ∧ Below w.heap.size w w' := by
  go_enter Try.func17, Try.ntmps17
  go_wp2
  refine bodyPost_ret (v := .slice none 0 0) ?_ rfl ⟨rfl, ?_⟩
  · simp [results, Try.f17, go_sem]
  · have h1 := below_new w (.cells #[.string k] 9)
    have h2 := bafter h1 (below_new _ (.cells #[.string to] 9))
    have h3 := bafter h2 (below_new _ (.cells #[.int .i64 m] 3))
    exact bafter h3 (below_new _ (.cells #[.slice none 0 0] 22))
theorem range_all {w : World} {p F : Nat} {x : Tre} {fs : List Nat} (h : Live w p F x fs) (k to : K) (m : Int) (hm2 : m < 9223372036854775808) (hsz : x.all.length < 1073741824) :
    Calls Try.prog 17 #[.pointer (some ⟨p, 0, none⟩), .string k, .string to, .int .i64 m] w fun e w' => ∃ v, e = .returned v ∧ NdAt w' v (rng k to m.toNat x.all) ∧ Below w.heap.size w w' := by
  by_cases hm : m ≤ 0
  · refine (range_low p k to m w hm).mono ?_
    rintro e w' ⟨rfl, hb⟩
    refine ⟨_, rfl, ⟨?_⟩, hb⟩
    have : rng k to m.toNat x.all = [] := by rw [show m.toNat = 0 by omega]; simp [rng]
    rw [this]
    exact World.ownsRow_nil _ 0 _ 3
  · obtain ⟨M, rfl⟩ : ∃ M : Nat, m = (M : Int) := ⟨m.toNat, by omega⟩
    refine (h.range k to M (by omega) (by omega) (.inr hsz)).mono ?_
    rintro e w' ⟨v, rfl, ht⟩
    exact ⟨v, rfl, ht.at, ht.2⟩
/-- Whether two lists are the same, whatever they are: where one is empty. -/
theorem same_nil (v : Value) (l : List KV) (w : World) (hv : NdAt w v l) (hl : l.length ≤ 4611686018427387904) :
    Calls Try.prog 16 #[v, .slice none 0 0] w fun e w' => ∃ b, e = .returned (.bool b) ∧ Below w.heap.size w w' := by
  have hu : NdAt w (.slice none 0 0) [] := ⟨World.ownsRow_nil _ 0 _ 3⟩
  cases l with
  | nil =>
    refine (same_yes _ _ [] w hv hu (by simp)).mono ?_
    rintro e w' ⟨rfl, hb⟩
    exact ⟨_, rfl, hb⟩
  | cons a r =>
    refine (same_no _ _ _ _ w hv hu (by simp)).mono ?_
    rintro e w' ⟨rfl, hb⟩
    exact ⟨_, rfl, hb⟩
end Go.Proofs.Ytpflacbinankmaa.Bt
