/-
  Nodes and marks as bytes: what Right, tagOf, packed, Pack, isCount and Mark of package node answer.
-/
import Derived.Test.YtefpcdpclpignaaKApp
namespace Go.Proofs.Ytefpcdpclpignaa
open Go.RowKit M

/-- May a node be so? -/
def Nd.ok (n : Nd) : Bool := !(n.gone && !n.val.isEmpty) && inB n.key.length 1 64 && decide (n.val.length ≤ 256)
/-- The byte that a node's bytes begin with. -/
def Nd.tag (n : Nd) : Nat := bif n.gone then 2 else 1
/-- A node as bytes. -/
def Nd.bytes (n : Nd) : List Nat := [n.tag] ++ putL 1 n.key.length ++ nats n.key ++ putL 2 n.val.length ++ nats n.val
theorem Nd.bytes_len (n : Nd) : n.bytes.length = 4 + n.key.length + n.val.length := by
  simp [Nd.bytes, putL_length, nats_length]; omega

set_option maxRecDepth 10000 in
set_option maxHeartbeats 1000000 in
theorem nright_any (n : Nd) (hk : n.key.length ≤ maxLen) (hv : n.val.length ≤ maxLen) (w : World) :
    Calls Try.prog 38 #[n.v] w fun e w' => e = .returned (.bool n.ok) ∧ Below w.heap.size w w' := by
  obtain ⟨key, val, gone⟩ := n
  unfold maxLen at hk hv
  dsimp only at hk hv
  show Calls Try.prog 38 #[.agg #[.string (bs key), .string (bs val), .bool gone]] w fun e w' => e = .returned (.bool (!(gone && !val.isEmpty) && inB key.length 1 64 && decide (val.length ≤ 256))) ∧ Below w.heap.size w w'
  have z1 := bs_size key
  have z2 := bs_size val
  have l2 := bs_toList val
  obtain ⟨K, eK⟩ : ∃ K, K = bs key := ⟨_, rfl⟩
  obtain ⟨V, eV⟩ : ∃ V, V = bs val := ⟨_, rfl⟩
  rw [← eK] at z1 ⊢
  rw [← eV] at z2 l2 ⊢
  rw [← z1] at hk ⊢
  rw [← z2] at hv ⊢
  clear z1 z2
  have e1 : V.toList.isEmpty = val.isEmpty := by rw [l2]
  have e2 : (V.toList == []) = val.isEmpty := by rw [l2]; cases val <;> rfl
  have e3 : (V.toList != []) = !val.isEmpty := by rw [l2]; cases val <;> rfl
  obtain ⟨b, eb⟩ : ∃ b, b = val.isEmpty := ⟨_, rfl⟩
  rw [← eb] at e1 e2 e3 ⊢
  clear eb l2 eK eV
  cases gone
  · cases h1 : inB (K.size : Nat) 1 64
    all_goals
      go_enter Try.func38, Try.ntmps38
      go_wp2_with (go_at_call 68; refine (within_in _ _ _ _).mono ?_; rintro e wi ⟨rfl, rfl⟩)
      go_ret
      exact ⟨by simp; try omega, below_new _ _⟩
  · cases b
    · go_enter Try.func38, Try.ntmps38
      go_wp2
      go_ret
      exact ⟨rfl, below_new _ _⟩
    · cases h1 : inB (K.size : Nat) 1 64
      all_goals
        go_enter Try.func38, Try.ntmps38
        go_wp2_with (go_at_call 68; refine (within_in _ _ _ _).mono ?_; rintro e wi ⟨rfl, rfl⟩)
        go_ret
        exact ⟨by simp; try omega, below_new _ _⟩

theorem tagOf_any (n : Nd) (w : World) :
    Calls Try.prog 70 #[n.v] w fun e w' => e = .returned (.int .u8 (n.tag : Nat)) ∧ Below w.heap.size w w' := by
  obtain ⟨key, val, gone⟩ := n
  show Calls Try.prog 70 #[.agg #[.string (bs key), .string (bs val), .bool gone]] w fun e w' => e = .returned (.int .u8 ((bif gone then 2 else 1 : Nat) : Int)) ∧ Below w.heap.size w w'
  cases gone
  all_goals
    go_enter Try.func70, Try.ntmps70
    go_wp2
    go_ret
    exact ⟨rfl, below_new _ _⟩
theorem packed_any (n : Nd) (hk : n.key.length ≤ 64) (hv : n.val.length ≤ 256) (w : World) :
    Calls Try.prog 69 #[n.v] w fun e w' => e = .returned (.int .i64 ((4 + n.key.length + n.val.length : Nat) : Int)) ∧ Below w.heap.size w w' := by
  obtain ⟨key, val, gone⟩ := n
  dsimp only at hk hv
  show Calls Try.prog 69 #[.agg #[.string (bs key), .string (bs val), .bool gone]] w fun e w' => e = .returned (.int .i64 ((4 + key.length + val.length : Nat) : Int)) ∧ Below w.heap.size w w'
  have z1 := bs_size key
  have z2 := bs_size val
  obtain ⟨K, eK⟩ : ∃ K, K = bs key := ⟨_, rfl⟩
  obtain ⟨V, eV⟩ : ∃ V, V = bs val := ⟨_, rfl⟩
  rw [← eK] at z1 ⊢
  rw [← eV] at z2 ⊢
  rw [← z1] at hk ⊢
  rw [← z2] at hv ⊢
  clear eK eV z1 z2
  go_enter Try.func69, Try.ntmps69
  go_wp2
  go_ret
  exact ⟨rfl, below_new _ _⟩
theorem isCount_any (n : Int) (w : World) :
    Calls Try.prog 72 #[.int .i64 n] w fun e w' => e = .returned (.bool (inB n 1 16)) ∧ w = w' := by
  have h := fun W => within_in n 1 16 W
  obtain ⟨c, hc⟩ : ∃ c, c = inB n 1 16 := ⟨_, rfl⟩
  rw [← hc] at h ⊢
  clear hc
  go_enter Try.func72, Try.ntmps72
  go_wp2_with (go_at_call 68; refine (h _).mono ?_; rintro e w1 ⟨rfl, rfl⟩)
  go_ret
  exact ⟨rfl, rfl⟩
end Go.Proofs.Ytefpcdpclpignaa
