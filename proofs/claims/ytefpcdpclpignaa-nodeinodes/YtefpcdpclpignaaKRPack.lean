/-
  The document's answers: put, get, Right, Pack, Size and Mark of layer 6.
-/
import Derived.Test.YtefpcdpclpignaaKPM
import Derived.Test.YtefpcdpclpignaaRGet
import Derived.Deep.RegionHeld3
namespace Go.Proofs.Ytefpcdpclpignaa
open Go.RowKit M

theorem brow_conv {w : World} {a : Option Addr} {m c : Nat} {l : List Nat} (hm : l.length = m) (h : BRow w a l) :
    (convert 43 9 (.slice a m c)).run Try.prog w = .ok (.string (bs (u8s l))) w := by
  subst hm
  exact conv_row c h

set_option maxRecDepth 10000 in
theorem rput_any (n m : Nat) (hn : n < 9223372036854775808) (hm : m ≤ 8) (w : World) :
    Calls Try.prog 63 #[.int .i64 (n : Int), .int .i64 (m : Int)] w fun e w' => e = .returned (.string (bs (u8s (putL m n)))) ∧ Below w.heap.size w w' := by
  have hp := fun W => ref_put n (by omega) (m : Int) m (by unfold putN; omega) W
  have hl := putL_length m n
  obtain ⟨L, hL⟩ : ∃ L, L = putL m n := ⟨_, rfl⟩
  rw [← hL] at hp hl ⊢
  have n0 : (0 : Int) ≤ (n : Int) := by omega
  have n1 : (n : Int) < 18446744073709551616 := by omega
  clear hL
  go_enter Try.func63, Try.ntmps63
  go_wp2_with (go_at_call 73; refine (hp _).mono ?_; rintro e w1 ⟨v, rfl, ho⟩; obtain ⟨a, c, rfl, hr, _⟩ := own_len hl ho; have hcv := brow_conv (c := c) hl hr; have HB : Hid (Below w.heap.size w w1) := ho.2; clear ho hr)
  go_ret
  exact ⟨rfl, HB.out⟩

theorem rget_at_bytes (s : List UInt8) (hs : s.length ≤ maxLen) (cap : Nat) (w : World) :
    Calls Try.prog 78 #[.slice (some ⟨w.heap.size, 0, none⟩) s.length cap] (Lib.bytesWorld w 5 (bs s)) fun e w' => e = .returned (.int .u64 (getL ((nats s).take 8) : Nat)) ∧ Lib.bytesWorld w 5 (bs s) = w' := by
  have := ref_get (some ⟨w.heap.size, 0, none⟩) cap (nats s) (Lib.bytesWorld w 5 (bs s)) (by rw [nats_length]; exact hs) (nats_lt s) (bytes_row s w)
  rw [nats_length] at this
  exact this
/-- A short text's number. -/
theorem rget_any (s : List UInt8) (h4 : s.length ≤ 4) (w : World) :
    Calls Try.prog 66 #[.string (bs s)] w fun e w' => e = .returned (.int .i64 (getL (nats s) : Nat)) ∧ Below w.heap.size w w' := by
  have hg := fun cap W => rget_at_bytes s (by unfold maxLen; omega) cap W
  have e8 : (nats s).take 8 = nats s := List.take_of_length_le (by rw [nats_length]; omega)
  rw [e8] at hg
  have hcv := fun W => to_bytes s W
  have HB : Hid (∀ W, Below W.heap.size W (Lib.bytesWorld W 5 (bs s))) := fun W => bytes_below _ W
  have hv : getL (nats s) < 4294967296 := by
    have h1 := getL_lt (nats s) (nats_lt s)
    have h2 : (256 : Nat) ^ (nats s).length ≤ 256 ^ 4 := Nat.pow_le_pow_right (by decide) (by rw [nats_length]; exact h4)
    omega
  obtain ⟨v, ev⟩ : ∃ v, v = getL (nats s) := ⟨_, rfl⟩
  obtain ⟨S, eS⟩ : ∃ S, S = bs s := ⟨_, rfl⟩
  obtain ⟨n, en⟩ : ∃ n, n = s.length := ⟨_, rfl⟩
  rw [← ev, ← eS, ← en] at hg
  rw [← ev] at hv ⊢
  rw [← eS] at hcv HB ⊢
  rw [← en] at hcv
  clear ev eS en e8 h4
  go_enter Try.func66, Try.ntmps66
  go_wp2_with (go_at_call 78; refine (hg _ _).mono ?_; rintro e w1 ⟨rfl, rfl⟩)
  go_ret
  exact ⟨rfl, HB.out _⟩

set_option maxRecDepth 10000 in
set_option maxHeartbeats 1000000 in
theorem rright6_any (n : Nd) (hk : n.key.length ≤ maxLen) (hv : n.val.length ≤ maxLen) (w : World) :
    Calls Try.prog 39 #[n.v] w fun e w' => e = .returned (.bool n.ok) ∧ Below w.heap.size w w' := by
  obtain ⟨key, val, gone⟩ := n
  unfold maxLen at hk hv
  dsimp only at hk hv
  show Calls Try.prog 39 #[.agg #[.string (bs key), .string (bs val), .bool gone]] w fun e w' => e = .returned (.bool (!(gone && !val.isEmpty) && inB key.length 1 64 && decide (val.length ≤ 256))) ∧ Below w.heap.size w w'
  have z1 := bs_size key
  have z2 := bs_size val
  have l2 := bs_toList val
  obtain ⟨K, eK⟩ : ∃ K, K = bs key := ⟨_, rfl⟩
  obtain ⟨V, eV⟩ : ∃ V, V = bs val := ⟨_, rfl⟩
  rw [← eK] at z1 ⊢
  rw [← eV] at z2 l2 ⊢
  rw [← z1] at hk ⊢
  rw [← z2] at hv ⊢
  clear z1 z2
  have e1 : V.toList.isEmpty = val.isEmpty := by rw [l2]
  have e2 : (V.toList == []) = val.isEmpty := by rw [l2]; cases val <;> rfl
  have e3 : (V.toList != []) = !val.isEmpty := by rw [l2]; cases val <;> rfl
  obtain ⟨b, eb⟩ : ∃ b, b = val.isEmpty := ⟨_, rfl⟩
  rw [← eb] at e1 e2 e3 ⊢
  clear eb l2 eK eV
  have hin : inB (K.size : Nat) 1 64 = (decide ((1 : Int) ≤ (K.size : Int)) && decide ((K.size : Int) ≤ 64)) := by unfold inB; rw [Bool.eq_iff_iff]; simp
  have hvl : decide (V.size ≤ 256) = decide ((V.size : Int) ≤ 256) := decide_eq_decide.2 (by omega)
  rw [hin, hvl]
  clear hin hvl
  cases d1 : decide ((1 : Int) ≤ (K.size : Int))
  rotate_left
  cases d2 : decide ((K.size : Int) ≤ 64)
  rotate_left
  cases d3 : decide ((V.size : Int) ≤ 256)
  rotate_left
  cases gone
  rotate_left
  cases b
  all_goals
    go_enter Try.func39, Try.ntmps39
    go_wp2
    go_ret
    exact ⟨by simp, below_new _ _⟩
end Go.Proofs.Ytefpcdpclpignaa
