/-
  Proved: the statement on Get of Put (BitsGet): for every number and every count of bytes, what was put is got as far as its bytes go; no condition.
-/
import Derived.Test.YtnogfmfagambeaaAlive
import Derived.ProofKit
import Derived.OpenShut
import Derived.ShutString
namespace Go.Proofs.Ytnogfmfagambeaa.bitsGet
open Go.ChangeShapes Go.WideShapes Go.ChangeAt Go.RowKit M
open Go.ChangeMaps (open_string shut_string)

theorem own : ownKnob Try.prog.godebug = none := by kernel_rfl
theorem and_mask (n k : Nat) (hn : n < 18446744073709551616) (hk : k < 64) (K : Nat) (hK : K = 2 ^ k - 1) : bits BinOp.and IntKind.u64 (n : Int) (K : Int) = ((n % 2 ^ k : Nat) : Int) := by
  subst hK
  have h2 : 2 ^ k ≤ 2 ^ 63 := Nat.pow_le_pow_right (by decide) (by omega)
  rw [u64_and_nat n (2 ^ k - 1) hn (by omega), Nat.and_two_pow_sub_one_eq_mod]
theorem get_put (m n : Nat) (hm : m ≤ 8) : getL ((putL m n).take 8) = n % 256 ^ m := by
  rw [List.take_of_length_le (by rw [putL_length]; exact hm), getL_putL]
theorem pow_256 (m : Nat) : 256 ^ m = 2 ^ (8 * m) := by rw [Nat.pow_mul]

set_option maxHeartbeats 400000 in
theorem walk_out (n : Int) (bytes : Int) (h : bytes < 0 ∨ 8 < bytes) (w : World) :
    Calls Try.prog 6 #[.int .u64 n, .int .i64 bytes] w fun e w' => e = .returned (.bool true) ∧ Below w.heap.size w w' := by
  rcases h with h | h
  · go_enter Try.func6, Try.ntmps6
    go_wp2_with (go_at_call 17; refine (alive_any _).mono ?_; rintro e w1 ⟨rfl, hb⟩)
    go_ret
    exact ⟨rfl, hb⟩
  · have h2 : ¬ bytes < 0 := by omega
    go_enter Try.func6, Try.ntmps6
    go_wp2_with (go_at_call 17; refine (alive_any _).mono ?_; rintro e w1 ⟨rfl, hb⟩)
    go_ret
    exact ⟨rfl, hb⟩

set_option maxHeartbeats 400000 in
theorem walk_0 (n : Nat) (hn : n < 18446744073709551616) (w : World) :
    Calls Try.prog 6 #[.int .u64 n, .int .i64 0] w fun e w' => e = .returned (.bool true) ∧ Below w.heap.size w w' := by
  obtain ⟨q, hq⟩ : ∃ q, q = n % 256 ^ 0 := ⟨_, rfl⟩
  have hand : bits BinOp.and IntKind.u64 (n : Int) 0 = (q : Int) := by rw [hq, pow_256]; exact and_mask n 0 hn (by decide) 0 (by decide)
  have HQ : Hid (q = getL ((putL 0 n).take 8)) := by rw [get_put 0 n (by decide)]; exact hq
  clear hq
  go_enter Try.func6, Try.ntmps6
  go_wp2_with (first
    | (go_at_call 9; refine (put_any n hn 0 0 rfl w).mono ?_; rintro e w1 ⟨rfl, ho⟩; have hb1 := ho.2; have hp := own_at ho; clear ho)
    | (go_at_call 11; refine (get_at _ _ (putL 0 n) w1 0 q (putL_length _ _).symm HQ.out (by rw [putL_length]; decide) (putL_lt _ _) hp).mono ?_; rintro e w' ⟨rfl, rfl⟩)
    | (go_at_call 17; refine (alive_any _).mono ?_; rintro e w2 ⟨rfl, hb⟩))
  go_ret
  exact ⟨rfl, Below.after hb1 hb⟩

set_option maxHeartbeats 400000 in
theorem walk_1 (n : Nat) (hn : n < 18446744073709551616) (w : World) :
    Calls Try.prog 6 #[.int .u64 n, .int .i64 1] w fun e w' => e = .returned (.bool true) ∧ Below w.heap.size w w' := by
  obtain ⟨q, hq⟩ : ∃ q, q = n % 256 ^ 1 := ⟨_, rfl⟩
  have hand : bits BinOp.and IntKind.u64 (n : Int) 255 = (q : Int) := by rw [hq, pow_256]; exact and_mask n 8 hn (by decide) 255 (by decide)
  have HQ : Hid (q = getL ((putL 1 n).take 8)) := by rw [get_put 1 n (by decide)]; exact hq
  clear hq
  go_enter Try.func6, Try.ntmps6
  go_wp2_with (first
    | (go_at_call 9; refine (put_any n hn 1 1 rfl w).mono ?_; rintro e w1 ⟨rfl, ho⟩; have hb1 := ho.2; have hp := own_at ho; clear ho)
    | (go_at_call 11; refine (get_at _ _ (putL 1 n) w1 1 q (putL_length _ _).symm HQ.out (by rw [putL_length]; decide) (putL_lt _ _) hp).mono ?_; rintro e w' ⟨rfl, rfl⟩)
    | (go_at_call 17; refine (alive_any _).mono ?_; rintro e w2 ⟨rfl, hb⟩))
  go_ret
  exact ⟨rfl, Below.after hb1 hb⟩

set_option maxHeartbeats 400000 in
theorem walk_2 (n : Nat) (hn : n < 18446744073709551616) (w : World) :
    Calls Try.prog 6 #[.int .u64 n, .int .i64 2] w fun e w' => e = .returned (.bool true) ∧ Below w.heap.size w w' := by
  obtain ⟨q, hq⟩ : ∃ q, q = n % 256 ^ 2 := ⟨_, rfl⟩
  have hand : bits BinOp.and IntKind.u64 (n : Int) 65535 = (q : Int) := by rw [hq, pow_256]; exact and_mask n 16 hn (by decide) 65535 (by decide)
  have HQ : Hid (q = getL ((putL 2 n).take 8)) := by rw [get_put 2 n (by decide)]; exact hq
  clear hq
  go_enter Try.func6, Try.ntmps6
  go_wp2_with (first
    | (go_at_call 9; refine (put_any n hn 2 2 rfl w).mono ?_; rintro e w1 ⟨rfl, ho⟩; have hb1 := ho.2; have hp := own_at ho; clear ho)
    | (go_at_call 11; refine (get_at _ _ (putL 2 n) w1 2 q (putL_length _ _).symm HQ.out (by rw [putL_length]; decide) (putL_lt _ _) hp).mono ?_; rintro e w' ⟨rfl, rfl⟩)
    | (go_at_call 17; refine (alive_any _).mono ?_; rintro e w2 ⟨rfl, hb⟩))
  go_ret
  exact ⟨rfl, Below.after hb1 hb⟩

set_option maxHeartbeats 400000 in
theorem walk_3 (n : Nat) (hn : n < 18446744073709551616) (w : World) :
    Calls Try.prog 6 #[.int .u64 n, .int .i64 3] w fun e w' => e = .returned (.bool true) ∧ Below w.heap.size w w' := by
  obtain ⟨q, hq⟩ : ∃ q, q = n % 256 ^ 3 := ⟨_, rfl⟩
  have hand : bits BinOp.and IntKind.u64 (n : Int) 16777215 = (q : Int) := by rw [hq, pow_256]; exact and_mask n 24 hn (by decide) 16777215 (by decide)
  have HQ : Hid (q = getL ((putL 3 n).take 8)) := by rw [get_put 3 n (by decide)]; exact hq
  clear hq
  go_enter Try.func6, Try.ntmps6
  go_wp2_with (first
    | (go_at_call 9; refine (put_any n hn 3 3 rfl w).mono ?_; rintro e w1 ⟨rfl, ho⟩; have hb1 := ho.2; have hp := own_at ho; clear ho)
    | (go_at_call 11; refine (get_at _ _ (putL 3 n) w1 3 q (putL_length _ _).symm HQ.out (by rw [putL_length]; decide) (putL_lt _ _) hp).mono ?_; rintro e w' ⟨rfl, rfl⟩)
    | (go_at_call 17; refine (alive_any _).mono ?_; rintro e w2 ⟨rfl, hb⟩))
  go_ret
  exact ⟨rfl, Below.after hb1 hb⟩

set_option maxHeartbeats 400000 in
theorem walk_4 (n : Nat) (hn : n < 18446744073709551616) (w : World) :
    Calls Try.prog 6 #[.int .u64 n, .int .i64 4] w fun e w' => e = .returned (.bool true) ∧ Below w.heap.size w w' := by
  obtain ⟨q, hq⟩ : ∃ q, q = n % 256 ^ 4 := ⟨_, rfl⟩
  have hand : bits BinOp.and IntKind.u64 (n : Int) 4294967295 = (q : Int) := by rw [hq, pow_256]; exact and_mask n 32 hn (by decide) 4294967295 (by decide)
  have HQ : Hid (q = getL ((putL 4 n).take 8)) := by rw [get_put 4 n (by decide)]; exact hq
  clear hq
  go_enter Try.func6, Try.ntmps6
  go_wp2_with (first
    | (go_at_call 9; refine (put_any n hn 4 4 rfl w).mono ?_; rintro e w1 ⟨rfl, ho⟩; have hb1 := ho.2; have hp := own_at ho; clear ho)
    | (go_at_call 11; refine (get_at _ _ (putL 4 n) w1 4 q (putL_length _ _).symm HQ.out (by rw [putL_length]; decide) (putL_lt _ _) hp).mono ?_; rintro e w' ⟨rfl, rfl⟩)
    | (go_at_call 17; refine (alive_any _).mono ?_; rintro e w2 ⟨rfl, hb⟩))
  go_ret
  exact ⟨rfl, Below.after hb1 hb⟩

set_option maxHeartbeats 400000 in
theorem walk_5 (n : Nat) (hn : n < 18446744073709551616) (w : World) :
    Calls Try.prog 6 #[.int .u64 n, .int .i64 5] w fun e w' => e = .returned (.bool true) ∧ Below w.heap.size w w' := by
  obtain ⟨q, hq⟩ : ∃ q, q = n % 256 ^ 5 := ⟨_, rfl⟩
  have hand : bits BinOp.and IntKind.u64 (n : Int) 1099511627775 = (q : Int) := by rw [hq, pow_256]; exact and_mask n 40 hn (by decide) 1099511627775 (by decide)
  have HQ : Hid (q = getL ((putL 5 n).take 8)) := by rw [get_put 5 n (by decide)]; exact hq
  clear hq
  go_enter Try.func6, Try.ntmps6
  go_wp2_with (first
    | (go_at_call 9; refine (put_any n hn 5 5 rfl w).mono ?_; rintro e w1 ⟨rfl, ho⟩; have hb1 := ho.2; have hp := own_at ho; clear ho)
    | (go_at_call 11; refine (get_at _ _ (putL 5 n) w1 5 q (putL_length _ _).symm HQ.out (by rw [putL_length]; decide) (putL_lt _ _) hp).mono ?_; rintro e w' ⟨rfl, rfl⟩)
    | (go_at_call 17; refine (alive_any _).mono ?_; rintro e w2 ⟨rfl, hb⟩))
  go_ret
  exact ⟨rfl, Below.after hb1 hb⟩

set_option maxHeartbeats 400000 in
theorem walk_6 (n : Nat) (hn : n < 18446744073709551616) (w : World) :
    Calls Try.prog 6 #[.int .u64 n, .int .i64 6] w fun e w' => e = .returned (.bool true) ∧ Below w.heap.size w w' := by
  obtain ⟨q, hq⟩ : ∃ q, q = n % 256 ^ 6 := ⟨_, rfl⟩
  have hand : bits BinOp.and IntKind.u64 (n : Int) 281474976710655 = (q : Int) := by rw [hq, pow_256]; exact and_mask n 48 hn (by decide) 281474976710655 (by decide)
  have HQ : Hid (q = getL ((putL 6 n).take 8)) := by rw [get_put 6 n (by decide)]; exact hq
  clear hq
  go_enter Try.func6, Try.ntmps6
  go_wp2_with (first
    | (go_at_call 9; refine (put_any n hn 6 6 rfl w).mono ?_; rintro e w1 ⟨rfl, ho⟩; have hb1 := ho.2; have hp := own_at ho; clear ho)
    | (go_at_call 11; refine (get_at _ _ (putL 6 n) w1 6 q (putL_length _ _).symm HQ.out (by rw [putL_length]; decide) (putL_lt _ _) hp).mono ?_; rintro e w' ⟨rfl, rfl⟩)
    | (go_at_call 17; refine (alive_any _).mono ?_; rintro e w2 ⟨rfl, hb⟩))
  go_ret
  exact ⟨rfl, Below.after hb1 hb⟩

set_option maxHeartbeats 400000 in
theorem walk_7 (n : Nat) (hn : n < 18446744073709551616) (w : World) :
    Calls Try.prog 6 #[.int .u64 n, .int .i64 7] w fun e w' => e = .returned (.bool true) ∧ Below w.heap.size w w' := by
  obtain ⟨q, hq⟩ : ∃ q, q = n % 256 ^ 7 := ⟨_, rfl⟩
  have hand : bits BinOp.and IntKind.u64 (n : Int) 72057594037927935 = (q : Int) := by rw [hq, pow_256]; exact and_mask n 56 hn (by decide) 72057594037927935 (by decide)
  have HQ : Hid (q = getL ((putL 7 n).take 8)) := by rw [get_put 7 n (by decide)]; exact hq
  clear hq
  go_enter Try.func6, Try.ntmps6
  go_wp2_with (first
    | (go_at_call 9; refine (put_any n hn 7 7 rfl w).mono ?_; rintro e w1 ⟨rfl, ho⟩; have hb1 := ho.2; have hp := own_at ho; clear ho)
    | (go_at_call 11; refine (get_at _ _ (putL 7 n) w1 7 q (putL_length _ _).symm HQ.out (by rw [putL_length]; decide) (putL_lt _ _) hp).mono ?_; rintro e w' ⟨rfl, rfl⟩)
    | (go_at_call 17; refine (alive_any _).mono ?_; rintro e w2 ⟨rfl, hb⟩))
  go_ret
  exact ⟨rfl, Below.after hb1 hb⟩

set_option maxHeartbeats 400000 in
theorem walk_8 (n : Nat) (hn : n < 18446744073709551616) (w : World) :
    Calls Try.prog 6 #[.int .u64 n, .int .i64 8] w fun e w' => e = .returned (.bool true) ∧ Below w.heap.size w w' := by
  have hq2 : n = n % 256 ^ 8 := (Nat.mod_eq_of_lt hn).symm
  have HQ : Hid (n = getL ((putL 8 n).take 8)) := by rw [get_put 8 n (by decide)]; exact hq2
  clear hq2
  go_enter Try.func6, Try.ntmps6
  go_wp2_with (first
    | (go_at_call 9; refine (put_any n hn 8 8 rfl w).mono ?_; rintro e w1 ⟨rfl, ho⟩; have hb1 := ho.2; have hp := own_at ho; clear ho)
    | (go_at_call 11; refine (get_at _ _ (putL 8 n) w1 8 n (putL_length _ _).symm HQ.out (by rw [putL_length]; decide) (putL_lt _ _) hp).mono ?_; rintro e w' ⟨rfl, rfl⟩)
    | (go_at_call 17; refine (alive_any _).mono ?_; rintro e w2 ⟨rfl, hb⟩))
  go_ret
  exact ⟨rfl, Below.after hb1 hb⟩

theorem walk (a0 : Int) (a1 : Int) (w0 : (Lit.int .u64 a0).wf = true) (w : World) :
    Calls Try.prog 6 #[.int .u64 a0, .int .i64 a1] w fun e w' => e = .returned (.bool true) ∧ Below w.heap.size w w' := by
  by_cases h : a1 < 0 ∨ 8 < a1
  · exact walk_out a0 a1 h w
  · have b0 := bounds_u64 w0
    obtain ⟨n, rfl⟩ : ∃ n : Nat, a0 = (n : Int) := ⟨a0.toNat, by omega⟩
    have hn : n < 18446744073709551616 := by omega
    rcases (show a1 = 0 ∨ a1 = 1 ∨ a1 = 2 ∨ a1 = 3 ∨ a1 = 4 ∨ a1 = 5 ∨ a1 = 6 ∨ a1 = 7 ∨ a1 = 8 by omega) with rfl | rfl | rfl | rfl | rfl | rfl | rfl | rfl | rfl
    · exact walk_0 n hn w
    · exact walk_1 n hn w
    · exact walk_2 n hn w
    · exact walk_3 n hn w
    · exact walk_4 n hn w
    · exact walk_5 n hn w
    · exact walk_6 n hn w
    · exact walk_7 n hn w
    · exact walk_8 n hn w

set_option maxRecDepth 100000 in
theorem lifted (os : Os) (started : os.Started) (H : Type) (enc : TypeId × Value → H) :
    ReturnsInHanded {} Try.checked os 6 .any (Rows.bitsGetSpec.pre6 enc Try.prog Try.f6 Rows.bitsGetRow.domain false) (Rows.bitsGetSpec.post enc Try.prog Try.f6 false true false false) := by
  refine returnsInHanded_of_change (C := Try.checked) own started (by kernel_rfl) Try.func6
    (ChangeSpec.witness6 (enc := enc) (C := Try.checked) false ⟨#[], #[.int .u64 0, .int .i64 0], []⟩ 8 (by kernel_rfl) (by kernel_rfl) (by kernel_rfl) (by kernel_rfl)) ?_
  intro W base args ds gs before hval0 hW hcnd _
  have hval : ∀ (j : Nat) t v, Try.f6.params[j]? = some t → args[j]? = some v → Value.okWide Try.prog W .any base t v := hval0
  have hW' := hW
  obtain ⟨p, q, hA0, hV, rfl, hfz, hnd⟩ := hW
  have hA : DataW.TrodAll enc Try.prog W 0 (fun _ => true) true Try.f6.params.toList args.toList ds p := hA0
  rw [Try.params6] at hA hval
  obtain ⟨v0, vs0, d0, ds0, p0, q0, hargs, rfl, rfl, h0, r0⟩ := trodAll_cons hA
  obtain ⟨v1, vs1, d1, ds1, p1, q1, rfl, rfl, rfl, h1, r1⟩ := trodAll_cons r0
  obtain ⟨rfl, rfl, rfl⟩ := trodAll_nil r1
  obtain rfl : args = #[v0, v1] := by cases args; simp_all
  obtain ⟨rfl, rfl⟩ := trodVars_none hV
  obtain ⟨a0, rfl, rfl, rfl, w0⟩ := open_int Try.underlying22 (hval 0 22 v0 rfl rfl) h0
  obtain ⟨a1, rfl, rfl, rfl, w1⟩ := open_int Try.underlying3 (hval 1 3 v1 rfl rfl) h1
  clear hA0 hval0
  refine (walk a0 a1 w0 W).mono fun e W' ⟨he, bel⟩ => ?_
  subst he
  exact ⟨_, rfl, _, _, _, [], _, [], hW', trodAll_mk1 (shut_bool Try.underlying4 _), (trodAll_cons_mk (shut_int Try.underlying22 w0) (trodAll_cons_mk (shut_int Try.underlying3 w1) trodAll_mk0)), rfl, bel.frame _, fun h => by cases h⟩

theorem over : Rows.bitsGetRow.holds Try.pinned (OpenSpec.ofChange Rows.bitsGetSpec) :=
  OpenClaim.holds_of_wide 6 Try.f6 rfl rfl rfl rfl rfl rfl rfl ⟨rfl, rfl, rfl, rfl, rfl⟩ rfl rfl rfl rfl rfl (by kernel_rfl) Try.func6 (by kernel_rfl)
    (of_decide_eq_true (by kernel_rfl)) (by unfold Func.isWrapper; first | (rw [if_pos (by decide +kernel)]; kernel_rfl) | (rw [if_neg (by decide +kernel)]; exact ⟨rfl, rfl⟩))
    (fun os started H enc _ => lifted os started H enc)
end Go.Proofs.Ytnogfmfagambeaa.bitsGet

namespace Go.Proofs.Ytnogfmfagambeaa
theorem bitsGet_holds : Rows.BitsGetSaid := bitsGet.over
#print axioms bitsGet_holds
end Go.Proofs.Ytnogfmfagambeaa
