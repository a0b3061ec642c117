/-
  Proved: the statement that the keys, their kinds and From answer as the document says (NodeKeys): for every two ints and two strings; no condition.
-/
import Derived.Test.YtefpcdpclpignaaKRFrom
import Derived.Test.YtefpcdpclpignaaKRKind
import Derived.Test.YtefpcdpclpignaaKSame
import Derived.Test.YtefpcdpclpignaaKArgS
namespace Go.Proofs.Ytefpcdpclpignaa.nodeKeys
open Go.ChangeShapes Go.WideShapes Go.ChangeAt Go.RowKit M

set_option maxRecDepth 100000 in
set_option maxHeartbeats 16000000 in
theorem walk_l (n m : Int) (P Q : ByteArray) (k i b : Int) (S E G A B C D : ByteArray)
    (h0 : ∀ W, Calls Try.prog 9 #[.string Q] W fun e w' => e = .returned (.tuple #[.int .i64 k, .int .i64 i, .string S, .int .i64 b]) ∧ Below W.heap.size W w')
    (r0 : ∀ W, Calls Try.prog 10 #[.string Q] W fun e w' => e = .returned (.tuple #[.int .i64 k, .int .i64 i, .string S, .int .i64 b]) ∧ Below W.heap.size W w')
    (h1 : ∀ W, Calls Try.prog 11 #[.int .i64 n, .int .i64 m] W fun e w' => e = .returned (.tuple #[.string E, .string G]) ∧ Below W.heap.size W w')
    (r1 : ∀ W, Calls Try.prog 12 #[.int .i64 n, .int .i64 m] W fun e w' => e = .returned (.tuple #[.string E, .string G]) ∧ Below W.heap.size W w')
    (h2 : ∀ W, Calls Try.prog 13 #[.int .i64 n] W fun e w' => e = .returned (.string A) ∧ Below W.heap.size W w')
    (r2 : ∀ W, Calls Try.prog 14 #[.int .i64 n] W fun e w' => e = .returned (.string A) ∧ Below W.heap.size W w')
    (h3 : ∀ W, Calls Try.prog 15 #[.int .i64 n, .string P] W fun e w' => e = .returned (.string B) ∧ Below W.heap.size W w')
    (r3 : ∀ W, Calls Try.prog 16 #[.int .i64 n, .string P] W fun e w' => e = .returned (.string B) ∧ Below W.heap.size W w')
    (h4 : ∀ W, Calls Try.prog 17 #[.int .i64 n, .int .i64 m] W fun e w' => e = .returned (.string C) ∧ Below W.heap.size W w')
    (r4 : ∀ W, Calls Try.prog 18 #[.int .i64 n, .int .i64 m] W fun e w' => e = .returned (.string C) ∧ Below W.heap.size W w')
    (h5 : ∀ W, Calls Try.prog 19 #[.int .i64 n] W fun e w' => e = .returned (.string D) ∧ Below W.heap.size W w')
    (r5 : ∀ W, Calls Try.prog 20 #[.int .i64 n] W fun e w' => e = .returned (.string D) ∧ Below W.heap.size W w')
    (w : World) :
    Calls Try.prog 3 #[.int .i64 n, .int .i64 m, .string P, .string Q] w fun e w' => e = .returned (.bool true) ∧ Below w.heap.size w w' := by
  have B0 : Hid (Below w.heap.size w w) := Below.refl _ _
  go_enter Try.func3, Try.ntmps3
  go_wp2_with (first
    | (go_at_call 9; refine (h0 _).mono ?_; rintro e w1 ⟨rfl, hb⟩; have B1 : Hid (Below w.heap.size w w1) := Below.after B0.out hb; clear hb)
    | (go_at_call 10; refine (r0 _).mono ?_; rintro e w2 ⟨rfl, hb⟩; have B2 : Hid (Below w.heap.size w w2) := Below.after B1.out hb; clear hb)
    | (go_at_call 11; refine (h1 _).mono ?_; rintro e w3 ⟨rfl, hb⟩; have B3 : Hid (Below w.heap.size w w3) := Below.after B2.out hb; clear hb)
    | (go_at_call 12; refine (r1 _).mono ?_; rintro e w4 ⟨rfl, hb⟩; have B4 : Hid (Below w.heap.size w w4) := Below.after B3.out hb; clear hb)
    | (go_at_call 13; refine (h2 _).mono ?_; rintro e w5 ⟨rfl, hb⟩; have B5 : Hid (Below w.heap.size w w5) := Below.after B4.out hb; clear hb)
    | (go_at_call 14; refine (r2 _).mono ?_; rintro e w6 ⟨rfl, hb⟩; have B6 : Hid (Below w.heap.size w w6) := Below.after B5.out hb; clear hb)
    | (go_at_call 15; refine (h3 _).mono ?_; rintro e w7 ⟨rfl, hb⟩; have B7 : Hid (Below w.heap.size w w7) := Below.after B6.out hb; clear hb)
    | (go_at_call 16; refine (r3 _).mono ?_; rintro e w8 ⟨rfl, hb⟩; have B8 : Hid (Below w.heap.size w w8) := Below.after B7.out hb; clear hb)
    | (go_at_call 17; refine (h4 _).mono ?_; rintro e w9 ⟨rfl, hb⟩; have B9 : Hid (Below w.heap.size w w9) := Below.after B8.out hb; clear hb)
    | (go_at_call 18; refine (r4 _).mono ?_; rintro e w10 ⟨rfl, hb⟩; have B10 : Hid (Below w.heap.size w w10) := Below.after B9.out hb; clear hb)
    | (go_at_call 19; refine (h5 _).mono ?_; rintro e w11 ⟨rfl, hb⟩; have B11 : Hid (Below w.heap.size w w11) := Below.after B10.out hb; clear hb)
    | (go_at_call 20; refine (r5 _).mono ?_; rintro e w12 ⟨rfl, hb⟩; have B12 : Hid (Below w.heap.size w w12) := Below.after B11.out hb; clear hb)
    | (go_at_call 21; refine (alive_any _).mono ?_; rintro e w13 ⟨rfl, hb⟩; have B13 : Hid (Below w.heap.size w w13) := Below.after B12.out hb; clear hb))
  go_ret
  exact ⟨rfl, B13.out⟩

theorem walk (n m : Int) (P Q : ByteArray) (w : World) (_ : (Lit.int .i64 n).wf = true) (_ : (Lit.int .i64 m).wf = true) (_ : P.size ≤ maxLen) (sP : P.size ≤ 140737488351232) (hQ : Q.size ≤ maxLen) (_ : Q.size ≤ 140737488351232) :
    Calls Try.prog 3 #[.int .i64 n, .int .i64 m, .string P, .string Q] w fun e w' => e = .returned (.bool true) ∧ Below w.heap.size w w' := by
  obtain ⟨p, ep⟩ : ∃ p : List UInt8, P = bs p := ⟨P.data.toList, (bs_of P).symm⟩
  obtain ⟨q, eq⟩ : ∃ q : List UInt8, Q = bs q := ⟨Q.data.toList, (bs_of Q).symm⟩
  rw [ep, bs_size] at sP
  rw [eq, bs_size] at hQ
  rw [ep, eq]
  have h0 := fun W => kind_any q hQ W
  have r0 := fun W => rkind_any q hQ W
  unfold kvOf kv at h0 r0
  exact walk_l n m _ _ _ _ _ _ _ _ _ _ _ _ h0 r0 (fun W => from_any n m W) (fun W => rfrom_any n m W) (fun W => inodeKey_any n W) (fun W => rinodeKey_any n W) (fun W => entryKey_any n p sP W) (fun W => rentryKey_any n p sP W)
    (fun W => blockKey_any n m W) (fun W => rblockKey_any n m W) (fun W => orphanKey_any n W) (fun W => rorphanKey_any n W) w

set_option maxRecDepth 100000 in
theorem lifted (os : Os) (started : os.Started) (H : Type) (enc : TypeId × Value → H) :
    ReturnsInHanded {} Try.checked os 3 .any (Rows.nodeKeysSpec.pre6 enc Try.prog Try.f3 Rows.nodeKeysRow.domain false) (Rows.nodeKeysSpec.post enc Try.prog Try.f3 false true false false) := by
  refine returnsInHanded_of_change_sized (C := Try.checked) own started (by kernel_rfl) Try.func3
    (ChangeSpec.witness6 (enc := enc) (C := Try.checked) false ⟨#[], #[.int .i64 0, .int .i64 0, .string ⟨#[]⟩, .string ⟨#[]⟩], []⟩ 8 (by kernel_rfl) (by kernel_rfl) (by kernel_rfl) (by kernel_rfl)) ?_
  intro W base args ds gs before hval0 hW hcnd hsz0 _
  have hval : ∀ (j : Nat) t v, Try.f3.params[j]? = some t → args[j]? = some v → Value.okWide Try.prog W .any base t v := hval0
  have hsz : (DataW.weightsEach Try.prog (Try.f3.params.toList ++ Rows.nodeKeysSpec.plain.varTypes Try.prog) (ds ++ gs)).all (· ≤ reachBytes) = true := hsz0
  have hW' := hW
  obtain ⟨p, q, hA0, hV, rfl, hfz, hnd⟩ := hW
  have hA : DataW.TrodAll enc Try.prog W 0 (fun _ => true) true Try.f3.params.toList args.toList ds p := hA0
  rw [Try.params3] at hA hval hsz
  obtain ⟨v0, vs0, d0, ds0, p0, q0, hargs, rfl, rfl, h0, r0⟩ := trodAll_cons hA
  obtain ⟨v1, vs1, d1, ds1, p1, q1, rfl, rfl, rfl, h1, r1⟩ := trodAll_cons r0
  obtain ⟨v2, vs2, d2, ds2, p2, q2, rfl, rfl, rfl, h2, r2⟩ := trodAll_cons r1
  obtain ⟨v3, vs3, d3, ds3, p3, q3, rfl, rfl, rfl, h3, r3⟩ := trodAll_cons r2
  obtain ⟨rfl, rfl, rfl⟩ := trodAll_nil r3
  obtain rfl : args = #[v0, v1, v2, v3] := by cases args; simp_all
  obtain ⟨rfl, rfl⟩ := trodVars_none hV
  obtain ⟨a0, rfl, rfl, rfl, w0⟩ := open_int Try.underlying3 (hval 0 3 v0 rfl rfl) h0
  obtain ⟨a1, rfl, rfl, rfl, w1⟩ := open_int Try.underlying3 (hval 1 3 v1 rfl rfl) h1
  obtain ⟨a2, rfl, rfl, rfl, w2⟩ := Go.ChangeMaps.open_string Try.underlying9 (hval 2 9 v2 rfl rfl) h2
  have s2 : a2.size ≤ 140737488351232 := by
    have := sized_string hsz (j := 2) (t := 9) rfl rfl
    rw [Array.length_toList] at this
    exact this
  obtain ⟨a3, rfl, rfl, rfl, w3⟩ := Go.ChangeMaps.open_string Try.underlying9 (hval 3 9 v3 rfl rfl) h3
  have s3 : a3.size ≤ 140737488351232 := by
    have := sized_string hsz (j := 3) (t := 9) rfl rfl
    rw [Array.length_toList] at this
    exact this
  clear hA0 hval0
  refine (walk a0 a1 a2 a3 W w0 w1 w2 s2 w3 s3).mono fun e W' ⟨he, bel⟩ => ?_
  subst he
  exact ⟨_, rfl, _, _, _, [], _, [], hW', trodAll_mk1 (shut_bool Try.underlying4 _), (trodAll_cons_mk (shut_int Try.underlying3 w0) (trodAll_cons_mk (shut_int Try.underlying3 w1) (trodAll_cons_mk (Go.ChangeMaps.shut_string Try.underlying9 w2) (trodAll_cons_mk (Go.ChangeMaps.shut_string Try.underlying9 w3) trodAll_mk0)))), rfl, bel.frame _, fun h => by cases h⟩

theorem over : Rows.nodeKeysRow.holds Try.pinned (OpenSpec.ofChange Rows.nodeKeysSpec) :=
  OpenClaim.holds_of_wide 3 Try.f3 rfl rfl rfl rfl rfl rfl rfl ⟨rfl, rfl, rfl, rfl, rfl⟩ rfl rfl rfl rfl rfl (by kernel_rfl) Try.func3 (by kernel_rfl)
    (of_decide_eq_true (by kernel_rfl)) (by unfold Func.isWrapper; first | (rw [if_pos (by decide +kernel)]; kernel_rfl) | (rw [if_neg (by decide +kernel)]; exact ⟨rfl, rfl⟩))
    (fun os started H enc _ => lifted os started H enc)
end Go.Proofs.Ytefpcdpclpignaa.nodeKeys

namespace Go.Proofs.Ytefpcdpclpignaa
theorem nodeKeys_holds : Rows.NodeKeysSaid := nodeKeys.over
#print axioms nodeKeys_holds
end Go.Proofs.Ytefpcdpclpignaa
