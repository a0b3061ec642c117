/-
  Proved: the statement that an inode is made a node, and a node an inode, as the document says (NodeInodes): for every Inode and every Node; no condition.
-/
import Derived.Test.YtefpcdpclpignaaKRParI
import Derived.Test.YtefpcdpclpignaaKRIno
import Derived.Test.YtefpcdpclpignaaKSame
import Derived.Test.YtefpcdpclpignaaKArgS
namespace Go.Proofs.Ytefpcdpclpignaa.nodeInodes
open Go.ChangeShapes Go.WideShapes Go.ChangeAt Go.RowKit M

/-- Boxes that lie on. -/
structure Kp (w W : World) (rows : List (Nat × List Value × TypeId)) : Prop where
  rs : ∀ (i b : Nat) (cs : List Value) (t : TypeId), rows[i]? = some (b, cs, t) → Row W b cs t
  bel : Below w.heap.size w W
theorem Kp.at {w W : World} {rows : List (Nat × List Value × TypeId)} (h : Kp w W rows) {i b : Nat} {cs : List Value} {t : TypeId} (hr : rows[i]? = some (b, cs, t)) : Row W b cs t := h.rs i b cs t hr
theorem Kp.later {w W W' : World} {rows : List (Nat × List Value × TypeId)} (h : Kp w W rows) (hb : Below W.heap.size W W') : Kp w W' rows := ⟨fun i b cs t hr => (h.rs i b cs t hr).later hb, Below.after h.bel hb⟩
theorem Kp.push {w W : World} {rows : List (Nat × List Value × TypeId)} (h : Kp w W rows) (cs : List Value) (t : TypeId) : Kp w (W.alloc (.cells cs.toArray t)) ((W.heap.size, cs, t) :: rows) :=
  ⟨fun i b cs' t' hr => by
    cases i with
    | zero =>
      simp only [List.getElem?_cons_zero, Option.some.injEq, Prod.mk.injEq] at hr
      obtain ⟨rfl, rfl, rfl⟩ := hr
      exact Row.new W cs t
    | succ i => exact (h.rs i b cs' t' (by simpa using hr)).alloc _, Below.after h.bel (below_new _ _)⟩
theorem Kp.two {w W : World} {b1 b2 : Nat} {c1 c2 : List Value} {t1 t2 : TypeId} (h1 : Row W b1 c1 t1) (h2 : Row W b2 c2 t2) (h : Below w.heap.size w W) : Kp w W [(b1, c1, t1), (b2, c2, t2)] :=
  ⟨fun i b cs t hr => by
    match i with
    | 0 =>
      simp only [List.getElem?_cons_zero, Option.some.injEq, Prod.mk.injEq] at hr
      obtain ⟨rfl, rfl, rfl⟩ := hr
      exact h1
    | 1 =>
      simp only [List.getElem?_cons_succ, List.getElem?_cons_zero, Option.some.injEq, Prod.mk.injEq] at hr
      obtain ⟨rfl, rfl, rfl⟩ := hr
      exact h2
    | i + 2 => simp at hr, h⟩

set_option maxRecDepth 100000 in
set_option maxHeartbeats 8000000 in
theorem walk_l (x0 x1 x2 x3 x4 x5 x6 : Int) (K V : ByteArray) (g : Bool) (A B : ByteArray) (h : Bool) (c : Int) (p0 p1 p2 p3 p4 p5 p6 : Int) (o : Bool)
    (hI : ∀ W, Calls Try.prog 22 #[.agg #[.int .i64 x0, .int .i64 x1, .int .i64 x2, .int .i64 x3, .int .i64 x4, .int .i64 x5, .int .i64 x6]] W fun e w' => e = .returned (.tuple #[.agg #[.string A, .string B, .bool h], .int .i64 c]) ∧ Below W.heap.size W w')
    (hJ : ∀ W, Calls Try.prog 23 #[.agg #[.int .i64 x0, .int .i64 x1, .int .i64 x2, .int .i64 x3, .int .i64 x4, .int .i64 x5, .int .i64 x6]] W fun e w' => e = .returned (.tuple #[.agg #[.string A, .string B, .bool h], .int .i64 c]) ∧ Below W.heap.size W w')
    (hP : ∀ W, Calls Try.prog 24 #[.agg #[.string K, .string V, .bool g]] W fun e w' => e = .returned (.tuple #[.agg #[.int .i64 p0, .int .i64 p1, .int .i64 p2, .int .i64 p3, .int .i64 p4, .int .i64 p5, .int .i64 p6], .bool o]) ∧ Below W.heap.size W w')
    (hQ : ∀ W, Calls Try.prog 25 #[.agg #[.string K, .string V, .bool g]] W fun e w' => e = .returned (.tuple #[.agg #[.int .i64 p0, .int .i64 p1, .int .i64 p2, .int .i64 p3, .int .i64 p4, .int .i64 p5, .int .i64 p6], .bool o]) ∧ Below W.heap.size W w') (w : World) :
    Calls Try.prog 4 #[.agg #[.int .i64 x0, .int .i64 x1, .int .i64 x2, .int .i64 x3, .int .i64 x4, .int .i64 x5, .int .i64 x6], .agg #[.string K, .string V, .bool g]] w fun e w' => e = .returned (.bool true) ∧ Below w.heap.size w w' := by
  obtain ⟨W, hW⟩ : ∃ W, W = (w.alloc (.cells #[.int .i64 x0, .int .i64 x1, .int .i64 x2, .int .i64 x3, .int .i64 x4, .int .i64 x5, .int .i64 x6] 32)).alloc (.cells #[.string K, .string V, .bool g] 34) := ⟨_, rfl⟩
  obtain ⟨hR1, hR2, hBW⟩ := two_boxes w [.int .i64 x0, .int .i64 x1, .int .i64 x2, .int .i64 x3, .int .i64 x4, .int .i64 x5, .int .i64 x6] [.string K, .string V, .bool g] 32 34 W hW
  have K0 : Hid (Kp w W [(w.heap.size, [.int .i64 x0, .int .i64 x1, .int .i64 x2, .int .i64 x3, .int .i64 x4, .int .i64 x5, .int .i64 x6], 32), (w.heap.size + 1, [.string K, .string V, .bool g], 34)]) := Kp.two hR1 hR2 hBW
  clear hR1 hR2 hBW
  obtain ⟨⟨q0, q1, q2, q3, q4, q5, q6⟩, _⟩ := Row.seen7 (K0.out.at (i := 0) rfl)
  have e1 := eql_nd
  have e2 := eql_in
  go_enter Try.func4, Try.ntmps4
  go_wp2_with fail
  rw [← hW]
  clear hW
  go_wp2_with (first
    | (go_at_call 22; refine (hI _).mono ?_; rintro e w1 ⟨rfl, hb⟩; have K1 : Hid (Kp w (w1.alloc (.cells #[.string A, .string B, .bool h] 34)) _) := ((K0.out.later hb).push [.string A, .string B, .bool h] 34); clear q0 q1 q2 q3 q4 q5 q6; obtain ⟨⟨q0, q1, q2, q3, q4, q5, q6⟩, _⟩ := Row.seen7 (K1.out.at (i := 1) rfl); clear hb)
    | (go_at_call 23; refine (hJ _).mono ?_; rintro e w2 ⟨rfl, hb⟩; have K2 : Hid (Kp w (w2.alloc (.cells #[.string A, .string B, .bool h] 34)) _) := ((K1.out.later hb).push [.string A, .string B, .bool h] 34); clear q0 q1 q2 q3 q4 q5 q6; obtain ⟨q0, q1, q2, _, _, _⟩ := (K2.out.at (i := 3) rfl).seen3; clear hb)
    | (go_at_call 24; refine (hP _).mono ?_; rintro e w3 ⟨rfl, hb⟩; have K3 : Hid (Kp w (w3.alloc (.cells #[.int .i64 p0, .int .i64 p1, .int .i64 p2, .int .i64 p3, .int .i64 p4, .int .i64 p5, .int .i64 p6] 32)) _) := ((K2.out.later hb).push [.int .i64 p0, .int .i64 p1, .int .i64 p2, .int .i64 p3, .int .i64 p4, .int .i64 p5, .int .i64 p6] 32); clear q0 q1 q2; obtain ⟨q0, q1, q2, _, _, _⟩ := (K3.out.at (i := 4) rfl).seen3; clear hb)
    | (go_at_call 25; refine (hQ _).mono ?_; rintro e w4 ⟨rfl, hb⟩; have K4 : Hid (Kp w (w4.alloc (.cells #[.int .i64 p0, .int .i64 p1, .int .i64 p2, .int .i64 p3, .int .i64 p4, .int .i64 p5, .int .i64 p6] 32)) _) := ((K3.out.later hb).push [.int .i64 p0, .int .i64 p1, .int .i64 p2, .int .i64 p3, .int .i64 p4, .int .i64 p5, .int .i64 p6] 32); clear q0 q1 q2; obtain ⟨r0, r1, r2, _, _, _⟩ := (K4.out.at (i := 3) rfl).seen3; obtain ⟨s0, s1, s2, _, _, _⟩ := (K4.out.at (i := 2) rfl).seen3; obtain ⟨⟨t0, t1, t2, t3, t4, t5, t6⟩, _⟩ := Row.seen7 (K4.out.at (i := 1) rfl); clear hb)
    | (go_at_call 21; refine (alive_any _).mono ?_; rintro e w5 ⟨rfl, hb⟩; have K5 : Hid (Kp w w5 _) := (K4.out.later hb); clear hb))
  go_ret
  exact ⟨rfl, K5.out.bel⟩

theorem walk (x0 x1 x2 x3 x4 x5 x6 : Int) (K V : ByteArray) (g : Bool) (w : World)
    (_ : (-9223372036854775808 ≤ x0 ∧ x0 ≤ 9223372036854775807) ∧ (-9223372036854775808 ≤ x1 ∧ x1 ≤ 9223372036854775807) ∧ (-9223372036854775808 ≤ x2 ∧ x2 ≤ 9223372036854775807) ∧ (-9223372036854775808 ≤ x3 ∧ x3 ≤ 9223372036854775807) ∧ (-9223372036854775808 ≤ x4 ∧ x4 ≤ 9223372036854775807) ∧ (-9223372036854775808 ≤ x5 ∧ x5 ≤ 9223372036854775807) ∧ (-9223372036854775808 ≤ x6 ∧ x6 ≤ 9223372036854775807))
    (hN : K.size ≤ maxLen ∧ V.size ≤ maxLen) :
    Calls Try.prog 4 #[.agg #[.int .i64 x0, .int .i64 x1, .int .i64 x2, .int .i64 x3, .int .i64 x4, .int .i64 x5, .int .i64 x6], .agg #[.string K, .string V, .bool g]] w fun e w' => e = .returned (.bool true) ∧ Below w.heap.size w w' := by
  obtain ⟨i, ei⟩ : ∃ i : In, i = ⟨x0, x1, x2, x3, x4, x5, x6⟩ := ⟨_, rfl⟩
  have iv : i.v = .agg #[.int .i64 x0, .int .i64 x1, .int .i64 x2, .int .i64 x3, .int .i64 x4, .int .i64 x5, .int .i64 x6] := by rw [ei]; rfl
  obtain ⟨n, en⟩ : ∃ n : Nd, n = ⟨K.data.toList, V.data.toList, g⟩ := ⟨_, rfl⟩
  have hk : n.key.length ≤ maxLen := by rw [en]; show K.data.toList.length ≤ _; rw [Array.length_toList]; exact hN.1
  have hv : n.val.length ≤ maxLen := by rw [en]; show V.data.toList.length ≤ _; rw [Array.length_toList]; exact hN.2
  have nv : n.v = .agg #[.string K, .string V, .bool g] := by rw [en]; unfold Nd.v Nd.cells; rw [bs_of, bs_of]
  obtain ⟨m, em⟩ : ∃ m : Nd, m = (bif i.right then i.nd else Nd.zero) := ⟨_, rfl⟩
  have mv : m.v = .agg #[.string (bs m.key), .string (bs m.val), .bool m.gone] := rfl
  obtain ⟨r, er⟩ : ∃ r : In, r = (bif piOk n then vIn (kindOf n.key).2.1 n.val else In.zero) := ⟨_, rfl⟩
  have rv : r.v = .agg #[.int .i64 r.ino, .int .i64 r.kind, .int .i64 r.mode, .int .i64 r.uid, .int .i64 r.gid, .int .i64 r.links, .int .i64 r.size] := rfl
  have hI := fun W => inode_any i W
  have hJ := fun W => rinode_any i W
  have hP := fun W => parseInode_any n hk hv W
  have hQ := fun W => rparseInode_any n hk W
  rw [← em, mv, iv] at hI hJ
  rw [← er, rv, nv] at hP hQ
  exact walk_l _ _ _ _ _ _ _ _ _ _ _ _ _ _ _ _ _ _ _ _ _ _ hI hJ hP hQ w

set_option maxRecDepth 100000 in
theorem lifted (os : Os) (started : os.Started) (H : Type) (enc : TypeId × Value → H) :
    ReturnsInHanded {} Try.checked os 4 .any (Rows.nodeInodesSpec.pre6 enc Try.prog Try.f4 Rows.nodeInodesRow.domain false) (Rows.nodeInodesSpec.post enc Try.prog Try.f4 false true false false) := by
  refine returnsInHanded_of_change_sized (C := Try.checked) own started (by kernel_rfl) Try.func4
    (ChangeSpec.witness6 (enc := enc) (C := Try.checked) false ⟨#[], #[.agg #[.int .i64 0, .int .i64 0, .int .i64 0, .int .i64 0, .int .i64 0, .int .i64 0, .int .i64 0], .agg #[.string ⟨#[]⟩, .string ⟨#[]⟩, .bool false]], []⟩ 8 (by kernel_rfl) (by kernel_rfl) (by kernel_rfl) (by kernel_rfl)) ?_
  intro W base args ds gs before hval0 hW hcnd hsz0 _
  have hval : ∀ (j : Nat) t v, Try.f4.params[j]? = some t → args[j]? = some v → Value.okWide Try.prog W .any base t v := hval0
  have hsz : (DataW.weightsEach Try.prog (Try.f4.params.toList ++ Rows.nodeInodesSpec.plain.varTypes Try.prog) (ds ++ gs)).all (· ≤ reachBytes) = true := hsz0
  have hW' := hW
  obtain ⟨p, q, hA0, hV, rfl, hfz, hnd⟩ := hW
  have hA : DataW.TrodAll enc Try.prog W 0 (fun _ => true) true Try.f4.params.toList args.toList ds p := hA0
  rw [Try.params4] at hA hval hsz
  obtain ⟨v0, vs0, d0, ds0, p0, q0, hargs, rfl, rfl, h0, r0⟩ := trodAll_cons hA
  obtain ⟨v1, vs1, d1, ds1, p1, q1, rfl, rfl, rfl, h1, r1⟩ := trodAll_cons r0
  obtain ⟨rfl, rfl, rfl⟩ := trodAll_nil r1
  obtain rfl : args = #[v0, v1] := by cases args; simp_all
  obtain ⟨rfl, rfl⟩ := trodVars_none hV
  obtain ⟨cs0, rfl, sz0⟩ := okWide_struct Try.underlying32 (hval 0 32 v0 rfl rfl)
  have k0 := h0
  have lt0 : ∀ x ∈ p0, x.block < W.heap.size := by obtain ⟨m, hm⟩ := k0; exact DataW.trod_lt m _ _ _ hm
  obtain ⟨fu0, hf0⟩ := h0
  obtain ⟨z0_0, z0_1, z0_2, z0_3, z0_4, z0_5, z0_6, rfl, n0⟩ := iarg_open sz0 hf0
  obtain ⟨cs1, rfl, sz1⟩ := okWide_struct Try.underlying34 (hval 1 34 v1 rfl rfl)
  have k1 := h1
  have lt1 : ∀ x ∈ p1, x.block < W.heap.size := by obtain ⟨m, hm⟩ := k1; exact DataW.trod_lt m _ _ _ hm
  obtain ⟨fu1, hf1⟩ := h1
  obtain ⟨z1_0, z1_1, z1_2, rfl, n1⟩ := narg_open sz1 hf1
  clear hA0 hval0
  refine (walk z0_0 z0_1 z0_2 z0_3 z0_4 z0_5 z0_6 z1_0 z1_1 z1_2 W n0 n1).mono fun e W' ⟨he, bel⟩ => ?_
  subst he
  exact ⟨_, rfl, _, _, _, [], _, [], hW', trodAll_mk1 (shut_bool Try.underlying4 _), (trodAll_cons_mk (Below.trod laidOut (by kernel_rfl) (of_decide_eq_true (by kernel_rfl)) k0 bel lt0) (trodAll_cons_mk (Below.trod laidOut (by kernel_rfl) (of_decide_eq_true (by kernel_rfl)) k1 bel lt1) trodAll_mk0)), rfl, bel.frame _, fun h => by cases h⟩

theorem over : Rows.nodeInodesRow.holds Try.pinned (OpenSpec.ofChange Rows.nodeInodesSpec) :=
  OpenClaim.holds_of_wide 4 Try.f4 rfl rfl rfl rfl rfl rfl rfl ⟨rfl, rfl, rfl, rfl, rfl⟩ rfl rfl rfl rfl rfl (by kernel_rfl) Try.func4 (by kernel_rfl)
    (of_decide_eq_true (by kernel_rfl)) (by unfold Func.isWrapper; first | (rw [if_pos (by decide +kernel)]; kernel_rfl) | (rw [if_neg (by decide +kernel)]; exact ⟨rfl, rfl⟩))
    (fun os started H enc _ => lifted os started H enc)
end Go.Proofs.Ytefpcdpclpignaa.nodeInodes

namespace Go.Proofs.Ytefpcdpclpignaa
theorem nodeInodes_holds : Rows.NodeInodesSaid := nodeInodes.over
#print axioms nodeInodes_holds
end Go.Proofs.Ytefpcdpclpignaa
