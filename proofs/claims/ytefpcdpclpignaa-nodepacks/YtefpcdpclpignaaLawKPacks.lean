/-
  Proved: the statement that any node and any mark is written as the document's bytes, or refused (NodePacks): for every node and two numbers; no condition.
-/
import Derived.Test.YtefpcdpclpignaaKRMark
import Derived.Test.YtefpcdpclpignaaKArgS
import Derived.Deep.QuietTactic
import Derived.BigQuiet
namespace Go.Proofs.Ytefpcdpclpignaa.nodePacks
open Go.ChangeShapes Go.WideShapes Go.ChangeAt Go.RowKit M

/-- A world in which all that was is as it was. -/
structure Wd (w : World) where
  v : World
  h : Below w.heap.size w v
/-- A region that draws its order, whose operations answer the same in every such world. -/
theorem quiet_below {id : Nat} {Q : Exit → Act → World → Prop} {a : Act} {w : World} {l : List Oper} (hB : Region.lexB .any l.toArray = true)
    (h : wpQuiet Try.prog l.toArray (fun w' => ∃ p : Wd w, w' = p.v) (fun a' => ∀ w', (∃ p : Wd w, w' = p.v) → Q .normal a' w') l a) : (Code.region id l.toArray true).wp Try.prog Q a w :=
  wp_region_quiet (C := fun w' => ∃ p : Wd w, w' = p.v) mixedT hB ⟨⟨w.drew, (Below.refl _ _).drew⟩, rfl⟩ (by simpa using h)
theorem quiet_call {w : World} {f : FuncId} {args : Array Value} {v : Value} (h : ∀ W, Calls Try.prog f args W fun e w' => e = .returned v ∧ Below W.heap.size W w') (p : Wd w) :
    Calls Try.prog f args p.v fun e w'' => e = .returned v ∧ ∃ q : Wd w, w'' = q.v := by
  refine (h p.v).mono ?_
  rintro e w' ⟨rfl, hb⟩
  exact ⟨rfl, ⟨w', Below.after p.h hb⟩, rfl⟩

/-- What Pack and Mark answer: bytes and an error. -/
abbrev Answers (f : FuncId) (args : Array Value) (m : Nat) (R : List Nat) (err : Int) : Prop := ∀ W, Calls Try.prog f args W fun e w' => ∃ a cap, e = .returned (.tuple #[.slice a m cap, .int .i64 err]) ∧ BRow w' a R ∧ Below W.heap.size W w'

set_option maxRecDepth 100000 in
set_option maxHeartbeats 8000000 in
theorem walk_l (K V : ByteArray) (g : Bool) (gr : Nat) (k : Int) (m1 m2 : Nat) (R1 R2 : List Nat) (e1 e2 : Int) (o : Bool) (z : Nat) (h1 : m1 = R1.length) (h2 : m2 = R2.length)
    (hP : Answers 34 #[.agg #[.string K, .string V, .bool g]] m1 R1 e1) (hQ : Answers 35 #[.agg #[.string K, .string V, .bool g]] m1 R1 e1)
    (hM : Answers 36 #[.int .u64 (gr : Int), .int .i64 k] m2 R2 e2) (hN : Answers 37 #[.int .u64 (gr : Int), .int .i64 k] m2 R2 e2)
    (hR : ∀ W, Calls Try.prog 38 #[.agg #[.string K, .string V, .bool g]] W fun e w' => e = .returned (.bool o) ∧ Below W.heap.size W w')
    (hS : ∀ W, Calls Try.prog 39 #[.agg #[.string K, .string V, .bool g]] W fun e w' => e = .returned (.bool o) ∧ Below W.heap.size W w')
    (hT : ∀ W, Calls Try.prog 40 #[.agg #[.string K, .string V, .bool g]] W fun e w' => e = .returned (.int .i64 (z : Int)) ∧ Below W.heap.size W w')
    (hU : ∀ W, Calls Try.prog 41 #[.agg #[.string K, .string V, .bool g]] W fun e w' => e = .returned (.int .i64 (z : Int)) ∧ Below W.heap.size W w') (w : World) :
    Calls Try.prog 6 #[.agg #[.string K, .string V, .bool g], .int .u64 (gr : Int), .int .i64 k] w fun e w' => e = .returned (.bool true) ∧ Below w.heap.size w w' := by
  obtain ⟨X1, eX1⟩ : ∃ X, X = bs (u8s R1) := ⟨_, rfl⟩
  obtain ⟨X2, eX2⟩ : ∃ X, X = bs (u8s R2) := ⟨_, rfl⟩
  have HC1 : Hid (∀ (W : World) (a : Option Addr) (cap : Nat), BRow W a R1 → (convert 43 9 (.slice a m1 cap)).run Try.prog W = .ok (.string X1) W) := fun W a cap h => by rw [eX1, h1]; exact conv_row cap h
  have HC2 : Hid (∀ (W : World) (a : Option Addr) (cap : Nat), BRow W a R2 → (convert 43 9 (.slice a m2 cap)).run Try.prog W = .ok (.string X2) W) := fun W a cap h => by rw [eX2, h2]; exact conv_row cap h
  clear eX1 eX2 h1 h2
  have HX0 : Hid (Row (w.alloc (.cells #[.string K, .string V, .bool g] 34)) w.heap.size [.string K, .string V, .bool g] 34) := Row.new w [_, _, _] _
  go_enter Try.func6, Try.ntmps6
  go_wp2_with (first
    | (go_at_call 34; refine (hP _).mono ?_; rintro e w1 ⟨a1, c1, rfl, hr, hb⟩; have B1 : Hid (Below w.heap.size w w1) := Below.after (below_new _ _) hb; have X1' : Hid (Row w1 w.heap.size [.string K, .string V, .bool g] 34) := HX0.out.later hb; have A1 : Hid (BRow w1 a1 R1) := hr; obtain ⟨x0, x1, x2, _, _, _⟩ := X1'.out.seen3; clear hr hb)
    | (go_at_call 35; refine (hQ _).mono ?_; rintro e w2 ⟨a2, c2, rfl, hr, hb⟩; have B2 : Hid (Below w.heap.size w w2) := Below.after B1.out hb; have X2' : Hid (Row w2 w.heap.size [.string K, .string V, .bool g] 34) := X1'.out.later hb; have A2 : Hid (BRow w2 a2 R1 ∧ BRow w2 a1 R1) := ⟨hr, A1.out.later hb⟩; clear hr hb x0 x1 x2)
    | (go_at_call 36; refine (hM _).mono ?_; rintro e w3 ⟨a3, c3, rfl, hr, hb⟩; have B3 : Hid (Below w.heap.size w w3) := Below.after B2.out hb; have X3' : Hid (Row w3 w.heap.size [.string K, .string V, .bool g] 34) := X2'.out.later hb; have A3 : Hid (BRow w3 a3 R2 ∧ BRow w3 a2 R1 ∧ BRow w3 a1 R1) := ⟨hr, A2.out.1.later hb, A2.out.2.later hb⟩; clear hr hb)
    | (go_at_call 37; refine (hN _).mono ?_; rintro e w4 ⟨a4, c4, rfl, hr, hb⟩; have B4 : Hid (Below w.heap.size w w4) := Below.after B3.out hb; have X4' : Hid (Row w4 w.heap.size [.string K, .string V, .bool g] 34) := X3'.out.later hb; have A4 : Hid (BRow w4 a4 R2 ∧ BRow w4 a3 R2 ∧ BRow w4 a2 R1 ∧ BRow w4 a1 R1) := ⟨hr, A3.out.1.later hb, A3.out.2.1.later hb, A3.out.2.2.later hb⟩; clear hr hb))
  have q1 := fun p : Wd w4 => HC1.out p.v a1 c1 (A4.out.2.2.2.later p.h)
  have q2 := fun p : Wd w4 => HC1.out p.v a2 c2 (A4.out.2.2.1.later p.h)
  have q3 := fun p : Wd w4 => HC2.out p.v a3 c3 (A4.out.2.1.later p.h)
  have q4 := fun p : Wd w4 => HC2.out p.v a4 c4 (A4.out.1.later p.h)
  have x0 : ∀ p : Wd w4, p.v.cell? ⟨w.heap.size, 0, none⟩ = some (.string K) := fun p => (X4'.out.later p.h).cell (i := 0) rfl
  have x1 : ∀ p : Wd w4, p.v.cell? ⟨w.heap.size, 1, none⟩ = some (.string V) := fun p => (X4'.out.later p.h).cell (i := 1) rfl
  have x2 : ∀ p : Wd w4, p.v.cell? ⟨w.heap.size, 2, none⟩ = some (.bool g) := fun p => (X4'.out.later p.h).cell (i := 2) rfl
  have ne : Nonempty (Wd w4) := ⟨⟨w4, Below.refl _ _⟩⟩
  have cR := fun p : Wd w4 => quiet_call hR p
  have cS := fun p : Wd w4 => quiet_call hS p
  have cT := fun p : Wd w4 => quiet_call hT p
  have cU := fun p : Wd w4 => quiet_call hU p
  have cA := fun p : Wd w4 => quiet_call (fun W => alive_any W) p
  refine quiet_below (by kernel_rfl) ?_
  repeat (first | go_big_quiet_skip | go_big_quiet_step (first
    | (go_at_call 38; exact cR _)
    | (go_at_call 39; exact cS _)
    | (go_at_call 40; exact cT _)
    | (go_at_call 41; exact cU _)
    | (go_at_call 21; exact cA _)))
  refine wpQuiet_nil ?_
  rintro _ ⟨p5, rfl⟩
  have HB5 : Hid (Below w.heap.size w p5.v) := Below.after B4.out p5.h
  clear cR cS cT cU cA ne x0 x1 x2 q1 q2 q3 q4
  go_wp2
  go_ret
  exact ⟨rfl, HB5.out⟩

theorem walk (K V : ByteArray) (g : Bool) (gi k : Int) (w : World) (hN : K.size ≤ maxLen ∧ V.size ≤ maxLen) (hg0 : (Lit.int .u64 gi).wf = true) (_ : (Lit.int .i64 k).wf = true) :
    Calls Try.prog 6 #[.agg #[.string K, .string V, .bool g], .int .u64 gi, .int .i64 k] w fun e w' => e = .returned (.bool true) ∧ Below w.heap.size w w' := by
  obtain ⟨gr, rfl, hgr⟩ : ∃ gr : Nat, gi = (gr : Int) ∧ gr < 18446744073709551616 := by
    have := bounds_u64 hg0
    exact ⟨gi.toNat, by omega, by omega⟩
  obtain ⟨n, en⟩ : ∃ n : Nd, n = ⟨K.data.toList, V.data.toList, g⟩ := ⟨_, rfl⟩
  have hk : n.key.length ≤ maxLen := by rw [en]; show K.data.toList.length ≤ _; rw [Array.length_toList]; exact hN.1
  have hv : n.val.length ≤ maxLen := by rw [en]; show V.data.toList.length ≤ _; rw [Array.length_toList]; exact hN.2
  have nv : n.v = .agg #[.string K, .string V, .bool g] := by rw [en]; unfold Nd.v Nd.cells; rw [bs_of, bs_of]
  have hR := fun W => nright_any n hk hv W
  have hS := fun W => rright6_any n hk hv W
  have hT := fun W => size_any n hk hv W
  have hU := fun W => rsize_any n hk hv W
  have hPQ : ∃ R e, Answers 34 #[n.v] R.length R e ∧ Answers 35 #[n.v] R.length R e := by
    cases ho : n.ok
    · refine ⟨[], 22, fun W => ?_, fun W => ?_⟩
      · refine (pack_no n hk hv ho W).mono ?_
        rintro e w' ⟨rfl, hb⟩
        exact ⟨none, 0, rfl, .inl rfl, hb⟩
      · refine (rpack_no n hk hv ho W).mono ?_
        rintro e w' ⟨rfl, hb⟩
        exact ⟨none, 0, rfl, .inl rfl, hb⟩
    · refine ⟨n.bytes, 0, fun W => ?_, fun W => rpack_yes n ho W⟩
      refine (pack_yes n ho W).mono ?_
      rintro e w' ⟨v, rfl, hw⟩
      obtain ⟨a, cap, rfl, hr, _⟩ := own_len rfl hw
      exact ⟨a, cap, rfl, hr, hw.2⟩
  have hMN : ∃ R e, Answers 36 #[.int .u64 (gr : Int), .int .i64 k] R.length R e ∧ Answers 37 #[.int .u64 (gr : Int), .int .i64 k] R.length R e := by
    cases ho : inB k 1 16
    · refine ⟨[], 22, fun W => ?_, fun W => ?_⟩
      · refine (mark_no gr k ho W).mono ?_
        rintro e w' ⟨rfl, rfl⟩
        exact ⟨none, 0, rfl, .inl rfl, Below.refl _ _⟩
      · refine (rmark_no gr k ho W).mono ?_
        rintro e w' ⟨rfl, rfl⟩
        exact ⟨none, 0, rfl, .inl rfl, Below.refl _ _⟩
    · have hb := of_decide_eq_true ho
      obtain ⟨kn, rfl⟩ : ∃ kn : Nat, k = (kn : Int) := ⟨k.toNat, by omega⟩
      refine ⟨markL gr kn, 0, fun W => ?_, fun W => ?_⟩
      · refine (mark_yes gr hgr kn (by omega) (by omega) W).mono ?_
        rintro e w' ⟨v, rfl, hw⟩
        obtain ⟨a, cap, rfl, hr, _⟩ := own_len rfl hw
        exact ⟨a, cap, rfl, hr, hw.2⟩
      · refine (rmark_yes gr hgr kn (by omega) (by omega) W).mono ?_
        rintro e w' ⟨v, rfl, hw⟩
        obtain ⟨a, cap, rfl, hr, _⟩ := own_len rfl hw
        exact ⟨a, cap, rfl, hr, hw.2⟩
  obtain ⟨R1, e1, hP, hQ⟩ := hPQ
  obtain ⟨R2, e2, hM, hN2⟩ := hMN
  rw [nv] at hP hQ hR hS hT hU
  exact walk_l K V g gr k _ _ R1 R2 e1 e2 _ _ rfl rfl hP hQ hM hN2 hR hS hT hU w

set_option maxRecDepth 100000 in
theorem lifted (os : Os) (started : os.Started) (H : Type) (enc : TypeId × Value → H) :
    ReturnsInHanded {} Try.checked os 6 .any (Rows.nodePacksSpec.pre6 enc Try.prog Try.f6 Rows.nodePacksRow.domain false) (Rows.nodePacksSpec.post enc Try.prog Try.f6 false true false false) := by
  refine returnsInHanded_of_change_sized (C := Try.checked) own started (by kernel_rfl) Try.func6
    (ChangeSpec.witness6 (enc := enc) (C := Try.checked) false ⟨#[], #[.agg #[.string ⟨#[]⟩, .string ⟨#[]⟩, .bool false], .int .u64 0, .int .i64 0], []⟩ 8 (by kernel_rfl) (by kernel_rfl) (by kernel_rfl) (by kernel_rfl)) ?_
  intro W base args ds gs before hval0 hW hcnd hsz0 _
  have hval : ∀ (j : Nat) t v, Try.f6.params[j]? = some t → args[j]? = some v → Value.okWide Try.prog W .any base t v := hval0
  have hsz : (DataW.weightsEach Try.prog (Try.f6.params.toList ++ Rows.nodePacksSpec.plain.varTypes Try.prog) (ds ++ gs)).all (· ≤ reachBytes) = true := hsz0
  have hW' := hW
  obtain ⟨p, q, hA0, hV, rfl, hfz, hnd⟩ := hW
  have hA : DataW.TrodAll enc Try.prog W 0 (fun _ => true) true Try.f6.params.toList args.toList ds p := hA0
  rw [Try.params6] at hA hval hsz
  obtain ⟨v0, vs0, d0, ds0, p0, q0, hargs, rfl, rfl, h0, r0⟩ := trodAll_cons hA
  obtain ⟨v1, vs1, d1, ds1, p1, q1, rfl, rfl, rfl, h1, r1⟩ := trodAll_cons r0
  obtain ⟨v2, vs2, d2, ds2, p2, q2, rfl, rfl, rfl, h2, r2⟩ := trodAll_cons r1
  obtain ⟨rfl, rfl, rfl⟩ := trodAll_nil r2
  obtain rfl : args = #[v0, v1, v2] := by cases args; simp_all
  obtain ⟨rfl, rfl⟩ := trodVars_none hV
  obtain ⟨cs0, rfl, sz0⟩ := okWide_struct Try.underlying34 (hval 0 34 v0 rfl rfl)
  have k0 := h0
  have lt0 : ∀ x ∈ p0, x.block < W.heap.size := by obtain ⟨m, hm⟩ := k0; exact DataW.trod_lt m _ _ _ hm
  obtain ⟨fu0, hf0⟩ := h0
  obtain ⟨z0_0, z0_1, z0_2, rfl, n0⟩ := narg_open sz0 hf0
  obtain ⟨a1, rfl, rfl, rfl, w1⟩ := open_int Try.underlying50 (hval 1 50 v1 rfl rfl) h1
  obtain ⟨a2, rfl, rfl, rfl, w2⟩ := open_int Try.underlying3 (hval 2 3 v2 rfl rfl) h2
  clear hA0 hval0
  refine (walk z0_0 z0_1 z0_2 a1 a2 W n0 w1 w2).mono fun e W' ⟨he, bel⟩ => ?_
  subst he
  exact ⟨_, rfl, _, _, _, [], _, [], hW', trodAll_mk1 (shut_bool Try.underlying4 _), (trodAll_cons_mk (Below.trod laidOut (by kernel_rfl) (of_decide_eq_true (by kernel_rfl)) k0 bel lt0) (trodAll_cons_mk (shut_int Try.underlying50 w1) (trodAll_cons_mk (shut_int Try.underlying3 w2) trodAll_mk0))), rfl, bel.frame _, fun h => by cases h⟩

theorem over : Rows.nodePacksRow.holds Try.pinned (OpenSpec.ofChange Rows.nodePacksSpec) :=
  OpenClaim.holds_of_wide 6 Try.f6 rfl rfl rfl rfl rfl rfl rfl ⟨rfl, rfl, rfl, rfl, rfl⟩ rfl rfl rfl rfl rfl (by kernel_rfl) Try.func6 (by kernel_rfl)
    (of_decide_eq_true (by kernel_rfl)) (by unfold Func.isWrapper; first | (rw [if_pos (by decide +kernel)]; kernel_rfl) | (rw [if_neg (by decide +kernel)]; exact ⟨rfl, rfl⟩))
    (fun os started H enc _ => lifted os started H enc)
end Go.Proofs.Ytefpcdpclpignaa.nodePacks

namespace Go.Proofs.Ytefpcdpclpignaa
theorem nodePacks_holds : Rows.NodePacksSaid := nodePacks.over
#print axioms nodePacks_holds
end Go.Proofs.Ytefpcdpclpignaa
