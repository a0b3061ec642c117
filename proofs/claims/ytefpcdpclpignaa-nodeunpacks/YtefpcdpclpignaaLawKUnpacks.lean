/-
  Proved: the statement that any bytes are a node, a mark, or neither, as the document says (NodeUnpacks): for every slice of bytes; no condition.
-/
import Derived.Test.YtefpcdpclpignaaKRPM
import Derived.Test.YtefpcdpclpignaaKSame
import Derived.Test.YtefpcdpclpignaaKArgS
namespace Go.Proofs.Ytefpcdpclpignaa.nodeUnpacks
open Go.ChangeShapes Go.WideShapes Go.ChangeAt Go.RowKit M

theorem own_empty (w : World) (base : Nat) (h : base ≤ w.heap.size) : (w.alloc (.cells #[] 5)).ownsRow base 5 1 (.slice (some ⟨w.heap.size, 0, none⟩) 0 0) 0 [] :=
  World.ownsRow_lit (e := 5) (size := 1) w #[] 0 h (by decide) rfl
theorem below_copy {w w' : World} (hg : (w.alloc (.cells #[] 5)).grownBy w' (Value.ownBlock (.slice (some ⟨w.heap.size, 0, none⟩) 0 0))) : Below w.heap.size w w' :=
  (below_new w _).grown hg (by simp) (fun k hk => by simp [Value.ownBlock] at hk; omega)
theorem copy_row {w' : World} {base n : Nat} {v : Value} {l : List Nat} (hn : n = l.length) (h : w'.ownsRow base 5 1 v (0 + n) ([] ++ l.map u8v)) : ∃ a c, v = .slice a n c ∧ BRow w' a l := by
  rw [Nat.zero_add, List.nil_append] at h
  obtain ⟨a, c, e, hr, _⟩ := own_shape' hn h
  exact ⟨a, c, e, hr⟩
/-- A box and what came in lie on. -/
structure Lie (w W : World) (a : Option Addr) (l : List Nat) : Prop where
  row : BRow W a l
  bel : Below w.heap.size w W
theorem Lie.later {w W W' : World} {a : Option Addr} {l : List Nat} (h : Lie w W a l) (hb : Below W.heap.size W W') : Lie w W' a l := ⟨h.row.later hb, Below.after h.bel hb⟩

set_option maxRecDepth 10000 in
set_option maxHeartbeats 8000000 in
theorem walk_l (a : Option Addr) (n cap : Nat) (l : List Nat) (K V : ByteArray) (g o p : Bool) (x y : Nat) (hn : n = l.length) (hnil : a = none → n = 0 ∧ cap = 0) (hbig : n ≤ 140737488351232) (w : World) (hr : BRow w a l)
    (hU : ∀ W a c, BRow W a l → Calls Try.prog 42 #[.slice a n c] W fun e w' => e = .returned (.tuple #[.agg #[.string K, .string V, .bool g], .bool o]) ∧ Below W.heap.size W w')
    (hV : ∀ W, BRow W a l → Calls Try.prog 43 #[.slice a n cap] W fun e w' => e = .returned (.tuple #[.agg #[.string K, .string V, .bool g], .bool o]) ∧ Below W.heap.size W w')
    (hM : ∀ W a c, BRow W a l → Calls Try.prog 44 #[.slice a n c] W fun e w' => e = .returned (.tuple #[.int .u64 (x : Int), .int .i64 (y : Int), .bool p]) ∧ Below W.heap.size W w')
    (hN : ∀ W, BRow W a l → Calls Try.prog 45 #[.slice a n cap] W fun e w' => e = .returned (.tuple #[.int .u64 (x : Int), .int .i64 (y : Int), .bool p]) ∧ Below W.heap.size W w') :
    Calls Try.prog 7 #[.slice a n cap] w fun e w' => e = .returned (.bool true) ∧ Below w.heap.size w w' := by
  have L0 : Hid (Lie w w a l) := ⟨hr, Below.refl _ _⟩
  have HN : Hid (n = l.length) := hn
  have HNIL : Hid (a = none → n = 0 ∧ cap = 0) := hnil
  have HBG : Hid (0 + n ≤ maxLen ∧ (0 + n) * 1 ≤ 140737488355328) := ⟨by unfold maxLen; omega, by omega⟩
  have e1 := eql_nd
  have M1 : Hid True := trivial
  clear hr hn hnil hbig
  go_enter Try.func7, Try.ntmps7
  go_wp2_with (first
    | (at_builtin; clear M1; refine wpList_append_bytes rfl (.tmp 14) (.tmp 15) rfl w.heap.size (.slice (some ⟨w.heap.size, 0, none⟩) 0 0) 0 [] rfl (own_empty w _ (Nat.le_refl _)) a n cap l rfl HN.out (L0.out.row.later (below_new _ _)) HNIL.out HBG.out.1 HBG.out.2 (by simp) ?_; intro v1 w1 ho hg; have hb := below_copy hg; have L1 : Hid (Lie w w1 a l) := L0.out.later hb; obtain ⟨a1, c1, rfl, hr1⟩ := copy_row HN.out ho; have R1 : Hid (BRow w1 a1 l) := hr1; clear ho hg hb hr1)
    | (go_at_call 42; refine (hU _ _ _ R1.out).mono ?_; rintro e w2 ⟨rfl, hb⟩; have L2 : Hid (Lie w w2 a l) := L1.out.later hb; clear hb)
    | (go_at_call 43; refine (hV _ (L2.out.row.later (below_new _ _))).mono ?_; rintro e w3 ⟨rfl, hb⟩; have L3 : Hid (Lie w w3 a l) := (L2.out.later (below_new _ _)).later hb; have X3 : Hid (Row w3 w2.heap.size [.string K, .string V, .bool g] 34) := (Row.new w2 [.string K, .string V, .bool g] 34).later hb; clear hb)
    | (at_builtin; have L4 := L3.out.later (below_new w3 (.cells #[.string K, .string V, .bool g] 34)); refine wpList_append_bytes rfl (.tmp 26) (.tmp 27) rfl (w3.heap.size + 1) (.slice (some ⟨w3.heap.size + 1, 0, none⟩) 0 0) 0 [] rfl (by have h := own_empty (w3.alloc (.cells #[.string K, .string V, .bool g] 34)) _ (Nat.le_refl _); simpa using h) a n cap l rfl HN.out (L4.row.later (below_new _ _)) HNIL.out HBG.out.1 HBG.out.2 (by simp) ?_; intro v5 w5 ho hg; have hb : Below (w3.alloc (.cells #[.string K, .string V, .bool g] 34)).heap.size (w3.alloc (.cells #[.string K, .string V, .bool g] 34)) w5 := below_copy (by simpa using hg); have L5 : Hid (Lie w w5 a l) := L4.later hb; have X5 : Hid (Row w5 w2.heap.size [.string K, .string V, .bool g] 34) := (X3.out.alloc _).later hb; have Y5 : Hid (Row w5 w3.heap.size [.string K, .string V, .bool g] 34) := (Row.new w3 [.string K, .string V, .bool g] 34).later hb; obtain ⟨a5, c5, rfl, hr5⟩ := copy_row HN.out ho; have R5 : Hid (BRow w5 a5 l) := hr5; clear ho hg hb hr5 L4)
    | (go_at_call 44; refine (hM _ _ _ R5.out).mono ?_; rintro e w6 ⟨rfl, hb⟩; have L6 : Hid (Lie w w6 a l) := L5.out.later hb; have X6 : Hid (Row w6 w2.heap.size [.string K, .string V, .bool g] 34) := X5.out.later hb; have Y6 : Hid (Row w6 w3.heap.size [.string K, .string V, .bool g] 34) := Y5.out.later hb; clear hb)
    | (go_at_call 45; refine (hN _ L6.out.row).mono ?_; rintro e w7 ⟨rfl, hb⟩; have L7 : Hid (Lie w w7 a l) := L6.out.later hb; obtain ⟨x0, x1, x2, _, _, _⟩ := (X6.out.later hb).seen3; obtain ⟨y0, y1, y2, _, _, _⟩ := (Y6.out.later hb).seen3; clear hb)
    | (go_at_call 21; refine (alive_any _).mono ?_; rintro e w8 ⟨rfl, hb⟩; have L8 : Hid (Lie w w8 a l) := L7.out.later hb; clear hb))
  go_ret
  exact ⟨rfl, L8.out.bel⟩

theorem walk (a : Option Addr) (n cap : Nat) (l : List Nat) (w : World) (hA : BArg w a n cap l) (hs : cap ≤ 140737488351232) :
    Calls Try.prog 7 #[.slice a n cap] w fun e w' => e = .returned (.bool true) ∧ Below w.heap.size w w' := by
  obtain ⟨m, em⟩ : ∃ m : Nd, m = (bif uOk (u8s l) then uNd (u8s l) else Nd.zero) := ⟨_, rfl⟩
  have mv : m.v = .agg #[.string (bs m.key), .string (bs m.val), .bool m.gone] := rfl
  have hU : ∀ W a c, BRow W a l → _ := fun W a c h => unpack_any a n c l hA.len_eq W h
  have hV : ∀ W, BRow W a l → _ := fun W h => runpack_any a n cap l hA.len_eq (by have := hA.le; unfold maxLen; omega) W h
  rw [← em, mv] at hU hV
  exact walk_l a n cap l _ _ _ _ _ _ _ hA.len_eq hA.nil (by have := hA.le; omega) w hA.row hU hV (fun W a c h => parseMark_any a n c l hA.len_eq W h) (fun W h => rparseMark_any a n cap l hA.len_eq hA.le hA.lt W h)

set_option maxRecDepth 100000 in
theorem lifted (os : Os) (started : os.Started) (H : Type) (enc : TypeId × Value → H) :
    ReturnsInHanded {} Try.checked os 7 .any (Rows.nodeUnpacksSpec.pre6 enc Try.prog Try.f7 Rows.nodeUnpacksRow.domain false) (Rows.nodeUnpacksSpec.post enc Try.prog Try.f7 false true false false) := by
  refine returnsInHanded_of_change_sized (C := Try.checked) own started (by kernel_rfl) Try.func7
    (ChangeSpec.witness6 (enc := enc) (C := Try.checked) false ⟨#[], #[.slice none 0 0], []⟩ 8 (by kernel_rfl) (by kernel_rfl) (by kernel_rfl) (by kernel_rfl)) ?_
  intro W base args ds gs before hval0 hW hcnd hsz0 _
  have hval : ∀ (j : Nat) t v, Try.f7.params[j]? = some t → args[j]? = some v → Value.okWide Try.prog W .any base t v := hval0
  have hsz : (DataW.weightsEach Try.prog (Try.f7.params.toList ++ Rows.nodeUnpacksSpec.plain.varTypes Try.prog) (ds ++ gs)).all (· ≤ reachBytes) = true := hsz0
  have hW' := hW
  obtain ⟨p, q, hA0, hV, rfl, hfz, hnd⟩ := hW
  have hA : DataW.TrodAll enc Try.prog W 0 (fun _ => true) true Try.f7.params.toList args.toList ds p := hA0
  rw [Try.params7] at hA hval hsz
  obtain ⟨v0, vs0, d0, ds0, p0, q0, hargs, rfl, rfl, h0, r0⟩ := trodAll_cons hA
  obtain ⟨rfl, rfl, rfl⟩ := trodAll_nil r0
  obtain rfl : args = #[v0] := by cases args; simp_all
  obtain ⟨rfl, rfl⟩ := trodVars_none hV
  obtain ⟨a0, len0, cap0, rfl⟩ := okWide_slice Try.underlying43 (hval 0 43 v0 rfl rfl)
  have k0 := h0
  have lt0 : ∀ x ∈ p0, x.block < W.heap.size := by obtain ⟨m, hm⟩ := k0; exact DataW.trod_lt m _ _ _ hm
  obtain ⟨l0, w0, s0⟩ : ∃ l, BArg W a0 len0 cap0 l ∧ cap0 ≤ 140737488351232 := by
    obtain ⟨fuel, hf⟩ := h0
    obtain ⟨l, hl, hd⟩ := barg_open_sized hf
    refine ⟨l, hl, ?_⟩
    rcases hd with h | ⟨elems, spare, rfl, hcap⟩
    · omega
    have := sized_slice hsz (j := 0) (t := 43) (e := 5) rfl rfl Try.underlying43
    rw [bytes8] at this
    simp only [reachBytes] at this
    omega
  clear hA0 hval0
  refine (walk a0 len0 cap0 l0 W w0 s0).mono fun e W' ⟨he, bel⟩ => ?_
  subst he
  exact ⟨_, rfl, _, _, _, [], _, [], hW', trodAll_mk1 (shut_bool Try.underlying4 _), (trodAll_cons_mk (Below.trod laidOut (by kernel_rfl) (of_decide_eq_true (by kernel_rfl)) k0 bel lt0) trodAll_mk0), rfl, bel.frame _, fun h => by cases h⟩

theorem over : Rows.nodeUnpacksRow.holds Try.pinned (OpenSpec.ofChange Rows.nodeUnpacksSpec) :=
  OpenClaim.holds_of_wide 7 Try.f7 rfl rfl rfl rfl rfl rfl rfl ⟨rfl, rfl, rfl, rfl, rfl⟩ rfl rfl rfl rfl rfl (by kernel_rfl) Try.func7 (by kernel_rfl)
    (of_decide_eq_true (by kernel_rfl)) (by unfold Func.isWrapper; first | (rw [if_pos (by decide +kernel)]; kernel_rfl) | (rw [if_neg (by decide +kernel)]; exact ⟨rfl, rfl⟩))
    (fun os started H enc _ => lifted os started H enc)
end Go.Proofs.Ytefpcdpclpignaa.nodeUnpacks

namespace Go.Proofs.Ytefpcdpclpignaa
theorem nodeUnpacks_holds : Rows.NodeUnpacksSaid := nodeUnpacks.over
#print axioms nodeUnpacks_holds
end Go.Proofs.Ytefpcdpclpignaa
