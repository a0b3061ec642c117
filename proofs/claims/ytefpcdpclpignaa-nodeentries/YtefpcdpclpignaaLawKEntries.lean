/-
  Proved: the statement that entries, blocks and orphans are made nodes, and a node an entry, as the document says (NodeEntries): for every int, Entry, int, slice of bytes and Node; no condition.
-/
import Derived.Test.YtefpcdpclpignaaKRParE
import Derived.Test.YtefpcdpclpignaaKSame
import Derived.Test.YtefpcdpclpignaaKArgS
namespace Go.Proofs.Ytefpcdpclpignaa.nodeEntries
open Go.ChangeShapes Go.WideShapes Go.ChangeAt Go.RowKit M

theorem own_empty (w : World) (base : Nat) (h : base ≤ w.heap.size) : (w.alloc (.cells #[] 5)).ownsRow base 5 1 (.slice (some ⟨w.heap.size, 0, none⟩) 0 0) 0 [] :=
  World.ownsRow_lit (e := 5) (size := 1) w #[] 0 h (by decide) rfl
theorem below_copy {w w' : World} (hg : (w.alloc (.cells #[] 5)).grownBy w' (Value.ownBlock (.slice (some ⟨w.heap.size, 0, none⟩) 0 0))) : Below w.heap.size w w' :=
  (below_new w _).grown hg (by simp) (fun k hk => by simp [Value.ownBlock] at hk; omega)
theorem copy_row {w' : World} {base n : Nat} {v : Value} {l : List Nat} (hn : n = l.length) (h : w'.ownsRow base 5 1 v (0 + n) ([] ++ l.map u8v)) : ∃ a c, v = .slice a n c ∧ BRow w' a l := by
  rw [Nat.zero_add, List.nil_append] at h
  obtain ⟨a, c, e, hr, _⟩ := own_shape' hn h
  exact ⟨a, c, e, hr⟩
/-- Boxes that lie on. -/
structure Kp (w W : World) (rows : List (Nat × List Value × TypeId)) : Prop where
  rs : ∀ (i b : Nat) (cs : List Value) (t : TypeId), rows[i]? = some (b, cs, t) → Row W b cs t
  bel : Below w.heap.size w W
theorem Kp.at {w W : World} {rows : List (Nat × List Value × TypeId)} (h : Kp w W rows) {i b : Nat} {cs : List Value} {t : TypeId} (hr : rows[i]? = some (b, cs, t)) : Row W b cs t := h.rs i b cs t hr
theorem Kp.later {w W W' : World} {rows : List (Nat × List Value × TypeId)} (h : Kp w W rows) (hb : Below W.heap.size W W') : Kp w W' rows := ⟨fun i b cs t hr => (h.rs i b cs t hr).later hb, Below.after h.bel hb⟩
theorem Kp.push {w W : World} {rows : List (Nat × List Value × TypeId)} (h : Kp w W rows) (cs : List Value) (t : TypeId) : Kp w (W.alloc (.cells cs.toArray t)) ((W.heap.size, cs, t) :: rows) :=
  ⟨fun i b cs' t' hr => by
    cases i with
    | zero =>
      simp only [List.getElem?_cons_zero, Option.some.injEq, Prod.mk.injEq] at hr
      obtain ⟨rfl, rfl, rfl⟩ := hr
      exact Row.new W cs t
    | succ i => exact (h.rs i b cs' t' (by simpa using hr)).alloc _, Below.after h.bel (below_new _ _)⟩
theorem Kp.two {w W : World} {b1 b2 : Nat} {c1 c2 : List Value} {t1 t2 : TypeId} (h1 : Row W b1 c1 t1) (h2 : Row W b2 c2 t2) (h : Below w.heap.size w W) : Kp w W [(b1, c1, t1), (b2, c2, t2)] :=
  ⟨fun i b cs t hr => by
    match i with
    | 0 =>
      simp only [List.getElem?_cons_zero, Option.some.injEq, Prod.mk.injEq] at hr
      obtain ⟨rfl, rfl, rfl⟩ := hr
      exact h1
    | 1 =>
      simp only [List.getElem?_cons_succ, List.getElem?_cons_zero, Option.some.injEq, Prod.mk.injEq] at hr
      obtain ⟨rfl, rfl, rfl⟩ := hr
      exact h2
    | i + 2 => simp at hr, h⟩

set_option maxRecDepth 100000 in
set_option maxHeartbeats 16000000 in
theorem walk_l (dir : Int) (S : ByteArray) (b1 b2 blk : Int) (a : Option Addr) (n cap : Nat) (l : List Nat) (K V : ByteArray) (g : Bool) (A1 B1 A2 B2 A3 B3 S2 : ByteArray) (g1 g2 g3 o : Bool) (c1 c2 c3 r0 r1 r2 : Int)
    (hn : n = l.length) (hnil : a = none → n = 0 ∧ cap = 0) (hbig : n ≤ 140737488351232)
    (hE : ∀ W, Calls Try.prog 26 #[.int .i64 dir, .agg #[.string S, .int .i64 b1, .int .i64 b2]] W fun e w' => e = .returned (.tuple #[.agg #[.string A1, .string B1, .bool g1], .int .i64 c1]) ∧ Below W.heap.size W w')
    (hF : ∀ W, Calls Try.prog 27 #[.int .i64 dir, .agg #[.string S, .int .i64 b1, .int .i64 b2]] W fun e w' => e = .returned (.tuple #[.agg #[.string A1, .string B1, .bool g1], .int .i64 c1]) ∧ Below W.heap.size W w')
    (hB : ∀ W a c, BRow W a l → Calls Try.prog 28 #[.int .i64 dir, .int .i64 blk, .slice a n c] W fun e w' => e = .returned (.tuple #[.agg #[.string A2, .string B2, .bool g2], .int .i64 c2]) ∧ Below W.heap.size W w')
    (hC : ∀ W, BRow W a l → Calls Try.prog 29 #[.int .i64 dir, .int .i64 blk, .slice a n cap] W fun e w' => e = .returned (.tuple #[.agg #[.string A2, .string B2, .bool g2], .int .i64 c2]) ∧ Below W.heap.size W w')
    (hO : ∀ W, Calls Try.prog 30 #[.int .i64 dir] W fun e w' => e = .returned (.tuple #[.agg #[.string A3, .string B3, .bool g3], .int .i64 c3]) ∧ Below W.heap.size W w')
    (hU : ∀ W, Calls Try.prog 31 #[.int .i64 dir] W fun e w' => e = .returned (.tuple #[.agg #[.string A3, .string B3, .bool g3], .int .i64 c3]) ∧ Below W.heap.size W w')
    (hP : ∀ W, Calls Try.prog 32 #[.agg #[.string K, .string V, .bool g]] W fun e w' => e = .returned (.tuple #[.int .i64 r0, .agg #[.string S2, .int .i64 r1, .int .i64 r2], .bool o]) ∧ Below W.heap.size W w')
    (hQ : ∀ W, Calls Try.prog 33 #[.agg #[.string K, .string V, .bool g]] W fun e w' => e = .returned (.tuple #[.int .i64 r0, .agg #[.string S2, .int .i64 r1, .int .i64 r2], .bool o]) ∧ Below W.heap.size W w') (w : World) (hr : BRow w a l) :
    Calls Try.prog 5 #[.int .i64 dir, .agg #[.string S, .int .i64 b1, .int .i64 b2], .int .i64 blk, .slice a n cap, .agg #[.string K, .string V, .bool g]] w fun e w' => e = .returned (.bool true) ∧ Below w.heap.size w w' := by
  obtain ⟨W, hW⟩ : ∃ W, W = (w.alloc (.cells #[.string S, .int .i64 b1, .int .i64 b2] 42)).alloc (.cells #[.string K, .string V, .bool g] 34) := ⟨_, rfl⟩
  obtain ⟨hR1, hR2, hBW⟩ := two_boxes w [.string S, .int .i64 b1, .int .i64 b2] [.string K, .string V, .bool g] 42 34 W hW
  have K0 : Hid (Kp w W [(w.heap.size, [.string S, .int .i64 b1, .int .i64 b2], 42), (w.heap.size + 1, [.string K, .string V, .bool g], 34)]) := Kp.two hR1 hR2 hBW
  have D0 : Hid (BRow W a l) := hr.later hBW
  have HN : Hid (n = l.length) := hn
  have HNIL : Hid (a = none → n = 0 ∧ cap = 0) := hnil
  have HBG : Hid (0 + n ≤ maxLen ∧ (0 + n) * 1 ≤ 140737488355328) := ⟨by unfold maxLen; omega, by omega⟩
  clear hR1 hR2 hBW hr hn hnil hbig
  obtain ⟨q0, q1, q2, _, _, _⟩ := (K0.out.at (i := 0) rfl).seen3
  have e1 := eql_nd
  have e2 := eql_en
  go_enter Try.func5, Try.ntmps5
  go_wp2_with fail
  rw [← hW]
  clear hW
  go_wp2_with (first
    | (go_at_call 26; refine (hE _).mono ?_; rintro e w1 ⟨rfl, hb⟩; have K1 : Hid (Kp w (w1.alloc (.cells #[.string A1, .string B1, .bool g1] 34)) _) := ((K0.out.later hb).push [.string A1, .string B1, .bool g1] 34); have D1 : Hid (BRow (w1.alloc (.cells #[.string A1, .string B1, .bool g1] 34)) a l) := (D0.out.later hb).later (below_new _ _); clear q0 q1 q2; obtain ⟨q0, q1, q2, _, _, _⟩ := (K1.out.at (i := 1) rfl).seen3; clear hb)
    | (go_at_call 27; refine (hF _).mono ?_; rintro e w2 ⟨rfl, hb⟩; have K2 : Hid (Kp w (w2.alloc (.cells #[.string A1, .string B1, .bool g1] 34)) _) := ((K1.out.later hb).push [.string A1, .string B1, .bool g1] 34); have D2 : Hid (BRow (w2.alloc (.cells #[.string A1, .string B1, .bool g1] 34)) a l) := (D1.out.later hb).later (below_new _ _); clear q0 q1 q2; clear hb)
    | (at_builtin; refine wpList_append_bytes rfl (.tmp 44) (.tmp 45) rfl (w2.heap.size + 1) (.slice (some ⟨w2.heap.size + 1, 0, none⟩) 0 0) 0 [] rfl (by have h := own_empty (w2.alloc (.cells #[.string A1, .string B1, .bool g1] 34)) _ (Nat.le_refl _); simpa using h) a n cap l rfl HN.out (D2.out.later (below_new _ _)) HNIL.out HBG.out.1 HBG.out.2 (by simp) ?_; intro v3 w3 ho hg; have hb : Below (w2.alloc (.cells #[.string A1, .string B1, .bool g1] 34)).heap.size (w2.alloc (.cells #[.string A1, .string B1, .bool g1] 34)) w3 := below_copy (by simpa using hg); have K3 : Hid (Kp w w3 _) := K2.out.later hb; have D3 : Hid (BRow w3 a l) := D2.out.later hb; obtain ⟨a3, c3, rfl, hr3⟩ := copy_row HN.out ho; have Q3 : Hid (BRow w3 a3 l) := hr3; clear ho hg hb hr3)
    | (go_at_call 28; refine (hB _ _ _ Q3.out).mono ?_; rintro e w4 ⟨rfl, hb⟩; have K4 : Hid (Kp w (w4.alloc (.cells #[.string A2, .string B2, .bool g2] 34)) _) := ((K3.out.later hb).push [.string A2, .string B2, .bool g2] 34); have D4 : Hid (BRow (w4.alloc (.cells #[.string A2, .string B2, .bool g2] 34)) a l) := (D3.out.later hb).later (below_new _ _); clear hb)
    | (go_at_call 29; refine (hC _ D4.out).mono ?_; rintro e w5 ⟨rfl, hb⟩; have K5 : Hid (Kp w (w5.alloc (.cells #[.string A2, .string B2, .bool g2] 34)) _) := ((K4.out.later hb).push [.string A2, .string B2, .bool g2] 34); clear hb)
    | (go_at_call 30; refine (hO _).mono ?_; rintro e w6 ⟨rfl, hb⟩; have K6 : Hid (Kp w (w6.alloc (.cells #[.string A3, .string B3, .bool g3] 34)) _) := ((K5.out.later hb).push [.string A3, .string B3, .bool g3] 34); clear hb)
    | (go_at_call 31; refine (hU _).mono ?_; rintro e w7 ⟨rfl, hb⟩; have K7 : Hid (Kp w (w7.alloc (.cells #[.string A3, .string B3, .bool g3] 34)) _) := ((K6.out.later hb).push [.string A3, .string B3, .bool g3] 34); obtain ⟨q0, q1, q2, _, _, _⟩ := (K7.out.at (i := 7) rfl).seen3; clear hb)
    | (go_at_call 32; refine (hP _).mono ?_; rintro e w8 ⟨rfl, hb⟩; have K8 : Hid (Kp w (w8.alloc (.cells #[.string S2, .int .i64 r1, .int .i64 r2] 42)) _) := ((K7.out.later hb).push [.string S2, .int .i64 r1, .int .i64 r2] 42); clear q0 q1 q2; obtain ⟨q0, q1, q2, _, _, _⟩ := (K8.out.at (i := 8) rfl).seen3; clear hb)
    | (go_at_call 33; refine (hQ _).mono ?_; rintro e w9 ⟨rfl, hb⟩; have K9 : Hid (Kp w (w9.alloc (.cells #[.string S2, .int .i64 r1, .int .i64 r2] 42)) _) := ((K8.out.later hb).push [.string S2, .int .i64 r1, .int .i64 r2] 42); clear q0 q1 q2; obtain ⟨bx0, bx1, bx2, _, _, _⟩ := (K9.out.at (i := 1) rfl).seen3; obtain ⟨cx0, cx1, cx2, _, _, _⟩ := (K9.out.at (i := 2) rfl).seen3; obtain ⟨dx0, dx1, dx2, _, _, _⟩ := (K9.out.at (i := 3) rfl).seen3; obtain ⟨ex0, ex1, ex2, _, _, _⟩ := (K9.out.at (i := 4) rfl).seen3; obtain ⟨fx0, fx1, fx2, _, _, _⟩ := (K9.out.at (i := 5) rfl).seen3; obtain ⟨gx0, gx1, gx2, _, _, _⟩ := (K9.out.at (i := 6) rfl).seen3; obtain ⟨hx0, hx1, hx2, _, _, _⟩ := (K9.out.at (i := 7) rfl).seen3; clear hb)
    | (go_at_call 21; refine (alive_any _).mono ?_; rintro e w10 ⟨rfl, hb⟩; have K10 : Hid (Kp w w10 _) := (K9.out.later hb); clear hb))
  go_ret
  exact ⟨rfl, K10.out.bel⟩

theorem walk (dir : Int) (S : ByteArray) (b1 b2 blk : Int) (a : Option Addr) (n cap : Nat) (l : List Nat) (K V : ByteArray) (g : Bool) (w : World)
    (_ : (Lit.int .i64 dir).wf = true)
    (hS : S.size ≤ maxLen ∧ (-9223372036854775808 ≤ b1 ∧ b1 ≤ 9223372036854775807) ∧ (-9223372036854775808 ≤ b2 ∧ b2 ≤ 9223372036854775807))
    (_ : (Lit.int .i64 blk).wf = true) (hA : BArg w a n cap l) (_ : cap ≤ 140737488351232)
    (hN : K.size ≤ maxLen ∧ V.size ≤ maxLen) :
    Calls Try.prog 5 #[.int .i64 dir, .agg #[.string S, .int .i64 b1, .int .i64 b2], .int .i64 blk, .slice a n cap, .agg #[.string K, .string V, .bool g]] w fun e w' => e = .returned (.bool true) ∧ Below w.heap.size w w' := by
  rename_i hcap
  obtain ⟨e, ee⟩ : ∃ e : En, e = ⟨S.data.toList, b1, b2⟩ := ⟨_, rfl⟩
  have hel : e.name.length ≤ maxLen := by rw [ee]; show S.data.toList.length ≤ _; rw [Array.length_toList]; exact hS.1
  have ev : e.v = .agg #[.string S, .int .i64 b1, .int .i64 b2] := by rw [ee]; unfold En.v En.cells; rw [bs_of]
  obtain ⟨m, en⟩ : ∃ m : Nd, m = ⟨K.data.toList, V.data.toList, g⟩ := ⟨_, rfl⟩
  have hk : m.key.length ≤ maxLen := by rw [en]; show K.data.toList.length ≤ _; rw [Array.length_toList]; exact hN.1
  have hv : m.val.length ≤ maxLen := by rw [en]; show V.data.toList.length ≤ _; rw [Array.length_toList]; exact hN.2
  have nv : m.v = .agg #[.string K, .string V, .bool g] := by rw [en]; unfold Nd.v Nd.cells; rw [bs_of, bs_of]
  have ndv : ∀ m : Nd, m.v = .agg #[.string (bs m.key), .string (bs m.val), .bool m.gone] := fun _ => rfl
  obtain ⟨m1, e1⟩ : ∃ m : Nd, m = (bif enOk dir e then En.nd dir e else Nd.zero) := ⟨_, rfl⟩
  obtain ⟨m2, e2⟩ : ∃ m : Nd, m = (bif blOk dir blk n then blNd dir blk l else Nd.zero) := ⟨_, rfl⟩
  obtain ⟨m3, e3⟩ : ∃ m : Nd, m = (bif inoB dir then orNd dir else Nd.zero) := ⟨_, rfl⟩
  obtain ⟨r, er⟩ : ∃ r : En, r = (bif peOk m then vEn (kindOf m.key).2.2.1 m.val else En.zero) := ⟨_, rfl⟩
  have rv : r.v = .agg #[.string (bs r.name), .int .i64 r.ino, .int .i64 r.kind] := rfl
  have hE := fun W => entry_any dir e hel W
  have hF := fun W => rentry_any dir e hel W
  have hB : ∀ W a c, BRow W a l → _ := fun W a c h => block_any dir blk a n c l hA.len_eq W h
  have hC : ∀ W, BRow W a l → _ := fun W h => rblock_any dir blk a n cap l hA.len_eq W h
  have hO := fun W => orphan_any dir W
  have hU := fun W => rorphan_any dir W
  have hP := fun W => parseEntry_any m hk hv W
  have hQ := fun W => rparseEntry_any m hk W
  rw [← e1, ndv m1, ev] at hE hF
  rw [← e2, ndv m2] at hB hC
  rw [← e3, ndv m3] at hO hU
  rw [← er, rv, nv] at hP hQ
  exact walk_l dir S b1 b2 blk a n cap l K V g _ _ _ _ _ _ _ _ _ _ _ _ _ _ _ _ _ hA.len_eq hA.nil (by have := hA.le; omega) hE hF hB hC hO hU hP hQ w hA.row

set_option maxRecDepth 100000 in
theorem lifted (os : Os) (started : os.Started) (H : Type) (enc : TypeId × Value → H) :
    ReturnsInHanded {} Try.checked os 5 .any (Rows.nodeEntriesSpec.pre6 enc Try.prog Try.f5 Rows.nodeEntriesRow.domain false) (Rows.nodeEntriesSpec.post enc Try.prog Try.f5 false true false false) := by
  refine returnsInHanded_of_change_sized (C := Try.checked) own started (by kernel_rfl) Try.func5
    (ChangeSpec.witness6 (enc := enc) (C := Try.checked) false ⟨#[], #[.int .i64 0, .agg #[.string ⟨#[]⟩, .int .i64 0, .int .i64 0], .int .i64 0, .slice none 0 0, .agg #[.string ⟨#[]⟩, .string ⟨#[]⟩, .bool false]], []⟩ 8 (by kernel_rfl) (by kernel_rfl) (by kernel_rfl) (by kernel_rfl)) ?_
  intro W base args ds gs before hval0 hW hcnd hsz0 _
  have hval : ∀ (j : Nat) t v, Try.f5.params[j]? = some t → args[j]? = some v → Value.okWide Try.prog W .any base t v := hval0
  have hsz : (DataW.weightsEach Try.prog (Try.f5.params.toList ++ Rows.nodeEntriesSpec.plain.varTypes Try.prog) (ds ++ gs)).all (· ≤ reachBytes) = true := hsz0
  have hW' := hW
  obtain ⟨p, q, hA0, hV, rfl, hfz, hnd⟩ := hW
  have hA : DataW.TrodAll enc Try.prog W 0 (fun _ => true) true Try.f5.params.toList args.toList ds p := hA0
  rw [Try.params5] at hA hval hsz
  obtain ⟨v0, vs0, d0, ds0, p0, q0, hargs, rfl, rfl, h0, r0⟩ := trodAll_cons hA
  obtain ⟨v1, vs1, d1, ds1, p1, q1, rfl, rfl, rfl, h1, r1⟩ := trodAll_cons r0
  obtain ⟨v2, vs2, d2, ds2, p2, q2, rfl, rfl, rfl, h2, r2⟩ := trodAll_cons r1
  obtain ⟨v3, vs3, d3, ds3, p3, q3, rfl, rfl, rfl, h3, r3⟩ := trodAll_cons r2
  obtain ⟨v4, vs4, d4, ds4, p4, q4, rfl, rfl, rfl, h4, r4⟩ := trodAll_cons r3
  obtain ⟨rfl, rfl, rfl⟩ := trodAll_nil r4
  obtain rfl : args = #[v0, v1, v2, v3, v4] := by cases args; simp_all
  obtain ⟨rfl, rfl⟩ := trodVars_none hV
  obtain ⟨a0, rfl, rfl, rfl, w0⟩ := open_int Try.underlying3 (hval 0 3 v0 rfl rfl) h0
  obtain ⟨cs1, rfl, sz1⟩ := okWide_struct Try.underlying42 (hval 1 42 v1 rfl rfl)
  have k1 := h1
  have lt1 : ∀ x ∈ p1, x.block < W.heap.size := by obtain ⟨m, hm⟩ := k1; exact DataW.trod_lt m _ _ _ hm
  obtain ⟨fu1, hf1⟩ := h1
  obtain ⟨z1_0, z1_1, z1_2, rfl, n1⟩ := earg_open sz1 hf1
  obtain ⟨a2, rfl, rfl, rfl, w2⟩ := open_int Try.underlying3 (hval 2 3 v2 rfl rfl) h2
  obtain ⟨a3, len3, cap3, rfl⟩ := okWide_slice Try.underlying43 (hval 3 43 v3 rfl rfl)
  have k3 := h3
  have lt3 : ∀ x ∈ p3, x.block < W.heap.size := by obtain ⟨m, hm⟩ := k3; exact DataW.trod_lt m _ _ _ hm
  obtain ⟨l3, w3, s3⟩ : ∃ l, BArg W a3 len3 cap3 l ∧ cap3 ≤ 140737488351232 := by
    obtain ⟨fuel, hf⟩ := h3
    obtain ⟨l, hl, hd⟩ := barg_open_sized hf
    refine ⟨l, hl, ?_⟩
    rcases hd with h | ⟨elems, spare, rfl, hcap⟩
    · omega
    have := sized_slice hsz (j := 3) (t := 43) (e := 5) rfl rfl Try.underlying43
    rw [bytes8] at this
    simp only [reachBytes] at this
    omega
  obtain ⟨cs4, rfl, sz4⟩ := okWide_struct Try.underlying34 (hval 4 34 v4 rfl rfl)
  have k4 := h4
  have lt4 : ∀ x ∈ p4, x.block < W.heap.size := by obtain ⟨m, hm⟩ := k4; exact DataW.trod_lt m _ _ _ hm
  obtain ⟨fu4, hf4⟩ := h4
  obtain ⟨z4_0, z4_1, z4_2, rfl, n4⟩ := narg_open sz4 hf4
  clear hA0 hval0
  refine (walk a0 z1_0 z1_1 z1_2 a2 a3 len3 cap3 l3 z4_0 z4_1 z4_2 W w0 n1 w2 w3 s3 n4).mono fun e W' ⟨he, bel⟩ => ?_
  subst he
  exact ⟨_, rfl, _, _, _, [], _, [], hW', trodAll_mk1 (shut_bool Try.underlying4 _), (trodAll_cons_mk (shut_int Try.underlying3 w0) (trodAll_cons_mk (Below.trod laidOut (by kernel_rfl) (of_decide_eq_true (by kernel_rfl)) k1 bel lt1) (trodAll_cons_mk (shut_int Try.underlying3 w2) (trodAll_cons_mk (Below.trod laidOut (by kernel_rfl) (of_decide_eq_true (by kernel_rfl)) k3 bel lt3) (trodAll_cons_mk (Below.trod laidOut (by kernel_rfl) (of_decide_eq_true (by kernel_rfl)) k4 bel lt4) trodAll_mk0))))), rfl, bel.frame _, fun h => by cases h⟩

theorem over : Rows.nodeEntriesRow.holds Try.pinned (OpenSpec.ofChange Rows.nodeEntriesSpec) :=
  OpenClaim.holds_of_wide 5 Try.f5 rfl rfl rfl rfl rfl rfl rfl ⟨rfl, rfl, rfl, rfl, rfl⟩ rfl rfl rfl rfl rfl (by kernel_rfl) Try.func5 (by kernel_rfl)
    (of_decide_eq_true (by kernel_rfl)) (by unfold Func.isWrapper; first | (rw [if_pos (by decide +kernel)]; kernel_rfl) | (rw [if_neg (by decide +kernel)]; exact ⟨rfl, rfl⟩))
    (fun os started H enc _ => lifted os started H enc)
end Go.Proofs.Ytefpcdpclpignaa.nodeEntries

namespace Go.Proofs.Ytefpcdpclpignaa
theorem nodeEntries_holds : Rows.NodeEntriesSaid := nodeEntries.over
#print axioms nodeEntries_holds
end Go.Proofs.Ytefpcdpclpignaa
