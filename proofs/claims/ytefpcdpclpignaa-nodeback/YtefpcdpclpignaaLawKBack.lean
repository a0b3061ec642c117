/-
  Proved: the statement that what was made of an inode, an entry, a node, a mark is read as it was (NodeBack): for every inode, number, entry, node and number; no condition.
-/
import Derived.Test.YtefpcdpclpignaaKBackM
import Derived.Test.YtefpcdpclpignaaKSame
import Derived.Test.YtefpcdpclpignaaKArgS
namespace Go.Proofs.Ytefpcdpclpignaa.nodeBack
open Go.ChangeShapes Go.WideShapes Go.ChangeAt Go.RowKit M

/-- Three boxes lie on. -/
structure Th (w W : World) (c1 c2 c3 : List Value) : Prop where
  r1 : Row W w.heap.size c1 32
  r2 : Row W (w.heap.size + 1) c2 42
  r3 : Row W (w.heap.size + 1 + 1) c3 34
  bel : Below w.heap.size w W
theorem Th.later {w W W' : World} {c1 c2 c3 : List Value} (h : Th w W c1 c2 c3) (hb : Below W.heap.size W W') : Th w W' c1 c2 c3 := ⟨h.r1.later hb, h.r2.later hb, h.r3.later hb, Below.after h.bel hb⟩
theorem Th.start (w : World) (c1 c2 c3 : List Value) (W : World) (hW : W = ((w.alloc (.cells c1.toArray 32)).alloc (.cells c2.toArray 42)).alloc (.cells c3.toArray 34)) : Th w W c1 c2 c3 := by
  obtain ⟨h1, h2, h3⟩ := two_boxes w c1 c2 32 42 _ rfl
  subst hW
  have h := Row.new ((w.alloc (.cells c1.toArray 32)).alloc (.cells c2.toArray 42)) c3 34
  refine ⟨h1.alloc _, h2.alloc _, ?_, Below.after h3 (below_new _ _)⟩
  simpa using h

theorem Th.seen {w W : World} {a0 a1 a2 a3 a4 a5 a6 : Int} {S K V : ByteArray} {b1 b2 : Int} {g : Bool} (h : Th w W [.int .i64 a0, .int .i64 a1, .int .i64 a2, .int .i64 a3, .int .i64 a4, .int .i64 a5, .int .i64 a6] [.string S, .int .i64 b1, .int .i64 b2] [.string K, .string V, .bool g]) :
    (W.cell? ⟨w.heap.size, 0, none⟩ = some (.int .i64 a0) ∧ W.cell? ⟨w.heap.size, 1, none⟩ = some (.int .i64 a1) ∧ W.cell? ⟨w.heap.size, 2, none⟩ = some (.int .i64 a2) ∧ W.cell? ⟨w.heap.size, 3, none⟩ = some (.int .i64 a3) ∧ W.cell? ⟨w.heap.size, 4, none⟩ = some (.int .i64 a4) ∧ W.cell? ⟨w.heap.size, 5, none⟩ = some (.int .i64 a5) ∧ W.cell? ⟨w.heap.size, 6, none⟩ = some (.int .i64 a6)) ∧ (W.cell? ⟨w.heap.size + 1, 0, none⟩ = some (.string S) ∧ W.cell? ⟨w.heap.size + 1, 1, none⟩ = some (.int .i64 b1) ∧ W.cell? ⟨w.heap.size + 1, 2, none⟩ = some (.int .i64 b2)) ∧ (W.cell? ⟨w.heap.size + 1 + 1, 0, none⟩ = some (.string K) ∧ W.cell? ⟨w.heap.size + 1 + 1, 1, none⟩ = some (.string V) ∧ W.cell? ⟨w.heap.size + 1 + 1, 2, none⟩ = some (.bool g)) ∧ (w.heap.size < W.heap.size ∧ w.heap.size + 1 < W.heap.size ∧ w.heap.size + 1 + 1 < W.heap.size) :=
  ⟨⟨h.r1.cell (i := 0) rfl, h.r1.cell (i := 1) rfl, h.r1.cell (i := 2) rfl, h.r1.cell (i := 3) rfl, h.r1.cell (i := 4) rfl, h.r1.cell (i := 5) rfl, h.r1.cell (i := 6) rfl⟩, ⟨h.r2.cell (i := 0) rfl, h.r2.cell (i := 1) rfl, h.r2.cell (i := 2) rfl⟩, ⟨h.r3.cell (i := 0) rfl, h.r3.cell (i := 1) rfl, h.r3.cell (i := 2) rfl⟩, ⟨h.r1.lt, h.r2.lt, h.r3.lt⟩⟩

set_option maxRecDepth 10000 in
set_option maxHeartbeats 8000000 in
theorem walk_yyy (a0 a1 a2 a3 a4 a5 a6 dir b1 b2 : Int) (S K V K1 V1 K2 V2 : ByteArray) (g : Bool) (pn gr q : Nat) (pl ml : List Nat) (hpn : pn ≤ 324) (hq : (gr : Int) % 16 = (q : Int)) (_hq2 : q < 16) (w : World)
    (hI : ∀ W, Calls Try.prog 22 #[.agg #[.int .i64 a0, .int .i64 a1, .int .i64 a2, .int .i64 a3, .int .i64 a4, .int .i64 a5, .int .i64 a6]] W fun e w' => e = .returned (.tuple #[.agg #[.string K1, .string V1, .bool false], .int .i64 0]) ∧ Below W.heap.size W w')
    (hPI : ∀ W, Calls Try.prog 24 #[.agg #[.string K1, .string V1, .bool false]] W fun e w' => e = .returned (.tuple #[.agg #[.int .i64 a0, .int .i64 a1, .int .i64 a2, .int .i64 a3, .int .i64 a4, .int .i64 a5, .int .i64 a6], .bool true]) ∧ Below W.heap.size W w')
    (hE : ∀ W, Calls Try.prog 26 #[.int .i64 dir, .agg #[.string S, .int .i64 b1, .int .i64 b2]] W fun e w' => e = .returned (.tuple #[.agg #[.string K2, .string V2, .bool false], .int .i64 0]) ∧ Below W.heap.size W w')
    (hPE : ∀ W, Calls Try.prog 32 #[.agg #[.string K2, .string V2, .bool false]] W fun e w' => e = .returned (.tuple #[.int .i64 dir, .agg #[.string S, .int .i64 b1, .int .i64 b2], .bool true]) ∧ Below W.heap.size W w')
    (hP : ∀ W, Calls Try.prog 34 #[.agg #[.string K, .string V, .bool g]] W fun e w' => ∃ a cap, e = .returned (.tuple #[.slice a pn cap, .int .i64 0]) ∧ BRow w' a pl ∧ Below W.heap.size W w')
    (hU : ∀ W a cap, BRow W a pl → Calls Try.prog 42 #[.slice a pn cap] W fun e w' => e = .returned (.tuple #[.agg #[.string K, .string V, .bool g], .bool true]) ∧ Below W.heap.size W w')
    (hZ : ∀ W, Calls Try.prog 40 #[.agg #[.string K, .string V, .bool g]] W fun e w' => e = .returned (.int .i64 ((6 + pn : Nat) : Int)) ∧ Below W.heap.size W w')
    (hPM : ∀ W a cap, BRow W a pl → Calls Try.prog 44 #[.slice a pn cap] W fun e w' => e = .returned (.tuple #[.int .u64 0, .int .i64 0, .bool false]) ∧ Below W.heap.size W w')
    (hM : ∀ W, Calls Try.prog 36 #[.int .u64 (gr : Int), .int .i64 (1 + (q : Int))] W fun e w' => ∃ a cap, e = .returned (.tuple #[.slice a 10 cap, .int .i64 0]) ∧ BRow w' a ml ∧ Below W.heap.size W w')
    (hMP : ∀ W a cap, BRow W a ml → Calls Try.prog 44 #[.slice a 10 cap] W fun e w' => e = .returned (.tuple #[.int .u64 (gr : Int), .int .i64 (1 + (q : Int)), .bool true]) ∧ Below W.heap.size W w')
    (hMU : ∀ W a cap, BRow W a ml → Calls Try.prog 42 #[.slice a 10 cap] W fun e w' => e = .returned (.tuple #[.agg #[.string ⟨#[]⟩, .string ⟨#[]⟩, .bool false], .bool false]) ∧ Below W.heap.size W w') :
    Calls Try.prog 8 #[.agg #[.int .i64 a0, .int .i64 a1, .int .i64 a2, .int .i64 a3, .int .i64 a4, .int .i64 a5, .int .i64 a6], .int .i64 dir, .agg #[.string S, .int .i64 b1, .int .i64 b2], .agg #[.string K, .string V, .bool g], .int .u64 (gr : Int)] w fun e w' => e = .returned (.bool true) ∧ Below w.heap.size w w' := by
  obtain ⟨W, hW⟩ : ∃ W, W = ((w.alloc (.cells #[.int .i64 a0, .int .i64 a1, .int .i64 a2, .int .i64 a3, .int .i64 a4, .int .i64 a5, .int .i64 a6] 32)).alloc (.cells #[.string S, .int .i64 b1, .int .i64 b2] 42)).alloc (.cells #[.string K, .string V, .bool g] 34) := ⟨_, rfl⟩
  have T0 : Hid (Th w W [.int .i64 a0, .int .i64 a1, .int .i64 a2, .int .i64 a3, .int .i64 a4, .int .i64 a5, .int .i64 a6] [.string S, .int .i64 b1, .int .i64 b2] [.string K, .string V, .bool g]) := Th.start w [.int .i64 a0, .int .i64 a1, .int .i64 a2, .int .i64 a3, .int .i64 a4, .int .i64 a5, .int .i64 a6] [.string S, .int .i64 b1, .int .i64 b2] [.string K, .string V, .bool g] W hW
  obtain ⟨⟨x0, x1, x2, x3, x4, x5, x6⟩, ⟨y0, y1, y2⟩, ⟨z0, z1, z2⟩, ⟨l0, l1, l2⟩⟩ := T0.out.seen
  have e1 := neq_in
  have e2 := neq_en
  have e3 := neq_nd
  have M1 : Hid True := trivial
  have M2 : Hid True := trivial
  have M3 : Hid True := trivial
  have M4 : Hid True := trivial
  have M5 : Hid True := trivial
  have M6 : Hid True := trivial
  have M7 : Hid True := trivial
  have M8 : Hid True := trivial
  have M9 : Hid True := trivial
  have M10 : Hid True := trivial
  have M11 : Hid True := trivial
  have M12 : Hid True := trivial
  go_enter Try.func8, Try.ntmps8
  go_wp2_with fail
  rw [← hW]
  clear hW
  go_wp2_with (first
    | (go_at_call 22; clear M1; refine (hI _).mono ?_; rintro e w1 ⟨rfl, hb⟩; have T1 : Hid (Th w w1 [.int .i64 a0, .int .i64 a1, .int .i64 a2, .int .i64 a3, .int .i64 a4, .int .i64 a5, .int .i64 a6] [.string S, .int .i64 b1, .int .i64 b2] [.string K, .string V, .bool g]) := T0.out.later hb; clear x0 x1 x2 x3 x4 x5 x6 y0 y1 y2 z0 z1 z2 l0 l1 l2; obtain ⟨⟨x0, x1, x2, x3, x4, x5, x6⟩, ⟨y0, y1, y2⟩, ⟨z0, z1, z2⟩, ⟨l0, l1, l2⟩⟩ := T1.out.seen; clear hb)
    | (go_at_call 24; clear M2; refine (hPI _).mono ?_; rintro e w2 ⟨rfl, hb⟩; have T2 : Hid (Th w w2 [.int .i64 a0, .int .i64 a1, .int .i64 a2, .int .i64 a3, .int .i64 a4, .int .i64 a5, .int .i64 a6] [.string S, .int .i64 b1, .int .i64 b2] [.string K, .string V, .bool g]) := (T1.out.later (below_new _ _)).later hb; clear x0 x1 x2 x3 x4 x5 x6 y0 y1 y2 z0 z1 z2 l0 l1 l2; obtain ⟨⟨x0, x1, x2, x3, x4, x5, x6⟩, ⟨y0, y1, y2⟩, ⟨z0, z1, z2⟩, ⟨l0, l1, l2⟩⟩ := T2.out.seen; clear hb)
    | (go_at_call 26; clear M3; refine (hE _).mono ?_; rintro e w3 ⟨rfl, hb⟩; have T3 : Hid (Th w w3 [.int .i64 a0, .int .i64 a1, .int .i64 a2, .int .i64 a3, .int .i64 a4, .int .i64 a5, .int .i64 a6] [.string S, .int .i64 b1, .int .i64 b2] [.string K, .string V, .bool g]) := (T2.out.later (below_new _ _)).later hb; clear x0 x1 x2 x3 x4 x5 x6 y0 y1 y2 z0 z1 z2 l0 l1 l2; obtain ⟨⟨x0, x1, x2, x3, x4, x5, x6⟩, ⟨y0, y1, y2⟩, ⟨z0, z1, z2⟩, ⟨l0, l1, l2⟩⟩ := T3.out.seen; clear hb)
    | (go_at_call 32; clear M4; refine (hPE _).mono ?_; rintro e w4 ⟨rfl, hb⟩; have T4 : Hid (Th w w4 [.int .i64 a0, .int .i64 a1, .int .i64 a2, .int .i64 a3, .int .i64 a4, .int .i64 a5, .int .i64 a6] [.string S, .int .i64 b1, .int .i64 b2] [.string K, .string V, .bool g]) := (T3.out.later (below_new _ _)).later hb; clear x0 x1 x2 x3 x4 x5 x6 y0 y1 y2 z0 z1 z2 l0 l1 l2; obtain ⟨⟨x0, x1, x2, x3, x4, x5, x6⟩, ⟨y0, y1, y2⟩, ⟨z0, z1, z2⟩, ⟨l0, l1, l2⟩⟩ := T4.out.seen; clear hb)
    | (go_at_call 34; clear M5; refine (hP _).mono ?_; rintro e w5 ⟨pa, pc, rfl, hpr, hb⟩; have T5 : Hid (Th w w5 [.int .i64 a0, .int .i64 a1, .int .i64 a2, .int .i64 a3, .int .i64 a4, .int .i64 a5, .int .i64 a6] [.string S, .int .i64 b1, .int .i64 b2] [.string K, .string V, .bool g]) := (T4.out.later (below_new _ _)).later hb; clear x0 x1 x2 x3 x4 x5 x6 y0 y1 y2 z0 z1 z2 l0 l1 l2; obtain ⟨⟨x0, x1, x2, x3, x4, x5, x6⟩, ⟨y0, y1, y2⟩, ⟨z0, z1, z2⟩, ⟨l0, l1, l2⟩⟩ := T5.out.seen; have R5 : Hid (BRow w5 pa pl) := hpr; clear hb hpr)
    | (go_at_call 42; clear M6; refine (hU _ _ _ R5.out).mono ?_; rintro e w6 ⟨rfl, hb⟩; have T6 : Hid (Th w w6 [.int .i64 a0, .int .i64 a1, .int .i64 a2, .int .i64 a3, .int .i64 a4, .int .i64 a5, .int .i64 a6] [.string S, .int .i64 b1, .int .i64 b2] [.string K, .string V, .bool g]) := T5.out.later hb; clear x0 x1 x2 x3 x4 x5 x6 y0 y1 y2 z0 z1 z2 l0 l1 l2; obtain ⟨⟨x0, x1, x2, x3, x4, x5, x6⟩, ⟨y0, y1, y2⟩, ⟨z0, z1, z2⟩, ⟨l0, l1, l2⟩⟩ := T6.out.seen; have R6 : Hid (BRow w6 pa pl) := R5.out.later hb; clear hb)
    | (go_at_call 40; clear M7; refine (hZ _).mono ?_; rintro e w7 ⟨rfl, hb⟩; have T7 : Hid (Th w w7 [.int .i64 a0, .int .i64 a1, .int .i64 a2, .int .i64 a3, .int .i64 a4, .int .i64 a5, .int .i64 a6] [.string S, .int .i64 b1, .int .i64 b2] [.string K, .string V, .bool g]) := (T6.out.later (below_new _ _)).later hb; clear x0 x1 x2 x3 x4 x5 x6 y0 y1 y2 z0 z1 z2 l0 l1 l2; obtain ⟨⟨x0, x1, x2, x3, x4, x5, x6⟩, ⟨y0, y1, y2⟩, ⟨z0, z1, z2⟩, ⟨l0, l1, l2⟩⟩ := T7.out.seen; have R7 : Hid (BRow w7 pa pl) := (R6.out.later (below_new _ _)).later hb; clear hb)
    | (go_at_call 44; clear M8; refine (hPM _ _ _ R7.out).mono ?_; rintro e w8 ⟨rfl, hb⟩; have T8 : Hid (Th w w8 [.int .i64 a0, .int .i64 a1, .int .i64 a2, .int .i64 a3, .int .i64 a4, .int .i64 a5, .int .i64 a6] [.string S, .int .i64 b1, .int .i64 b2] [.string K, .string V, .bool g]) := T7.out.later hb; clear x0 x1 x2 x3 x4 x5 x6 y0 y1 y2 z0 z1 z2 l0 l1 l2; obtain ⟨⟨x0, x1, x2, x3, x4, x5, x6⟩, ⟨y0, y1, y2⟩, ⟨z0, z1, z2⟩, ⟨l0, l1, l2⟩⟩ := T8.out.seen; clear hb)
    | (go_at_call 36; clear M9; refine (hM _).mono ?_; rintro e w9 ⟨ma, mc, rfl, hmr, hb⟩; have T9 : Hid (Th w w9 [.int .i64 a0, .int .i64 a1, .int .i64 a2, .int .i64 a3, .int .i64 a4, .int .i64 a5, .int .i64 a6] [.string S, .int .i64 b1, .int .i64 b2] [.string K, .string V, .bool g]) := T8.out.later hb; clear x0 x1 x2 x3 x4 x5 x6 y0 y1 y2 z0 z1 z2 l0 l1 l2; obtain ⟨⟨x0, x1, x2, x3, x4, x5, x6⟩, ⟨y0, y1, y2⟩, ⟨z0, z1, z2⟩, ⟨l0, l1, l2⟩⟩ := T9.out.seen; have Q9 : Hid (BRow w9 ma ml) := hmr; clear hb hmr)
    | (go_at_call 44; clear M10; refine (hMP _ _ _ Q9.out).mono ?_; rintro e w10 ⟨rfl, hb⟩; have T10 : Hid (Th w w10 [.int .i64 a0, .int .i64 a1, .int .i64 a2, .int .i64 a3, .int .i64 a4, .int .i64 a5, .int .i64 a6] [.string S, .int .i64 b1, .int .i64 b2] [.string K, .string V, .bool g]) := T9.out.later hb; clear x0 x1 x2 x3 x4 x5 x6 y0 y1 y2 z0 z1 z2 l0 l1 l2; obtain ⟨⟨x0, x1, x2, x3, x4, x5, x6⟩, ⟨y0, y1, y2⟩, ⟨z0, z1, z2⟩, ⟨l0, l1, l2⟩⟩ := T10.out.seen; have Q10 : Hid (BRow w10 ma ml) := Q9.out.later hb; clear hb)
    | (go_at_call 42; clear M11; refine (hMU _ _ _ Q10.out).mono ?_; rintro e w11 ⟨rfl, hb⟩; have T11 : Hid (Th w w11 [.int .i64 a0, .int .i64 a1, .int .i64 a2, .int .i64 a3, .int .i64 a4, .int .i64 a5, .int .i64 a6] [.string S, .int .i64 b1, .int .i64 b2] [.string K, .string V, .bool g]) := T10.out.later hb; clear x0 x1 x2 x3 x4 x5 x6 y0 y1 y2 z0 z1 z2 l0 l1 l2; obtain ⟨⟨x0, x1, x2, x3, x4, x5, x6⟩, ⟨y0, y1, y2⟩, ⟨z0, z1, z2⟩, ⟨l0, l1, l2⟩⟩ := T11.out.seen; clear hb)
    | (go_at_call 21; clear M12; refine (alive_any _).mono ?_; rintro e w12 ⟨rfl, hb⟩; have T12 : Hid (Th w w12 [.int .i64 a0, .int .i64 a1, .int .i64 a2, .int .i64 a3, .int .i64 a4, .int .i64 a5, .int .i64 a6] [.string S, .int .i64 b1, .int .i64 b2] [.string K, .string V, .bool g]) := (T11.out.later (below_new _ _)).later hb; clear x0 x1 x2 x3 x4 x5 x6 y0 y1 y2 z0 z1 z2 l0 l1 l2; obtain ⟨⟨x0, x1, x2, x3, x4, x5, x6⟩, ⟨y0, y1, y2⟩, ⟨z0, z1, z2⟩, ⟨l0, l1, l2⟩⟩ := T12.out.seen; clear hb))
  go_ret
  exact ⟨rfl, T12.out.bel⟩

set_option maxRecDepth 10000 in
set_option maxHeartbeats 8000000 in
theorem walk_yyn (a0 a1 a2 a3 a4 a5 a6 dir b1 b2 : Int) (S K V K1 V1 K2 V2 : ByteArray) (g : Bool) (pn gr q : Nat) (_pl ml : List Nat) (_hpn : pn ≤ 324) (hq : (gr : Int) % 16 = (q : Int)) (_hq2 : q < 16) (w : World)
    (hI : ∀ W, Calls Try.prog 22 #[.agg #[.int .i64 a0, .int .i64 a1, .int .i64 a2, .int .i64 a3, .int .i64 a4, .int .i64 a5, .int .i64 a6]] W fun e w' => e = .returned (.tuple #[.agg #[.string K1, .string V1, .bool false], .int .i64 0]) ∧ Below W.heap.size W w')
    (hPI : ∀ W, Calls Try.prog 24 #[.agg #[.string K1, .string V1, .bool false]] W fun e w' => e = .returned (.tuple #[.agg #[.int .i64 a0, .int .i64 a1, .int .i64 a2, .int .i64 a3, .int .i64 a4, .int .i64 a5, .int .i64 a6], .bool true]) ∧ Below W.heap.size W w')
    (hE : ∀ W, Calls Try.prog 26 #[.int .i64 dir, .agg #[.string S, .int .i64 b1, .int .i64 b2]] W fun e w' => e = .returned (.tuple #[.agg #[.string K2, .string V2, .bool false], .int .i64 0]) ∧ Below W.heap.size W w')
    (hPE : ∀ W, Calls Try.prog 32 #[.agg #[.string K2, .string V2, .bool false]] W fun e w' => e = .returned (.tuple #[.int .i64 dir, .agg #[.string S, .int .i64 b1, .int .i64 b2], .bool true]) ∧ Below W.heap.size W w')
    (hP : ∀ W, Calls Try.prog 34 #[.agg #[.string K, .string V, .bool g]] W fun e w' => e = .returned (.tuple #[.slice none 0 0, .int .i64 22]) ∧ Below W.heap.size W w')
    (hM : ∀ W, Calls Try.prog 36 #[.int .u64 (gr : Int), .int .i64 (1 + (q : Int))] W fun e w' => ∃ a cap, e = .returned (.tuple #[.slice a 10 cap, .int .i64 0]) ∧ BRow w' a ml ∧ Below W.heap.size W w')
    (hMP : ∀ W a cap, BRow W a ml → Calls Try.prog 44 #[.slice a 10 cap] W fun e w' => e = .returned (.tuple #[.int .u64 (gr : Int), .int .i64 (1 + (q : Int)), .bool true]) ∧ Below W.heap.size W w')
    (hMU : ∀ W a cap, BRow W a ml → Calls Try.prog 42 #[.slice a 10 cap] W fun e w' => e = .returned (.tuple #[.agg #[.string ⟨#[]⟩, .string ⟨#[]⟩, .bool false], .bool false]) ∧ Below W.heap.size W w') :
    Calls Try.prog 8 #[.agg #[.int .i64 a0, .int .i64 a1, .int .i64 a2, .int .i64 a3, .int .i64 a4, .int .i64 a5, .int .i64 a6], .int .i64 dir, .agg #[.string S, .int .i64 b1, .int .i64 b2], .agg #[.string K, .string V, .bool g], .int .u64 (gr : Int)] w fun e w' => e = .returned (.bool true) ∧ Below w.heap.size w w' := by
  obtain ⟨W, hW⟩ : ∃ W, W = ((w.alloc (.cells #[.int .i64 a0, .int .i64 a1, .int .i64 a2, .int .i64 a3, .int .i64 a4, .int .i64 a5, .int .i64 a6] 32)).alloc (.cells #[.string S, .int .i64 b1, .int .i64 b2] 42)).alloc (.cells #[.string K, .string V, .bool g] 34) := ⟨_, rfl⟩
  have T0 : Hid (Th w W [.int .i64 a0, .int .i64 a1, .int .i64 a2, .int .i64 a3, .int .i64 a4, .int .i64 a5, .int .i64 a6] [.string S, .int .i64 b1, .int .i64 b2] [.string K, .string V, .bool g]) := Th.start w [.int .i64 a0, .int .i64 a1, .int .i64 a2, .int .i64 a3, .int .i64 a4, .int .i64 a5, .int .i64 a6] [.string S, .int .i64 b1, .int .i64 b2] [.string K, .string V, .bool g] W hW
  obtain ⟨⟨x0, x1, x2, x3, x4, x5, x6⟩, ⟨y0, y1, y2⟩, ⟨z0, z1, z2⟩, ⟨l0, l1, l2⟩⟩ := T0.out.seen
  have e1 := neq_in
  have e2 := neq_en
  have e3 := neq_nd
  have M1 : Hid True := trivial
  have M2 : Hid True := trivial
  have M3 : Hid True := trivial
  have M4 : Hid True := trivial
  have M5 : Hid True := trivial
  have M6 : Hid True := trivial
  have M7 : Hid True := trivial
  have M8 : Hid True := trivial
  have M9 : Hid True := trivial
  go_enter Try.func8, Try.ntmps8
  go_wp2_with fail
  rw [← hW]
  clear hW
  go_wp2_with (first
    | (go_at_call 22; clear M1; refine (hI _).mono ?_; rintro e w1 ⟨rfl, hb⟩; have T1 : Hid (Th w w1 [.int .i64 a0, .int .i64 a1, .int .i64 a2, .int .i64 a3, .int .i64 a4, .int .i64 a5, .int .i64 a6] [.string S, .int .i64 b1, .int .i64 b2] [.string K, .string V, .bool g]) := T0.out.later hb; clear x0 x1 x2 x3 x4 x5 x6 y0 y1 y2 z0 z1 z2 l0 l1 l2; obtain ⟨⟨x0, x1, x2, x3, x4, x5, x6⟩, ⟨y0, y1, y2⟩, ⟨z0, z1, z2⟩, ⟨l0, l1, l2⟩⟩ := T1.out.seen; clear hb)
    | (go_at_call 24; clear M2; refine (hPI _).mono ?_; rintro e w2 ⟨rfl, hb⟩; have T2 : Hid (Th w w2 [.int .i64 a0, .int .i64 a1, .int .i64 a2, .int .i64 a3, .int .i64 a4, .int .i64 a5, .int .i64 a6] [.string S, .int .i64 b1, .int .i64 b2] [.string K, .string V, .bool g]) := (T1.out.later (below_new _ _)).later hb; clear x0 x1 x2 x3 x4 x5 x6 y0 y1 y2 z0 z1 z2 l0 l1 l2; obtain ⟨⟨x0, x1, x2, x3, x4, x5, x6⟩, ⟨y0, y1, y2⟩, ⟨z0, z1, z2⟩, ⟨l0, l1, l2⟩⟩ := T2.out.seen; clear hb)
    | (go_at_call 26; clear M3; refine (hE _).mono ?_; rintro e w3 ⟨rfl, hb⟩; have T3 : Hid (Th w w3 [.int .i64 a0, .int .i64 a1, .int .i64 a2, .int .i64 a3, .int .i64 a4, .int .i64 a5, .int .i64 a6] [.string S, .int .i64 b1, .int .i64 b2] [.string K, .string V, .bool g]) := (T2.out.later (below_new _ _)).later hb; clear x0 x1 x2 x3 x4 x5 x6 y0 y1 y2 z0 z1 z2 l0 l1 l2; obtain ⟨⟨x0, x1, x2, x3, x4, x5, x6⟩, ⟨y0, y1, y2⟩, ⟨z0, z1, z2⟩, ⟨l0, l1, l2⟩⟩ := T3.out.seen; clear hb)
    | (go_at_call 32; clear M4; refine (hPE _).mono ?_; rintro e w4 ⟨rfl, hb⟩; have T4 : Hid (Th w w4 [.int .i64 a0, .int .i64 a1, .int .i64 a2, .int .i64 a3, .int .i64 a4, .int .i64 a5, .int .i64 a6] [.string S, .int .i64 b1, .int .i64 b2] [.string K, .string V, .bool g]) := (T3.out.later (below_new _ _)).later hb; clear x0 x1 x2 x3 x4 x5 x6 y0 y1 y2 z0 z1 z2 l0 l1 l2; obtain ⟨⟨x0, x1, x2, x3, x4, x5, x6⟩, ⟨y0, y1, y2⟩, ⟨z0, z1, z2⟩, ⟨l0, l1, l2⟩⟩ := T4.out.seen; clear hb)
    | (go_at_call 34; clear M5; refine (hP _).mono ?_; rintro e w5 ⟨rfl, hb⟩; have T5 : Hid (Th w w5 [.int .i64 a0, .int .i64 a1, .int .i64 a2, .int .i64 a3, .int .i64 a4, .int .i64 a5, .int .i64 a6] [.string S, .int .i64 b1, .int .i64 b2] [.string K, .string V, .bool g]) := (T4.out.later (below_new _ _)).later hb; clear x0 x1 x2 x3 x4 x5 x6 y0 y1 y2 z0 z1 z2 l0 l1 l2; obtain ⟨⟨x0, x1, x2, x3, x4, x5, x6⟩, ⟨y0, y1, y2⟩, ⟨z0, z1, z2⟩, ⟨l0, l1, l2⟩⟩ := T5.out.seen; clear hb)
    | (go_at_call 36; clear M6; refine (hM _).mono ?_; rintro e w6 ⟨ma, mc, rfl, hmr, hb⟩; have T6 : Hid (Th w w6 [.int .i64 a0, .int .i64 a1, .int .i64 a2, .int .i64 a3, .int .i64 a4, .int .i64 a5, .int .i64 a6] [.string S, .int .i64 b1, .int .i64 b2] [.string K, .string V, .bool g]) := T5.out.later hb; clear x0 x1 x2 x3 x4 x5 x6 y0 y1 y2 z0 z1 z2 l0 l1 l2; obtain ⟨⟨x0, x1, x2, x3, x4, x5, x6⟩, ⟨y0, y1, y2⟩, ⟨z0, z1, z2⟩, ⟨l0, l1, l2⟩⟩ := T6.out.seen; have Q6 : Hid (BRow w6 ma ml) := hmr; clear hb hmr)
    | (go_at_call 44; clear M7; refine (hMP _ _ _ Q6.out).mono ?_; rintro e w7 ⟨rfl, hb⟩; have T7 : Hid (Th w w7 [.int .i64 a0, .int .i64 a1, .int .i64 a2, .int .i64 a3, .int .i64 a4, .int .i64 a5, .int .i64 a6] [.string S, .int .i64 b1, .int .i64 b2] [.string K, .string V, .bool g]) := T6.out.later hb; clear x0 x1 x2 x3 x4 x5 x6 y0 y1 y2 z0 z1 z2 l0 l1 l2; obtain ⟨⟨x0, x1, x2, x3, x4, x5, x6⟩, ⟨y0, y1, y2⟩, ⟨z0, z1, z2⟩, ⟨l0, l1, l2⟩⟩ := T7.out.seen; have Q7 : Hid (BRow w7 ma ml) := Q6.out.later hb; clear hb)
    | (go_at_call 42; clear M8; refine (hMU _ _ _ Q7.out).mono ?_; rintro e w8 ⟨rfl, hb⟩; have T8 : Hid (Th w w8 [.int .i64 a0, .int .i64 a1, .int .i64 a2, .int .i64 a3, .int .i64 a4, .int .i64 a5, .int .i64 a6] [.string S, .int .i64 b1, .int .i64 b2] [.string K, .string V, .bool g]) := T7.out.later hb; clear x0 x1 x2 x3 x4 x5 x6 y0 y1 y2 z0 z1 z2 l0 l1 l2; obtain ⟨⟨x0, x1, x2, x3, x4, x5, x6⟩, ⟨y0, y1, y2⟩, ⟨z0, z1, z2⟩, ⟨l0, l1, l2⟩⟩ := T8.out.seen; clear hb)
    | (go_at_call 21; clear M9; refine (alive_any _).mono ?_; rintro e w9 ⟨rfl, hb⟩; have T9 : Hid (Th w w9 [.int .i64 a0, .int .i64 a1, .int .i64 a2, .int .i64 a3, .int .i64 a4, .int .i64 a5, .int .i64 a6] [.string S, .int .i64 b1, .int .i64 b2] [.string K, .string V, .bool g]) := (T8.out.later (below_new _ _)).later hb; clear x0 x1 x2 x3 x4 x5 x6 y0 y1 y2 z0 z1 z2 l0 l1 l2; obtain ⟨⟨x0, x1, x2, x3, x4, x5, x6⟩, ⟨y0, y1, y2⟩, ⟨z0, z1, z2⟩, ⟨l0, l1, l2⟩⟩ := T9.out.seen; clear hb))
  go_ret
  exact ⟨rfl, T9.out.bel⟩

set_option maxRecDepth 10000 in
set_option maxHeartbeats 8000000 in
theorem walk_yny (a0 a1 a2 a3 a4 a5 a6 dir b1 b2 : Int) (S K V K1 V1 _K2 _V2 : ByteArray) (g : Bool) (pn gr q : Nat) (pl ml : List Nat) (hpn : pn ≤ 324) (hq : (gr : Int) % 16 = (q : Int)) (_hq2 : q < 16) (w : World)
    (hI : ∀ W, Calls Try.prog 22 #[.agg #[.int .i64 a0, .int .i64 a1, .int .i64 a2, .int .i64 a3, .int .i64 a4, .int .i64 a5, .int .i64 a6]] W fun e w' => e = .returned (.tuple #[.agg #[.string K1, .string V1, .bool false], .int .i64 0]) ∧ Below W.heap.size W w')
    (hPI : ∀ W, Calls Try.prog 24 #[.agg #[.string K1, .string V1, .bool false]] W fun e w' => e = .returned (.tuple #[.agg #[.int .i64 a0, .int .i64 a1, .int .i64 a2, .int .i64 a3, .int .i64 a4, .int .i64 a5, .int .i64 a6], .bool true]) ∧ Below W.heap.size W w')
    (hE : ∀ W, Calls Try.prog 26 #[.int .i64 dir, .agg #[.string S, .int .i64 b1, .int .i64 b2]] W fun e w' => e = .returned (.tuple #[.agg #[.string ⟨#[]⟩, .string ⟨#[]⟩, .bool false], .int .i64 22]) ∧ Below W.heap.size W w')
    (hP : ∀ W, Calls Try.prog 34 #[.agg #[.string K, .string V, .bool g]] W fun e w' => ∃ a cap, e = .returned (.tuple #[.slice a pn cap, .int .i64 0]) ∧ BRow w' a pl ∧ Below W.heap.size W w')
    (hU : ∀ W a cap, BRow W a pl → Calls Try.prog 42 #[.slice a pn cap] W fun e w' => e = .returned (.tuple #[.agg #[.string K, .string V, .bool g], .bool true]) ∧ Below W.heap.size W w')
    (hZ : ∀ W, Calls Try.prog 40 #[.agg #[.string K, .string V, .bool g]] W fun e w' => e = .returned (.int .i64 ((6 + pn : Nat) : Int)) ∧ Below W.heap.size W w')
    (hPM : ∀ W a cap, BRow W a pl → Calls Try.prog 44 #[.slice a pn cap] W fun e w' => e = .returned (.tuple #[.int .u64 0, .int .i64 0, .bool false]) ∧ Below W.heap.size W w')
    (hM : ∀ W, Calls Try.prog 36 #[.int .u64 (gr : Int), .int .i64 (1 + (q : Int))] W fun e w' => ∃ a cap, e = .returned (.tuple #[.slice a 10 cap, .int .i64 0]) ∧ BRow w' a ml ∧ Below W.heap.size W w')
    (hMP : ∀ W a cap, BRow W a ml → Calls Try.prog 44 #[.slice a 10 cap] W fun e w' => e = .returned (.tuple #[.int .u64 (gr : Int), .int .i64 (1 + (q : Int)), .bool true]) ∧ Below W.heap.size W w')
    (hMU : ∀ W a cap, BRow W a ml → Calls Try.prog 42 #[.slice a 10 cap] W fun e w' => e = .returned (.tuple #[.agg #[.string ⟨#[]⟩, .string ⟨#[]⟩, .bool false], .bool false]) ∧ Below W.heap.size W w') :
    Calls Try.prog 8 #[.agg #[.int .i64 a0, .int .i64 a1, .int .i64 a2, .int .i64 a3, .int .i64 a4, .int .i64 a5, .int .i64 a6], .int .i64 dir, .agg #[.string S, .int .i64 b1, .int .i64 b2], .agg #[.string K, .string V, .bool g], .int .u64 (gr : Int)] w fun e w' => e = .returned (.bool true) ∧ Below w.heap.size w w' := by
  obtain ⟨W, hW⟩ : ∃ W, W = ((w.alloc (.cells #[.int .i64 a0, .int .i64 a1, .int .i64 a2, .int .i64 a3, .int .i64 a4, .int .i64 a5, .int .i64 a6] 32)).alloc (.cells #[.string S, .int .i64 b1, .int .i64 b2] 42)).alloc (.cells #[.string K, .string V, .bool g] 34) := ⟨_, rfl⟩
  have T0 : Hid (Th w W [.int .i64 a0, .int .i64 a1, .int .i64 a2, .int .i64 a3, .int .i64 a4, .int .i64 a5, .int .i64 a6] [.string S, .int .i64 b1, .int .i64 b2] [.string K, .string V, .bool g]) := Th.start w [.int .i64 a0, .int .i64 a1, .int .i64 a2, .int .i64 a3, .int .i64 a4, .int .i64 a5, .int .i64 a6] [.string S, .int .i64 b1, .int .i64 b2] [.string K, .string V, .bool g] W hW
  obtain ⟨⟨x0, x1, x2, x3, x4, x5, x6⟩, ⟨y0, y1, y2⟩, ⟨z0, z1, z2⟩, ⟨l0, l1, l2⟩⟩ := T0.out.seen
  have e1 := neq_in
  have e2 := neq_en
  have e3 := neq_nd
  have M1 : Hid True := trivial
  have M2 : Hid True := trivial
  have M3 : Hid True := trivial
  have M4 : Hid True := trivial
  have M5 : Hid True := trivial
  have M6 : Hid True := trivial
  have M7 : Hid True := trivial
  have M8 : Hid True := trivial
  have M9 : Hid True := trivial
  have M10 : Hid True := trivial
  have M11 : Hid True := trivial
  go_enter Try.func8, Try.ntmps8
  go_wp2_with fail
  rw [← hW]
  clear hW
  go_wp2_with (first
    | (go_at_call 22; clear M1; refine (hI _).mono ?_; rintro e w1 ⟨rfl, hb⟩; have T1 : Hid (Th w w1 [.int .i64 a0, .int .i64 a1, .int .i64 a2, .int .i64 a3, .int .i64 a4, .int .i64 a5, .int .i64 a6] [.string S, .int .i64 b1, .int .i64 b2] [.string K, .string V, .bool g]) := T0.out.later hb; clear x0 x1 x2 x3 x4 x5 x6 y0 y1 y2 z0 z1 z2 l0 l1 l2; obtain ⟨⟨x0, x1, x2, x3, x4, x5, x6⟩, ⟨y0, y1, y2⟩, ⟨z0, z1, z2⟩, ⟨l0, l1, l2⟩⟩ := T1.out.seen; clear hb)
    | (go_at_call 24; clear M2; refine (hPI _).mono ?_; rintro e w2 ⟨rfl, hb⟩; have T2 : Hid (Th w w2 [.int .i64 a0, .int .i64 a1, .int .i64 a2, .int .i64 a3, .int .i64 a4, .int .i64 a5, .int .i64 a6] [.string S, .int .i64 b1, .int .i64 b2] [.string K, .string V, .bool g]) := (T1.out.later (below_new _ _)).later hb; clear x0 x1 x2 x3 x4 x5 x6 y0 y1 y2 z0 z1 z2 l0 l1 l2; obtain ⟨⟨x0, x1, x2, x3, x4, x5, x6⟩, ⟨y0, y1, y2⟩, ⟨z0, z1, z2⟩, ⟨l0, l1, l2⟩⟩ := T2.out.seen; clear hb)
    | (go_at_call 26; clear M3; refine (hE _).mono ?_; rintro e w3 ⟨rfl, hb⟩; have T3 : Hid (Th w w3 [.int .i64 a0, .int .i64 a1, .int .i64 a2, .int .i64 a3, .int .i64 a4, .int .i64 a5, .int .i64 a6] [.string S, .int .i64 b1, .int .i64 b2] [.string K, .string V, .bool g]) := (T2.out.later (below_new _ _)).later hb; clear x0 x1 x2 x3 x4 x5 x6 y0 y1 y2 z0 z1 z2 l0 l1 l2; obtain ⟨⟨x0, x1, x2, x3, x4, x5, x6⟩, ⟨y0, y1, y2⟩, ⟨z0, z1, z2⟩, ⟨l0, l1, l2⟩⟩ := T3.out.seen; clear hb)
    | (go_at_call 34; clear M4; refine (hP _).mono ?_; rintro e w4 ⟨pa, pc, rfl, hpr, hb⟩; have T4 : Hid (Th w w4 [.int .i64 a0, .int .i64 a1, .int .i64 a2, .int .i64 a3, .int .i64 a4, .int .i64 a5, .int .i64 a6] [.string S, .int .i64 b1, .int .i64 b2] [.string K, .string V, .bool g]) := (T3.out.later (below_new _ _)).later hb; clear x0 x1 x2 x3 x4 x5 x6 y0 y1 y2 z0 z1 z2 l0 l1 l2; obtain ⟨⟨x0, x1, x2, x3, x4, x5, x6⟩, ⟨y0, y1, y2⟩, ⟨z0, z1, z2⟩, ⟨l0, l1, l2⟩⟩ := T4.out.seen; have R4 : Hid (BRow w4 pa pl) := hpr; clear hb hpr)
    | (go_at_call 42; clear M5; refine (hU _ _ _ R4.out).mono ?_; rintro e w5 ⟨rfl, hb⟩; have T5 : Hid (Th w w5 [.int .i64 a0, .int .i64 a1, .int .i64 a2, .int .i64 a3, .int .i64 a4, .int .i64 a5, .int .i64 a6] [.string S, .int .i64 b1, .int .i64 b2] [.string K, .string V, .bool g]) := T4.out.later hb; clear x0 x1 x2 x3 x4 x5 x6 y0 y1 y2 z0 z1 z2 l0 l1 l2; obtain ⟨⟨x0, x1, x2, x3, x4, x5, x6⟩, ⟨y0, y1, y2⟩, ⟨z0, z1, z2⟩, ⟨l0, l1, l2⟩⟩ := T5.out.seen; have R5 : Hid (BRow w5 pa pl) := R4.out.later hb; clear hb)
    | (go_at_call 40; clear M6; refine (hZ _).mono ?_; rintro e w6 ⟨rfl, hb⟩; have T6 : Hid (Th w w6 [.int .i64 a0, .int .i64 a1, .int .i64 a2, .int .i64 a3, .int .i64 a4, .int .i64 a5, .int .i64 a6] [.string S, .int .i64 b1, .int .i64 b2] [.string K, .string V, .bool g]) := (T5.out.later (below_new _ _)).later hb; clear x0 x1 x2 x3 x4 x5 x6 y0 y1 y2 z0 z1 z2 l0 l1 l2; obtain ⟨⟨x0, x1, x2, x3, x4, x5, x6⟩, ⟨y0, y1, y2⟩, ⟨z0, z1, z2⟩, ⟨l0, l1, l2⟩⟩ := T6.out.seen; have R6 : Hid (BRow w6 pa pl) := (R5.out.later (below_new _ _)).later hb; clear hb)
    | (go_at_call 44; clear M7; refine (hPM _ _ _ R6.out).mono ?_; rintro e w7 ⟨rfl, hb⟩; have T7 : Hid (Th w w7 [.int .i64 a0, .int .i64 a1, .int .i64 a2, .int .i64 a3, .int .i64 a4, .int .i64 a5, .int .i64 a6] [.string S, .int .i64 b1, .int .i64 b2] [.string K, .string V, .bool g]) := T6.out.later hb; clear x0 x1 x2 x3 x4 x5 x6 y0 y1 y2 z0 z1 z2 l0 l1 l2; obtain ⟨⟨x0, x1, x2, x3, x4, x5, x6⟩, ⟨y0, y1, y2⟩, ⟨z0, z1, z2⟩, ⟨l0, l1, l2⟩⟩ := T7.out.seen; clear hb)
    | (go_at_call 36; clear M8; refine (hM _).mono ?_; rintro e w8 ⟨ma, mc, rfl, hmr, hb⟩; have T8 : Hid (Th w w8 [.int .i64 a0, .int .i64 a1, .int .i64 a2, .int .i64 a3, .int .i64 a4, .int .i64 a5, .int .i64 a6] [.string S, .int .i64 b1, .int .i64 b2] [.string K, .string V, .bool g]) := T7.out.later hb; clear x0 x1 x2 x3 x4 x5 x6 y0 y1 y2 z0 z1 z2 l0 l1 l2; obtain ⟨⟨x0, x1, x2, x3, x4, x5, x6⟩, ⟨y0, y1, y2⟩, ⟨z0, z1, z2⟩, ⟨l0, l1, l2⟩⟩ := T8.out.seen; have Q8 : Hid (BRow w8 ma ml) := hmr; clear hb hmr)
    | (go_at_call 44; clear M9; refine (hMP _ _ _ Q8.out).mono ?_; rintro e w9 ⟨rfl, hb⟩; have T9 : Hid (Th w w9 [.int .i64 a0, .int .i64 a1, .int .i64 a2, .int .i64 a3, .int .i64 a4, .int .i64 a5, .int .i64 a6] [.string S, .int .i64 b1, .int .i64 b2] [.string K, .string V, .bool g]) := T8.out.later hb; clear x0 x1 x2 x3 x4 x5 x6 y0 y1 y2 z0 z1 z2 l0 l1 l2; obtain ⟨⟨x0, x1, x2, x3, x4, x5, x6⟩, ⟨y0, y1, y2⟩, ⟨z0, z1, z2⟩, ⟨l0, l1, l2⟩⟩ := T9.out.seen; have Q9 : Hid (BRow w9 ma ml) := Q8.out.later hb; clear hb)
    | (go_at_call 42; clear M10; refine (hMU _ _ _ Q9.out).mono ?_; rintro e w10 ⟨rfl, hb⟩; have T10 : Hid (Th w w10 [.int .i64 a0, .int .i64 a1, .int .i64 a2, .int .i64 a3, .int .i64 a4, .int .i64 a5, .int .i64 a6] [.string S, .int .i64 b1, .int .i64 b2] [.string K, .string V, .bool g]) := T9.out.later hb; clear x0 x1 x2 x3 x4 x5 x6 y0 y1 y2 z0 z1 z2 l0 l1 l2; obtain ⟨⟨x0, x1, x2, x3, x4, x5, x6⟩, ⟨y0, y1, y2⟩, ⟨z0, z1, z2⟩, ⟨l0, l1, l2⟩⟩ := T10.out.seen; clear hb)
    | (go_at_call 21; clear M11; refine (alive_any _).mono ?_; rintro e w11 ⟨rfl, hb⟩; have T11 : Hid (Th w w11 [.int .i64 a0, .int .i64 a1, .int .i64 a2, .int .i64 a3, .int .i64 a4, .int .i64 a5, .int .i64 a6] [.string S, .int .i64 b1, .int .i64 b2] [.string K, .string V, .bool g]) := (T10.out.later (below_new _ _)).later hb; clear x0 x1 x2 x3 x4 x5 x6 y0 y1 y2 z0 z1 z2 l0 l1 l2; obtain ⟨⟨x0, x1, x2, x3, x4, x5, x6⟩, ⟨y0, y1, y2⟩, ⟨z0, z1, z2⟩, ⟨l0, l1, l2⟩⟩ := T11.out.seen; clear hb))
  go_ret
  exact ⟨rfl, T11.out.bel⟩

set_option maxRecDepth 10000 in
set_option maxHeartbeats 8000000 in
theorem walk_ynn (a0 a1 a2 a3 a4 a5 a6 dir b1 b2 : Int) (S K V K1 V1 _K2 _V2 : ByteArray) (g : Bool) (pn gr q : Nat) (_pl ml : List Nat) (_hpn : pn ≤ 324) (hq : (gr : Int) % 16 = (q : Int)) (_hq2 : q < 16) (w : World)
    (hI : ∀ W, Calls Try.prog 22 #[.agg #[.int .i64 a0, .int .i64 a1, .int .i64 a2, .int .i64 a3, .int .i64 a4, .int .i64 a5, .int .i64 a6]] W fun e w' => e = .returned (.tuple #[.agg #[.string K1, .string V1, .bool false], .int .i64 0]) ∧ Below W.heap.size W w')
    (hPI : ∀ W, Calls Try.prog 24 #[.agg #[.string K1, .string V1, .bool false]] W fun e w' => e = .returned (.tuple #[.agg #[.int .i64 a0, .int .i64 a1, .int .i64 a2, .int .i64 a3, .int .i64 a4, .int .i64 a5, .int .i64 a6], .bool true]) ∧ Below W.heap.size W w')
    (hE : ∀ W, Calls Try.prog 26 #[.int .i64 dir, .agg #[.string S, .int .i64 b1, .int .i64 b2]] W fun e w' => e = .returned (.tuple #[.agg #[.string ⟨#[]⟩, .string ⟨#[]⟩, .bool false], .int .i64 22]) ∧ Below W.heap.size W w')
    (hP : ∀ W, Calls Try.prog 34 #[.agg #[.string K, .string V, .bool g]] W fun e w' => e = .returned (.tuple #[.slice none 0 0, .int .i64 22]) ∧ Below W.heap.size W w')
    (hM : ∀ W, Calls Try.prog 36 #[.int .u64 (gr : Int), .int .i64 (1 + (q : Int))] W fun e w' => ∃ a cap, e = .returned (.tuple #[.slice a 10 cap, .int .i64 0]) ∧ BRow w' a ml ∧ Below W.heap.size W w')
    (hMP : ∀ W a cap, BRow W a ml → Calls Try.prog 44 #[.slice a 10 cap] W fun e w' => e = .returned (.tuple #[.int .u64 (gr : Int), .int .i64 (1 + (q : Int)), .bool true]) ∧ Below W.heap.size W w')
    (hMU : ∀ W a cap, BRow W a ml → Calls Try.prog 42 #[.slice a 10 cap] W fun e w' => e = .returned (.tuple #[.agg #[.string ⟨#[]⟩, .string ⟨#[]⟩, .bool false], .bool false]) ∧ Below W.heap.size W w') :
    Calls Try.prog 8 #[.agg #[.int .i64 a0, .int .i64 a1, .int .i64 a2, .int .i64 a3, .int .i64 a4, .int .i64 a5, .int .i64 a6], .int .i64 dir, .agg #[.string S, .int .i64 b1, .int .i64 b2], .agg #[.string K, .string V, .bool g], .int .u64 (gr : Int)] w fun e w' => e = .returned (.bool true) ∧ Below w.heap.size w w' := by
  obtain ⟨W, hW⟩ : ∃ W, W = ((w.alloc (.cells #[.int .i64 a0, .int .i64 a1, .int .i64 a2, .int .i64 a3, .int .i64 a4, .int .i64 a5, .int .i64 a6] 32)).alloc (.cells #[.string S, .int .i64 b1, .int .i64 b2] 42)).alloc (.cells #[.string K, .string V, .bool g] 34) := ⟨_, rfl⟩
  have T0 : Hid (Th w W [.int .i64 a0, .int .i64 a1, .int .i64 a2, .int .i64 a3, .int .i64 a4, .int .i64 a5, .int .i64 a6] [.string S, .int .i64 b1, .int .i64 b2] [.string K, .string V, .bool g]) := Th.start w [.int .i64 a0, .int .i64 a1, .int .i64 a2, .int .i64 a3, .int .i64 a4, .int .i64 a5, .int .i64 a6] [.string S, .int .i64 b1, .int .i64 b2] [.string K, .string V, .bool g] W hW
  obtain ⟨⟨x0, x1, x2, x3, x4, x5, x6⟩, ⟨y0, y1, y2⟩, ⟨z0, z1, z2⟩, ⟨l0, l1, l2⟩⟩ := T0.out.seen
  have e1 := neq_in
  have e2 := neq_en
  have e3 := neq_nd
  have M1 : Hid True := trivial
  have M2 : Hid True := trivial
  have M3 : Hid True := trivial
  have M4 : Hid True := trivial
  have M5 : Hid True := trivial
  have M6 : Hid True := trivial
  have M7 : Hid True := trivial
  have M8 : Hid True := trivial
  go_enter Try.func8, Try.ntmps8
  go_wp2_with fail
  rw [← hW]
  clear hW
  go_wp2_with (first
    | (go_at_call 22; clear M1; refine (hI _).mono ?_; rintro e w1 ⟨rfl, hb⟩; have T1 : Hid (Th w w1 [.int .i64 a0, .int .i64 a1, .int .i64 a2, .int .i64 a3, .int .i64 a4, .int .i64 a5, .int .i64 a6] [.string S, .int .i64 b1, .int .i64 b2] [.string K, .string V, .bool g]) := T0.out.later hb; clear x0 x1 x2 x3 x4 x5 x6 y0 y1 y2 z0 z1 z2 l0 l1 l2; obtain ⟨⟨x0, x1, x2, x3, x4, x5, x6⟩, ⟨y0, y1, y2⟩, ⟨z0, z1, z2⟩, ⟨l0, l1, l2⟩⟩ := T1.out.seen; clear hb)
    | (go_at_call 24; clear M2; refine (hPI _).mono ?_; rintro e w2 ⟨rfl, hb⟩; have T2 : Hid (Th w w2 [.int .i64 a0, .int .i64 a1, .int .i64 a2, .int .i64 a3, .int .i64 a4, .int .i64 a5, .int .i64 a6] [.string S, .int .i64 b1, .int .i64 b2] [.string K, .string V, .bool g]) := (T1.out.later (below_new _ _)).later hb; clear x0 x1 x2 x3 x4 x5 x6 y0 y1 y2 z0 z1 z2 l0 l1 l2; obtain ⟨⟨x0, x1, x2, x3, x4, x5, x6⟩, ⟨y0, y1, y2⟩, ⟨z0, z1, z2⟩, ⟨l0, l1, l2⟩⟩ := T2.out.seen; clear hb)
    | (go_at_call 26; clear M3; refine (hE _).mono ?_; rintro e w3 ⟨rfl, hb⟩; have T3 : Hid (Th w w3 [.int .i64 a0, .int .i64 a1, .int .i64 a2, .int .i64 a3, .int .i64 a4, .int .i64 a5, .int .i64 a6] [.string S, .int .i64 b1, .int .i64 b2] [.string K, .string V, .bool g]) := (T2.out.later (below_new _ _)).later hb; clear x0 x1 x2 x3 x4 x5 x6 y0 y1 y2 z0 z1 z2 l0 l1 l2; obtain ⟨⟨x0, x1, x2, x3, x4, x5, x6⟩, ⟨y0, y1, y2⟩, ⟨z0, z1, z2⟩, ⟨l0, l1, l2⟩⟩ := T3.out.seen; clear hb)
    | (go_at_call 34; clear M4; refine (hP _).mono ?_; rintro e w4 ⟨rfl, hb⟩; have T4 : Hid (Th w w4 [.int .i64 a0, .int .i64 a1, .int .i64 a2, .int .i64 a3, .int .i64 a4, .int .i64 a5, .int .i64 a6] [.string S, .int .i64 b1, .int .i64 b2] [.string K, .string V, .bool g]) := (T3.out.later (below_new _ _)).later hb; clear x0 x1 x2 x3 x4 x5 x6 y0 y1 y2 z0 z1 z2 l0 l1 l2; obtain ⟨⟨x0, x1, x2, x3, x4, x5, x6⟩, ⟨y0, y1, y2⟩, ⟨z0, z1, z2⟩, ⟨l0, l1, l2⟩⟩ := T4.out.seen; clear hb)
    | (go_at_call 36; clear M5; refine (hM _).mono ?_; rintro e w5 ⟨ma, mc, rfl, hmr, hb⟩; have T5 : Hid (Th w w5 [.int .i64 a0, .int .i64 a1, .int .i64 a2, .int .i64 a3, .int .i64 a4, .int .i64 a5, .int .i64 a6] [.string S, .int .i64 b1, .int .i64 b2] [.string K, .string V, .bool g]) := T4.out.later hb; clear x0 x1 x2 x3 x4 x5 x6 y0 y1 y2 z0 z1 z2 l0 l1 l2; obtain ⟨⟨x0, x1, x2, x3, x4, x5, x6⟩, ⟨y0, y1, y2⟩, ⟨z0, z1, z2⟩, ⟨l0, l1, l2⟩⟩ := T5.out.seen; have Q5 : Hid (BRow w5 ma ml) := hmr; clear hb hmr)
    | (go_at_call 44; clear M6; refine (hMP _ _ _ Q5.out).mono ?_; rintro e w6 ⟨rfl, hb⟩; have T6 : Hid (Th w w6 [.int .i64 a0, .int .i64 a1, .int .i64 a2, .int .i64 a3, .int .i64 a4, .int .i64 a5, .int .i64 a6] [.string S, .int .i64 b1, .int .i64 b2] [.string K, .string V, .bool g]) := T5.out.later hb; clear x0 x1 x2 x3 x4 x5 x6 y0 y1 y2 z0 z1 z2 l0 l1 l2; obtain ⟨⟨x0, x1, x2, x3, x4, x5, x6⟩, ⟨y0, y1, y2⟩, ⟨z0, z1, z2⟩, ⟨l0, l1, l2⟩⟩ := T6.out.seen; have Q6 : Hid (BRow w6 ma ml) := Q5.out.later hb; clear hb)
    | (go_at_call 42; clear M7; refine (hMU _ _ _ Q6.out).mono ?_; rintro e w7 ⟨rfl, hb⟩; have T7 : Hid (Th w w7 [.int .i64 a0, .int .i64 a1, .int .i64 a2, .int .i64 a3, .int .i64 a4, .int .i64 a5, .int .i64 a6] [.string S, .int .i64 b1, .int .i64 b2] [.string K, .string V, .bool g]) := T6.out.later hb; clear x0 x1 x2 x3 x4 x5 x6 y0 y1 y2 z0 z1 z2 l0 l1 l2; obtain ⟨⟨x0, x1, x2, x3, x4, x5, x6⟩, ⟨y0, y1, y2⟩, ⟨z0, z1, z2⟩, ⟨l0, l1, l2⟩⟩ := T7.out.seen; clear hb)
    | (go_at_call 21; clear M8; refine (alive_any _).mono ?_; rintro e w8 ⟨rfl, hb⟩; have T8 : Hid (Th w w8 [.int .i64 a0, .int .i64 a1, .int .i64 a2, .int .i64 a3, .int .i64 a4, .int .i64 a5, .int .i64 a6] [.string S, .int .i64 b1, .int .i64 b2] [.string K, .string V, .bool g]) := (T7.out.later (below_new _ _)).later hb; clear x0 x1 x2 x3 x4 x5 x6 y0 y1 y2 z0 z1 z2 l0 l1 l2; obtain ⟨⟨x0, x1, x2, x3, x4, x5, x6⟩, ⟨y0, y1, y2⟩, ⟨z0, z1, z2⟩, ⟨l0, l1, l2⟩⟩ := T8.out.seen; clear hb))
  go_ret
  exact ⟨rfl, T8.out.bel⟩

set_option maxRecDepth 10000 in
set_option maxHeartbeats 8000000 in
theorem walk_nyy (a0 a1 a2 a3 a4 a5 a6 dir b1 b2 : Int) (S K V _K1 _V1 K2 V2 : ByteArray) (g : Bool) (pn gr q : Nat) (pl ml : List Nat) (hpn : pn ≤ 324) (hq : (gr : Int) % 16 = (q : Int)) (_hq2 : q < 16) (w : World)
    (hI : ∀ W, Calls Try.prog 22 #[.agg #[.int .i64 a0, .int .i64 a1, .int .i64 a2, .int .i64 a3, .int .i64 a4, .int .i64 a5, .int .i64 a6]] W fun e w' => e = .returned (.tuple #[.agg #[.string ⟨#[]⟩, .string ⟨#[]⟩, .bool false], .int .i64 22]) ∧ Below W.heap.size W w')
    (hE : ∀ W, Calls Try.prog 26 #[.int .i64 dir, .agg #[.string S, .int .i64 b1, .int .i64 b2]] W fun e w' => e = .returned (.tuple #[.agg #[.string K2, .string V2, .bool false], .int .i64 0]) ∧ Below W.heap.size W w')
    (hPE : ∀ W, Calls Try.prog 32 #[.agg #[.string K2, .string V2, .bool false]] W fun e w' => e = .returned (.tuple #[.int .i64 dir, .agg #[.string S, .int .i64 b1, .int .i64 b2], .bool true]) ∧ Below W.heap.size W w')
    (hP : ∀ W, Calls Try.prog 34 #[.agg #[.string K, .string V, .bool g]] W fun e w' => ∃ a cap, e = .returned (.tuple #[.slice a pn cap, .int .i64 0]) ∧ BRow w' a pl ∧ Below W.heap.size W w')
    (hU : ∀ W a cap, BRow W a pl → Calls Try.prog 42 #[.slice a pn cap] W fun e w' => e = .returned (.tuple #[.agg #[.string K, .string V, .bool g], .bool true]) ∧ Below W.heap.size W w')
    (hZ : ∀ W, Calls Try.prog 40 #[.agg #[.string K, .string V, .bool g]] W fun e w' => e = .returned (.int .i64 ((6 + pn : Nat) : Int)) ∧ Below W.heap.size W w')
    (hPM : ∀ W a cap, BRow W a pl → Calls Try.prog 44 #[.slice a pn cap] W fun e w' => e = .returned (.tuple #[.int .u64 0, .int .i64 0, .bool false]) ∧ Below W.heap.size W w')
    (hM : ∀ W, Calls Try.prog 36 #[.int .u64 (gr : Int), .int .i64 (1 + (q : Int))] W fun e w' => ∃ a cap, e = .returned (.tuple #[.slice a 10 cap, .int .i64 0]) ∧ BRow w' a ml ∧ Below W.heap.size W w')
    (hMP : ∀ W a cap, BRow W a ml → Calls Try.prog 44 #[.slice a 10 cap] W fun e w' => e = .returned (.tuple #[.int .u64 (gr : Int), .int .i64 (1 + (q : Int)), .bool true]) ∧ Below W.heap.size W w')
    (hMU : ∀ W a cap, BRow W a ml → Calls Try.prog 42 #[.slice a 10 cap] W fun e w' => e = .returned (.tuple #[.agg #[.string ⟨#[]⟩, .string ⟨#[]⟩, .bool false], .bool false]) ∧ Below W.heap.size W w') :
    Calls Try.prog 8 #[.agg #[.int .i64 a0, .int .i64 a1, .int .i64 a2, .int .i64 a3, .int .i64 a4, .int .i64 a5, .int .i64 a6], .int .i64 dir, .agg #[.string S, .int .i64 b1, .int .i64 b2], .agg #[.string K, .string V, .bool g], .int .u64 (gr : Int)] w fun e w' => e = .returned (.bool true) ∧ Below w.heap.size w w' := by
  obtain ⟨W, hW⟩ : ∃ W, W = ((w.alloc (.cells #[.int .i64 a0, .int .i64 a1, .int .i64 a2, .int .i64 a3, .int .i64 a4, .int .i64 a5, .int .i64 a6] 32)).alloc (.cells #[.string S, .int .i64 b1, .int .i64 b2] 42)).alloc (.cells #[.string K, .string V, .bool g] 34) := ⟨_, rfl⟩
  have T0 : Hid (Th w W [.int .i64 a0, .int .i64 a1, .int .i64 a2, .int .i64 a3, .int .i64 a4, .int .i64 a5, .int .i64 a6] [.string S, .int .i64 b1, .int .i64 b2] [.string K, .string V, .bool g]) := Th.start w [.int .i64 a0, .int .i64 a1, .int .i64 a2, .int .i64 a3, .int .i64 a4, .int .i64 a5, .int .i64 a6] [.string S, .int .i64 b1, .int .i64 b2] [.string K, .string V, .bool g] W hW
  obtain ⟨⟨x0, x1, x2, x3, x4, x5, x6⟩, ⟨y0, y1, y2⟩, ⟨z0, z1, z2⟩, ⟨l0, l1, l2⟩⟩ := T0.out.seen
  have e1 := neq_in
  have e2 := neq_en
  have e3 := neq_nd
  have M1 : Hid True := trivial
  have M2 : Hid True := trivial
  have M3 : Hid True := trivial
  have M4 : Hid True := trivial
  have M5 : Hid True := trivial
  have M6 : Hid True := trivial
  have M7 : Hid True := trivial
  have M8 : Hid True := trivial
  have M9 : Hid True := trivial
  have M10 : Hid True := trivial
  have M11 : Hid True := trivial
  go_enter Try.func8, Try.ntmps8
  go_wp2_with fail
  rw [← hW]
  clear hW
  go_wp2_with (first
    | (go_at_call 22; clear M1; refine (hI _).mono ?_; rintro e w1 ⟨rfl, hb⟩; have T1 : Hid (Th w w1 [.int .i64 a0, .int .i64 a1, .int .i64 a2, .int .i64 a3, .int .i64 a4, .int .i64 a5, .int .i64 a6] [.string S, .int .i64 b1, .int .i64 b2] [.string K, .string V, .bool g]) := T0.out.later hb; clear x0 x1 x2 x3 x4 x5 x6 y0 y1 y2 z0 z1 z2 l0 l1 l2; obtain ⟨⟨x0, x1, x2, x3, x4, x5, x6⟩, ⟨y0, y1, y2⟩, ⟨z0, z1, z2⟩, ⟨l0, l1, l2⟩⟩ := T1.out.seen; clear hb)
    | (go_at_call 26; clear M2; refine (hE _).mono ?_; rintro e w2 ⟨rfl, hb⟩; have T2 : Hid (Th w w2 [.int .i64 a0, .int .i64 a1, .int .i64 a2, .int .i64 a3, .int .i64 a4, .int .i64 a5, .int .i64 a6] [.string S, .int .i64 b1, .int .i64 b2] [.string K, .string V, .bool g]) := (T1.out.later (below_new _ _)).later hb; clear x0 x1 x2 x3 x4 x5 x6 y0 y1 y2 z0 z1 z2 l0 l1 l2; obtain ⟨⟨x0, x1, x2, x3, x4, x5, x6⟩, ⟨y0, y1, y2⟩, ⟨z0, z1, z2⟩, ⟨l0, l1, l2⟩⟩ := T2.out.seen; clear hb)
    | (go_at_call 32; clear M3; refine (hPE _).mono ?_; rintro e w3 ⟨rfl, hb⟩; have T3 : Hid (Th w w3 [.int .i64 a0, .int .i64 a1, .int .i64 a2, .int .i64 a3, .int .i64 a4, .int .i64 a5, .int .i64 a6] [.string S, .int .i64 b1, .int .i64 b2] [.string K, .string V, .bool g]) := (T2.out.later (below_new _ _)).later hb; clear x0 x1 x2 x3 x4 x5 x6 y0 y1 y2 z0 z1 z2 l0 l1 l2; obtain ⟨⟨x0, x1, x2, x3, x4, x5, x6⟩, ⟨y0, y1, y2⟩, ⟨z0, z1, z2⟩, ⟨l0, l1, l2⟩⟩ := T3.out.seen; clear hb)
    | (go_at_call 34; clear M4; refine (hP _).mono ?_; rintro e w4 ⟨pa, pc, rfl, hpr, hb⟩; have T4 : Hid (Th w w4 [.int .i64 a0, .int .i64 a1, .int .i64 a2, .int .i64 a3, .int .i64 a4, .int .i64 a5, .int .i64 a6] [.string S, .int .i64 b1, .int .i64 b2] [.string K, .string V, .bool g]) := (T3.out.later (below_new _ _)).later hb; clear x0 x1 x2 x3 x4 x5 x6 y0 y1 y2 z0 z1 z2 l0 l1 l2; obtain ⟨⟨x0, x1, x2, x3, x4, x5, x6⟩, ⟨y0, y1, y2⟩, ⟨z0, z1, z2⟩, ⟨l0, l1, l2⟩⟩ := T4.out.seen; have R4 : Hid (BRow w4 pa pl) := hpr; clear hb hpr)
    | (go_at_call 42; clear M5; refine (hU _ _ _ R4.out).mono ?_; rintro e w5 ⟨rfl, hb⟩; have T5 : Hid (Th w w5 [.int .i64 a0, .int .i64 a1, .int .i64 a2, .int .i64 a3, .int .i64 a4, .int .i64 a5, .int .i64 a6] [.string S, .int .i64 b1, .int .i64 b2] [.string K, .string V, .bool g]) := T4.out.later hb; clear x0 x1 x2 x3 x4 x5 x6 y0 y1 y2 z0 z1 z2 l0 l1 l2; obtain ⟨⟨x0, x1, x2, x3, x4, x5, x6⟩, ⟨y0, y1, y2⟩, ⟨z0, z1, z2⟩, ⟨l0, l1, l2⟩⟩ := T5.out.seen; have R5 : Hid (BRow w5 pa pl) := R4.out.later hb; clear hb)
    | (go_at_call 40; clear M6; refine (hZ _).mono ?_; rintro e w6 ⟨rfl, hb⟩; have T6 : Hid (Th w w6 [.int .i64 a0, .int .i64 a1, .int .i64 a2, .int .i64 a3, .int .i64 a4, .int .i64 a5, .int .i64 a6] [.string S, .int .i64 b1, .int .i64 b2] [.string K, .string V, .bool g]) := (T5.out.later (below_new _ _)).later hb; clear x0 x1 x2 x3 x4 x5 x6 y0 y1 y2 z0 z1 z2 l0 l1 l2; obtain ⟨⟨x0, x1, x2, x3, x4, x5, x6⟩, ⟨y0, y1, y2⟩, ⟨z0, z1, z2⟩, ⟨l0, l1, l2⟩⟩ := T6.out.seen; have R6 : Hid (BRow w6 pa pl) := (R5.out.later (below_new _ _)).later hb; clear hb)
    | (go_at_call 44; clear M7; refine (hPM _ _ _ R6.out).mono ?_; rintro e w7 ⟨rfl, hb⟩; have T7 : Hid (Th w w7 [.int .i64 a0, .int .i64 a1, .int .i64 a2, .int .i64 a3, .int .i64 a4, .int .i64 a5, .int .i64 a6] [.string S, .int .i64 b1, .int .i64 b2] [.string K, .string V, .bool g]) := T6.out.later hb; clear x0 x1 x2 x3 x4 x5 x6 y0 y1 y2 z0 z1 z2 l0 l1 l2; obtain ⟨⟨x0, x1, x2, x3, x4, x5, x6⟩, ⟨y0, y1, y2⟩, ⟨z0, z1, z2⟩, ⟨l0, l1, l2⟩⟩ := T7.out.seen; clear hb)
    | (go_at_call 36; clear M8; refine (hM _).mono ?_; rintro e w8 ⟨ma, mc, rfl, hmr, hb⟩; have T8 : Hid (Th w w8 [.int .i64 a0, .int .i64 a1, .int .i64 a2, .int .i64 a3, .int .i64 a4, .int .i64 a5, .int .i64 a6] [.string S, .int .i64 b1, .int .i64 b2] [.string K, .string V, .bool g]) := T7.out.later hb; clear x0 x1 x2 x3 x4 x5 x6 y0 y1 y2 z0 z1 z2 l0 l1 l2; obtain ⟨⟨x0, x1, x2, x3, x4, x5, x6⟩, ⟨y0, y1, y2⟩, ⟨z0, z1, z2⟩, ⟨l0, l1, l2⟩⟩ := T8.out.seen; have Q8 : Hid (BRow w8 ma ml) := hmr; clear hb hmr)
    | (go_at_call 44; clear M9; refine (hMP _ _ _ Q8.out).mono ?_; rintro e w9 ⟨rfl, hb⟩; have T9 : Hid (Th w w9 [.int .i64 a0, .int .i64 a1, .int .i64 a2, .int .i64 a3, .int .i64 a4, .int .i64 a5, .int .i64 a6] [.string S, .int .i64 b1, .int .i64 b2] [.string K, .string V, .bool g]) := T8.out.later hb; clear x0 x1 x2 x3 x4 x5 x6 y0 y1 y2 z0 z1 z2 l0 l1 l2; obtain ⟨⟨x0, x1, x2, x3, x4, x5, x6⟩, ⟨y0, y1, y2⟩, ⟨z0, z1, z2⟩, ⟨l0, l1, l2⟩⟩ := T9.out.seen; have Q9 : Hid (BRow w9 ma ml) := Q8.out.later hb; clear hb)
    | (go_at_call 42; clear M10; refine (hMU _ _ _ Q9.out).mono ?_; rintro e w10 ⟨rfl, hb⟩; have T10 : Hid (Th w w10 [.int .i64 a0, .int .i64 a1, .int .i64 a2, .int .i64 a3, .int .i64 a4, .int .i64 a5, .int .i64 a6] [.string S, .int .i64 b1, .int .i64 b2] [.string K, .string V, .bool g]) := T9.out.later hb; clear x0 x1 x2 x3 x4 x5 x6 y0 y1 y2 z0 z1 z2 l0 l1 l2; obtain ⟨⟨x0, x1, x2, x3, x4, x5, x6⟩, ⟨y0, y1, y2⟩, ⟨z0, z1, z2⟩, ⟨l0, l1, l2⟩⟩ := T10.out.seen; clear hb)
    | (go_at_call 21; clear M11; refine (alive_any _).mono ?_; rintro e w11 ⟨rfl, hb⟩; have T11 : Hid (Th w w11 [.int .i64 a0, .int .i64 a1, .int .i64 a2, .int .i64 a3, .int .i64 a4, .int .i64 a5, .int .i64 a6] [.string S, .int .i64 b1, .int .i64 b2] [.string K, .string V, .bool g]) := (T10.out.later (below_new _ _)).later hb; clear x0 x1 x2 x3 x4 x5 x6 y0 y1 y2 z0 z1 z2 l0 l1 l2; obtain ⟨⟨x0, x1, x2, x3, x4, x5, x6⟩, ⟨y0, y1, y2⟩, ⟨z0, z1, z2⟩, ⟨l0, l1, l2⟩⟩ := T11.out.seen; clear hb))
  go_ret
  exact ⟨rfl, T11.out.bel⟩

set_option maxRecDepth 10000 in
set_option maxHeartbeats 8000000 in
theorem walk_nyn (a0 a1 a2 a3 a4 a5 a6 dir b1 b2 : Int) (S K V _K1 _V1 K2 V2 : ByteArray) (g : Bool) (pn gr q : Nat) (_pl ml : List Nat) (_hpn : pn ≤ 324) (hq : (gr : Int) % 16 = (q : Int)) (_hq2 : q < 16) (w : World)
    (hI : ∀ W, Calls Try.prog 22 #[.agg #[.int .i64 a0, .int .i64 a1, .int .i64 a2, .int .i64 a3, .int .i64 a4, .int .i64 a5, .int .i64 a6]] W fun e w' => e = .returned (.tuple #[.agg #[.string ⟨#[]⟩, .string ⟨#[]⟩, .bool false], .int .i64 22]) ∧ Below W.heap.size W w')
    (hE : ∀ W, Calls Try.prog 26 #[.int .i64 dir, .agg #[.string S, .int .i64 b1, .int .i64 b2]] W fun e w' => e = .returned (.tuple #[.agg #[.string K2, .string V2, .bool false], .int .i64 0]) ∧ Below W.heap.size W w')
    (hPE : ∀ W, Calls Try.prog 32 #[.agg #[.string K2, .string V2, .bool false]] W fun e w' => e = .returned (.tuple #[.int .i64 dir, .agg #[.string S, .int .i64 b1, .int .i64 b2], .bool true]) ∧ Below W.heap.size W w')
    (hP : ∀ W, Calls Try.prog 34 #[.agg #[.string K, .string V, .bool g]] W fun e w' => e = .returned (.tuple #[.slice none 0 0, .int .i64 22]) ∧ Below W.heap.size W w')
    (hM : ∀ W, Calls Try.prog 36 #[.int .u64 (gr : Int), .int .i64 (1 + (q : Int))] W fun e w' => ∃ a cap, e = .returned (.tuple #[.slice a 10 cap, .int .i64 0]) ∧ BRow w' a ml ∧ Below W.heap.size W w')
    (hMP : ∀ W a cap, BRow W a ml → Calls Try.prog 44 #[.slice a 10 cap] W fun e w' => e = .returned (.tuple #[.int .u64 (gr : Int), .int .i64 (1 + (q : Int)), .bool true]) ∧ Below W.heap.size W w')
    (hMU : ∀ W a cap, BRow W a ml → Calls Try.prog 42 #[.slice a 10 cap] W fun e w' => e = .returned (.tuple #[.agg #[.string ⟨#[]⟩, .string ⟨#[]⟩, .bool false], .bool false]) ∧ Below W.heap.size W w') :
    Calls Try.prog 8 #[.agg #[.int .i64 a0, .int .i64 a1, .int .i64 a2, .int .i64 a3, .int .i64 a4, .int .i64 a5, .int .i64 a6], .int .i64 dir, .agg #[.string S, .int .i64 b1, .int .i64 b2], .agg #[.string K, .string V, .bool g], .int .u64 (gr : Int)] w fun e w' => e = .returned (.bool true) ∧ Below w.heap.size w w' := by
  obtain ⟨W, hW⟩ : ∃ W, W = ((w.alloc (.cells #[.int .i64 a0, .int .i64 a1, .int .i64 a2, .int .i64 a3, .int .i64 a4, .int .i64 a5, .int .i64 a6] 32)).alloc (.cells #[.string S, .int .i64 b1, .int .i64 b2] 42)).alloc (.cells #[.string K, .string V, .bool g] 34) := ⟨_, rfl⟩
  have T0 : Hid (Th w W [.int .i64 a0, .int .i64 a1, .int .i64 a2, .int .i64 a3, .int .i64 a4, .int .i64 a5, .int .i64 a6] [.string S, .int .i64 b1, .int .i64 b2] [.string K, .string V, .bool g]) := Th.start w [.int .i64 a0, .int .i64 a1, .int .i64 a2, .int .i64 a3, .int .i64 a4, .int .i64 a5, .int .i64 a6] [.string S, .int .i64 b1, .int .i64 b2] [.string K, .string V, .bool g] W hW
  obtain ⟨⟨x0, x1, x2, x3, x4, x5, x6⟩, ⟨y0, y1, y2⟩, ⟨z0, z1, z2⟩, ⟨l0, l1, l2⟩⟩ := T0.out.seen
  have e1 := neq_in
  have e2 := neq_en
  have e3 := neq_nd
  have M1 : Hid True := trivial
  have M2 : Hid True := trivial
  have M3 : Hid True := trivial
  have M4 : Hid True := trivial
  have M5 : Hid True := trivial
  have M6 : Hid True := trivial
  have M7 : Hid True := trivial
  have M8 : Hid True := trivial
  go_enter Try.func8, Try.ntmps8
  go_wp2_with fail
  rw [← hW]
  clear hW
  go_wp2_with (first
    | (go_at_call 22; clear M1; refine (hI _).mono ?_; rintro e w1 ⟨rfl, hb⟩; have T1 : Hid (Th w w1 [.int .i64 a0, .int .i64 a1, .int .i64 a2, .int .i64 a3, .int .i64 a4, .int .i64 a5, .int .i64 a6] [.string S, .int .i64 b1, .int .i64 b2] [.string K, .string V, .bool g]) := T0.out.later hb; clear x0 x1 x2 x3 x4 x5 x6 y0 y1 y2 z0 z1 z2 l0 l1 l2; obtain ⟨⟨x0, x1, x2, x3, x4, x5, x6⟩, ⟨y0, y1, y2⟩, ⟨z0, z1, z2⟩, ⟨l0, l1, l2⟩⟩ := T1.out.seen; clear hb)
    | (go_at_call 26; clear M2; refine (hE _).mono ?_; rintro e w2 ⟨rfl, hb⟩; have T2 : Hid (Th w w2 [.int .i64 a0, .int .i64 a1, .int .i64 a2, .int .i64 a3, .int .i64 a4, .int .i64 a5, .int .i64 a6] [.string S, .int .i64 b1, .int .i64 b2] [.string K, .string V, .bool g]) := (T1.out.later (below_new _ _)).later hb; clear x0 x1 x2 x3 x4 x5 x6 y0 y1 y2 z0 z1 z2 l0 l1 l2; obtain ⟨⟨x0, x1, x2, x3, x4, x5, x6⟩, ⟨y0, y1, y2⟩, ⟨z0, z1, z2⟩, ⟨l0, l1, l2⟩⟩ := T2.out.seen; clear hb)
    | (go_at_call 32; clear M3; refine (hPE _).mono ?_; rintro e w3 ⟨rfl, hb⟩; have T3 : Hid (Th w w3 [.int .i64 a0, .int .i64 a1, .int .i64 a2, .int .i64 a3, .int .i64 a4, .int .i64 a5, .int .i64 a6] [.string S, .int .i64 b1, .int .i64 b2] [.string K, .string V, .bool g]) := (T2.out.later (below_new _ _)).later hb; clear x0 x1 x2 x3 x4 x5 x6 y0 y1 y2 z0 z1 z2 l0 l1 l2; obtain ⟨⟨x0, x1, x2, x3, x4, x5, x6⟩, ⟨y0, y1, y2⟩, ⟨z0, z1, z2⟩, ⟨l0, l1, l2⟩⟩ := T3.out.seen; clear hb)
    | (go_at_call 34; clear M4; refine (hP _).mono ?_; rintro e w4 ⟨rfl, hb⟩; have T4 : Hid (Th w w4 [.int .i64 a0, .int .i64 a1, .int .i64 a2, .int .i64 a3, .int .i64 a4, .int .i64 a5, .int .i64 a6] [.string S, .int .i64 b1, .int .i64 b2] [.string K, .string V, .bool g]) := (T3.out.later (below_new _ _)).later hb; clear x0 x1 x2 x3 x4 x5 x6 y0 y1 y2 z0 z1 z2 l0 l1 l2; obtain ⟨⟨x0, x1, x2, x3, x4, x5, x6⟩, ⟨y0, y1, y2⟩, ⟨z0, z1, z2⟩, ⟨l0, l1, l2⟩⟩ := T4.out.seen; clear hb)
    | (go_at_call 36; clear M5; refine (hM _).mono ?_; rintro e w5 ⟨ma, mc, rfl, hmr, hb⟩; have T5 : Hid (Th w w5 [.int .i64 a0, .int .i64 a1, .int .i64 a2, .int .i64 a3, .int .i64 a4, .int .i64 a5, .int .i64 a6] [.string S, .int .i64 b1, .int .i64 b2] [.string K, .string V, .bool g]) := T4.out.later hb; clear x0 x1 x2 x3 x4 x5 x6 y0 y1 y2 z0 z1 z2 l0 l1 l2; obtain ⟨⟨x0, x1, x2, x3, x4, x5, x6⟩, ⟨y0, y1, y2⟩, ⟨z0, z1, z2⟩, ⟨l0, l1, l2⟩⟩ := T5.out.seen; have Q5 : Hid (BRow w5 ma ml) := hmr; clear hb hmr)
    | (go_at_call 44; clear M6; refine (hMP _ _ _ Q5.out).mono ?_; rintro e w6 ⟨rfl, hb⟩; have T6 : Hid (Th w w6 [.int .i64 a0, .int .i64 a1, .int .i64 a2, .int .i64 a3, .int .i64 a4, .int .i64 a5, .int .i64 a6] [.string S, .int .i64 b1, .int .i64 b2] [.string K, .string V, .bool g]) := T5.out.later hb; clear x0 x1 x2 x3 x4 x5 x6 y0 y1 y2 z0 z1 z2 l0 l1 l2; obtain ⟨⟨x0, x1, x2, x3, x4, x5, x6⟩, ⟨y0, y1, y2⟩, ⟨z0, z1, z2⟩, ⟨l0, l1, l2⟩⟩ := T6.out.seen; have Q6 : Hid (BRow w6 ma ml) := Q5.out.later hb; clear hb)
    | (go_at_call 42; clear M7; refine (hMU _ _ _ Q6.out).mono ?_; rintro e w7 ⟨rfl, hb⟩; have T7 : Hid (Th w w7 [.int .i64 a0, .int .i64 a1, .int .i64 a2, .int .i64 a3, .int .i64 a4, .int .i64 a5, .int .i64 a6] [.string S, .int .i64 b1, .int .i64 b2] [.string K, .string V, .bool g]) := T6.out.later hb; clear x0 x1 x2 x3 x4 x5 x6 y0 y1 y2 z0 z1 z2 l0 l1 l2; obtain ⟨⟨x0, x1, x2, x3, x4, x5, x6⟩, ⟨y0, y1, y2⟩, ⟨z0, z1, z2⟩, ⟨l0, l1, l2⟩⟩ := T7.out.seen; clear hb)
    | (go_at_call 21; clear M8; refine (alive_any _).mono ?_; rintro e w8 ⟨rfl, hb⟩; have T8 : Hid (Th w w8 [.int .i64 a0, .int .i64 a1, .int .i64 a2, .int .i64 a3, .int .i64 a4, .int .i64 a5, .int .i64 a6] [.string S, .int .i64 b1, .int .i64 b2] [.string K, .string V, .bool g]) := (T7.out.later (below_new _ _)).later hb; clear x0 x1 x2 x3 x4 x5 x6 y0 y1 y2 z0 z1 z2 l0 l1 l2; obtain ⟨⟨x0, x1, x2, x3, x4, x5, x6⟩, ⟨y0, y1, y2⟩, ⟨z0, z1, z2⟩, ⟨l0, l1, l2⟩⟩ := T8.out.seen; clear hb))
  go_ret
  exact ⟨rfl, T8.out.bel⟩

set_option maxRecDepth 10000 in
set_option maxHeartbeats 8000000 in
theorem walk_nny (a0 a1 a2 a3 a4 a5 a6 dir b1 b2 : Int) (S K V _K1 _V1 _K2 _V2 : ByteArray) (g : Bool) (pn gr q : Nat) (pl ml : List Nat) (hpn : pn ≤ 324) (hq : (gr : Int) % 16 = (q : Int)) (_hq2 : q < 16) (w : World)
    (hI : ∀ W, Calls Try.prog 22 #[.agg #[.int .i64 a0, .int .i64 a1, .int .i64 a2, .int .i64 a3, .int .i64 a4, .int .i64 a5, .int .i64 a6]] W fun e w' => e = .returned (.tuple #[.agg #[.string ⟨#[]⟩, .string ⟨#[]⟩, .bool false], .int .i64 22]) ∧ Below W.heap.size W w')
    (hE : ∀ W, Calls Try.prog 26 #[.int .i64 dir, .agg #[.string S, .int .i64 b1, .int .i64 b2]] W fun e w' => e = .returned (.tuple #[.agg #[.string ⟨#[]⟩, .string ⟨#[]⟩, .bool false], .int .i64 22]) ∧ Below W.heap.size W w')
    (hP : ∀ W, Calls Try.prog 34 #[.agg #[.string K, .string V, .bool g]] W fun e w' => ∃ a cap, e = .returned (.tuple #[.slice a pn cap, .int .i64 0]) ∧ BRow w' a pl ∧ Below W.heap.size W w')
    (hU : ∀ W a cap, BRow W a pl → Calls Try.prog 42 #[.slice a pn cap] W fun e w' => e = .returned (.tuple #[.agg #[.string K, .string V, .bool g], .bool true]) ∧ Below W.heap.size W w')
    (hZ : ∀ W, Calls Try.prog 40 #[.agg #[.string K, .string V, .bool g]] W fun e w' => e = .returned (.int .i64 ((6 + pn : Nat) : Int)) ∧ Below W.heap.size W w')
    (hPM : ∀ W a cap, BRow W a pl → Calls Try.prog 44 #[.slice a pn cap] W fun e w' => e = .returned (.tuple #[.int .u64 0, .int .i64 0, .bool false]) ∧ Below W.heap.size W w')
    (hM : ∀ W, Calls Try.prog 36 #[.int .u64 (gr : Int), .int .i64 (1 + (q : Int))] W fun e w' => ∃ a cap, e = .returned (.tuple #[.slice a 10 cap, .int .i64 0]) ∧ BRow w' a ml ∧ Below W.heap.size W w')
    (hMP : ∀ W a cap, BRow W a ml → Calls Try.prog 44 #[.slice a 10 cap] W fun e w' => e = .returned (.tuple #[.int .u64 (gr : Int), .int .i64 (1 + (q : Int)), .bool true]) ∧ Below W.heap.size W w')
    (hMU : ∀ W a cap, BRow W a ml → Calls Try.prog 42 #[.slice a 10 cap] W fun e w' => e = .returned (.tuple #[.agg #[.string ⟨#[]⟩, .string ⟨#[]⟩, .bool false], .bool false]) ∧ Below W.heap.size W w') :
    Calls Try.prog 8 #[.agg #[.int .i64 a0, .int .i64 a1, .int .i64 a2, .int .i64 a3, .int .i64 a4, .int .i64 a5, .int .i64 a6], .int .i64 dir, .agg #[.string S, .int .i64 b1, .int .i64 b2], .agg #[.string K, .string V, .bool g], .int .u64 (gr : Int)] w fun e w' => e = .returned (.bool true) ∧ Below w.heap.size w w' := by
  obtain ⟨W, hW⟩ : ∃ W, W = ((w.alloc (.cells #[.int .i64 a0, .int .i64 a1, .int .i64 a2, .int .i64 a3, .int .i64 a4, .int .i64 a5, .int .i64 a6] 32)).alloc (.cells #[.string S, .int .i64 b1, .int .i64 b2] 42)).alloc (.cells #[.string K, .string V, .bool g] 34) := ⟨_, rfl⟩
  have T0 : Hid (Th w W [.int .i64 a0, .int .i64 a1, .int .i64 a2, .int .i64 a3, .int .i64 a4, .int .i64 a5, .int .i64 a6] [.string S, .int .i64 b1, .int .i64 b2] [.string K, .string V, .bool g]) := Th.start w [.int .i64 a0, .int .i64 a1, .int .i64 a2, .int .i64 a3, .int .i64 a4, .int .i64 a5, .int .i64 a6] [.string S, .int .i64 b1, .int .i64 b2] [.string K, .string V, .bool g] W hW
  obtain ⟨⟨x0, x1, x2, x3, x4, x5, x6⟩, ⟨y0, y1, y2⟩, ⟨z0, z1, z2⟩, ⟨l0, l1, l2⟩⟩ := T0.out.seen
  have e1 := neq_in
  have e2 := neq_en
  have e3 := neq_nd
  have M1 : Hid True := trivial
  have M2 : Hid True := trivial
  have M3 : Hid True := trivial
  have M4 : Hid True := trivial
  have M5 : Hid True := trivial
  have M6 : Hid True := trivial
  have M7 : Hid True := trivial
  have M8 : Hid True := trivial
  have M9 : Hid True := trivial
  have M10 : Hid True := trivial
  go_enter Try.func8, Try.ntmps8
  go_wp2_with fail
  rw [← hW]
  clear hW
  go_wp2_with (first
    | (go_at_call 22; clear M1; refine (hI _).mono ?_; rintro e w1 ⟨rfl, hb⟩; have T1 : Hid (Th w w1 [.int .i64 a0, .int .i64 a1, .int .i64 a2, .int .i64 a3, .int .i64 a4, .int .i64 a5, .int .i64 a6] [.string S, .int .i64 b1, .int .i64 b2] [.string K, .string V, .bool g]) := T0.out.later hb; clear x0 x1 x2 x3 x4 x5 x6 y0 y1 y2 z0 z1 z2 l0 l1 l2; obtain ⟨⟨x0, x1, x2, x3, x4, x5, x6⟩, ⟨y0, y1, y2⟩, ⟨z0, z1, z2⟩, ⟨l0, l1, l2⟩⟩ := T1.out.seen; clear hb)
    | (go_at_call 26; clear M2; refine (hE _).mono ?_; rintro e w2 ⟨rfl, hb⟩; have T2 : Hid (Th w w2 [.int .i64 a0, .int .i64 a1, .int .i64 a2, .int .i64 a3, .int .i64 a4, .int .i64 a5, .int .i64 a6] [.string S, .int .i64 b1, .int .i64 b2] [.string K, .string V, .bool g]) := (T1.out.later (below_new _ _)).later hb; clear x0 x1 x2 x3 x4 x5 x6 y0 y1 y2 z0 z1 z2 l0 l1 l2; obtain ⟨⟨x0, x1, x2, x3, x4, x5, x6⟩, ⟨y0, y1, y2⟩, ⟨z0, z1, z2⟩, ⟨l0, l1, l2⟩⟩ := T2.out.seen; clear hb)
    | (go_at_call 34; clear M3; refine (hP _).mono ?_; rintro e w3 ⟨pa, pc, rfl, hpr, hb⟩; have T3 : Hid (Th w w3 [.int .i64 a0, .int .i64 a1, .int .i64 a2, .int .i64 a3, .int .i64 a4, .int .i64 a5, .int .i64 a6] [.string S, .int .i64 b1, .int .i64 b2] [.string K, .string V, .bool g]) := (T2.out.later (below_new _ _)).later hb; clear x0 x1 x2 x3 x4 x5 x6 y0 y1 y2 z0 z1 z2 l0 l1 l2; obtain ⟨⟨x0, x1, x2, x3, x4, x5, x6⟩, ⟨y0, y1, y2⟩, ⟨z0, z1, z2⟩, ⟨l0, l1, l2⟩⟩ := T3.out.seen; have R3 : Hid (BRow w3 pa pl) := hpr; clear hb hpr)
    | (go_at_call 42; clear M4; refine (hU _ _ _ R3.out).mono ?_; rintro e w4 ⟨rfl, hb⟩; have T4 : Hid (Th w w4 [.int .i64 a0, .int .i64 a1, .int .i64 a2, .int .i64 a3, .int .i64 a4, .int .i64 a5, .int .i64 a6] [.string S, .int .i64 b1, .int .i64 b2] [.string K, .string V, .bool g]) := T3.out.later hb; clear x0 x1 x2 x3 x4 x5 x6 y0 y1 y2 z0 z1 z2 l0 l1 l2; obtain ⟨⟨x0, x1, x2, x3, x4, x5, x6⟩, ⟨y0, y1, y2⟩, ⟨z0, z1, z2⟩, ⟨l0, l1, l2⟩⟩ := T4.out.seen; have R4 : Hid (BRow w4 pa pl) := R3.out.later hb; clear hb)
    | (go_at_call 40; clear M5; refine (hZ _).mono ?_; rintro e w5 ⟨rfl, hb⟩; have T5 : Hid (Th w w5 [.int .i64 a0, .int .i64 a1, .int .i64 a2, .int .i64 a3, .int .i64 a4, .int .i64 a5, .int .i64 a6] [.string S, .int .i64 b1, .int .i64 b2] [.string K, .string V, .bool g]) := (T4.out.later (below_new _ _)).later hb; clear x0 x1 x2 x3 x4 x5 x6 y0 y1 y2 z0 z1 z2 l0 l1 l2; obtain ⟨⟨x0, x1, x2, x3, x4, x5, x6⟩, ⟨y0, y1, y2⟩, ⟨z0, z1, z2⟩, ⟨l0, l1, l2⟩⟩ := T5.out.seen; have R5 : Hid (BRow w5 pa pl) := (R4.out.later (below_new _ _)).later hb; clear hb)
    | (go_at_call 44; clear M6; refine (hPM _ _ _ R5.out).mono ?_; rintro e w6 ⟨rfl, hb⟩; have T6 : Hid (Th w w6 [.int .i64 a0, .int .i64 a1, .int .i64 a2, .int .i64 a3, .int .i64 a4, .int .i64 a5, .int .i64 a6] [.string S, .int .i64 b1, .int .i64 b2] [.string K, .string V, .bool g]) := T5.out.later hb; clear x0 x1 x2 x3 x4 x5 x6 y0 y1 y2 z0 z1 z2 l0 l1 l2; obtain ⟨⟨x0, x1, x2, x3, x4, x5, x6⟩, ⟨y0, y1, y2⟩, ⟨z0, z1, z2⟩, ⟨l0, l1, l2⟩⟩ := T6.out.seen; clear hb)
    | (go_at_call 36; clear M7; refine (hM _).mono ?_; rintro e w7 ⟨ma, mc, rfl, hmr, hb⟩; have T7 : Hid (Th w w7 [.int .i64 a0, .int .i64 a1, .int .i64 a2, .int .i64 a3, .int .i64 a4, .int .i64 a5, .int .i64 a6] [.string S, .int .i64 b1, .int .i64 b2] [.string K, .string V, .bool g]) := T6.out.later hb; clear x0 x1 x2 x3 x4 x5 x6 y0 y1 y2 z0 z1 z2 l0 l1 l2; obtain ⟨⟨x0, x1, x2, x3, x4, x5, x6⟩, ⟨y0, y1, y2⟩, ⟨z0, z1, z2⟩, ⟨l0, l1, l2⟩⟩ := T7.out.seen; have Q7 : Hid (BRow w7 ma ml) := hmr; clear hb hmr)
    | (go_at_call 44; clear M8; refine (hMP _ _ _ Q7.out).mono ?_; rintro e w8 ⟨rfl, hb⟩; have T8 : Hid (Th w w8 [.int .i64 a0, .int .i64 a1, .int .i64 a2, .int .i64 a3, .int .i64 a4, .int .i64 a5, .int .i64 a6] [.string S, .int .i64 b1, .int .i64 b2] [.string K, .string V, .bool g]) := T7.out.later hb; clear x0 x1 x2 x3 x4 x5 x6 y0 y1 y2 z0 z1 z2 l0 l1 l2; obtain ⟨⟨x0, x1, x2, x3, x4, x5, x6⟩, ⟨y0, y1, y2⟩, ⟨z0, z1, z2⟩, ⟨l0, l1, l2⟩⟩ := T8.out.seen; have Q8 : Hid (BRow w8 ma ml) := Q7.out.later hb; clear hb)
    | (go_at_call 42; clear M9; refine (hMU _ _ _ Q8.out).mono ?_; rintro e w9 ⟨rfl, hb⟩; have T9 : Hid (Th w w9 [.int .i64 a0, .int .i64 a1, .int .i64 a2, .int .i64 a3, .int .i64 a4, .int .i64 a5, .int .i64 a6] [.string S, .int .i64 b1, .int .i64 b2] [.string K, .string V, .bool g]) := T8.out.later hb; clear x0 x1 x2 x3 x4 x5 x6 y0 y1 y2 z0 z1 z2 l0 l1 l2; obtain ⟨⟨x0, x1, x2, x3, x4, x5, x6⟩, ⟨y0, y1, y2⟩, ⟨z0, z1, z2⟩, ⟨l0, l1, l2⟩⟩ := T9.out.seen; clear hb)
    | (go_at_call 21; clear M10; refine (alive_any _).mono ?_; rintro e w10 ⟨rfl, hb⟩; have T10 : Hid (Th w w10 [.int .i64 a0, .int .i64 a1, .int .i64 a2, .int .i64 a3, .int .i64 a4, .int .i64 a5, .int .i64 a6] [.string S, .int .i64 b1, .int .i64 b2] [.string K, .string V, .bool g]) := (T9.out.later (below_new _ _)).later hb; clear x0 x1 x2 x3 x4 x5 x6 y0 y1 y2 z0 z1 z2 l0 l1 l2; obtain ⟨⟨x0, x1, x2, x3, x4, x5, x6⟩, ⟨y0, y1, y2⟩, ⟨z0, z1, z2⟩, ⟨l0, l1, l2⟩⟩ := T10.out.seen; clear hb))
  go_ret
  exact ⟨rfl, T10.out.bel⟩

set_option maxRecDepth 10000 in
set_option maxHeartbeats 8000000 in
theorem walk_nnn (a0 a1 a2 a3 a4 a5 a6 dir b1 b2 : Int) (S K V _K1 _V1 _K2 _V2 : ByteArray) (g : Bool) (pn gr q : Nat) (_pl ml : List Nat) (_hpn : pn ≤ 324) (hq : (gr : Int) % 16 = (q : Int)) (_hq2 : q < 16) (w : World)
    (hI : ∀ W, Calls Try.prog 22 #[.agg #[.int .i64 a0, .int .i64 a1, .int .i64 a2, .int .i64 a3, .int .i64 a4, .int .i64 a5, .int .i64 a6]] W fun e w' => e = .returned (.tuple #[.agg #[.string ⟨#[]⟩, .string ⟨#[]⟩, .bool false], .int .i64 22]) ∧ Below W.heap.size W w')
    (hE : ∀ W, Calls Try.prog 26 #[.int .i64 dir, .agg #[.string S, .int .i64 b1, .int .i64 b2]] W fun e w' => e = .returned (.tuple #[.agg #[.string ⟨#[]⟩, .string ⟨#[]⟩, .bool false], .int .i64 22]) ∧ Below W.heap.size W w')
    (hP : ∀ W, Calls Try.prog 34 #[.agg #[.string K, .string V, .bool g]] W fun e w' => e = .returned (.tuple #[.slice none 0 0, .int .i64 22]) ∧ Below W.heap.size W w')
    (hM : ∀ W, Calls Try.prog 36 #[.int .u64 (gr : Int), .int .i64 (1 + (q : Int))] W fun e w' => ∃ a cap, e = .returned (.tuple #[.slice a 10 cap, .int .i64 0]) ∧ BRow w' a ml ∧ Below W.heap.size W w')
    (hMP : ∀ W a cap, BRow W a ml → Calls Try.prog 44 #[.slice a 10 cap] W fun e w' => e = .returned (.tuple #[.int .u64 (gr : Int), .int .i64 (1 + (q : Int)), .bool true]) ∧ Below W.heap.size W w')
    (hMU : ∀ W a cap, BRow W a ml → Calls Try.prog 42 #[.slice a 10 cap] W fun e w' => e = .returned (.tuple #[.agg #[.string ⟨#[]⟩, .string ⟨#[]⟩, .bool false], .bool false]) ∧ Below W.heap.size W w') :
    Calls Try.prog 8 #[.agg #[.int .i64 a0, .int .i64 a1, .int .i64 a2, .int .i64 a3, .int .i64 a4, .int .i64 a5, .int .i64 a6], .int .i64 dir, .agg #[.string S, .int .i64 b1, .int .i64 b2], .agg #[.string K, .string V, .bool g], .int .u64 (gr : Int)] w fun e w' => e = .returned (.bool true) ∧ Below w.heap.size w w' := by
  obtain ⟨W, hW⟩ : ∃ W, W = ((w.alloc (.cells #[.int .i64 a0, .int .i64 a1, .int .i64 a2, .int .i64 a3, .int .i64 a4, .int .i64 a5, .int .i64 a6] 32)).alloc (.cells #[.string S, .int .i64 b1, .int .i64 b2] 42)).alloc (.cells #[.string K, .string V, .bool g] 34) := ⟨_, rfl⟩
  have T0 : Hid (Th w W [.int .i64 a0, .int .i64 a1, .int .i64 a2, .int .i64 a3, .int .i64 a4, .int .i64 a5, .int .i64 a6] [.string S, .int .i64 b1, .int .i64 b2] [.string K, .string V, .bool g]) := Th.start w [.int .i64 a0, .int .i64 a1, .int .i64 a2, .int .i64 a3, .int .i64 a4, .int .i64 a5, .int .i64 a6] [.string S, .int .i64 b1, .int .i64 b2] [.string K, .string V, .bool g] W hW
  obtain ⟨⟨x0, x1, x2, x3, x4, x5, x6⟩, ⟨y0, y1, y2⟩, ⟨z0, z1, z2⟩, ⟨l0, l1, l2⟩⟩ := T0.out.seen
  have e1 := neq_in
  have e2 := neq_en
  have e3 := neq_nd
  have M1 : Hid True := trivial
  have M2 : Hid True := trivial
  have M3 : Hid True := trivial
  have M4 : Hid True := trivial
  have M5 : Hid True := trivial
  have M6 : Hid True := trivial
  have M7 : Hid True := trivial
  go_enter Try.func8, Try.ntmps8
  go_wp2_with fail
  rw [← hW]
  clear hW
  go_wp2_with (first
    | (go_at_call 22; clear M1; refine (hI _).mono ?_; rintro e w1 ⟨rfl, hb⟩; have T1 : Hid (Th w w1 [.int .i64 a0, .int .i64 a1, .int .i64 a2, .int .i64 a3, .int .i64 a4, .int .i64 a5, .int .i64 a6] [.string S, .int .i64 b1, .int .i64 b2] [.string K, .string V, .bool g]) := T0.out.later hb; clear x0 x1 x2 x3 x4 x5 x6 y0 y1 y2 z0 z1 z2 l0 l1 l2; obtain ⟨⟨x0, x1, x2, x3, x4, x5, x6⟩, ⟨y0, y1, y2⟩, ⟨z0, z1, z2⟩, ⟨l0, l1, l2⟩⟩ := T1.out.seen; clear hb)
    | (go_at_call 26; clear M2; refine (hE _).mono ?_; rintro e w2 ⟨rfl, hb⟩; have T2 : Hid (Th w w2 [.int .i64 a0, .int .i64 a1, .int .i64 a2, .int .i64 a3, .int .i64 a4, .int .i64 a5, .int .i64 a6] [.string S, .int .i64 b1, .int .i64 b2] [.string K, .string V, .bool g]) := (T1.out.later (below_new _ _)).later hb; clear x0 x1 x2 x3 x4 x5 x6 y0 y1 y2 z0 z1 z2 l0 l1 l2; obtain ⟨⟨x0, x1, x2, x3, x4, x5, x6⟩, ⟨y0, y1, y2⟩, ⟨z0, z1, z2⟩, ⟨l0, l1, l2⟩⟩ := T2.out.seen; clear hb)
    | (go_at_call 34; clear M3; refine (hP _).mono ?_; rintro e w3 ⟨rfl, hb⟩; have T3 : Hid (Th w w3 [.int .i64 a0, .int .i64 a1, .int .i64 a2, .int .i64 a3, .int .i64 a4, .int .i64 a5, .int .i64 a6] [.string S, .int .i64 b1, .int .i64 b2] [.string K, .string V, .bool g]) := (T2.out.later (below_new _ _)).later hb; clear x0 x1 x2 x3 x4 x5 x6 y0 y1 y2 z0 z1 z2 l0 l1 l2; obtain ⟨⟨x0, x1, x2, x3, x4, x5, x6⟩, ⟨y0, y1, y2⟩, ⟨z0, z1, z2⟩, ⟨l0, l1, l2⟩⟩ := T3.out.seen; clear hb)
    | (go_at_call 36; clear M4; refine (hM _).mono ?_; rintro e w4 ⟨ma, mc, rfl, hmr, hb⟩; have T4 : Hid (Th w w4 [.int .i64 a0, .int .i64 a1, .int .i64 a2, .int .i64 a3, .int .i64 a4, .int .i64 a5, .int .i64 a6] [.string S, .int .i64 b1, .int .i64 b2] [.string K, .string V, .bool g]) := T3.out.later hb; clear x0 x1 x2 x3 x4 x5 x6 y0 y1 y2 z0 z1 z2 l0 l1 l2; obtain ⟨⟨x0, x1, x2, x3, x4, x5, x6⟩, ⟨y0, y1, y2⟩, ⟨z0, z1, z2⟩, ⟨l0, l1, l2⟩⟩ := T4.out.seen; have Q4 : Hid (BRow w4 ma ml) := hmr; clear hb hmr)
    | (go_at_call 44; clear M5; refine (hMP _ _ _ Q4.out).mono ?_; rintro e w5 ⟨rfl, hb⟩; have T5 : Hid (Th w w5 [.int .i64 a0, .int .i64 a1, .int .i64 a2, .int .i64 a3, .int .i64 a4, .int .i64 a5, .int .i64 a6] [.string S, .int .i64 b1, .int .i64 b2] [.string K, .string V, .bool g]) := T4.out.later hb; clear x0 x1 x2 x3 x4 x5 x6 y0 y1 y2 z0 z1 z2 l0 l1 l2; obtain ⟨⟨x0, x1, x2, x3, x4, x5, x6⟩, ⟨y0, y1, y2⟩, ⟨z0, z1, z2⟩, ⟨l0, l1, l2⟩⟩ := T5.out.seen; have Q5 : Hid (BRow w5 ma ml) := Q4.out.later hb; clear hb)
    | (go_at_call 42; clear M6; refine (hMU _ _ _ Q5.out).mono ?_; rintro e w6 ⟨rfl, hb⟩; have T6 : Hid (Th w w6 [.int .i64 a0, .int .i64 a1, .int .i64 a2, .int .i64 a3, .int .i64 a4, .int .i64 a5, .int .i64 a6] [.string S, .int .i64 b1, .int .i64 b2] [.string K, .string V, .bool g]) := T5.out.later hb; clear x0 x1 x2 x3 x4 x5 x6 y0 y1 y2 z0 z1 z2 l0 l1 l2; obtain ⟨⟨x0, x1, x2, x3, x4, x5, x6⟩, ⟨y0, y1, y2⟩, ⟨z0, z1, z2⟩, ⟨l0, l1, l2⟩⟩ := T6.out.seen; clear hb)
    | (go_at_call 21; clear M7; refine (alive_any _).mono ?_; rintro e w7 ⟨rfl, hb⟩; have T7 : Hid (Th w w7 [.int .i64 a0, .int .i64 a1, .int .i64 a2, .int .i64 a3, .int .i64 a4, .int .i64 a5, .int .i64 a6] [.string S, .int .i64 b1, .int .i64 b2] [.string K, .string V, .bool g]) := (T6.out.later (below_new _ _)).later hb; clear x0 x1 x2 x3 x4 x5 x6 y0 y1 y2 z0 z1 z2 l0 l1 l2; obtain ⟨⟨x0, x1, x2, x3, x4, x5, x6⟩, ⟨y0, y1, y2⟩, ⟨z0, z1, z2⟩, ⟨l0, l1, l2⟩⟩ := T7.out.seen; clear hb))
  go_ret
  exact ⟨rfl, T7.out.bel⟩

theorem walk (x0 x1 x2 x3 x4 x5 x6 dir : Int) (S : ByteArray) (b1 b2 : Int) (K V : ByteArray) (g : Bool) (gi : Int) (w : World)
    (_ : (-9223372036854775808 ≤ x0 ∧ x0 ≤ 9223372036854775807) ∧ (-9223372036854775808 ≤ x1 ∧ x1 ≤ 9223372036854775807) ∧ (-9223372036854775808 ≤ x2 ∧ x2 ≤ 9223372036854775807) ∧ (-9223372036854775808 ≤ x3 ∧ x3 ≤ 9223372036854775807) ∧ (-9223372036854775808 ≤ x4 ∧ x4 ≤ 9223372036854775807) ∧ (-9223372036854775808 ≤ x5 ∧ x5 ≤ 9223372036854775807) ∧ (-9223372036854775808 ≤ x6 ∧ x6 ≤ 9223372036854775807))
    (_ : (Lit.int .i64 dir).wf = true)
    (hS : S.size ≤ maxLen ∧ (-9223372036854775808 ≤ b1 ∧ b1 ≤ 9223372036854775807) ∧ (-9223372036854775808 ≤ b2 ∧ b2 ≤ 9223372036854775807))
    (hN : K.size ≤ maxLen ∧ V.size ≤ maxLen) (hg0 : (Lit.int .u64 gi).wf = true) :
    Calls Try.prog 8 #[.agg #[.int .i64 x0, .int .i64 x1, .int .i64 x2, .int .i64 x3, .int .i64 x4, .int .i64 x5, .int .i64 x6], .int .i64 dir, .agg #[.string S, .int .i64 b1, .int .i64 b2], .agg #[.string K, .string V, .bool g], .int .u64 gi] w fun e w' => e = .returned (.bool true) ∧ Below w.heap.size w w' := by
  obtain ⟨gr, rfl, hgr⟩ : ∃ gr : Nat, gi = (gr : Int) ∧ gr < 18446744073709551616 := by
    have := bounds_u64 hg0
    exact ⟨gi.toNat, by omega, by omega⟩
  obtain ⟨q, hq, hq2⟩ : ∃ q : Nat, (gr : Int) % 16 = (q : Int) ∧ q < 16 := ⟨gr % 16, by omega, by omega⟩
  obtain ⟨i, ei⟩ : ∃ i : In, i = ⟨x0, x1, x2, x3, x4, x5, x6⟩ := ⟨_, rfl⟩
  have hI := fun W => inode_any i W
  obtain ⟨e, ee⟩ : ∃ e : En, e = ⟨S.data.toList, b1, b2⟩ := ⟨_, rfl⟩
  have hel : e.name.length ≤ maxLen := by rw [ee]; show S.data.toList.length ≤ _; rw [Array.length_toList]; exact hS.1
  have hE := fun W => entry_any dir e hel W
  have ev : e.v = .agg #[.string S, .int .i64 b1, .int .i64 b2] := by rw [ee]; unfold En.v En.cells; rw [bs_of]
  obtain ⟨n, en⟩ : ∃ n : Nd, n = ⟨K.data.toList, V.data.toList, g⟩ := ⟨_, rfl⟩
  have hk : n.key.length ≤ maxLen := by rw [en]; show K.data.toList.length ≤ _; rw [Array.length_toList]; exact hN.1
  have hv : n.val.length ≤ maxLen := by rw [en]; show V.data.toList.length ≤ _; rw [Array.length_toList]; exact hN.2
  have nv : n.v = .agg #[.string K, .string V, .bool g] := by rw [en]; unfold Nd.v Nd.cells; rw [bs_of, bs_of]
  have iv : i.v = .agg #[.int .i64 x0, .int .i64 x1, .int .i64 x2, .int .i64 x3, .int .i64 x4, .int .i64 x5, .int .i64 x6] := by rw [ei]; rfl
  rw [← iv, ← ev, ← nv]
  have e1q : ((1 + q : Nat) : Int) = 1 + (q : Int) := by omega
  -- the mark
  obtain ⟨k1, k2, k3, k4⟩ := back_mark gr (1 + q) hgr (by omega) (by omega)
  have hml : (markL gr (1 + q)).length = 10 := by simp [markL, putL_length]
  have hM : ∀ W, Calls Try.prog 36 #[.int .u64 (gr : Int), .int .i64 (1 + (q : Int))] W fun e w' => ∃ a cap, e = .returned (.tuple #[.slice a 10 cap, .int .i64 0]) ∧ BRow w' a (markL gr (1 + q)) ∧ Below W.heap.size W w' := by
    intro W
    have h := mark_yes gr hgr (1 + q) (by omega) (by omega) W
    rw [e1q] at h
    refine h.mono ?_
    rintro e w' ⟨v, rfl, ho⟩
    obtain ⟨a, cap, rfl, hr, _⟩ := own_len hml ho
    exact ⟨a, cap, rfl, hr, ho.2⟩
  have hMP : ∀ W a cap, BRow W a (markL gr (1 + q)) → Calls Try.prog 44 #[.slice a 10 cap] W fun e w' => e = .returned (.tuple #[.int .u64 (gr : Int), .int .i64 (1 + (q : Int)), .bool true]) ∧ Below W.heap.size W w' := by
    intro W a cap hr
    have h := parseMark_any a 10 cap (markL gr (1 + q)) hml.symm W hr
    rw [k1, cond_true, cond_true, k2, k3, e1q] at h
    exact h
  have hMU : ∀ W a cap, BRow W a (markL gr (1 + q)) → Calls Try.prog 42 #[.slice a 10 cap] W fun e w' => e = .returned (.tuple #[.agg #[.string ⟨#[]⟩, .string ⟨#[]⟩, .bool false], .bool false]) ∧ Below W.heap.size W w' := by
    intro W a cap hr
    have h := unpack_any a 10 cap (markL gr (1 + q)) hml.symm W hr
    rw [k4] at h
    exact h
  have hPI : i.right = true → ∀ W, Calls Try.prog 24 #[i.nd.v] W fun e w' => e = .returned (.tuple #[i.v, .bool true]) ∧ Below W.heap.size W w' := by
    intro hr W
    obtain ⟨j1, j2⟩ := back_in i hr
    have h := parseInode_any i.nd (by show (pre3 i.ino 1).length ≤ _; rw [pre3_len]; decide) (by show (inVal _ _ _ _ _ _).length ≤ _; rw [inVal_len]; decide) W
    rw [j1, cond_true, j2] at h
    exact h
  have hPE : enOk dir e = true → ∀ W, Calls Try.prog 32 #[(En.nd dir e).v] W fun r w' => r = .returned (.tuple #[.int .i64 dir, e.v, .bool true]) ∧ Below W.heap.size W w' := by
    intro hr W
    obtain ⟨j1, j2, j3⟩ := back_en dir e hr
    have hl24 : e.name.length ≤ 24 := by
      unfold enOk En.right at hr
      simp only [Bool.and_eq_true] at hr
      exact name_len hr.2.1.1
    have h := parseEntry_any (En.nd dir e) (by show (pre3 dir 2 ++ e.name).length ≤ _; rw [List.length_append, pre3_len]; unfold maxLen; omega) (by show (u8s (putL 2 e.ino.toNat) ++ u8s (putL 1 e.kind.toNat)).length ≤ _; rw [List.length_append, u8s_length, u8s_length, putL_length, putL_length]; decide) W
    rw [j1, cond_true, cond_true, j2, j3] at h
    exact h
  have hP1 : n.ok = true → ∀ W, Calls Try.prog 34 #[n.v] W fun e w' => ∃ a cap, e = .returned (.tuple #[.slice a n.bytes.length cap, .int .i64 0]) ∧ BRow w' a n.bytes ∧ Below W.heap.size W w' := by
    intro ho W
    refine (pack_yes n ho W).mono ?_
    rintro e w' ⟨v, rfl, hw⟩
    obtain ⟨a, cap, rfl, hr, _⟩ := own_len rfl hw
    exact ⟨a, cap, rfl, hr, hw.2⟩
  have hU1 : n.ok = true → ∀ W a cap, BRow W a n.bytes → Calls Try.prog 42 #[.slice a n.bytes.length cap] W fun e w' => e = .returned (.tuple #[n.v, .bool true]) ∧ Below W.heap.size W w' := by
    intro ho W a cap hr
    obtain ⟨j1, j2⟩ := u_complete n ho
    have h := unpack_any a _ cap n.bytes rfl W hr
    rw [j1, cond_true, j2] at h
    exact h
  have hZ1 : n.ok = true → ∀ W, Calls Try.prog 40 #[n.v] W fun e w' => e = .returned (.int .i64 ((6 + n.bytes.length : Nat) : Int)) ∧ Below W.heap.size W w' := by
    intro ho W
    have h := size_any n hk hv W
    have e0 : n.sz = 6 + n.bytes.length := by unfold Nd.sz; rw [ho, cond_true, Nd.bytes_len]; omega
    rw [e0] at h
    exact h
  have hPM1 : ∀ W a cap, BRow W a n.bytes → Calls Try.prog 44 #[.slice a n.bytes.length cap] W fun e w' => e = .returned (.tuple #[.int .u64 0, .int .i64 0, .bool false]) ∧ Below W.heap.size W w' := by
    intro W a cap hr
    have h := parseMark_any a _ cap n.bytes rfl W hr
    rw [bytes_noMark] at h
    exact h
  have hb324 : n.ok = true → n.bytes.length ≤ 324 := by
    intro ho
    obtain ⟨_, p2, p3, _⟩ := Nd.ok_le ho
    rw [Nd.bytes_len]; omega
  have hP0 : n.ok = false → ∀ W, Calls Try.prog 34 #[n.v] W fun e w' => e = .returned (.tuple #[.slice none 0 0, .int .i64 22]) ∧ Below W.heap.size W w' := fun ho W => pack_no n hk hv ho W
  have eIn : i.nd.v = .agg #[.string (bs i.nd.key), .string (bs i.nd.val), .bool false] := rfl
  have eEn : (En.nd dir e).v = .agg #[.string (bs (En.nd dir e).key), .string (bs (En.nd dir e).val), .bool false] := rfl
  have eZ : Nd.zero.v = .agg #[.string ⟨#[]⟩, .string ⟨#[]⟩, .bool false] := rfl
  rw [iv] at hI hPI ⊢
  rw [ev] at hE hPE ⊢
  rw [nv] at hP1 hU1 hZ1 hP0 ⊢
  rw [eIn] at hPI
  rw [eEn] at hPE
  cases ho1 : i.right <;> cases ho2 : enOk dir e <;> cases ho3 : n.ok
  all_goals
    rw [ho1] at hI
    rw [ho2] at hE
    simp only [cond_true, cond_false, eIn, eZ] at hI
    simp only [cond_true, cond_false, eEn, eZ] at hE
  · exact walk_nnn x0 x1 x2 x3 x4 x5 x6 dir b1 b2 S K V K V K V g 0 gr q [] _ (by decide) hq hq2 w hI hE (hP0 ho3) hM hMP hMU
  · exact walk_nny x0 x1 x2 x3 x4 x5 x6 dir b1 b2 S K V K V K V g _ gr q _ _ (hb324 ho3) hq hq2 w hI hE (hP1 ho3) (hU1 ho3) (hZ1 ho3) hPM1 hM hMP hMU
  · exact walk_nyn x0 x1 x2 x3 x4 x5 x6 dir b1 b2 S K V K V _ _ g 0 gr q [] _ (by decide) hq hq2 w hI hE (hPE ho2) (hP0 ho3) hM hMP hMU
  · exact walk_nyy x0 x1 x2 x3 x4 x5 x6 dir b1 b2 S K V K V _ _ g _ gr q _ _ (hb324 ho3) hq hq2 w hI hE (hPE ho2) (hP1 ho3) (hU1 ho3) (hZ1 ho3) hPM1 hM hMP hMU
  · exact walk_ynn x0 x1 x2 x3 x4 x5 x6 dir b1 b2 S K V _ _ K V g 0 gr q [] _ (by decide) hq hq2 w hI (hPI ho1) hE (hP0 ho3) hM hMP hMU
  · exact walk_yny x0 x1 x2 x3 x4 x5 x6 dir b1 b2 S K V _ _ K V g _ gr q _ _ (hb324 ho3) hq hq2 w hI (hPI ho1) hE (hP1 ho3) (hU1 ho3) (hZ1 ho3) hPM1 hM hMP hMU
  · exact walk_yyn x0 x1 x2 x3 x4 x5 x6 dir b1 b2 S K V _ _ _ _ g 0 gr q [] _ (by decide) hq hq2 w hI (hPI ho1) hE (hPE ho2) (hP0 ho3) hM hMP hMU
  · exact walk_yyy x0 x1 x2 x3 x4 x5 x6 dir b1 b2 S K V _ _ _ _ g _ gr q _ _ (hb324 ho3) hq hq2 w hI (hPI ho1) hE (hPE ho2) (hP1 ho3) (hU1 ho3) (hZ1 ho3) hPM1 hM hMP hMU

set_option maxRecDepth 100000 in
theorem lifted (os : Os) (started : os.Started) (H : Type) (enc : TypeId × Value → H) :
    ReturnsInHanded {} Try.checked os 8 .any (Rows.nodeBackSpec.pre6 enc Try.prog Try.f8 Rows.nodeBackRow.domain false) (Rows.nodeBackSpec.post enc Try.prog Try.f8 false true false false) := by
  refine returnsInHanded_of_change_sized (C := Try.checked) own started (by kernel_rfl) Try.func8
    (ChangeSpec.witness6 (enc := enc) (C := Try.checked) false ⟨#[], #[.agg #[.int .i64 0, .int .i64 0, .int .i64 0, .int .i64 0, .int .i64 0, .int .i64 0, .int .i64 0], .int .i64 0, .agg #[.string ⟨#[]⟩, .int .i64 0, .int .i64 0], .agg #[.string ⟨#[]⟩, .string ⟨#[]⟩, .bool false], .int .u64 0], []⟩ 8 (by kernel_rfl) (by kernel_rfl) (by kernel_rfl) (by kernel_rfl)) ?_
  intro W base args ds gs before hval0 hW hcnd hsz0 _
  have hval : ∀ (j : Nat) t v, Try.f8.params[j]? = some t → args[j]? = some v → Value.okWide Try.prog W .any base t v := hval0
  have hsz : (DataW.weightsEach Try.prog (Try.f8.params.toList ++ Rows.nodeBackSpec.plain.varTypes Try.prog) (ds ++ gs)).all (· ≤ reachBytes) = true := hsz0
  have hW' := hW
  obtain ⟨p, q, hA0, hV, rfl, hfz, hnd⟩ := hW
  have hA : DataW.TrodAll enc Try.prog W 0 (fun _ => true) true Try.f8.params.toList args.toList ds p := hA0
  rw [Try.params8] at hA hval hsz
  obtain ⟨v0, vs0, d0, ds0, p0, q0, hargs, rfl, rfl, h0, r0⟩ := trodAll_cons hA
  obtain ⟨v1, vs1, d1, ds1, p1, q1, rfl, rfl, rfl, h1, r1⟩ := trodAll_cons r0
  obtain ⟨v2, vs2, d2, ds2, p2, q2, rfl, rfl, rfl, h2, r2⟩ := trodAll_cons r1
  obtain ⟨v3, vs3, d3, ds3, p3, q3, rfl, rfl, rfl, h3, r3⟩ := trodAll_cons r2
  obtain ⟨v4, vs4, d4, ds4, p4, q4, rfl, rfl, rfl, h4, r4⟩ := trodAll_cons r3
  obtain ⟨rfl, rfl, rfl⟩ := trodAll_nil r4
  obtain rfl : args = #[v0, v1, v2, v3, v4] := by cases args; simp_all
  obtain ⟨rfl, rfl⟩ := trodVars_none hV
  obtain ⟨cs0, rfl, sz0⟩ := okWide_struct Try.underlying32 (hval 0 32 v0 rfl rfl)
  have k0 := h0
  have lt0 : ∀ x ∈ p0, x.block < W.heap.size := by obtain ⟨m, hm⟩ := k0; exact DataW.trod_lt m _ _ _ hm
  obtain ⟨fu0, hf0⟩ := h0
  obtain ⟨z0_0, z0_1, z0_2, z0_3, z0_4, z0_5, z0_6, rfl, n0⟩ := iarg_open sz0 hf0
  obtain ⟨a1, rfl, rfl, rfl, w1⟩ := open_int Try.underlying3 (hval 1 3 v1 rfl rfl) h1
  obtain ⟨cs2, rfl, sz2⟩ := okWide_struct Try.underlying42 (hval 2 42 v2 rfl rfl)
  have k2 := h2
  have lt2 : ∀ x ∈ p2, x.block < W.heap.size := by obtain ⟨m, hm⟩ := k2; exact DataW.trod_lt m _ _ _ hm
  obtain ⟨fu2, hf2⟩ := h2
  obtain ⟨z2_0, z2_1, z2_2, rfl, n2⟩ := earg_open sz2 hf2
  obtain ⟨cs3, rfl, sz3⟩ := okWide_struct Try.underlying34 (hval 3 34 v3 rfl rfl)
  have k3 := h3
  have lt3 : ∀ x ∈ p3, x.block < W.heap.size := by obtain ⟨m, hm⟩ := k3; exact DataW.trod_lt m _ _ _ hm
  obtain ⟨fu3, hf3⟩ := h3
  obtain ⟨z3_0, z3_1, z3_2, rfl, n3⟩ := narg_open sz3 hf3
  obtain ⟨a4, rfl, rfl, rfl, w4⟩ := open_int Try.underlying50 (hval 4 50 v4 rfl rfl) h4
  clear hA0 hval0
  refine (walk z0_0 z0_1 z0_2 z0_3 z0_4 z0_5 z0_6 a1 z2_0 z2_1 z2_2 z3_0 z3_1 z3_2 a4 W n0 w1 n2 n3 w4).mono fun e W' ⟨he, bel⟩ => ?_
  subst he
  exact ⟨_, rfl, _, _, _, [], _, [], hW', trodAll_mk1 (shut_bool Try.underlying4 _), (trodAll_cons_mk (Below.trod laidOut (by kernel_rfl) (of_decide_eq_true (by kernel_rfl)) k0 bel lt0) (trodAll_cons_mk (shut_int Try.underlying3 w1) (trodAll_cons_mk (Below.trod laidOut (by kernel_rfl) (of_decide_eq_true (by kernel_rfl)) k2 bel lt2) (trodAll_cons_mk (Below.trod laidOut (by kernel_rfl) (of_decide_eq_true (by kernel_rfl)) k3 bel lt3) (trodAll_cons_mk (shut_int Try.underlying50 w4) trodAll_mk0))))), rfl, bel.frame _, fun h => by cases h⟩

theorem over : Rows.nodeBackRow.holds Try.pinned (OpenSpec.ofChange Rows.nodeBackSpec) :=
  OpenClaim.holds_of_wide 8 Try.f8 rfl rfl rfl rfl rfl rfl rfl ⟨rfl, rfl, rfl, rfl, rfl⟩ rfl rfl rfl rfl rfl (by kernel_rfl) Try.func8 (by kernel_rfl)
    (of_decide_eq_true (by kernel_rfl)) (by unfold Func.isWrapper; first | (rw [if_pos (by decide +kernel)]; kernel_rfl) | (rw [if_neg (by decide +kernel)]; exact ⟨rfl, rfl⟩))
    (fun os started H enc _ => lifted os started H enc)
end Go.Proofs.Ytefpcdpclpignaa.nodeBack

namespace Go.Proofs.Ytefpcdpclpignaa
theorem nodeBack_holds : Rows.NodeBackSaid := nodeBack.over
#print axioms nodeBack_holds
end Go.Proofs.Ytefpcdpclpignaa
