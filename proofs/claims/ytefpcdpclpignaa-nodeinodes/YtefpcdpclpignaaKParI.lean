/-
  What ParseInode of package node answers.
-/
import Derived.Test.YtefpcdpclpignaaKRd3
namespace Go.Proofs.Ytefpcdpclpignaa
open Go.RowKit M

/-- Two boxes and a reader: they lie on. -/
structure PI (w W : World) (RB : Nat) (cs zs : List Value) (t1 t2 t : TypeId) (r : List UInt8) (sh : Bool) : Prop where
  r1 : Row W w.heap.size cs t1
  r2 : Row W (w.heap.size + 1) zs t2
  rd : Rd W RB t r sh
  bel : Below w.heap.size w W
  far : w.heap.size + 1 < RB
theorem PI.later {w W W' : World} {RB : Nat} {cs zs : List Value} {t1 t2 t : TypeId} {r : List UInt8} {sh : Bool} (h : PI w W RB cs zs t1 t2 t r sh) (hb : Below W.heap.size W W') : PI w W' RB cs zs t1 t2 t r sh :=
  ⟨h.r1.later hb, h.r2.later hb, Row.later h.rd hb, Below.after h.bel hb, h.far⟩
theorem PI.step {w W W' : World} {RB : Nat} {cs zs : List Value} {t1 t2 t : TypeId} {r r' : List UInt8} {sh sh' : Bool} (h : PI w W RB cs zs t1 t2 t r sh) (p : RPost W RB t r' sh' W') : PI w W' RB cs zs t1 t2 t r' sh' :=
  ⟨h.r1.kept p.kept (by have := h.far; omega), h.r2.kept p.kept (by have := h.far; omega), p.rd, h.bel.trans (p.kept.below h.bel.size (fun k e => by have := h.far; omega)), h.far⟩
theorem PI.start {w W w1 w2 : World} {cs zs : List Value} {t1 t2 t : TypeId} {r : List UInt8} {sh : Bool} (h1 : Row W w.heap.size cs t1) (h2 : Row W (w.heap.size + 1) zs t2) (hb : Below w.heap.size w W) (hb1 : Below W.heap.size W w1) (hr : Rd w2 w1.heap.size t r sh) (hb2 : Below w1.heap.size w1 w2) : PI w w2 w1.heap.size cs zs t1 t2 t r sh :=
  ⟨(h1.later hb1).later hb2, (h2.later hb1).later hb2, hr, Below.after (Below.after hb hb1) hb2, by have := h2.lt; have := hb1.size; omega⟩
theorem Row.seen7 {W : World} {B : Nat} {x0 x1 x2 x3 x4 x5 x6 : Value} {t : TypeId} (h : Row W B [x0, x1, x2, x3, x4, x5, x6] t) :
    (W.cell? ⟨B, 0, none⟩ = some x0 ∧ W.cell? ⟨B, 1, none⟩ = some x1 ∧ W.cell? ⟨B, 2, none⟩ = some x2 ∧ W.cell? ⟨B, 3, none⟩ = some x3 ∧ W.cell? ⟨B, 4, none⟩ = some x4 ∧ W.cell? ⟨B, 5, none⟩ = some x5 ∧ W.cell? ⟨B, 6, none⟩ = some x6) ∧ (W.frozen? ⟨B, 0, none⟩ = false ∧ W.frozen? ⟨B, 1, none⟩ = false ∧ W.frozen? ⟨B, 2, none⟩ = false ∧ W.frozen? ⟨B, 3, none⟩ = false ∧ W.frozen? ⟨B, 4, none⟩ = false ∧ W.frozen? ⟨B, 5, none⟩ = false ∧ W.frozen? ⟨B, 6, none⟩ = false) :=
  ⟨⟨h.cell (i := 0) rfl, h.cell (i := 1) rfl, h.cell (i := 2) rfl, h.cell (i := 3) rfl, h.cell (i := 4) rfl, h.cell (i := 5) rfl, h.cell (i := 6) rfl⟩, ⟨h.frozen 0, h.frozen 1, h.frozen 2, h.frozen 3, h.frozen 4, h.frozen 5, h.frozen 6⟩⟩
theorem below_set7 {w W : World} {B : Nat} (h : Below w.heap.size w W) (hB : w.heap.size ≤ B) (x0 x1 x2 x3 x4 x5 x6 : Value) :
    Below w.heap.size w (((((((W.setCell ⟨B, 0, none⟩ x0).setCell ⟨B, 1, none⟩ x1).setCell ⟨B, 2, none⟩ x2).setCell ⟨B, 3, none⟩ x3).setCell ⟨B, 4, none⟩ x4).setCell ⟨B, 5, none⟩ x5).setCell ⟨B, 6, none⟩ x6) :=
  ((((((h.setCell hB _).setCell hB _).setCell hB _).setCell hB _).setCell hB _).setCell hB _).setCell hB _

abbrev FieldAt (m : Int) (l r : List UInt8) (s s' : Bool) (f : Nat) : Prop := ∀ (W : World) (B : Nat), Rd W B 80 l s → Calls Try.prog 65 #[.pointer (some ⟨B, 0, none⟩), .int .i64 m] W fun e w' => e = .returned (.int .i64 (f : Int)) ∧ RPost W B 80 r s' w'
abbrev VDoneAt (r : List UInt8) (s : Bool) (d : Bool) : Prop := ∀ (W : World) (B : Nat), Rd W B 80 r s → Calls Try.prog 53 #[.pointer (some ⟨B, 0, none⟩)] W fun e w' => e = .returned (.bool d) ∧ W = w'

set_option maxRecDepth 10000 in
set_option maxHeartbeats 4000000 in
theorem pin_gone (K V : ByteArray) (r0 r1 r2 r3 r4 r5 r6 : List UInt8) (s0 s1 s2 s3 s4 s5 s6 : Bool) (k ino f1 f2 f3 f4 f5 f6 : Nat) (S0 : ByteArray) (b : Int) (w : World)
    (hK : ∀ W, Calls Try.prog 9 #[.string K] W fun e w' => e = .returned (.tuple #[.int .i64 (k : Int), .int .i64 (ino : Int), .string S0, .int .i64 b]) ∧ Below W.heap.size W w')
    (hV : ∀ W, Calls Try.prog 64 #[.string V] W fun e w' => e = .returned (.pointer (some ⟨W.heap.size, 0, none⟩)) ∧ Rd w' W.heap.size 80 r0 s0 ∧ Below W.heap.size W w')
    (h1 : FieldAt 1 r0 r1 s0 s1 f1) (h2 : FieldAt 2 r1 r2 s1 s2 f2) (h3 : FieldAt 2 r2 r3 s2 s3 f3) (h4 : FieldAt 2 r3 r4 s3 s4 f4) (h5 : FieldAt 2 r4 r5 s4 s5 f5) (h6 : FieldAt 4 r5 r6 s5 s6 f6)
    (d o : Bool) (_hd : VDoneAt r6 s6 d) (_ho : ∀ W, Calls Try.prog 60 #[.agg #[.int .i64 (ino : Int), .int .i64 (f1 : Int), .int .i64 (f2 : Int), .int .i64 (f3 : Int), .int .i64 (f4 : Int), .int .i64 (f5 : Int), .int .i64 (f6 : Int)]] W fun e w' => e = .returned (.bool o) ∧ Below W.heap.size W w') :
    Calls Try.prog 24 #[.agg #[.string K, .string V, .bool true]] w fun e w' => e = .returned (.tuple #[.agg #[.int .i64 0, .int .i64 0, .int .i64 0, .int .i64 0, .int .i64 0, .int .i64 0, .int .i64 0], .bool false]) ∧ Below w.heap.size w w' := by
  obtain ⟨W, hW⟩ : ∃ W, W = (w.alloc (.cells #[.string K, .string V, .bool true] 34)).alloc (.cells #[.int .i64 0, .int .i64 0, .int .i64 0, .int .i64 0, .int .i64 0, .int .i64 0, .int .i64 0] 32) := ⟨_, rfl⟩
  obtain ⟨hR1, hR2, hBW⟩ := two_boxes w [.string K, .string V, .bool true] [.int .i64 0, .int .i64 0, .int .i64 0, .int .i64 0, .int .i64 0, .int .i64 0, .int .i64 0] 34 32 W hW
  obtain ⟨x0, x1, x2, _, _, _⟩ := hR1.seen3
  have HBW : Hid (Below w.heap.size w W) := hBW
  have HR1 : Hid (Row W w.heap.size [.string K, .string V, .bool true] 34) := hR1
  have HR2 : Hid (Row W (w.heap.size + 1) [.int .i64 0, .int .i64 0, .int .i64 0, .int .i64 0, .int .i64 0, .int .i64 0, .int .i64 0] 32) := hR2
  clear hR1 hR2 hBW
  have M1 : Hid True := trivial
  have M2 : Hid True := trivial
  have M3 : Hid True := trivial
  have M4 : Hid True := trivial
  have M5 : Hid True := trivial
  go_enter Try.func24, Try.ntmps24
  go_wp2_with fail
  rw [← hW]
  clear hW
  go_wp2_with (first
    | (go_at_call 9; refine (hK _).mono ?_; rintro e w1 ⟨rfl, hb⟩; have HB1 : Hid (Below W.heap.size W w1) := hb; clear x0 x1 x2; obtain ⟨x0, x1, x2, _, _, _⟩ := (HR1.out.later hb).seen3; clear hb)
    | (go_at_call 64; refine (hV _).mono ?_; rintro e w2 ⟨rfl, hr, hb⟩; have P0 : Hid (PI w w2 w1.heap.size [.string K, .string V, .bool true] [.int .i64 0, .int .i64 0, .int .i64 0, .int .i64 0, .int .i64 0, .int .i64 0, .int .i64 0] 34 32 80 r0 s0) := PI.start HR1.out HR2.out HBW.out HB1.out hr hb; clear hr hb x0 x1 x2)
    | (go_at_call 65; clear M1; refine (h1 _ _ P0.out.rd).mono ?_; rintro e w3 ⟨rfl, p⟩; have P1 : Hid (PI w w3 w1.heap.size [.string K, .string V, .bool true] [.int .i64 0, .int .i64 0, .int .i64 0, .int .i64 0, .int .i64 0, .int .i64 0, .int .i64 0] 34 32 80 r1 s1) := P0.out.step p; clear p)
    | (go_at_call 65; clear M2; refine (h2 _ _ P1.out.rd).mono ?_; rintro e w4 ⟨rfl, p⟩; have P2 : Hid (PI w w4 w1.heap.size [.string K, .string V, .bool true] [.int .i64 0, .int .i64 0, .int .i64 0, .int .i64 0, .int .i64 0, .int .i64 0, .int .i64 0] 34 32 80 r2 s2) := P1.out.step p; clear p)
    | (go_at_call 65; clear M3; refine (h3 _ _ P2.out.rd).mono ?_; rintro e w5 ⟨rfl, p⟩; have P3 : Hid (PI w w5 w1.heap.size [.string K, .string V, .bool true] [.int .i64 0, .int .i64 0, .int .i64 0, .int .i64 0, .int .i64 0, .int .i64 0, .int .i64 0] 34 32 80 r3 s3) := P2.out.step p; clear p)
    | (go_at_call 65; clear M4; refine (h4 _ _ P3.out.rd).mono ?_; rintro e w6 ⟨rfl, p⟩; have P4 : Hid (PI w w6 w1.heap.size [.string K, .string V, .bool true] [.int .i64 0, .int .i64 0, .int .i64 0, .int .i64 0, .int .i64 0, .int .i64 0, .int .i64 0] 34 32 80 r4 s4) := P3.out.step p; clear p)
    | (go_at_call 65; clear M5; refine (h5 _ _ P4.out.rd).mono ?_; rintro e w7 ⟨rfl, p⟩; have P5 : Hid (PI w w7 w1.heap.size [.string K, .string V, .bool true] [.int .i64 0, .int .i64 0, .int .i64 0, .int .i64 0, .int .i64 0, .int .i64 0, .int .i64 0] 34 32 80 r5 s5) := P4.out.step p; clear p)
    | (go_at_call 65; refine (h6 _ _ P5.out.rd).mono ?_; rintro e w8 ⟨rfl, p⟩; have P6 : Hid (PI w w8 w1.heap.size [.string K, .string V, .bool true] [.int .i64 0, .int .i64 0, .int .i64 0, .int .i64 0, .int .i64 0, .int .i64 0, .int .i64 0] 34 32 80 r6 s6) := P5.out.step p; clear p; obtain ⟨x0, x1, x2, _, _, _⟩ := P6.out.r1.seen3; obtain ⟨⟨m0, m1, m2, m3, m4, m5, m6⟩, ⟨g0, g1, g2, g3, g4, g5, g6⟩⟩ := P6.out.r2.seen7; have P7 : Hid (PI w (w8.alloc (.cells #[.int .i64 (ino : Int), .int .i64 (f1 : Int), .int .i64 (f2 : Int), .int .i64 (f3 : Int), .int .i64 (f4 : Int), .int .i64 (f5 : Int), .int .i64 (f6 : Int)] 32)) w1.heap.size [.string K, .string V, .bool true] [.int .i64 0, .int .i64 0, .int .i64 0, .int .i64 0, .int .i64 0, .int .i64 0, .int .i64 0] 34 32 80 r6 s6) := P6.out.later (below_new _ _); obtain ⟨y0, y1, y2, _, _, _⟩ := P7.out.r1.seen3; obtain ⟨⟨n0, n1, n2, n3, n4, n5, n6⟩, ⟨j0, j1, j2, j3, j4, j5, j6⟩⟩ := P7.out.r2.seen7; have R7 : Hid (Row (w8.alloc (.cells #[.int .i64 (ino : Int), .int .i64 (f1 : Int), .int .i64 (f2 : Int), .int .i64 (f3 : Int), .int .i64 (f4 : Int), .int .i64 (f5 : Int), .int .i64 (f6 : Int)] 32)) w8.heap.size [.int .i64 (ino : Int), .int .i64 (f1 : Int), .int .i64 (f2 : Int), .int .i64 (f3 : Int), .int .i64 (f4 : Int), .int .i64 (f5 : Int), .int .i64 (f6 : Int)] 32) := Row.new w8 [.int .i64 (ino : Int), .int .i64 (f1 : Int), .int .i64 (f2 : Int), .int .i64 (f3 : Int), .int .i64 (f4 : Int), .int .i64 (f5 : Int), .int .i64 (f6 : Int)] 32)
    | (go_at_call 53; refine (hd _ _ P7.out.rd).mono ?_; rintro e w9 ⟨rfl, rfl⟩)
    | (go_at_call 60; clear m0 m1 m2 m3 m4 m5 m6 g0 g1 g2 g3 g4 g5 g6 n0 n1 n2 n3 n4 n5 n6 j0 j1 j2 j3 j4 j5 j6 x0 x1 x2 y0 y1 y2; refine (ho _).mono ?_; rintro e w9 ⟨rfl, hb⟩; have P9 : Hid (PI w w9 w1.heap.size [.string K, .string V, .bool true] [.int .i64 0, .int .i64 0, .int .i64 0, .int .i64 0, .int .i64 0, .int .i64 0, .int .i64 0] 34 32 80 r6 s6) := P7.out.later hb; have R9 : Hid (Row w9 w8.heap.size [.int .i64 (ino : Int), .int .i64 (f1 : Int), .int .i64 (f2 : Int), .int .i64 (f3 : Int), .int .i64 (f4 : Int), .int .i64 (f5 : Int), .int .i64 (f6 : Int)] 32) := R7.out.later hb; obtain ⟨⟨m0, m1, m2, m3, m4, m5, m6⟩, ⟨g0, g1, g2, g3, g4, g5, g6⟩⟩ := P9.out.r2.seen7; obtain ⟨⟨n0, n1, n2, n3, n4, n5, n6⟩, _⟩ := R9.out.seen7; clear hb))
  (try simp only [Exit.inBlock, Exit.then])
  refine bodyPost_ret (v := .tuple #[.agg #[.int .i64 0, .int .i64 0, .int .i64 0, .int .i64 0, .int .i64 0, .int .i64 0, .int .i64 0], .bool false]) ?_ rfl ⟨rfl, below_set7 P7.out.bel (by omega) _ _ _ _ _ _ _⟩
  rw [results_cell_tmp rfl]
  go_simp

set_option maxRecDepth 10000 in
set_option maxHeartbeats 4000000 in
theorem pin_kind (K V : ByteArray) (r0 r1 r2 r3 r4 r5 r6 : List UInt8) (s0 s1 s2 s3 s4 s5 s6 : Bool) (k ino f1 f2 f3 f4 f5 f6 : Nat) (S0 : ByteArray) (b : Int) (w : World)
    (hK : ∀ W, Calls Try.prog 9 #[.string K] W fun e w' => e = .returned (.tuple #[.int .i64 (k : Int), .int .i64 (ino : Int), .string S0, .int .i64 b]) ∧ Below W.heap.size W w')
    (hV : ∀ W, Calls Try.prog 64 #[.string V] W fun e w' => e = .returned (.pointer (some ⟨W.heap.size, 0, none⟩)) ∧ Rd w' W.heap.size 80 r0 s0 ∧ Below W.heap.size W w')
    (h1 : FieldAt 1 r0 r1 s0 s1 f1) (h2 : FieldAt 2 r1 r2 s1 s2 f2) (h3 : FieldAt 2 r2 r3 s2 s3 f3) (h4 : FieldAt 2 r3 r4 s3 s4 f4) (h5 : FieldAt 2 r4 r5 s4 s5 f5) (h6 : FieldAt 4 r5 r6 s5 s6 f6)
    (d o : Bool) (hk : ((k : Int) != 1) = true) (_hd : VDoneAt r6 s6 d) (_ho : ∀ W, Calls Try.prog 60 #[.agg #[.int .i64 (ino : Int), .int .i64 (f1 : Int), .int .i64 (f2 : Int), .int .i64 (f3 : Int), .int .i64 (f4 : Int), .int .i64 (f5 : Int), .int .i64 (f6 : Int)]] W fun e w' => e = .returned (.bool o) ∧ Below W.heap.size W w') :
    Calls Try.prog 24 #[.agg #[.string K, .string V, .bool false]] w fun e w' => e = .returned (.tuple #[.agg #[.int .i64 0, .int .i64 0, .int .i64 0, .int .i64 0, .int .i64 0, .int .i64 0, .int .i64 0], .bool false]) ∧ Below w.heap.size w w' := by
  obtain ⟨W, hW⟩ : ∃ W, W = (w.alloc (.cells #[.string K, .string V, .bool false] 34)).alloc (.cells #[.int .i64 0, .int .i64 0, .int .i64 0, .int .i64 0, .int .i64 0, .int .i64 0, .int .i64 0] 32) := ⟨_, rfl⟩
  obtain ⟨hR1, hR2, hBW⟩ := two_boxes w [.string K, .string V, .bool false] [.int .i64 0, .int .i64 0, .int .i64 0, .int .i64 0, .int .i64 0, .int .i64 0, .int .i64 0] 34 32 W hW
  obtain ⟨x0, x1, x2, _, _, _⟩ := hR1.seen3
  have HBW : Hid (Below w.heap.size w W) := hBW
  have HR1 : Hid (Row W w.heap.size [.string K, .string V, .bool false] 34) := hR1
  have HR2 : Hid (Row W (w.heap.size + 1) [.int .i64 0, .int .i64 0, .int .i64 0, .int .i64 0, .int .i64 0, .int .i64 0, .int .i64 0] 32) := hR2
  clear hR1 hR2 hBW
  have M1 : Hid True := trivial
  have M2 : Hid True := trivial
  have M3 : Hid True := trivial
  have M4 : Hid True := trivial
  have M5 : Hid True := trivial
  go_enter Try.func24, Try.ntmps24
  go_wp2_with fail
  rw [← hW]
  clear hW
  go_wp2_with (first
    | (go_at_call 9; refine (hK _).mono ?_; rintro e w1 ⟨rfl, hb⟩; have HB1 : Hid (Below W.heap.size W w1) := hb; clear x0 x1 x2; obtain ⟨x0, x1, x2, _, _, _⟩ := (HR1.out.later hb).seen3; clear hb)
    | (go_at_call 64; refine (hV _).mono ?_; rintro e w2 ⟨rfl, hr, hb⟩; have P0 : Hid (PI w w2 w1.heap.size [.string K, .string V, .bool false] [.int .i64 0, .int .i64 0, .int .i64 0, .int .i64 0, .int .i64 0, .int .i64 0, .int .i64 0] 34 32 80 r0 s0) := PI.start HR1.out HR2.out HBW.out HB1.out hr hb; clear hr hb x0 x1 x2)
    | (go_at_call 65; clear M1; refine (h1 _ _ P0.out.rd).mono ?_; rintro e w3 ⟨rfl, p⟩; have P1 : Hid (PI w w3 w1.heap.size [.string K, .string V, .bool false] [.int .i64 0, .int .i64 0, .int .i64 0, .int .i64 0, .int .i64 0, .int .i64 0, .int .i64 0] 34 32 80 r1 s1) := P0.out.step p; clear p)
    | (go_at_call 65; clear M2; refine (h2 _ _ P1.out.rd).mono ?_; rintro e w4 ⟨rfl, p⟩; have P2 : Hid (PI w w4 w1.heap.size [.string K, .string V, .bool false] [.int .i64 0, .int .i64 0, .int .i64 0, .int .i64 0, .int .i64 0, .int .i64 0, .int .i64 0] 34 32 80 r2 s2) := P1.out.step p; clear p)
    | (go_at_call 65; clear M3; refine (h3 _ _ P2.out.rd).mono ?_; rintro e w5 ⟨rfl, p⟩; have P3 : Hid (PI w w5 w1.heap.size [.string K, .string V, .bool false] [.int .i64 0, .int .i64 0, .int .i64 0, .int .i64 0, .int .i64 0, .int .i64 0, .int .i64 0] 34 32 80 r3 s3) := P2.out.step p; clear p)
    | (go_at_call 65; clear M4; refine (h4 _ _ P3.out.rd).mono ?_; rintro e w6 ⟨rfl, p⟩; have P4 : Hid (PI w w6 w1.heap.size [.string K, .string V, .bool false] [.int .i64 0, .int .i64 0, .int .i64 0, .int .i64 0, .int .i64 0, .int .i64 0, .int .i64 0] 34 32 80 r4 s4) := P3.out.step p; clear p)
    | (go_at_call 65; clear M5; refine (h5 _ _ P4.out.rd).mono ?_; rintro e w7 ⟨rfl, p⟩; have P5 : Hid (PI w w7 w1.heap.size [.string K, .string V, .bool false] [.int .i64 0, .int .i64 0, .int .i64 0, .int .i64 0, .int .i64 0, .int .i64 0, .int .i64 0] 34 32 80 r5 s5) := P4.out.step p; clear p)
    | (go_at_call 65; refine (h6 _ _ P5.out.rd).mono ?_; rintro e w8 ⟨rfl, p⟩; have P6 : Hid (PI w w8 w1.heap.size [.string K, .string V, .bool false] [.int .i64 0, .int .i64 0, .int .i64 0, .int .i64 0, .int .i64 0, .int .i64 0, .int .i64 0] 34 32 80 r6 s6) := P5.out.step p; clear p; obtain ⟨x0, x1, x2, _, _, _⟩ := P6.out.r1.seen3; obtain ⟨⟨m0, m1, m2, m3, m4, m5, m6⟩, ⟨g0, g1, g2, g3, g4, g5, g6⟩⟩ := P6.out.r2.seen7; have P7 : Hid (PI w (w8.alloc (.cells #[.int .i64 (ino : Int), .int .i64 (f1 : Int), .int .i64 (f2 : Int), .int .i64 (f3 : Int), .int .i64 (f4 : Int), .int .i64 (f5 : Int), .int .i64 (f6 : Int)] 32)) w1.heap.size [.string K, .string V, .bool false] [.int .i64 0, .int .i64 0, .int .i64 0, .int .i64 0, .int .i64 0, .int .i64 0, .int .i64 0] 34 32 80 r6 s6) := P6.out.later (below_new _ _); obtain ⟨y0, y1, y2, _, _, _⟩ := P7.out.r1.seen3; obtain ⟨⟨n0, n1, n2, n3, n4, n5, n6⟩, ⟨j0, j1, j2, j3, j4, j5, j6⟩⟩ := P7.out.r2.seen7; have R7 : Hid (Row (w8.alloc (.cells #[.int .i64 (ino : Int), .int .i64 (f1 : Int), .int .i64 (f2 : Int), .int .i64 (f3 : Int), .int .i64 (f4 : Int), .int .i64 (f5 : Int), .int .i64 (f6 : Int)] 32)) w8.heap.size [.int .i64 (ino : Int), .int .i64 (f1 : Int), .int .i64 (f2 : Int), .int .i64 (f3 : Int), .int .i64 (f4 : Int), .int .i64 (f5 : Int), .int .i64 (f6 : Int)] 32) := Row.new w8 [.int .i64 (ino : Int), .int .i64 (f1 : Int), .int .i64 (f2 : Int), .int .i64 (f3 : Int), .int .i64 (f4 : Int), .int .i64 (f5 : Int), .int .i64 (f6 : Int)] 32)
    | (go_at_call 53; refine (hd _ _ P7.out.rd).mono ?_; rintro e w9 ⟨rfl, rfl⟩)
    | (go_at_call 60; clear m0 m1 m2 m3 m4 m5 m6 g0 g1 g2 g3 g4 g5 g6 n0 n1 n2 n3 n4 n5 n6 j0 j1 j2 j3 j4 j5 j6 x0 x1 x2 y0 y1 y2; refine (ho _).mono ?_; rintro e w9 ⟨rfl, hb⟩; have P9 : Hid (PI w w9 w1.heap.size [.string K, .string V, .bool false] [.int .i64 0, .int .i64 0, .int .i64 0, .int .i64 0, .int .i64 0, .int .i64 0, .int .i64 0] 34 32 80 r6 s6) := P7.out.later hb; have R9 : Hid (Row w9 w8.heap.size [.int .i64 (ino : Int), .int .i64 (f1 : Int), .int .i64 (f2 : Int), .int .i64 (f3 : Int), .int .i64 (f4 : Int), .int .i64 (f5 : Int), .int .i64 (f6 : Int)] 32) := R7.out.later hb; obtain ⟨⟨m0, m1, m2, m3, m4, m5, m6⟩, ⟨g0, g1, g2, g3, g4, g5, g6⟩⟩ := P9.out.r2.seen7; obtain ⟨⟨n0, n1, n2, n3, n4, n5, n6⟩, _⟩ := R9.out.seen7; clear hb))
  (try simp only [Exit.inBlock, Exit.then])
  refine bodyPost_ret (v := .tuple #[.agg #[.int .i64 0, .int .i64 0, .int .i64 0, .int .i64 0, .int .i64 0, .int .i64 0, .int .i64 0], .bool false]) ?_ rfl ⟨rfl, below_set7 P7.out.bel (by omega) _ _ _ _ _ _ _⟩
  rw [results_cell_tmp rfl]
  go_simp

set_option maxRecDepth 10000 in
set_option maxHeartbeats 4000000 in
theorem pin_short (K V : ByteArray) (r0 r1 r2 r3 r4 r5 r6 : List UInt8) (s0 s1 s2 s3 s4 s5 s6 : Bool) (k ino f1 f2 f3 f4 f5 f6 : Nat) (S0 : ByteArray) (b : Int) (w : World)
    (hK : ∀ W, Calls Try.prog 9 #[.string K] W fun e w' => e = .returned (.tuple #[.int .i64 (k : Int), .int .i64 (ino : Int), .string S0, .int .i64 b]) ∧ Below W.heap.size W w')
    (hV : ∀ W, Calls Try.prog 64 #[.string V] W fun e w' => e = .returned (.pointer (some ⟨W.heap.size, 0, none⟩)) ∧ Rd w' W.heap.size 80 r0 s0 ∧ Below W.heap.size W w')
    (h1 : FieldAt 1 r0 r1 s0 s1 f1) (h2 : FieldAt 2 r1 r2 s1 s2 f2) (h3 : FieldAt 2 r2 r3 s2 s3 f3) (h4 : FieldAt 2 r3 r4 s3 s4 f4) (h5 : FieldAt 2 r4 r5 s4 s5 f5) (h6 : FieldAt 4 r5 r6 s5 s6 f6)
    (o : Bool) (hk : k = 1) (hd : VDoneAt r6 s6 false) (_ho : ∀ W, Calls Try.prog 60 #[.agg #[.int .i64 (ino : Int), .int .i64 (f1 : Int), .int .i64 (f2 : Int), .int .i64 (f3 : Int), .int .i64 (f4 : Int), .int .i64 (f5 : Int), .int .i64 (f6 : Int)]] W fun e w' => e = .returned (.bool o) ∧ Below W.heap.size W w') :
    Calls Try.prog 24 #[.agg #[.string K, .string V, .bool false]] w fun e w' => e = .returned (.tuple #[.agg #[.int .i64 0, .int .i64 0, .int .i64 0, .int .i64 0, .int .i64 0, .int .i64 0, .int .i64 0], .bool false]) ∧ Below w.heap.size w w' := by
  obtain ⟨W, hW⟩ : ∃ W, W = (w.alloc (.cells #[.string K, .string V, .bool false] 34)).alloc (.cells #[.int .i64 0, .int .i64 0, .int .i64 0, .int .i64 0, .int .i64 0, .int .i64 0, .int .i64 0] 32) := ⟨_, rfl⟩
  obtain ⟨hR1, hR2, hBW⟩ := two_boxes w [.string K, .string V, .bool false] [.int .i64 0, .int .i64 0, .int .i64 0, .int .i64 0, .int .i64 0, .int .i64 0, .int .i64 0] 34 32 W hW
  obtain ⟨x0, x1, x2, _, _, _⟩ := hR1.seen3
  have HBW : Hid (Below w.heap.size w W) := hBW
  have HR1 : Hid (Row W w.heap.size [.string K, .string V, .bool false] 34) := hR1
  have HR2 : Hid (Row W (w.heap.size + 1) [.int .i64 0, .int .i64 0, .int .i64 0, .int .i64 0, .int .i64 0, .int .i64 0, .int .i64 0] 32) := hR2
  clear hR1 hR2 hBW
  subst hk
  have M1 : Hid True := trivial
  have M2 : Hid True := trivial
  have M3 : Hid True := trivial
  have M4 : Hid True := trivial
  have M5 : Hid True := trivial
  go_enter Try.func24, Try.ntmps24
  go_wp2_with fail
  rw [← hW]
  clear hW
  go_wp2_with (first
    | (go_at_call 9; refine (hK _).mono ?_; rintro e w1 ⟨rfl, hb⟩; have HB1 : Hid (Below W.heap.size W w1) := hb; clear x0 x1 x2; obtain ⟨x0, x1, x2, _, _, _⟩ := (HR1.out.later hb).seen3; clear hb)
    | (go_at_call 64; refine (hV _).mono ?_; rintro e w2 ⟨rfl, hr, hb⟩; have P0 : Hid (PI w w2 w1.heap.size [.string K, .string V, .bool false] [.int .i64 0, .int .i64 0, .int .i64 0, .int .i64 0, .int .i64 0, .int .i64 0, .int .i64 0] 34 32 80 r0 s0) := PI.start HR1.out HR2.out HBW.out HB1.out hr hb; clear hr hb x0 x1 x2)
    | (go_at_call 65; clear M1; refine (h1 _ _ P0.out.rd).mono ?_; rintro e w3 ⟨rfl, p⟩; have P1 : Hid (PI w w3 w1.heap.size [.string K, .string V, .bool false] [.int .i64 0, .int .i64 0, .int .i64 0, .int .i64 0, .int .i64 0, .int .i64 0, .int .i64 0] 34 32 80 r1 s1) := P0.out.step p; clear p)
    | (go_at_call 65; clear M2; refine (h2 _ _ P1.out.rd).mono ?_; rintro e w4 ⟨rfl, p⟩; have P2 : Hid (PI w w4 w1.heap.size [.string K, .string V, .bool false] [.int .i64 0, .int .i64 0, .int .i64 0, .int .i64 0, .int .i64 0, .int .i64 0, .int .i64 0] 34 32 80 r2 s2) := P1.out.step p; clear p)
    | (go_at_call 65; clear M3; refine (h3 _ _ P2.out.rd).mono ?_; rintro e w5 ⟨rfl, p⟩; have P3 : Hid (PI w w5 w1.heap.size [.string K, .string V, .bool false] [.int .i64 0, .int .i64 0, .int .i64 0, .int .i64 0, .int .i64 0, .int .i64 0, .int .i64 0] 34 32 80 r3 s3) := P2.out.step p; clear p)
    | (go_at_call 65; clear M4; refine (h4 _ _ P3.out.rd).mono ?_; rintro e w6 ⟨rfl, p⟩; have P4 : Hid (PI w w6 w1.heap.size [.string K, .string V, .bool false] [.int .i64 0, .int .i64 0, .int .i64 0, .int .i64 0, .int .i64 0, .int .i64 0, .int .i64 0] 34 32 80 r4 s4) := P3.out.step p; clear p)
    | (go_at_call 65; clear M5; refine (h5 _ _ P4.out.rd).mono ?_; rintro e w7 ⟨rfl, p⟩; have P5 : Hid (PI w w7 w1.heap.size [.string K, .string V, .bool false] [.int .i64 0, .int .i64 0, .int .i64 0, .int .i64 0, .int .i64 0, .int .i64 0, .int .i64 0] 34 32 80 r5 s5) := P4.out.step p; clear p)
    | (go_at_call 65; refine (h6 _ _ P5.out.rd).mono ?_; rintro e w8 ⟨rfl, p⟩; have P6 : Hid (PI w w8 w1.heap.size [.string K, .string V, .bool false] [.int .i64 0, .int .i64 0, .int .i64 0, .int .i64 0, .int .i64 0, .int .i64 0, .int .i64 0] 34 32 80 r6 s6) := P5.out.step p; clear p; obtain ⟨x0, x1, x2, _, _, _⟩ := P6.out.r1.seen3; obtain ⟨⟨m0, m1, m2, m3, m4, m5, m6⟩, ⟨g0, g1, g2, g3, g4, g5, g6⟩⟩ := P6.out.r2.seen7; have P7 : Hid (PI w (w8.alloc (.cells #[.int .i64 (ino : Int), .int .i64 (f1 : Int), .int .i64 (f2 : Int), .int .i64 (f3 : Int), .int .i64 (f4 : Int), .int .i64 (f5 : Int), .int .i64 (f6 : Int)] 32)) w1.heap.size [.string K, .string V, .bool false] [.int .i64 0, .int .i64 0, .int .i64 0, .int .i64 0, .int .i64 0, .int .i64 0, .int .i64 0] 34 32 80 r6 s6) := P6.out.later (below_new _ _); obtain ⟨y0, y1, y2, _, _, _⟩ := P7.out.r1.seen3; obtain ⟨⟨n0, n1, n2, n3, n4, n5, n6⟩, ⟨j0, j1, j2, j3, j4, j5, j6⟩⟩ := P7.out.r2.seen7; have R7 : Hid (Row (w8.alloc (.cells #[.int .i64 (ino : Int), .int .i64 (f1 : Int), .int .i64 (f2 : Int), .int .i64 (f3 : Int), .int .i64 (f4 : Int), .int .i64 (f5 : Int), .int .i64 (f6 : Int)] 32)) w8.heap.size [.int .i64 (ino : Int), .int .i64 (f1 : Int), .int .i64 (f2 : Int), .int .i64 (f3 : Int), .int .i64 (f4 : Int), .int .i64 (f5 : Int), .int .i64 (f6 : Int)] 32) := Row.new w8 [.int .i64 (ino : Int), .int .i64 (f1 : Int), .int .i64 (f2 : Int), .int .i64 (f3 : Int), .int .i64 (f4 : Int), .int .i64 (f5 : Int), .int .i64 (f6 : Int)] 32)
    | (go_at_call 53; refine (hd _ _ P7.out.rd).mono ?_; rintro e w9 ⟨rfl, rfl⟩)
    | (go_at_call 60; clear m0 m1 m2 m3 m4 m5 m6 g0 g1 g2 g3 g4 g5 g6 n0 n1 n2 n3 n4 n5 n6 j0 j1 j2 j3 j4 j5 j6 x0 x1 x2 y0 y1 y2; refine (ho _).mono ?_; rintro e w9 ⟨rfl, hb⟩; have P9 : Hid (PI w w9 w1.heap.size [.string K, .string V, .bool false] [.int .i64 0, .int .i64 0, .int .i64 0, .int .i64 0, .int .i64 0, .int .i64 0, .int .i64 0] 34 32 80 r6 s6) := P7.out.later hb; have R9 : Hid (Row w9 w8.heap.size [.int .i64 (ino : Int), .int .i64 (f1 : Int), .int .i64 (f2 : Int), .int .i64 (f3 : Int), .int .i64 (f4 : Int), .int .i64 (f5 : Int), .int .i64 (f6 : Int)] 32) := R7.out.later hb; obtain ⟨⟨m0, m1, m2, m3, m4, m5, m6⟩, ⟨g0, g1, g2, g3, g4, g5, g6⟩⟩ := P9.out.r2.seen7; obtain ⟨⟨n0, n1, n2, n3, n4, n5, n6⟩, _⟩ := R9.out.seen7; clear hb))
  (try simp only [Exit.inBlock, Exit.then])
  refine bodyPost_ret (v := .tuple #[.agg #[.int .i64 0, .int .i64 0, .int .i64 0, .int .i64 0, .int .i64 0, .int .i64 0, .int .i64 0], .bool false]) ?_ rfl ⟨rfl, below_set7 P7.out.bel (by omega) _ _ _ _ _ _ _⟩
  rw [results_cell_tmp rfl]
  go_simp

set_option maxRecDepth 10000 in
set_option maxHeartbeats 4000000 in
theorem pin_wrong (K V : ByteArray) (r0 r1 r2 r3 r4 r5 r6 : List UInt8) (s0 s1 s2 s3 s4 s5 s6 : Bool) (k ino f1 f2 f3 f4 f5 f6 : Nat) (S0 : ByteArray) (b : Int) (w : World)
    (hK : ∀ W, Calls Try.prog 9 #[.string K] W fun e w' => e = .returned (.tuple #[.int .i64 (k : Int), .int .i64 (ino : Int), .string S0, .int .i64 b]) ∧ Below W.heap.size W w')
    (hV : ∀ W, Calls Try.prog 64 #[.string V] W fun e w' => e = .returned (.pointer (some ⟨W.heap.size, 0, none⟩)) ∧ Rd w' W.heap.size 80 r0 s0 ∧ Below W.heap.size W w')
    (h1 : FieldAt 1 r0 r1 s0 s1 f1) (h2 : FieldAt 2 r1 r2 s1 s2 f2) (h3 : FieldAt 2 r2 r3 s2 s3 f3) (h4 : FieldAt 2 r3 r4 s3 s4 f4) (h5 : FieldAt 2 r4 r5 s4 s5 f5) (h6 : FieldAt 4 r5 r6 s5 s6 f6)
    (hk : k = 1) (hd : VDoneAt r6 s6 true) (ho : ∀ W, Calls Try.prog 60 #[.agg #[.int .i64 (ino : Int), .int .i64 (f1 : Int), .int .i64 (f2 : Int), .int .i64 (f3 : Int), .int .i64 (f4 : Int), .int .i64 (f5 : Int), .int .i64 (f6 : Int)]] W fun e w' => e = .returned (.bool false) ∧ Below W.heap.size W w') :
    Calls Try.prog 24 #[.agg #[.string K, .string V, .bool false]] w fun e w' => e = .returned (.tuple #[.agg #[.int .i64 0, .int .i64 0, .int .i64 0, .int .i64 0, .int .i64 0, .int .i64 0, .int .i64 0], .bool false]) ∧ Below w.heap.size w w' := by
  obtain ⟨W, hW⟩ : ∃ W, W = (w.alloc (.cells #[.string K, .string V, .bool false] 34)).alloc (.cells #[.int .i64 0, .int .i64 0, .int .i64 0, .int .i64 0, .int .i64 0, .int .i64 0, .int .i64 0] 32) := ⟨_, rfl⟩
  obtain ⟨hR1, hR2, hBW⟩ := two_boxes w [.string K, .string V, .bool false] [.int .i64 0, .int .i64 0, .int .i64 0, .int .i64 0, .int .i64 0, .int .i64 0, .int .i64 0] 34 32 W hW
  obtain ⟨x0, x1, x2, _, _, _⟩ := hR1.seen3
  have HBW : Hid (Below w.heap.size w W) := hBW
  have HR1 : Hid (Row W w.heap.size [.string K, .string V, .bool false] 34) := hR1
  have HR2 : Hid (Row W (w.heap.size + 1) [.int .i64 0, .int .i64 0, .int .i64 0, .int .i64 0, .int .i64 0, .int .i64 0, .int .i64 0] 32) := hR2
  clear hR1 hR2 hBW
  subst hk
  have M1 : Hid True := trivial
  have M2 : Hid True := trivial
  have M3 : Hid True := trivial
  have M4 : Hid True := trivial
  have M5 : Hid True := trivial
  go_enter Try.func24, Try.ntmps24
  go_wp2_with fail
  rw [← hW]
  clear hW
  go_wp2_with (first
    | (go_at_call 9; refine (hK _).mono ?_; rintro e w1 ⟨rfl, hb⟩; have HB1 : Hid (Below W.heap.size W w1) := hb; clear x0 x1 x2; obtain ⟨x0, x1, x2, _, _, _⟩ := (HR1.out.later hb).seen3; clear hb)
    | (go_at_call 64; refine (hV _).mono ?_; rintro e w2 ⟨rfl, hr, hb⟩; have P0 : Hid (PI w w2 w1.heap.size [.string K, .string V, .bool false] [.int .i64 0, .int .i64 0, .int .i64 0, .int .i64 0, .int .i64 0, .int .i64 0, .int .i64 0] 34 32 80 r0 s0) := PI.start HR1.out HR2.out HBW.out HB1.out hr hb; clear hr hb x0 x1 x2)
    | (go_at_call 65; clear M1; refine (h1 _ _ P0.out.rd).mono ?_; rintro e w3 ⟨rfl, p⟩; have P1 : Hid (PI w w3 w1.heap.size [.string K, .string V, .bool false] [.int .i64 0, .int .i64 0, .int .i64 0, .int .i64 0, .int .i64 0, .int .i64 0, .int .i64 0] 34 32 80 r1 s1) := P0.out.step p; clear p)
    | (go_at_call 65; clear M2; refine (h2 _ _ P1.out.rd).mono ?_; rintro e w4 ⟨rfl, p⟩; have P2 : Hid (PI w w4 w1.heap.size [.string K, .string V, .bool false] [.int .i64 0, .int .i64 0, .int .i64 0, .int .i64 0, .int .i64 0, .int .i64 0, .int .i64 0] 34 32 80 r2 s2) := P1.out.step p; clear p)
    | (go_at_call 65; clear M3; refine (h3 _ _ P2.out.rd).mono ?_; rintro e w5 ⟨rfl, p⟩; have P3 : Hid (PI w w5 w1.heap.size [.string K, .string V, .bool false] [.int .i64 0, .int .i64 0, .int .i64 0, .int .i64 0, .int .i64 0, .int .i64 0, .int .i64 0] 34 32 80 r3 s3) := P2.out.step p; clear p)
    | (go_at_call 65; clear M4; refine (h4 _ _ P3.out.rd).mono ?_; rintro e w6 ⟨rfl, p⟩; have P4 : Hid (PI w w6 w1.heap.size [.string K, .string V, .bool false] [.int .i64 0, .int .i64 0, .int .i64 0, .int .i64 0, .int .i64 0, .int .i64 0, .int .i64 0] 34 32 80 r4 s4) := P3.out.step p; clear p)
    | (go_at_call 65; clear M5; refine (h5 _ _ P4.out.rd).mono ?_; rintro e w7 ⟨rfl, p⟩; have P5 : Hid (PI w w7 w1.heap.size [.string K, .string V, .bool false] [.int .i64 0, .int .i64 0, .int .i64 0, .int .i64 0, .int .i64 0, .int .i64 0, .int .i64 0] 34 32 80 r5 s5) := P4.out.step p; clear p)
    | (go_at_call 65; refine (h6 _ _ P5.out.rd).mono ?_; rintro e w8 ⟨rfl, p⟩; have P6 : Hid (PI w w8 w1.heap.size [.string K, .string V, .bool false] [.int .i64 0, .int .i64 0, .int .i64 0, .int .i64 0, .int .i64 0, .int .i64 0, .int .i64 0] 34 32 80 r6 s6) := P5.out.step p; clear p; obtain ⟨x0, x1, x2, _, _, _⟩ := P6.out.r1.seen3; obtain ⟨⟨m0, m1, m2, m3, m4, m5, m6⟩, ⟨g0, g1, g2, g3, g4, g5, g6⟩⟩ := P6.out.r2.seen7; have P7 : Hid (PI w (w8.alloc (.cells #[.int .i64 (ino : Int), .int .i64 (f1 : Int), .int .i64 (f2 : Int), .int .i64 (f3 : Int), .int .i64 (f4 : Int), .int .i64 (f5 : Int), .int .i64 (f6 : Int)] 32)) w1.heap.size [.string K, .string V, .bool false] [.int .i64 0, .int .i64 0, .int .i64 0, .int .i64 0, .int .i64 0, .int .i64 0, .int .i64 0] 34 32 80 r6 s6) := P6.out.later (below_new _ _); obtain ⟨y0, y1, y2, _, _, _⟩ := P7.out.r1.seen3; obtain ⟨⟨n0, n1, n2, n3, n4, n5, n6⟩, ⟨j0, j1, j2, j3, j4, j5, j6⟩⟩ := P7.out.r2.seen7; have R7 : Hid (Row (w8.alloc (.cells #[.int .i64 (ino : Int), .int .i64 (f1 : Int), .int .i64 (f2 : Int), .int .i64 (f3 : Int), .int .i64 (f4 : Int), .int .i64 (f5 : Int), .int .i64 (f6 : Int)] 32)) w8.heap.size [.int .i64 (ino : Int), .int .i64 (f1 : Int), .int .i64 (f2 : Int), .int .i64 (f3 : Int), .int .i64 (f4 : Int), .int .i64 (f5 : Int), .int .i64 (f6 : Int)] 32) := Row.new w8 [.int .i64 (ino : Int), .int .i64 (f1 : Int), .int .i64 (f2 : Int), .int .i64 (f3 : Int), .int .i64 (f4 : Int), .int .i64 (f5 : Int), .int .i64 (f6 : Int)] 32)
    | (go_at_call 53; refine (hd _ _ P7.out.rd).mono ?_; rintro e w9 ⟨rfl, rfl⟩)
    | (go_at_call 60; clear m0 m1 m2 m3 m4 m5 m6 g0 g1 g2 g3 g4 g5 g6 n0 n1 n2 n3 n4 n5 n6 j0 j1 j2 j3 j4 j5 j6 x0 x1 x2 y0 y1 y2; refine (ho _).mono ?_; rintro e w9 ⟨rfl, hb⟩; have P9 : Hid (PI w w9 w1.heap.size [.string K, .string V, .bool false] [.int .i64 0, .int .i64 0, .int .i64 0, .int .i64 0, .int .i64 0, .int .i64 0, .int .i64 0] 34 32 80 r6 s6) := P7.out.later hb; have R9 : Hid (Row w9 w8.heap.size [.int .i64 (ino : Int), .int .i64 (f1 : Int), .int .i64 (f2 : Int), .int .i64 (f3 : Int), .int .i64 (f4 : Int), .int .i64 (f5 : Int), .int .i64 (f6 : Int)] 32) := R7.out.later hb; obtain ⟨⟨m0, m1, m2, m3, m4, m5, m6⟩, ⟨g0, g1, g2, g3, g4, g5, g6⟩⟩ := P9.out.r2.seen7; obtain ⟨⟨n0, n1, n2, n3, n4, n5, n6⟩, _⟩ := R9.out.seen7; clear hb))
  (try simp only [Exit.inBlock, Exit.then])
  refine bodyPost_ret (v := .tuple #[.agg #[.int .i64 0, .int .i64 0, .int .i64 0, .int .i64 0, .int .i64 0, .int .i64 0, .int .i64 0], .bool false]) ?_ rfl ⟨rfl, below_set7 P9.out.bel (by omega) _ _ _ _ _ _ _⟩
  rw [results_cell_tmp rfl]
  go_simp

set_option maxRecDepth 10000 in
set_option maxHeartbeats 4000000 in
theorem pin_yes (K V : ByteArray) (r0 r1 r2 r3 r4 r5 r6 : List UInt8) (s0 s1 s2 s3 s4 s5 s6 : Bool) (k ino f1 f2 f3 f4 f5 f6 : Nat) (S0 : ByteArray) (b : Int) (w : World)
    (hK : ∀ W, Calls Try.prog 9 #[.string K] W fun e w' => e = .returned (.tuple #[.int .i64 (k : Int), .int .i64 (ino : Int), .string S0, .int .i64 b]) ∧ Below W.heap.size W w')
    (hV : ∀ W, Calls Try.prog 64 #[.string V] W fun e w' => e = .returned (.pointer (some ⟨W.heap.size, 0, none⟩)) ∧ Rd w' W.heap.size 80 r0 s0 ∧ Below W.heap.size W w')
    (h1 : FieldAt 1 r0 r1 s0 s1 f1) (h2 : FieldAt 2 r1 r2 s1 s2 f2) (h3 : FieldAt 2 r2 r3 s2 s3 f3) (h4 : FieldAt 2 r3 r4 s3 s4 f4) (h5 : FieldAt 2 r4 r5 s4 s5 f5) (h6 : FieldAt 4 r5 r6 s5 s6 f6)
    (hk : k = 1) (hd : VDoneAt r6 s6 true) (ho : ∀ W, Calls Try.prog 60 #[.agg #[.int .i64 (ino : Int), .int .i64 (f1 : Int), .int .i64 (f2 : Int), .int .i64 (f3 : Int), .int .i64 (f4 : Int), .int .i64 (f5 : Int), .int .i64 (f6 : Int)]] W fun e w' => e = .returned (.bool true) ∧ Below W.heap.size W w') :
    Calls Try.prog 24 #[.agg #[.string K, .string V, .bool false]] w fun e w' => e = .returned (.tuple #[.agg #[.int .i64 (ino : Int), .int .i64 (f1 : Int), .int .i64 (f2 : Int), .int .i64 (f3 : Int), .int .i64 (f4 : Int), .int .i64 (f5 : Int), .int .i64 (f6 : Int)], .bool true]) ∧ Below w.heap.size w w' := by
  obtain ⟨W, hW⟩ : ∃ W, W = (w.alloc (.cells #[.string K, .string V, .bool false] 34)).alloc (.cells #[.int .i64 0, .int .i64 0, .int .i64 0, .int .i64 0, .int .i64 0, .int .i64 0, .int .i64 0] 32) := ⟨_, rfl⟩
  obtain ⟨hR1, hR2, hBW⟩ := two_boxes w [.string K, .string V, .bool false] [.int .i64 0, .int .i64 0, .int .i64 0, .int .i64 0, .int .i64 0, .int .i64 0, .int .i64 0] 34 32 W hW
  obtain ⟨x0, x1, x2, _, _, _⟩ := hR1.seen3
  have HBW : Hid (Below w.heap.size w W) := hBW
  have HR1 : Hid (Row W w.heap.size [.string K, .string V, .bool false] 34) := hR1
  have HR2 : Hid (Row W (w.heap.size + 1) [.int .i64 0, .int .i64 0, .int .i64 0, .int .i64 0, .int .i64 0, .int .i64 0, .int .i64 0] 32) := hR2
  clear hR1 hR2 hBW
  subst hk
  have M1 : Hid True := trivial
  have M2 : Hid True := trivial
  have M3 : Hid True := trivial
  have M4 : Hid True := trivial
  have M5 : Hid True := trivial
  go_enter Try.func24, Try.ntmps24
  go_wp2_with fail
  rw [← hW]
  clear hW
  go_wp2_with (first
    | (go_at_call 9; refine (hK _).mono ?_; rintro e w1 ⟨rfl, hb⟩; have HB1 : Hid (Below W.heap.size W w1) := hb; clear x0 x1 x2; obtain ⟨x0, x1, x2, _, _, _⟩ := (HR1.out.later hb).seen3; clear hb)
    | (go_at_call 64; refine (hV _).mono ?_; rintro e w2 ⟨rfl, hr, hb⟩; have P0 : Hid (PI w w2 w1.heap.size [.string K, .string V, .bool false] [.int .i64 0, .int .i64 0, .int .i64 0, .int .i64 0, .int .i64 0, .int .i64 0, .int .i64 0] 34 32 80 r0 s0) := PI.start HR1.out HR2.out HBW.out HB1.out hr hb; clear hr hb x0 x1 x2)
    | (go_at_call 65; clear M1; refine (h1 _ _ P0.out.rd).mono ?_; rintro e w3 ⟨rfl, p⟩; have P1 : Hid (PI w w3 w1.heap.size [.string K, .string V, .bool false] [.int .i64 0, .int .i64 0, .int .i64 0, .int .i64 0, .int .i64 0, .int .i64 0, .int .i64 0] 34 32 80 r1 s1) := P0.out.step p; clear p)
    | (go_at_call 65; clear M2; refine (h2 _ _ P1.out.rd).mono ?_; rintro e w4 ⟨rfl, p⟩; have P2 : Hid (PI w w4 w1.heap.size [.string K, .string V, .bool false] [.int .i64 0, .int .i64 0, .int .i64 0, .int .i64 0, .int .i64 0, .int .i64 0, .int .i64 0] 34 32 80 r2 s2) := P1.out.step p; clear p)
    | (go_at_call 65; clear M3; refine (h3 _ _ P2.out.rd).mono ?_; rintro e w5 ⟨rfl, p⟩; have P3 : Hid (PI w w5 w1.heap.size [.string K, .string V, .bool false] [.int .i64 0, .int .i64 0, .int .i64 0, .int .i64 0, .int .i64 0, .int .i64 0, .int .i64 0] 34 32 80 r3 s3) := P2.out.step p; clear p)
    | (go_at_call 65; clear M4; refine (h4 _ _ P3.out.rd).mono ?_; rintro e w6 ⟨rfl, p⟩; have P4 : Hid (PI w w6 w1.heap.size [.string K, .string V, .bool false] [.int .i64 0, .int .i64 0, .int .i64 0, .int .i64 0, .int .i64 0, .int .i64 0, .int .i64 0] 34 32 80 r4 s4) := P3.out.step p; clear p)
    | (go_at_call 65; clear M5; refine (h5 _ _ P4.out.rd).mono ?_; rintro e w7 ⟨rfl, p⟩; have P5 : Hid (PI w w7 w1.heap.size [.string K, .string V, .bool false] [.int .i64 0, .int .i64 0, .int .i64 0, .int .i64 0, .int .i64 0, .int .i64 0, .int .i64 0] 34 32 80 r5 s5) := P4.out.step p; clear p)
    | (go_at_call 65; refine (h6 _ _ P5.out.rd).mono ?_; rintro e w8 ⟨rfl, p⟩; have P6 : Hid (PI w w8 w1.heap.size [.string K, .string V, .bool false] [.int .i64 0, .int .i64 0, .int .i64 0, .int .i64 0, .int .i64 0, .int .i64 0, .int .i64 0] 34 32 80 r6 s6) := P5.out.step p; clear p; obtain ⟨x0, x1, x2, _, _, _⟩ := P6.out.r1.seen3; obtain ⟨⟨m0, m1, m2, m3, m4, m5, m6⟩, ⟨g0, g1, g2, g3, g4, g5, g6⟩⟩ := P6.out.r2.seen7; have P7 : Hid (PI w (w8.alloc (.cells #[.int .i64 (ino : Int), .int .i64 (f1 : Int), .int .i64 (f2 : Int), .int .i64 (f3 : Int), .int .i64 (f4 : Int), .int .i64 (f5 : Int), .int .i64 (f6 : Int)] 32)) w1.heap.size [.string K, .string V, .bool false] [.int .i64 0, .int .i64 0, .int .i64 0, .int .i64 0, .int .i64 0, .int .i64 0, .int .i64 0] 34 32 80 r6 s6) := P6.out.later (below_new _ _); obtain ⟨y0, y1, y2, _, _, _⟩ := P7.out.r1.seen3; obtain ⟨⟨n0, n1, n2, n3, n4, n5, n6⟩, ⟨j0, j1, j2, j3, j4, j5, j6⟩⟩ := P7.out.r2.seen7; have R7 : Hid (Row (w8.alloc (.cells #[.int .i64 (ino : Int), .int .i64 (f1 : Int), .int .i64 (f2 : Int), .int .i64 (f3 : Int), .int .i64 (f4 : Int), .int .i64 (f5 : Int), .int .i64 (f6 : Int)] 32)) w8.heap.size [.int .i64 (ino : Int), .int .i64 (f1 : Int), .int .i64 (f2 : Int), .int .i64 (f3 : Int), .int .i64 (f4 : Int), .int .i64 (f5 : Int), .int .i64 (f6 : Int)] 32) := Row.new w8 [.int .i64 (ino : Int), .int .i64 (f1 : Int), .int .i64 (f2 : Int), .int .i64 (f3 : Int), .int .i64 (f4 : Int), .int .i64 (f5 : Int), .int .i64 (f6 : Int)] 32)
    | (go_at_call 53; refine (hd _ _ P7.out.rd).mono ?_; rintro e w9 ⟨rfl, rfl⟩)
    | (go_at_call 60; clear m0 m1 m2 m3 m4 m5 m6 g0 g1 g2 g3 g4 g5 g6 n0 n1 n2 n3 n4 n5 n6 j0 j1 j2 j3 j4 j5 j6 x0 x1 x2 y0 y1 y2; refine (ho _).mono ?_; rintro e w9 ⟨rfl, hb⟩; have P9 : Hid (PI w w9 w1.heap.size [.string K, .string V, .bool false] [.int .i64 0, .int .i64 0, .int .i64 0, .int .i64 0, .int .i64 0, .int .i64 0, .int .i64 0] 34 32 80 r6 s6) := P7.out.later hb; have R9 : Hid (Row w9 w8.heap.size [.int .i64 (ino : Int), .int .i64 (f1 : Int), .int .i64 (f2 : Int), .int .i64 (f3 : Int), .int .i64 (f4 : Int), .int .i64 (f5 : Int), .int .i64 (f6 : Int)] 32) := R7.out.later hb; obtain ⟨⟨m0, m1, m2, m3, m4, m5, m6⟩, ⟨g0, g1, g2, g3, g4, g5, g6⟩⟩ := P9.out.r2.seen7; obtain ⟨⟨n0, n1, n2, n3, n4, n5, n6⟩, _⟩ := R9.out.seen7; clear hb))
  (try simp only [Exit.inBlock, Exit.then])
  refine bodyPost_ret (v := .tuple #[.agg #[.int .i64 (ino : Int), .int .i64 (f1 : Int), .int .i64 (f2 : Int), .int .i64 (f3 : Int), .int .i64 (f4 : Int), .int .i64 (f5 : Int), .int .i64 (f6 : Int)], .bool true]) ?_ rfl ⟨rfl, below_set7 P9.out.bel (by omega) _ _ _ _ _ _ _⟩
  rw [results_cell_tmp rfl]
  go_simp

end Go.Proofs.Ytefpcdpclpignaa
