/-
  The document's answer of ParseEntry of layer 6.
-/
import Derived.Test.YtefpcdpclpignaaKREnt
import Derived.Test.YtefpcdpclpignaaKBackM
namespace Go.Proofs.Ytefpcdpclpignaa
open Go.RowKit M

/-- What lies in a box that was filled, in a result's box, and what else lay. -/
structure Be (w W : World) (g : Nat) (zs cs : List Value) : Prop where
  r2 : Row W (w.heap.size + 1) zs 42
  r3 : Row W g cs 42
  bel : Below w.heap.size w W
theorem Be.later {w W W' : World} {g : Nat} {zs cs : List Value} (h : Be w W g zs cs) (hb : Below W.heap.size W W') : Be w W' g zs cs := ⟨h.r2.later hb, h.r3.later hb, Below.after h.bel hb⟩
theorem boxEA {w W w9 : World} {g : Nat} {zs : List Value} {y0 y1 y2 x0 x1 x2 : Value} (h3 : Row W g [y0, y1, y2] 42) (h2 : Row W (w.heap.size + 1) zs 42) (hg : w.heap.size + 1 < g) (hb0 : Below w.heap.size w W)
    (hb : Below (((W.setCell ⟨g, 0, none⟩ x0).setCell ⟨g, 1, none⟩ x1).setCell ⟨g, 2, none⟩ x2).heap.size (((W.setCell ⟨g, 0, none⟩ x0).setCell ⟨g, 1, none⟩ x1).setCell ⟨g, 2, none⟩ x2) w9) : Be w w9 g zs [x0, x1, x2] :=
  ⟨(((h2.other _ x0 (by show _ ≠ g; omega)).other _ x1 (by show _ ≠ g; omega)).other _ x2 (by show _ ≠ g; omega)).later hb, (((h3.set (i := 0) x0 (by simp)).set (i := 1) x1 (by simp)).set (i := 2) x2 (by simp)).later hb, Below.after (below_set3 hb0 (by omega) _ _ _) hb⟩
theorem boxEB {w W w9 : World} {zs : List Value} {x0 x1 x2 : Value} (h2 : Row W (w.heap.size + 1) zs 42) (hb0 : Below w.heap.size w W)
    (hb : Below (W.alloc (.cells #[x0, x1, x2] 42)).heap.size (W.alloc (.cells #[x0, x1, x2] 42)) w9) : Be w w9 W.heap.size zs [x0, x1, x2] :=
  ⟨(h2.alloc _).later hb, (Row.new W [x0, x1, x2] 42).later hb, Below.after (Below.after hb0 (below_new _ _)) hb⟩

set_option maxRecDepth 10000 in
set_option maxHeartbeats 2000000 in
theorem rpe_kind (K V S : ByteArray) (k dir : Nat) (b : Int) (g : Bool) (hK : ∀ W, Calls Try.prog 10 #[.string K] W fun e w' => e = .returned (.tuple #[.int .i64 (k : Int), .int .i64 (dir : Int), .string S, .int .i64 b]) ∧ Below W.heap.size W w') (hk : ((k : Int) != 2) = true) (w : World) :
    Calls Try.prog 33 #[.agg #[.string K, .string V, .bool g]] w fun e w' => e = .returned (.tuple #[.int .i64 0, .agg #[.string ⟨#[]⟩, .int .i64 0, .int .i64 0], .bool false]) ∧ Below w.heap.size w w' := by
  obtain ⟨W, hW⟩ : ∃ W, W = (w.alloc (.cells #[.string K, .string V, .bool g] 34)).alloc (.cells #[.string ⟨#[]⟩, .int .i64 0, .int .i64 0] 42) := ⟨_, rfl⟩
  obtain ⟨hR1, hR2, hBW⟩ := two_boxes w [.string K, .string V, .bool g] [.string ⟨#[]⟩, .int .i64 0, .int .i64 0] 34 42 W hW
  obtain ⟨x0, x1, x2, _, _, _⟩ := hR1.seen3
  have HBW : Hid (Below w.heap.size w W) := hBW
  have HR1 : Hid (Row W w.heap.size [.string K, .string V, .bool g] 34) := hR1
  have HR2 : Hid (Row W (w.heap.size + 1) [.string ⟨#[]⟩, .int .i64 0, .int .i64 0] 42) := hR2
  clear hR1 hR2 hBW
  go_enter Try.func33, Try.ntmps33
  go_wp2_with fail
  rw [← hW]
  clear hW
  go_wp2_with (go_at_call 10; refine (hK _).mono ?_; rintro e w0 ⟨rfl, hb⟩; have HB0 : Hid (Below w.heap.size w w0) := Below.after HBW.out hb; have HX0 : Hid (Row w0 (w.heap.size + 1) [.string ⟨#[]⟩, .int .i64 0, .int .i64 0] 42) := HR2.out.later hb; have HP0 : Hid (Row w0 w.heap.size [.string K, .string V, .bool g] 34) := HR1.out.later hb; clear x0 x1 x2; obtain ⟨x0, x1, x2, _, _, _⟩ := HP0.out.seen3; obtain ⟨m0, m1, m2, g0, g1, g2⟩ := HX0.out.seen3; clear hb)
  (try simp only [Exit.inBlock, Exit.then])
  refine bodyPost_ret (v := .tuple #[.int .i64 0, .agg #[.string ⟨#[]⟩, .int .i64 0, .int .i64 0], .bool false]) ?_ rfl ⟨rfl, below_set3 HB0.out (by omega) _ _ _⟩
  rw [results_tmp_cell_tmp rfl]
  go_simp

set_option maxRecDepth 10000 in
set_option maxHeartbeats 2000000 in
theorem rpe_gone (K V S : ByteArray) (k dir : Nat) (b : Int) (hK : ∀ W, Calls Try.prog 10 #[.string K] W fun e w' => e = .returned (.tuple #[.int .i64 (k : Int), .int .i64 (dir : Int), .string S, .int .i64 b]) ∧ Below W.heap.size W w') (hk : k = 2) (w : World) :
    Calls Try.prog 33 #[.agg #[.string K, .string V, .bool true]] w fun e w' => e = .returned (.tuple #[.int .i64 0, .agg #[.string ⟨#[]⟩, .int .i64 0, .int .i64 0], .bool false]) ∧ Below w.heap.size w w' := by
  obtain ⟨W, hW⟩ : ∃ W, W = (w.alloc (.cells #[.string K, .string V, .bool true] 34)).alloc (.cells #[.string ⟨#[]⟩, .int .i64 0, .int .i64 0] 42) := ⟨_, rfl⟩
  obtain ⟨hR1, hR2, hBW⟩ := two_boxes w [.string K, .string V, .bool true] [.string ⟨#[]⟩, .int .i64 0, .int .i64 0] 34 42 W hW
  obtain ⟨x0, x1, x2, _, _, _⟩ := hR1.seen3
  have HBW : Hid (Below w.heap.size w W) := hBW
  have HR1 : Hid (Row W w.heap.size [.string K, .string V, .bool true] 34) := hR1
  have HR2 : Hid (Row W (w.heap.size + 1) [.string ⟨#[]⟩, .int .i64 0, .int .i64 0] 42) := hR2
  clear hR1 hR2 hBW
  subst hk
  go_enter Try.func33, Try.ntmps33
  go_wp2_with fail
  rw [← hW]
  clear hW
  go_wp2_with (go_at_call 10; refine (hK _).mono ?_; rintro e w0 ⟨rfl, hb⟩; have HB0 : Hid (Below w.heap.size w w0) := Below.after HBW.out hb; have HX0 : Hid (Row w0 (w.heap.size + 1) [.string ⟨#[]⟩, .int .i64 0, .int .i64 0] 42) := HR2.out.later hb; have HP0 : Hid (Row w0 w.heap.size [.string K, .string V, .bool true] 34) := HR1.out.later hb; clear x0 x1 x2; obtain ⟨x0, x1, x2, _, _, _⟩ := HP0.out.seen3; obtain ⟨m0, m1, m2, g0, g1, g2⟩ := HX0.out.seen3; clear hb)
  (try simp only [Exit.inBlock, Exit.then])
  refine bodyPost_ret (v := .tuple #[.int .i64 0, .agg #[.string ⟨#[]⟩, .int .i64 0, .int .i64 0], .bool false]) ?_ rfl ⟨rfl, below_set3 HB0.out (by omega) _ _ _⟩
  rw [results_tmp_cell_tmp rfl]
  go_simp

set_option maxRecDepth 10000 in
set_option maxHeartbeats 2000000 in
theorem rpe_len (K V S : ByteArray) (k dir : Nat) (b : Int) (hK : ∀ W, Calls Try.prog 10 #[.string K] W fun e w' => e = .returned (.tuple #[.int .i64 (k : Int), .int .i64 (dir : Int), .string S, .int .i64 b]) ∧ Below W.heap.size W w') (hk : k = 2) (hl : ((V.size : Int) != 3) = true) (w : World) :
    Calls Try.prog 33 #[.agg #[.string K, .string V, .bool false]] w fun e w' => e = .returned (.tuple #[.int .i64 0, .agg #[.string ⟨#[]⟩, .int .i64 0, .int .i64 0], .bool false]) ∧ Below w.heap.size w w' := by
  obtain ⟨W, hW⟩ : ∃ W, W = (w.alloc (.cells #[.string K, .string V, .bool false] 34)).alloc (.cells #[.string ⟨#[]⟩, .int .i64 0, .int .i64 0] 42) := ⟨_, rfl⟩
  obtain ⟨hR1, hR2, hBW⟩ := two_boxes w [.string K, .string V, .bool false] [.string ⟨#[]⟩, .int .i64 0, .int .i64 0] 34 42 W hW
  obtain ⟨x0, x1, x2, _, _, _⟩ := hR1.seen3
  have HBW : Hid (Below w.heap.size w W) := hBW
  have HR1 : Hid (Row W w.heap.size [.string K, .string V, .bool false] 34) := hR1
  have HR2 : Hid (Row W (w.heap.size + 1) [.string ⟨#[]⟩, .int .i64 0, .int .i64 0] 42) := hR2
  clear hR1 hR2 hBW
  subst hk
  go_enter Try.func33, Try.ntmps33
  go_wp2_with fail
  rw [← hW]
  clear hW
  go_wp2_with (go_at_call 10; refine (hK _).mono ?_; rintro e w0 ⟨rfl, hb⟩; have HB0 : Hid (Below w.heap.size w w0) := Below.after HBW.out hb; have HX0 : Hid (Row w0 (w.heap.size + 1) [.string ⟨#[]⟩, .int .i64 0, .int .i64 0] 42) := HR2.out.later hb; have HP0 : Hid (Row w0 w.heap.size [.string K, .string V, .bool false] 34) := HR1.out.later hb; clear x0 x1 x2; obtain ⟨x0, x1, x2, _, _, _⟩ := HP0.out.seen3; obtain ⟨m0, m1, m2, g0, g1, g2⟩ := HX0.out.seen3; clear hb)
  (try simp only [Exit.inBlock, Exit.then])
  refine bodyPost_ret (v := .tuple #[.int .i64 0, .agg #[.string ⟨#[]⟩, .int .i64 0, .int .i64 0], .bool false]) ?_ rfl ⟨rfl, below_set3 HB0.out (by omega) _ _ _⟩
  rw [results_tmp_cell_tmp rfl]
  go_simp

set_option maxRecDepth 100000 in
set_option maxHeartbeats 8000000 in
theorem rpe_wrong (K V S : ByteArray) (k dir : Nat) (b : Int) (X1 X2 EK EV : ByteArray) (f1 f2 : Nat) (hK : ∀ W, Calls Try.prog 10 #[.string K] W fun e w' => e = .returned (.tuple #[.int .i64 (k : Int), .int .i64 (dir : Int), .string S, .int .i64 b]) ∧ Below W.heap.size W w') (hk : k = 2) (hl : V.size = 3) (q1 : V.extract 0 2 = X1) (q2 : V.extract 2 V.size = X2)
    (h1 : ∀ W, Calls Try.prog 66 #[.string X1] W fun e w' => e = .returned (.int .i64 (f1 : Int)) ∧ Below W.heap.size W w')
    (h2 : ∀ W, Calls Try.prog 66 #[.string X2] W fun e w' => e = .returned (.int .i64 (f2 : Int)) ∧ Below W.heap.size W w')
    (ho : ∀ W, Calls Try.prog 27 #[.int .i64 (dir : Int), .agg #[.string S, .int .i64 (f1 : Int), .int .i64 (f2 : Int)]] W fun e w' => e = .returned (.tuple #[.agg #[.string EK, .string EV, .bool false], .int .i64 22]) ∧ Below W.heap.size W w') (w : World) :
    Calls Try.prog 33 #[.agg #[.string K, .string V, .bool false]] w fun e w' => e = .returned (.tuple #[.int .i64 0, .agg #[.string ⟨#[]⟩, .int .i64 0, .int .i64 0], .bool false]) ∧ Below w.heap.size w w' := by
  obtain ⟨W, hW⟩ : ∃ W, W = (w.alloc (.cells #[.string K, .string V, .bool false] 34)).alloc (.cells #[.string ⟨#[]⟩, .int .i64 0, .int .i64 0] 42) := ⟨_, rfl⟩
  obtain ⟨hR1, hR2, hBW⟩ := two_boxes w [.string K, .string V, .bool false] [.string ⟨#[]⟩, .int .i64 0, .int .i64 0] 34 42 W hW
  obtain ⟨x0, x1, x2, _, _, _⟩ := hR1.seen3
  have HBW : Hid (Below w.heap.size w W) := hBW
  have HR1 : Hid (Row W w.heap.size [.string K, .string V, .bool false] 34) := hR1
  have HR2 : Hid (Row W (w.heap.size + 1) [.string ⟨#[]⟩, .int .i64 0, .int .i64 0] 42) := hR2
  clear hR1 hR2 hBW
  subst hk
  have d1 : ((V.size : Int) != 3) = false := by rw [hl]; rfl
  have v2 : (2 : Int) ≤ (V.size : Int) := by omega
  have v0 : (0 : Int) ≤ (V.size : Int) := by omega
  clear hl
  have M1 : Hid True := trivial
  go_enter Try.func33, Try.ntmps33
  go_wp2_with fail
  rw [← hW]
  clear hW
  go_wp2_with (go_at_call 10; refine (hK _).mono ?_; rintro e w0 ⟨rfl, hb⟩; have HB0 : Hid (Below w.heap.size w w0) := Below.after HBW.out hb; have HX0 : Hid (Row w0 (w.heap.size + 1) [.string ⟨#[]⟩, .int .i64 0, .int .i64 0] 42) := HR2.out.later hb; have HP0 : Hid (Row w0 w.heap.size [.string K, .string V, .bool false] 34) := HR1.out.later hb; clear x0 x1 x2; obtain ⟨x0, x1, x2, _, _, _⟩ := HP0.out.seen3; obtain ⟨m0, m1, m2, g0, g1, g2⟩ := HX0.out.seen3; clear hb)
  clear m0 m1 m2 g0 g1 g2 x0 x2
  have l0 := HP0.out.lt
  have n0 : w0.heap.size ≠ w.heap.size := Nat.ne_of_gt l0
  go_region_held (fun w' => w'.cell? ⟨w.heap.size, 1, none⟩ = some (.string V)) (first | assumption | go_keep)
    (first
    | (go_at_call 66; clear M1; refine (h1 _).mono ?_; rintro e w1 ⟨rfl, hb⟩; skip; (first | (have HB1 : Hid (Below w.heap.size w w1) := Below.after HB0.out (undrew hb); have HX1 : Hid (Row w1 (w.heap.size + 1) [.string ⟨#[]⟩, .int .i64 0, .int .i64 0] 42) := Row.later HX0.out (undrew hb); have HP1 : Hid (Row w1 w.heap.size [.string K, .string V, .bool false] 34) := Row.later HP0.out (undrew hb)) | (have HB1 : Hid (Below w.heap.size w w1) := Below.after (Below.after HB0.out (below_new w0 (.cells #[.string ⟨#[]⟩, .int .i64 0, .int .i64 0] 42))) (undrew hb); have HX1 : Hid (Row w1 (w.heap.size + 1) [.string ⟨#[]⟩, .int .i64 0, .int .i64 0] 42) := Row.later (Row.alloc HX0.out (.cells #[.string ⟨#[]⟩, .int .i64 0, .int .i64 0] 42)) (undrew hb); have HP1 : Hid (Row w1 w.heap.size [.string K, .string V, .bool false] 34) := Row.later (Row.alloc HP0.out (.cells #[.string ⟨#[]⟩, .int .i64 0, .int .i64 0] 42)) (undrew hb); have RB : Hid (Row w1 w0.heap.size [.string ⟨#[]⟩, .int .i64 0, .int .i64 0] 42 ∧ w.heap.size + 1 < w0.heap.size) := ⟨(Row.new w0 [.string ⟨#[]⟩, .int .i64 0, .int .i64 0] 42).later (undrew hb), (HX0.out).lt⟩)); have hc1 : w1.cell? ⟨w.heap.size, 1, none⟩ = some (.string V) := HP1.out.cell (i := 1) rfl; have ll1 := HP1.out.lt; have n1 : w1.heap.size ≠ w.heap.size := Nat.ne_of_gt HP1.out.lt; clear hb)
    | (go_at_call 66; refine (h2 _).mono ?_; rintro e w2 ⟨rfl, hb⟩; (try (have RN : Hid (Row w2 _ [.string ⟨#[]⟩, .int .i64 0, .int .i64 0] 42 ∧ w.heap.size + 1 < _) := ⟨RB.out.1.later hb, RB.out.2⟩; clear RB; have RB := RN; clear RN)); (first | (have HB2 : Hid (Below w.heap.size w w2) := Below.after HB1.out hb; have HX2 : Hid (Row w2 (w.heap.size + 1) [.string ⟨#[]⟩, .int .i64 0, .int .i64 0] 42) := Row.later HX1.out hb; have HP2 : Hid (Row w2 w.heap.size [.string K, .string V, .bool false] 34) := Row.later HP1.out hb) | (have HB2 : Hid (Below w.heap.size w w2) := Below.after (Below.after HB1.out (below_new w1 (.cells #[.string ⟨#[]⟩, .int .i64 0, .int .i64 0] 42))) hb; have HX2 : Hid (Row w2 (w.heap.size + 1) [.string ⟨#[]⟩, .int .i64 0, .int .i64 0] 42) := Row.later (Row.alloc HX1.out (.cells #[.string ⟨#[]⟩, .int .i64 0, .int .i64 0] 42)) hb; have HP2 : Hid (Row w2 w.heap.size [.string K, .string V, .bool false] 34) := Row.later (Row.alloc HP1.out (.cells #[.string ⟨#[]⟩, .int .i64 0, .int .i64 0] 42)) hb; have RB : Hid (Row w2 w1.heap.size [.string ⟨#[]⟩, .int .i64 0, .int .i64 0] 42 ∧ w.heap.size + 1 < w1.heap.size) := ⟨(Row.new w1 [.string ⟨#[]⟩, .int .i64 0, .int .i64 0] 42).later hb, (HX1.out).lt⟩)); have hc2 : w2.cell? ⟨w.heap.size, 1, none⟩ = some (.string V) := HP2.out.cell (i := 1) rfl; have ll2 := HP2.out.lt; have n2 : w2.heap.size ≠ w.heap.size := Nat.ne_of_gt HP2.out.lt; (try (obtain ⟨m0, m1, m2, g0, g1, g2⟩ := RB.out.1.seen3; have lb := RB.out.2; have lb2 := RB.out.1.lt)); clear hb))
  all_goals
    go_wp2_with (go_at_call 27; refine (ho _).mono ?_; rintro e w9 ⟨rfl, hb⟩; (first | (have PX : Hid (Be w w9 _ [.string ⟨#[]⟩, .int .i64 0, .int .i64 0] [.string S, .int .i64 (f1 : Int), .int .i64 (f2 : Int)]) := boxEA RB.out.1 HX2.out RB.out.2 HB2.out hb) | (have PX : Hid (Be w w9 _ [.string ⟨#[]⟩, .int .i64 0, .int .i64 0] [.string S, .int .i64 (f1 : Int), .int .i64 (f2 : Int)]) := boxEB HX2.out HB2.out hb)); (try clear m0 m1 m2 g0 g1 g2); obtain ⟨m0, m1, m2, g0, g1, g2⟩ := PX.out.r2.seen3; obtain ⟨s0, s1, s2, _, _, _⟩ := PX.out.r3.seen3; have PY : Hid (Be w (w9.alloc (.cells #[.string EK, .string EV, .bool false] 34)) _ [.string ⟨#[]⟩, .int .i64 0, .int .i64 0] [.string S, .int .i64 (f1 : Int), .int .i64 (f2 : Int)]) := PX.out.later (below_new _ _); obtain ⟨o0, o1, o2, p0, p1, p2⟩ := PY.out.r2.seen3; obtain ⟨r0, r1, r2, _, _, _⟩ := PY.out.r3.seen3; clear hb)
    (try simp only [Exit.inBlock, Exit.then])
    refine bodyPost_ret (v := .tuple #[.int .i64 0, .agg #[.string ⟨#[]⟩, .int .i64 0, .int .i64 0], .bool false]) ?_ rfl ⟨rfl, below_set3 PY.out.bel (by omega) _ _ _⟩
    rw [results_tmp_cell_tmp rfl]
    go_simp

set_option maxRecDepth 100000 in
set_option maxHeartbeats 8000000 in
theorem rpe_yes (K V S : ByteArray) (k dir : Nat) (b : Int) (X1 X2 EK EV : ByteArray) (f1 f2 : Nat) (hK : ∀ W, Calls Try.prog 10 #[.string K] W fun e w' => e = .returned (.tuple #[.int .i64 (k : Int), .int .i64 (dir : Int), .string S, .int .i64 b]) ∧ Below W.heap.size W w') (hk : k = 2) (hl : V.size = 3) (q1 : V.extract 0 2 = X1) (q2 : V.extract 2 V.size = X2)
    (h1 : ∀ W, Calls Try.prog 66 #[.string X1] W fun e w' => e = .returned (.int .i64 (f1 : Int)) ∧ Below W.heap.size W w')
    (h2 : ∀ W, Calls Try.prog 66 #[.string X2] W fun e w' => e = .returned (.int .i64 (f2 : Int)) ∧ Below W.heap.size W w')
    (ho : ∀ W, Calls Try.prog 27 #[.int .i64 (dir : Int), .agg #[.string S, .int .i64 (f1 : Int), .int .i64 (f2 : Int)]] W fun e w' => e = .returned (.tuple #[.agg #[.string EK, .string EV, .bool false], .int .i64 0]) ∧ Below W.heap.size W w') (w : World) :
    Calls Try.prog 33 #[.agg #[.string K, .string V, .bool false]] w fun e w' => e = .returned (.tuple #[.int .i64 (dir : Int), .agg #[.string S, .int .i64 (f1 : Int), .int .i64 (f2 : Int)], .bool true]) ∧ Below w.heap.size w w' := by
  obtain ⟨W, hW⟩ : ∃ W, W = (w.alloc (.cells #[.string K, .string V, .bool false] 34)).alloc (.cells #[.string ⟨#[]⟩, .int .i64 0, .int .i64 0] 42) := ⟨_, rfl⟩
  obtain ⟨hR1, hR2, hBW⟩ := two_boxes w [.string K, .string V, .bool false] [.string ⟨#[]⟩, .int .i64 0, .int .i64 0] 34 42 W hW
  obtain ⟨x0, x1, x2, _, _, _⟩ := hR1.seen3
  have HBW : Hid (Below w.heap.size w W) := hBW
  have HR1 : Hid (Row W w.heap.size [.string K, .string V, .bool false] 34) := hR1
  have HR2 : Hid (Row W (w.heap.size + 1) [.string ⟨#[]⟩, .int .i64 0, .int .i64 0] 42) := hR2
  clear hR1 hR2 hBW
  subst hk
  have d1 : ((V.size : Int) != 3) = false := by rw [hl]; rfl
  have v2 : (2 : Int) ≤ (V.size : Int) := by omega
  have v0 : (0 : Int) ≤ (V.size : Int) := by omega
  clear hl
  have M1 : Hid True := trivial
  go_enter Try.func33, Try.ntmps33
  go_wp2_with fail
  rw [← hW]
  clear hW
  go_wp2_with (go_at_call 10; refine (hK _).mono ?_; rintro e w0 ⟨rfl, hb⟩; have HB0 : Hid (Below w.heap.size w w0) := Below.after HBW.out hb; have HX0 : Hid (Row w0 (w.heap.size + 1) [.string ⟨#[]⟩, .int .i64 0, .int .i64 0] 42) := HR2.out.later hb; have HP0 : Hid (Row w0 w.heap.size [.string K, .string V, .bool false] 34) := HR1.out.later hb; clear x0 x1 x2; obtain ⟨x0, x1, x2, _, _, _⟩ := HP0.out.seen3; obtain ⟨m0, m1, m2, g0, g1, g2⟩ := HX0.out.seen3; clear hb)
  clear m0 m1 m2 g0 g1 g2 x0 x2
  have l0 := HP0.out.lt
  have n0 : w0.heap.size ≠ w.heap.size := Nat.ne_of_gt l0
  go_region_held (fun w' => w'.cell? ⟨w.heap.size, 1, none⟩ = some (.string V)) (first | assumption | go_keep)
    (first
    | (go_at_call 66; clear M1; refine (h1 _).mono ?_; rintro e w1 ⟨rfl, hb⟩; skip; (first | (have HB1 : Hid (Below w.heap.size w w1) := Below.after HB0.out (undrew hb); have HX1 : Hid (Row w1 (w.heap.size + 1) [.string ⟨#[]⟩, .int .i64 0, .int .i64 0] 42) := Row.later HX0.out (undrew hb); have HP1 : Hid (Row w1 w.heap.size [.string K, .string V, .bool false] 34) := Row.later HP0.out (undrew hb)) | (have HB1 : Hid (Below w.heap.size w w1) := Below.after (Below.after HB0.out (below_new w0 (.cells #[.string ⟨#[]⟩, .int .i64 0, .int .i64 0] 42))) (undrew hb); have HX1 : Hid (Row w1 (w.heap.size + 1) [.string ⟨#[]⟩, .int .i64 0, .int .i64 0] 42) := Row.later (Row.alloc HX0.out (.cells #[.string ⟨#[]⟩, .int .i64 0, .int .i64 0] 42)) (undrew hb); have HP1 : Hid (Row w1 w.heap.size [.string K, .string V, .bool false] 34) := Row.later (Row.alloc HP0.out (.cells #[.string ⟨#[]⟩, .int .i64 0, .int .i64 0] 42)) (undrew hb); have RB : Hid (Row w1 w0.heap.size [.string ⟨#[]⟩, .int .i64 0, .int .i64 0] 42 ∧ w.heap.size + 1 < w0.heap.size) := ⟨(Row.new w0 [.string ⟨#[]⟩, .int .i64 0, .int .i64 0] 42).later (undrew hb), (HX0.out).lt⟩)); have hc1 : w1.cell? ⟨w.heap.size, 1, none⟩ = some (.string V) := HP1.out.cell (i := 1) rfl; have ll1 := HP1.out.lt; have n1 : w1.heap.size ≠ w.heap.size := Nat.ne_of_gt HP1.out.lt; clear hb)
    | (go_at_call 66; refine (h2 _).mono ?_; rintro e w2 ⟨rfl, hb⟩; (try (have RN : Hid (Row w2 _ [.string ⟨#[]⟩, .int .i64 0, .int .i64 0] 42 ∧ w.heap.size + 1 < _) := ⟨RB.out.1.later hb, RB.out.2⟩; clear RB; have RB := RN; clear RN)); (first | (have HB2 : Hid (Below w.heap.size w w2) := Below.after HB1.out hb; have HX2 : Hid (Row w2 (w.heap.size + 1) [.string ⟨#[]⟩, .int .i64 0, .int .i64 0] 42) := Row.later HX1.out hb; have HP2 : Hid (Row w2 w.heap.size [.string K, .string V, .bool false] 34) := Row.later HP1.out hb) | (have HB2 : Hid (Below w.heap.size w w2) := Below.after (Below.after HB1.out (below_new w1 (.cells #[.string ⟨#[]⟩, .int .i64 0, .int .i64 0] 42))) hb; have HX2 : Hid (Row w2 (w.heap.size + 1) [.string ⟨#[]⟩, .int .i64 0, .int .i64 0] 42) := Row.later (Row.alloc HX1.out (.cells #[.string ⟨#[]⟩, .int .i64 0, .int .i64 0] 42)) hb; have HP2 : Hid (Row w2 w.heap.size [.string K, .string V, .bool false] 34) := Row.later (Row.alloc HP1.out (.cells #[.string ⟨#[]⟩, .int .i64 0, .int .i64 0] 42)) hb; have RB : Hid (Row w2 w1.heap.size [.string ⟨#[]⟩, .int .i64 0, .int .i64 0] 42 ∧ w.heap.size + 1 < w1.heap.size) := ⟨(Row.new w1 [.string ⟨#[]⟩, .int .i64 0, .int .i64 0] 42).later hb, (HX1.out).lt⟩)); have hc2 : w2.cell? ⟨w.heap.size, 1, none⟩ = some (.string V) := HP2.out.cell (i := 1) rfl; have ll2 := HP2.out.lt; have n2 : w2.heap.size ≠ w.heap.size := Nat.ne_of_gt HP2.out.lt; (try (obtain ⟨m0, m1, m2, g0, g1, g2⟩ := RB.out.1.seen3; have lb := RB.out.2; have lb2 := RB.out.1.lt)); clear hb))
  all_goals
    go_wp2_with (go_at_call 27; refine (ho _).mono ?_; rintro e w9 ⟨rfl, hb⟩; (first | (have PX : Hid (Be w w9 _ [.string ⟨#[]⟩, .int .i64 0, .int .i64 0] [.string S, .int .i64 (f1 : Int), .int .i64 (f2 : Int)]) := boxEA RB.out.1 HX2.out RB.out.2 HB2.out hb) | (have PX : Hid (Be w w9 _ [.string ⟨#[]⟩, .int .i64 0, .int .i64 0] [.string S, .int .i64 (f1 : Int), .int .i64 (f2 : Int)]) := boxEB HX2.out HB2.out hb)); (try clear m0 m1 m2 g0 g1 g2); obtain ⟨m0, m1, m2, g0, g1, g2⟩ := PX.out.r2.seen3; obtain ⟨s0, s1, s2, _, _, _⟩ := PX.out.r3.seen3; have PY : Hid (Be w (w9.alloc (.cells #[.string EK, .string EV, .bool false] 34)) _ [.string ⟨#[]⟩, .int .i64 0, .int .i64 0] [.string S, .int .i64 (f1 : Int), .int .i64 (f2 : Int)]) := PX.out.later (below_new _ _); obtain ⟨o0, o1, o2, p0, p1, p2⟩ := PY.out.r2.seen3; obtain ⟨r0, r1, r2, _, _, _⟩ := PY.out.r3.seen3; clear hb)
    go_region
    all_goals
      go_wp2
      (try simp only [Exit.inBlock, Exit.then])
      refine bodyPost_ret (v := .tuple #[.int .i64 (dir : Int), .agg #[.string S, .int .i64 (f1 : Int), .int .i64 (f2 : Int)], .bool true]) ?_ rfl ⟨rfl, below_set3 (PY.out.bel.drew) (by omega) _ _ _⟩
      rw [results_tmp_cell_tmp rfl]
      go_simp

theorem kind2 {a b c : UInt8} {r : List UInt8} (h : (kindOf (a :: b :: c :: r)).1 = 2) : inoB ((kindOf (a :: b :: c :: r)).2.1 : Nat) = true := by
  simp only [kindOf] at h ⊢
  by_cases h1 : c.toNat = 1 ∧ inoB ((num2 a b : Nat) : Int) = true ∧ r = []
  · rw [if_pos h1] at h; cases h
  · rw [if_neg h1] at h ⊢
    by_cases h2 : c.toNat = 2 ∧ inoB ((num2 a b : Nat) : Int) = true ∧ nameB r = true
    · rw [if_pos h2]; exact h2.2.1
    · rw [if_neg h2] at h
      split at h
      · cases h
      · split at h <;> cases h
theorem rparseEntry_any (n : Nd) (hk : n.key.length ≤ maxLen) (w : World) :
    Calls Try.prog 33 #[n.v] w fun e w' => e = .returned (.tuple #[.int .i64 ((bif peOk n then (kindOf n.key).2.1 else 0 : Nat) : Int), (bif peOk n then vEn (kindOf n.key).2.2.1 n.val else En.zero).v, .bool (peOk n)]) ∧ Below w.heap.size w w' := by
  have hK := fun W => rkind_any n.key hk W
  have ho := fun W => rentry_any ((kindOf n.key).2.1 : Nat) (vEn (kindOf n.key).2.2.1 n.val) (Nat.le_trans (kindOf_name _) hk) W
  have hino : (kindOf n.key).1 = 2 → inoB ((kindOf n.key).2.1 : Nat) = true := by
    intro h
    obtain ⟨key, val, gone⟩ := n
    dsimp only at h ⊢
    match key with
    | [] => cases h
    | [a] => cases h
    | [a, b] => cases h
    | a :: b :: c :: r =>
      exact kind2 h
  obtain ⟨key, val, gone⟩ := n
  show Calls Try.prog 33 #[.agg #[.string (bs key), .string (bs val), .bool gone]] w _
  dsimp only at *
  unfold kvOf kv at hK
  unfold peOk
  dsimp only
  by_cases h1 : (kindOf key).1 = 2
  · cases gone
    · by_cases h2 : val.length = 3
      · rw [h1, decide_eq_true h2]
        have hv : vEn (kindOf key).2.2.1 val = ⟨(kindOf key).2.2.1, getL (nats (val.take 2)), getL (nats (val.drop 2))⟩ := by
          unfold vEn
          rw [numV_le (n := 2) (r := val) (by omega) (by decide), txR_le (by omega), numV_le (n := 1) (r := val.drop 2) (by rw [List.length_drop]; omega) (by decide), List.take_of_length_le (l := val.drop 2) (by rw [List.length_drop]; omega)]
        unfold enOk at ho
        rw [hino h1, Bool.true_and] at ho
        have g1 : ∀ W, Calls Try.prog 66 #[.string (bs (val.take 2))] W fun e w' => e = .returned (.int .i64 (getL (nats (val.take 2)) : Nat)) ∧ Below W.heap.size W w' := fun W => rget_any _ (by rw [List.length_take]; omega) W
        have g2 : ∀ W, Calls Try.prog 66 #[.string (bs (val.drop 2))] W fun e w' => e = .returned (.int .i64 (getL (nats (val.drop 2)) : Nat)) ∧ Below W.heap.size W w' := fun W => rget_any _ (by rw [List.length_drop]; omega) W
        have q1 : (bs val).extract 0 2 = bs (val.take 2) := by rw [bs_extract]; rfl
        have q2 : (bs val).extract 2 (bs val).size = bs (val.drop 2) := by rw [bs_extract, bs_size, List.take_of_length_le (by rw [List.length_drop]; omega)]
        cases h3 : (vEn (kindOf key).2.2.1 val).right
        · rw [h3] at ho
          rw [hv] at ho
          exact rpe_wrong _ _ _ _ _ _ _ _ _ _ _ _ hK h1 ((bs_size val).trans h2) q1 q2 g1 g2 ho w
        · rw [h3] at ho
          rw [hv] at ho ⊢
          exact rpe_yes _ _ _ _ _ _ _ _ _ _ _ _ hK h1 ((bs_size val).trans h2) q1 q2 g1 g2 ho w
      · rw [decide_eq_false h2, Bool.and_false, Bool.false_and]
        exact rpe_len _ _ _ _ _ _ hK h1 (by rw [bs_size]; simp; omega) w
    · exact rpe_gone _ _ _ _ _ _ hK h1 w
  · have e : ((kindOf key).1 == 2) = false := by simpa using h1
    rw [e, Bool.and_false, Bool.false_and, Bool.false_and]
    exact rpe_kind _ _ _ _ _ _ _ hK (by simp; omega) w
end Go.Proofs.Ytefpcdpclpignaa
