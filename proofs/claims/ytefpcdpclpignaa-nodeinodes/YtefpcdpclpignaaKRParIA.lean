/-
  The document's answer of ParseInode of layer 6.
-/
import Derived.Test.YtefpcdpclpignaaKRIno
import Derived.Test.YtefpcdpclpignaaKBackM
namespace Go.Proofs.Ytefpcdpclpignaa
open Go.RowKit M

/-- What lies in a box that was filled, in a result's box, and what else lay, behind a call. -/
structure Bx (w W : World) (g : Nat) (zs cs : List Value) : Prop where
  r2 : Row W (w.heap.size + 1) zs 32
  r3 : Row W g cs 32
  bel : Below w.heap.size w W
theorem set7_row {W : World} {g : Nat} {y0 y1 y2 y3 y4 y5 y6 x0 x1 x2 x3 x4 x5 x6 : Value} {t : TypeId} (h : Row W g [y0, y1, y2, y3, y4, y5, y6] t) : Row (((((((W.setCell ⟨g, 0, none⟩ x0).setCell ⟨g, 1, none⟩ x1).setCell ⟨g, 2, none⟩ x2).setCell ⟨g, 3, none⟩ x3).setCell ⟨g, 4, none⟩ x4).setCell ⟨g, 5, none⟩ x5).setCell ⟨g, 6, none⟩ x6) g [x0, x1, x2, x3, x4, x5, x6] t :=
  ((((((h.set (i := 0) x0 (by simp)).set (i := 1) x1 (by simp)).set (i := 2) x2 (by simp)).set (i := 3) x3 (by simp)).set (i := 4) x4 (by simp)).set (i := 5) x5 (by simp)).set (i := 6) x6 (by simp)
theorem set7_other {W : World} {g B : Nat} {x0 x1 x2 x3 x4 x5 x6 : Value} {cs : List Value} {t : TypeId} (h : Row W B cs t) (hne : B ≠ g) : Row (((((((W.setCell ⟨g, 0, none⟩ x0).setCell ⟨g, 1, none⟩ x1).setCell ⟨g, 2, none⟩ x2).setCell ⟨g, 3, none⟩ x3).setCell ⟨g, 4, none⟩ x4).setCell ⟨g, 5, none⟩ x5).setCell ⟨g, 6, none⟩ x6) B cs t :=
  ((((((h.other _ x0 hne).other _ x1 hne).other _ x2 hne).other _ x3 hne).other _ x4 hne).other _ x5 hne).other _ x6 hne
theorem boxA {w W w9 : World} {g : Nat} {zs : List Value} {y0 y1 y2 y3 y4 y5 y6 x0 x1 x2 x3 x4 x5 x6 : Value} (h3 : Row W g [y0, y1, y2, y3, y4, y5, y6] 32) (h2 : Row W (w.heap.size + 1) zs 32) (hg : w.heap.size + 1 < g) (hb0 : Below w.heap.size w W)
    (hb : Below (((((((W.setCell ⟨g, 0, none⟩ x0).setCell ⟨g, 1, none⟩ x1).setCell ⟨g, 2, none⟩ x2).setCell ⟨g, 3, none⟩ x3).setCell ⟨g, 4, none⟩ x4).setCell ⟨g, 5, none⟩ x5).setCell ⟨g, 6, none⟩ x6).heap.size (((((((W.setCell ⟨g, 0, none⟩ x0).setCell ⟨g, 1, none⟩ x1).setCell ⟨g, 2, none⟩ x2).setCell ⟨g, 3, none⟩ x3).setCell ⟨g, 4, none⟩ x4).setCell ⟨g, 5, none⟩ x5).setCell ⟨g, 6, none⟩ x6) w9) : Bx w w9 g zs [x0, x1, x2, x3, x4, x5, x6] :=
  ⟨(set7_other h2 (by omega)).later hb, (set7_row h3).later hb, Below.after (below_set7 hb0 (by omega) _ _ _ _ _ _ _) hb⟩
theorem boxB {w W w9 : World} {zs : List Value} {x0 x1 x2 x3 x4 x5 x6 : Value} (h2 : Row W (w.heap.size + 1) zs 32) (hb0 : Below w.heap.size w W)
    (hb : Below (W.alloc (.cells #[x0, x1, x2, x3, x4, x5, x6] 32)).heap.size (W.alloc (.cells #[x0, x1, x2, x3, x4, x5, x6] 32)) w9) : Bx w w9 W.heap.size zs [x0, x1, x2, x3, x4, x5, x6] :=
  ⟨(h2.alloc _).later hb, (Row.new W [x0, x1, x2, x3, x4, x5, x6] 32).later hb, Below.after (Below.after hb0 (below_new _ _)) hb⟩

set_option maxRecDepth 10000 in
set_option maxHeartbeats 2000000 in
theorem rpi_kind (K V S0 : ByteArray) (k ino : Nat) (b : Int) (g : Bool) (hK : ∀ W, Calls Try.prog 10 #[.string K] W fun e w' => e = .returned (.tuple #[.int .i64 (k : Int), .int .i64 (ino : Int), .string S0, .int .i64 b]) ∧ Below W.heap.size W w') (hk : ((k : Int) != 1) = true) (w : World) :
    Calls Try.prog 25 #[.agg #[.string K, .string V, .bool g]] w fun e w' => e = .returned (.tuple #[.agg #[.int .i64 0, .int .i64 0, .int .i64 0, .int .i64 0, .int .i64 0, .int .i64 0, .int .i64 0], .bool false]) ∧ Below w.heap.size w w' := by
  obtain ⟨W, hW⟩ : ∃ W, W = (w.alloc (.cells #[.string K, .string V, .bool g] 34)).alloc (.cells #[.int .i64 0, .int .i64 0, .int .i64 0, .int .i64 0, .int .i64 0, .int .i64 0, .int .i64 0] 32) := ⟨_, rfl⟩
  obtain ⟨hR1, hR2, hBW⟩ := two_boxes w [.string K, .string V, .bool g] [.int .i64 0, .int .i64 0, .int .i64 0, .int .i64 0, .int .i64 0, .int .i64 0, .int .i64 0] 34 32 W hW
  obtain ⟨x0, x1, x2, _, _, _⟩ := hR1.seen3
  have HBW : Hid (Below w.heap.size w W) := hBW
  have HR1 : Hid (Row W w.heap.size [.string K, .string V, .bool g] 34) := hR1
  have HR2 : Hid (Row W (w.heap.size + 1) [.int .i64 0, .int .i64 0, .int .i64 0, .int .i64 0, .int .i64 0, .int .i64 0, .int .i64 0] 32) := hR2
  clear hR1 hR2 hBW
  go_enter Try.func25, Try.ntmps25
  go_wp2_with fail
  rw [← hW]
  clear hW
  go_wp2_with (go_at_call 10; refine (hK _).mono ?_; rintro e w0 ⟨rfl, hb⟩; have HB0 : Hid (Below w.heap.size w w0) := Below.after HBW.out hb; have HX0 : Hid (Row w0 (w.heap.size + 1) [.int .i64 0, .int .i64 0, .int .i64 0, .int .i64 0, .int .i64 0, .int .i64 0, .int .i64 0] 32) := HR2.out.later hb; clear x0 x1 x2; obtain ⟨x0, x1, x2, _, _, _⟩ := (HR1.out.later hb).seen3; obtain ⟨⟨m0, m1, m2, m3, m4, m5, m6⟩, ⟨g0, g1, g2, g3, g4, g5, g6⟩⟩ := (HR2.out.later hb).seen7; clear hb)
  (try simp only [Exit.inBlock, Exit.then])
  refine bodyPost_ret (v := .tuple #[.agg #[.int .i64 0, .int .i64 0, .int .i64 0, .int .i64 0, .int .i64 0, .int .i64 0, .int .i64 0], .bool false]) ?_ rfl ⟨rfl, below_set7 HB0.out (by omega) _ _ _ _ _ _ _⟩
  rw [results_cell_tmp rfl]
  go_simp

set_option maxRecDepth 10000 in
set_option maxHeartbeats 2000000 in
theorem rpi_gone (K V S0 : ByteArray) (k ino : Nat) (b : Int) (hK : ∀ W, Calls Try.prog 10 #[.string K] W fun e w' => e = .returned (.tuple #[.int .i64 (k : Int), .int .i64 (ino : Int), .string S0, .int .i64 b]) ∧ Below W.heap.size W w') (hk : k = 1) (w : World) :
    Calls Try.prog 25 #[.agg #[.string K, .string V, .bool true]] w fun e w' => e = .returned (.tuple #[.agg #[.int .i64 0, .int .i64 0, .int .i64 0, .int .i64 0, .int .i64 0, .int .i64 0, .int .i64 0], .bool false]) ∧ Below w.heap.size w w' := by
  obtain ⟨W, hW⟩ : ∃ W, W = (w.alloc (.cells #[.string K, .string V, .bool true] 34)).alloc (.cells #[.int .i64 0, .int .i64 0, .int .i64 0, .int .i64 0, .int .i64 0, .int .i64 0, .int .i64 0] 32) := ⟨_, rfl⟩
  obtain ⟨hR1, hR2, hBW⟩ := two_boxes w [.string K, .string V, .bool true] [.int .i64 0, .int .i64 0, .int .i64 0, .int .i64 0, .int .i64 0, .int .i64 0, .int .i64 0] 34 32 W hW
  obtain ⟨x0, x1, x2, _, _, _⟩ := hR1.seen3
  have HBW : Hid (Below w.heap.size w W) := hBW
  have HR1 : Hid (Row W w.heap.size [.string K, .string V, .bool true] 34) := hR1
  have HR2 : Hid (Row W (w.heap.size + 1) [.int .i64 0, .int .i64 0, .int .i64 0, .int .i64 0, .int .i64 0, .int .i64 0, .int .i64 0] 32) := hR2
  clear hR1 hR2 hBW
  subst hk
  go_enter Try.func25, Try.ntmps25
  go_wp2_with fail
  rw [← hW]
  clear hW
  go_wp2_with (go_at_call 10; refine (hK _).mono ?_; rintro e w0 ⟨rfl, hb⟩; have HB0 : Hid (Below w.heap.size w w0) := Below.after HBW.out hb; have HX0 : Hid (Row w0 (w.heap.size + 1) [.int .i64 0, .int .i64 0, .int .i64 0, .int .i64 0, .int .i64 0, .int .i64 0, .int .i64 0] 32) := HR2.out.later hb; clear x0 x1 x2; obtain ⟨x0, x1, x2, _, _, _⟩ := (HR1.out.later hb).seen3; obtain ⟨⟨m0, m1, m2, m3, m4, m5, m6⟩, ⟨g0, g1, g2, g3, g4, g5, g6⟩⟩ := (HR2.out.later hb).seen7; clear hb)
  (try simp only [Exit.inBlock, Exit.then])
  refine bodyPost_ret (v := .tuple #[.agg #[.int .i64 0, .int .i64 0, .int .i64 0, .int .i64 0, .int .i64 0, .int .i64 0, .int .i64 0], .bool false]) ?_ rfl ⟨rfl, below_set7 HB0.out (by omega) _ _ _ _ _ _ _⟩
  rw [results_cell_tmp rfl]
  go_simp

set_option maxRecDepth 10000 in
set_option maxHeartbeats 2000000 in
theorem rpi_len (K V S0 : ByteArray) (k ino : Nat) (b : Int) (hK : ∀ W, Calls Try.prog 10 #[.string K] W fun e w' => e = .returned (.tuple #[.int .i64 (k : Int), .int .i64 (ino : Int), .string S0, .int .i64 b]) ∧ Below W.heap.size W w') (hk : k = 1) (hl : ((V.size : Int) != 13) = true) (w : World) :
    Calls Try.prog 25 #[.agg #[.string K, .string V, .bool false]] w fun e w' => e = .returned (.tuple #[.agg #[.int .i64 0, .int .i64 0, .int .i64 0, .int .i64 0, .int .i64 0, .int .i64 0, .int .i64 0], .bool false]) ∧ Below w.heap.size w w' := by
  obtain ⟨W, hW⟩ : ∃ W, W = (w.alloc (.cells #[.string K, .string V, .bool false] 34)).alloc (.cells #[.int .i64 0, .int .i64 0, .int .i64 0, .int .i64 0, .int .i64 0, .int .i64 0, .int .i64 0] 32) := ⟨_, rfl⟩
  obtain ⟨hR1, hR2, hBW⟩ := two_boxes w [.string K, .string V, .bool false] [.int .i64 0, .int .i64 0, .int .i64 0, .int .i64 0, .int .i64 0, .int .i64 0, .int .i64 0] 34 32 W hW
  obtain ⟨x0, x1, x2, _, _, _⟩ := hR1.seen3
  have HBW : Hid (Below w.heap.size w W) := hBW
  have HR1 : Hid (Row W w.heap.size [.string K, .string V, .bool false] 34) := hR1
  have HR2 : Hid (Row W (w.heap.size + 1) [.int .i64 0, .int .i64 0, .int .i64 0, .int .i64 0, .int .i64 0, .int .i64 0, .int .i64 0] 32) := hR2
  clear hR1 hR2 hBW
  subst hk
  go_enter Try.func25, Try.ntmps25
  go_wp2_with fail
  rw [← hW]
  clear hW
  go_wp2_with (go_at_call 10; refine (hK _).mono ?_; rintro e w0 ⟨rfl, hb⟩; have HB0 : Hid (Below w.heap.size w w0) := Below.after HBW.out hb; have HX0 : Hid (Row w0 (w.heap.size + 1) [.int .i64 0, .int .i64 0, .int .i64 0, .int .i64 0, .int .i64 0, .int .i64 0, .int .i64 0] 32) := HR2.out.later hb; clear x0 x1 x2; obtain ⟨x0, x1, x2, _, _, _⟩ := (HR1.out.later hb).seen3; obtain ⟨⟨m0, m1, m2, m3, m4, m5, m6⟩, ⟨g0, g1, g2, g3, g4, g5, g6⟩⟩ := (HR2.out.later hb).seen7; clear hb)
  (try simp only [Exit.inBlock, Exit.then])
  refine bodyPost_ret (v := .tuple #[.agg #[.int .i64 0, .int .i64 0, .int .i64 0, .int .i64 0, .int .i64 0, .int .i64 0, .int .i64 0], .bool false]) ?_ rfl ⟨rfl, below_set7 HB0.out (by omega) _ _ _ _ _ _ _⟩
  rw [results_cell_tmp rfl]
  go_simp

end Go.Proofs.Ytefpcdpclpignaa
