/-
  For all numbers and mappings: HeaderUnlike answers true (unlike counts and mappings have unlike images), and leaves its arguments as they were; given that the package's error variable holds what its initialiser lays (the card ties it). No other condition.
-/
import Derived.Test.YtdhbhjfpjmmonaaDoorHEq
namespace Go.Proofs.YtdhbhjfpjmmonaaDoor.headerUnlike
open Go.ChangeShapes Go.WideShapes Go.ChangeAt Go.RowKit M

set_option maxRecDepth 10000 in
set_option maxHeartbeats 4000000 in
theorem core_yy_yy (n k page a1 a2 a3 b1 b2 b3 : Int) (l1 l2 l3 l4 : List Nat) (n1 n2 n3 n4 : Nat) (w : World) (hg : Glb w) (r1 : (n == k) = decide (l1 = l2)) (r2 : (a1 == b1 && a2 == b2 && a3 == b3) = decide (l3 = l4))
    (c1 : ∀ w, Calls Tryd.prog 7 #[.int .i64 n, .int .i64 page] w (ResPost w l1 n1 0)) (c2 : ∀ w, Calls Tryd.prog 7 #[.int .i64 k, .int .i64 page] w (ResPost w l2 n2 0))
    (c3 : ∀ w, Calls Tryd.prog 9 #[.agg #[.int .i64 a1, .int .u64 a2, .int .i64 a3], .int .i64 page] w (ResPost w l3 n3 0)) (c4 : ∀ w, Calls Tryd.prog 9 #[.agg #[.int .i64 b1, .int .u64 b2, .int .i64 b3], .int .i64 page] w (ResPost w l4 n4 0)) :
    Calls Tryd.prog 6 #[.int .i64 n, .int .i64 k, .int .i64 page, .agg #[.int .i64 a1, .int .u64 a2, .int .i64 a3], .agg #[.int .i64 b1, .int .u64 b2, .int .i64 b3]] w fun e w' => e = .returned (.bool true) ∧ Below w.heap.size w w' := by
  have HR1 : Hid ((n == k) = decide (l1 = l2)) := r1
  clear r1
  have HR2 : Hid ((a1 == b1 && a2 == b2 && a3 == b3) = decide (l3 = l4)) := r2
  clear r2
  obtain ⟨W, hW⟩ : ∃ W, W = (w.alloc (.cells #[.int .i64 a1, .int .u64 a2, .int .i64 a3] 24)).alloc (.cells #[.int .i64 b1, .int .u64 b2, .int .i64 b3] 24) := ⟨_, rfl⟩
  have HB : Hid (Below w.heap.size w W) := by rw [hW]; exact Below.after (below_new _ _) (below_new _ _)
  have HA : Hid (Row W w.heap.size [.int .i64 a1, .int .u64 a2, .int .i64 a3] 24) := by rw [hW]; exact (Row.new w [_, _, _] _).alloc _
  have HBR : Hid (Row W (w.heap.size + 1) [.int .i64 b1, .int .u64 b2, .int .i64 b3] 24) := by
    rw [hW]
    have := Row.new (w.alloc (.cells #[.int .i64 a1, .int .u64 a2, .int .i64 a3] 24)) [.int .i64 b1, .int .u64 b2, .int .i64 b3] 24
    rw [size_new] at this
    exact this
  have HG : Hid (Glb w) := hg
  clear hg
  have M1 : Hid True := trivial
  have M2 : Hid True := trivial
  have M3 : Hid True := trivial
  go_enter Tryd.func6, Tryd.ntmps6
  go_wp2_with fail
  rw [← hW]
  clear hW
  go_wp2_with (first
    | (go_at_call 7; clear M1; refine (c1 _).mono ?_; rintro e w1 ⟨x1, y1, rfl, hl1, hb1, _⟩; have HL1 : Hid (Lies _ _ _ _ _) := hl1; have HB1 : Hid (Below W.heap.size W w1) := hb1; clear hl1 hb1)
    | (go_at_call 7; refine (c2 _).mono ?_; rintro e w2 ⟨x2, y2, rfl, hl2, hb2, _⟩; have HL2 : Hid (Lies _ _ _ _ _) := hl2; have HL12 : Hid (Lies w2 _ _ _ _) := HL1.out.later hb2; have HB2 : Hid (Below W.heap.size W w2) := Below.after HB1.out hb2; clear hl2 hb2; have hra := HA.out.later HB2.out; have d0 : w2.cell? ⟨w.heap.size, 0, none⟩ = some (.int .i64 a1) := hra.cell (i := 0) rfl; have d1 : w2.cell? ⟨w.heap.size, 1, none⟩ = some (.int .u64 a2) := hra.cell (i := 1) rfl; have d2 : w2.cell? ⟨w.heap.size, 2, none⟩ = some (.int .i64 a3) := hra.cell (i := 2) rfl; clear hra)
    | (go_at_call 9; clear M2 d0 d1 d2; refine (c3 _).mono ?_; rintro e w3 ⟨x3, y3, rfl, hl3, hb3, _⟩; have HL3 : Hid (Lies _ _ _ _ _) := hl3; have HL13 : Hid (Lies w3 _ _ _ _) := HL12.out.later hb3; have HL23 : Hid (Lies w3 _ _ _ _) := HL2.out.later hb3; have HB3 : Hid (Below W.heap.size W w3) := Below.after HB2.out hb3; clear hl3 hb3; have hra := HBR.out.later HB3.out; have d0 : w3.cell? ⟨w.heap.size + 1, 0, none⟩ = some (.int .i64 b1) := hra.cell (i := 0) rfl; have d1 : w3.cell? ⟨w.heap.size + 1, 1, none⟩ = some (.int .u64 b2) := hra.cell (i := 1) rfl; have d2 : w3.cell? ⟨w.heap.size + 1, 2, none⟩ = some (.int .i64 b3) := hra.cell (i := 2) rfl; clear hra)
    | (go_at_call 9; clear d0 d1 d2; refine (c4 _).mono ?_; rintro e w4 ⟨x4, y4, rfl, hl4, hb4, _⟩; have HL4 : Hid (Lies _ _ _ _ _) := hl4; have HL14 : Hid (Lies w4 _ _ _ _) := HL13.out.later hb4; have HL24 : Hid (Lies w4 _ _ _ _) := HL23.out.later hb4; have HL34 : Hid (Lies w4 _ _ _ _) := HL3.out.later hb4; have HB4 : Hid (Below W.heap.size W w4) := Below.after HB3.out hb4; clear hl4 hb4; have hra := HA.out.later HB4.out; have hrb := HBR.out.later HB4.out; have d0 : w4.cell? ⟨w.heap.size, 0, none⟩ = some (.int .i64 a1) := hra.cell (i := 0) rfl; have d1 : w4.cell? ⟨w.heap.size, 1, none⟩ = some (.int .u64 a2) := hra.cell (i := 1) rfl; have d2 : w4.cell? ⟨w.heap.size, 2, none⟩ = some (.int .i64 a3) := hra.cell (i := 2) rfl; have f0 : w4.cell? ⟨w.heap.size + 1, 0, none⟩ = some (.int .i64 b1) := hrb.cell (i := 0) rfl; have f1 : w4.cell? ⟨w.heap.size + 1, 1, none⟩ = some (.int .u64 b2) := hrb.cell (i := 1) rfl; have f2 : w4.cell? ⟨w.heap.size + 1, 2, none⟩ = some (.int .i64 b3) := hrb.cell (i := 2) rfl; clear hra hrb)
    | (go_at_call 11; clear M3; refine (same_res _ HL14.out HL24.out HR1.out).mono ?_; rintro e w' ⟨rfl, rfl⟩))
  have sE := eql_map
  go_region_held3 (fun w' => w'.cell? ⟨w.heap.size, 0, none⟩ = some (.int .i64 a1) ∧ w'.cell? ⟨w.heap.size, 1, none⟩ = some (.int .u64 a2) ∧ w'.cell? ⟨w.heap.size, 2, none⟩ = some (.int .i64 a3) ∧ w'.cell? ⟨w.heap.size + 1, 0, none⟩ = some (.int .i64 b1) ∧ w'.cell? ⟨w.heap.size + 1, 1, none⟩ = some (.int .u64 b2) ∧ w'.cell? ⟨w.heap.size + 1, 2, none⟩ = some (.int .i64 b3)) (first | assumption | go_keep)
    (first
    | (go_at_call 11; refine (same_res _ (HL34.out.later (below_drew _)) (HL4.out.later (below_drew _)) HR2.out).mono ?_; rintro e w' ⟨rfl, rfl⟩)
    | (go_at_call 12; refine (alive_any _ (HG.out.later (Below.after (Below.after HB.out HB4.out) (below_drew _)))).mono ?_; rintro e w5 ⟨rfl, hb5⟩; have hra := (HA.out.later (Below.after HB4.out (below_drew _))).later hb5; have hrb := (HBR.out.later (Below.after HB4.out (below_drew _))).later hb5; have hS5 : w5.cell? ⟨w.heap.size, 0, none⟩ = some (.int .i64 a1) ∧ w5.cell? ⟨w.heap.size, 1, none⟩ = some (.int .u64 a2) ∧ w5.cell? ⟨w.heap.size, 2, none⟩ = some (.int .i64 a3) ∧ w5.cell? ⟨w.heap.size + 1, 0, none⟩ = some (.int .i64 b1) ∧ w5.cell? ⟨w.heap.size + 1, 1, none⟩ = some (.int .u64 b2) ∧ w5.cell? ⟨w.heap.size + 1, 2, none⟩ = some (.int .i64 b3) := ⟨hra.cell (i := 0) rfl, hra.cell (i := 1) rfl, hra.cell (i := 2) rfl, hrb.cell (i := 0) rfl, hrb.cell (i := 1) rfl, hrb.cell (i := 2) rfl⟩; have HB5 : Hid (Below w.heap.size w w5) := Below.after (Below.after (Below.after HB.out HB4.out) (below_drew _)) hb5; clear hb5 hra hrb))
  all_goals go_wp2
  all_goals go_ret
  all_goals exact ⟨rfl, HB5.out⟩

set_option maxRecDepth 10000 in
set_option maxHeartbeats 4000000 in
theorem core_yy_yn (n k page a1 a2 a3 b1 b2 b3 : Int) (l1 l2 l3 l4 : List Nat) (n1 n2 n3 n4 : Nat) (w : World) (hg : Glb w) (r1 : (n == k) = decide (l1 = l2))
    (c1 : ∀ w, Calls Tryd.prog 7 #[.int .i64 n, .int .i64 page] w (ResPost w l1 n1 0)) (c2 : ∀ w, Calls Tryd.prog 7 #[.int .i64 k, .int .i64 page] w (ResPost w l2 n2 0))
    (c3 : ∀ w, Calls Tryd.prog 9 #[.agg #[.int .i64 a1, .int .u64 a2, .int .i64 a3], .int .i64 page] w (ResPost w l3 n3 0)) (c4 : ∀ w, Calls Tryd.prog 9 #[.agg #[.int .i64 b1, .int .u64 b2, .int .i64 b3], .int .i64 page] w (ResPost w l4 n4 22)) :
    Calls Tryd.prog 6 #[.int .i64 n, .int .i64 k, .int .i64 page, .agg #[.int .i64 a1, .int .u64 a2, .int .i64 a3], .agg #[.int .i64 b1, .int .u64 b2, .int .i64 b3]] w fun e w' => e = .returned (.bool true) ∧ Below w.heap.size w w' := by
  have HR1 : Hid ((n == k) = decide (l1 = l2)) := r1
  clear r1
  obtain ⟨W, hW⟩ : ∃ W, W = (w.alloc (.cells #[.int .i64 a1, .int .u64 a2, .int .i64 a3] 24)).alloc (.cells #[.int .i64 b1, .int .u64 b2, .int .i64 b3] 24) := ⟨_, rfl⟩
  have HB : Hid (Below w.heap.size w W) := by rw [hW]; exact Below.after (below_new _ _) (below_new _ _)
  have HA : Hid (Row W w.heap.size [.int .i64 a1, .int .u64 a2, .int .i64 a3] 24) := by rw [hW]; exact (Row.new w [_, _, _] _).alloc _
  have HBR : Hid (Row W (w.heap.size + 1) [.int .i64 b1, .int .u64 b2, .int .i64 b3] 24) := by
    rw [hW]
    have := Row.new (w.alloc (.cells #[.int .i64 a1, .int .u64 a2, .int .i64 a3] 24)) [.int .i64 b1, .int .u64 b2, .int .i64 b3] 24
    rw [size_new] at this
    exact this
  have HG : Hid (Glb w) := hg
  clear hg
  have M1 : Hid True := trivial
  have M2 : Hid True := trivial
  have M3 : Hid True := trivial
  go_enter Tryd.func6, Tryd.ntmps6
  go_wp2_with fail
  rw [← hW]
  clear hW
  go_wp2_with (first
    | (go_at_call 7; clear M1; refine (c1 _).mono ?_; rintro e w1 ⟨x1, y1, rfl, hl1, hb1, _⟩; have HL1 : Hid (Lies _ _ _ _ _) := hl1; have HB1 : Hid (Below W.heap.size W w1) := hb1; clear hl1 hb1)
    | (go_at_call 7; refine (c2 _).mono ?_; rintro e w2 ⟨x2, y2, rfl, hl2, hb2, _⟩; have HL2 : Hid (Lies _ _ _ _ _) := hl2; have HL12 : Hid (Lies w2 _ _ _ _) := HL1.out.later hb2; have HB2 : Hid (Below W.heap.size W w2) := Below.after HB1.out hb2; clear hl2 hb2; have hra := HA.out.later HB2.out; have d0 : w2.cell? ⟨w.heap.size, 0, none⟩ = some (.int .i64 a1) := hra.cell (i := 0) rfl; have d1 : w2.cell? ⟨w.heap.size, 1, none⟩ = some (.int .u64 a2) := hra.cell (i := 1) rfl; have d2 : w2.cell? ⟨w.heap.size, 2, none⟩ = some (.int .i64 a3) := hra.cell (i := 2) rfl; clear hra)
    | (go_at_call 9; clear M2 d0 d1 d2; refine (c3 _).mono ?_; rintro e w3 ⟨x3, y3, rfl, hl3, hb3, _⟩; have HL3 : Hid (Lies _ _ _ _ _) := hl3; have HL13 : Hid (Lies w3 _ _ _ _) := HL12.out.later hb3; have HL23 : Hid (Lies w3 _ _ _ _) := HL2.out.later hb3; have HB3 : Hid (Below W.heap.size W w3) := Below.after HB2.out hb3; clear hl3 hb3; have hra := HBR.out.later HB3.out; have d0 : w3.cell? ⟨w.heap.size + 1, 0, none⟩ = some (.int .i64 b1) := hra.cell (i := 0) rfl; have d1 : w3.cell? ⟨w.heap.size + 1, 1, none⟩ = some (.int .u64 b2) := hra.cell (i := 1) rfl; have d2 : w3.cell? ⟨w.heap.size + 1, 2, none⟩ = some (.int .i64 b3) := hra.cell (i := 2) rfl; clear hra)
    | (go_at_call 9; clear d0 d1 d2; refine (c4 _).mono ?_; rintro e w4 ⟨x4, y4, rfl, hl4, hb4, _⟩; have HL4 : Hid (Lies _ _ _ _ _) := hl4; have HL14 : Hid (Lies w4 _ _ _ _) := HL13.out.later hb4; have HL24 : Hid (Lies w4 _ _ _ _) := HL23.out.later hb4; have HL34 : Hid (Lies w4 _ _ _ _) := HL3.out.later hb4; have HB4 : Hid (Below W.heap.size W w4) := Below.after HB3.out hb4; clear hl4 hb4; have hra := HA.out.later HB4.out; have hrb := HBR.out.later HB4.out; have d0 : w4.cell? ⟨w.heap.size, 0, none⟩ = some (.int .i64 a1) := hra.cell (i := 0) rfl; have d1 : w4.cell? ⟨w.heap.size, 1, none⟩ = some (.int .u64 a2) := hra.cell (i := 1) rfl; have d2 : w4.cell? ⟨w.heap.size, 2, none⟩ = some (.int .i64 a3) := hra.cell (i := 2) rfl; have f0 : w4.cell? ⟨w.heap.size + 1, 0, none⟩ = some (.int .i64 b1) := hrb.cell (i := 0) rfl; have f1 : w4.cell? ⟨w.heap.size + 1, 1, none⟩ = some (.int .u64 b2) := hrb.cell (i := 1) rfl; have f2 : w4.cell? ⟨w.heap.size + 1, 2, none⟩ = some (.int .i64 b3) := hrb.cell (i := 2) rfl; clear hra hrb)
    | (go_at_call 11; clear M3; refine (same_res _ HL14.out HL24.out HR1.out).mono ?_; rintro e w' ⟨rfl, rfl⟩))
  have cA := alive_wd (HG.out.later (Below.after HB.out HB4.out))
  have ne : Nonempty (Wd w4) := ⟨⟨w4, Below.refl _ _⟩⟩
  refine quiet_below (by kernel_rfl) ?_
  repeat (first | go_big_quiet_skip | go_big_quiet_step (first | (go_at_call 12; exact cA _)))
  refine wpQuiet_nil ?_
  rintro _ ⟨p5, rfl⟩
  have HB5 : Hid (Below w.heap.size w p5.v) := Below.after (Below.after HB.out HB4.out) p5.h
  clear cA ne
  go_wp2
  go_ret
  exact ⟨rfl, HB5.out⟩

set_option maxRecDepth 10000 in
set_option maxHeartbeats 4000000 in
theorem core_yy_n (n k page a1 a2 a3 b1 b2 b3 : Int) (E4 : Int) (l1 l2 l3 l4 : List Nat) (n1 n2 n3 n4 : Nat) (w : World) (hg : Glb w) (r1 : (n == k) = decide (l1 = l2))
    (c1 : ∀ w, Calls Tryd.prog 7 #[.int .i64 n, .int .i64 page] w (ResPost w l1 n1 0)) (c2 : ∀ w, Calls Tryd.prog 7 #[.int .i64 k, .int .i64 page] w (ResPost w l2 n2 0))
    (c3 : ∀ w, Calls Tryd.prog 9 #[.agg #[.int .i64 a1, .int .u64 a2, .int .i64 a3], .int .i64 page] w (ResPost w l3 n3 22)) (c4 : ∀ w, Calls Tryd.prog 9 #[.agg #[.int .i64 b1, .int .u64 b2, .int .i64 b3], .int .i64 page] w (ResPost w l4 n4 E4)) :
    Calls Tryd.prog 6 #[.int .i64 n, .int .i64 k, .int .i64 page, .agg #[.int .i64 a1, .int .u64 a2, .int .i64 a3], .agg #[.int .i64 b1, .int .u64 b2, .int .i64 b3]] w fun e w' => e = .returned (.bool true) ∧ Below w.heap.size w w' := by
  have HR1 : Hid ((n == k) = decide (l1 = l2)) := r1
  clear r1
  obtain ⟨W, hW⟩ : ∃ W, W = (w.alloc (.cells #[.int .i64 a1, .int .u64 a2, .int .i64 a3] 24)).alloc (.cells #[.int .i64 b1, .int .u64 b2, .int .i64 b3] 24) := ⟨_, rfl⟩
  have HB : Hid (Below w.heap.size w W) := by rw [hW]; exact Below.after (below_new _ _) (below_new _ _)
  have HA : Hid (Row W w.heap.size [.int .i64 a1, .int .u64 a2, .int .i64 a3] 24) := by rw [hW]; exact (Row.new w [_, _, _] _).alloc _
  have HBR : Hid (Row W (w.heap.size + 1) [.int .i64 b1, .int .u64 b2, .int .i64 b3] 24) := by
    rw [hW]
    have := Row.new (w.alloc (.cells #[.int .i64 a1, .int .u64 a2, .int .i64 a3] 24)) [.int .i64 b1, .int .u64 b2, .int .i64 b3] 24
    rw [size_new] at this
    exact this
  have HG : Hid (Glb w) := hg
  clear hg
  have M1 : Hid True := trivial
  have M2 : Hid True := trivial
  have M3 : Hid True := trivial
  go_enter Tryd.func6, Tryd.ntmps6
  go_wp2_with fail
  rw [← hW]
  clear hW
  go_wp2_with (first
    | (go_at_call 7; clear M1; refine (c1 _).mono ?_; rintro e w1 ⟨x1, y1, rfl, hl1, hb1, _⟩; have HL1 : Hid (Lies _ _ _ _ _) := hl1; have HB1 : Hid (Below W.heap.size W w1) := hb1; clear hl1 hb1)
    | (go_at_call 7; refine (c2 _).mono ?_; rintro e w2 ⟨x2, y2, rfl, hl2, hb2, _⟩; have HL2 : Hid (Lies _ _ _ _ _) := hl2; have HL12 : Hid (Lies w2 _ _ _ _) := HL1.out.later hb2; have HB2 : Hid (Below W.heap.size W w2) := Below.after HB1.out hb2; clear hl2 hb2; have hra := HA.out.later HB2.out; have d0 : w2.cell? ⟨w.heap.size, 0, none⟩ = some (.int .i64 a1) := hra.cell (i := 0) rfl; have d1 : w2.cell? ⟨w.heap.size, 1, none⟩ = some (.int .u64 a2) := hra.cell (i := 1) rfl; have d2 : w2.cell? ⟨w.heap.size, 2, none⟩ = some (.int .i64 a3) := hra.cell (i := 2) rfl; clear hra)
    | (go_at_call 9; clear M2 d0 d1 d2; refine (c3 _).mono ?_; rintro e w3 ⟨x3, y3, rfl, hl3, hb3, _⟩; have HL3 : Hid (Lies _ _ _ _ _) := hl3; have HL13 : Hid (Lies w3 _ _ _ _) := HL12.out.later hb3; have HL23 : Hid (Lies w3 _ _ _ _) := HL2.out.later hb3; have HB3 : Hid (Below W.heap.size W w3) := Below.after HB2.out hb3; clear hl3 hb3; have hra := HBR.out.later HB3.out; have d0 : w3.cell? ⟨w.heap.size + 1, 0, none⟩ = some (.int .i64 b1) := hra.cell (i := 0) rfl; have d1 : w3.cell? ⟨w.heap.size + 1, 1, none⟩ = some (.int .u64 b2) := hra.cell (i := 1) rfl; have d2 : w3.cell? ⟨w.heap.size + 1, 2, none⟩ = some (.int .i64 b3) := hra.cell (i := 2) rfl; clear hra)
    | (go_at_call 9; clear d0 d1 d2; refine (c4 _).mono ?_; rintro e w4 ⟨x4, y4, rfl, hl4, hb4, _⟩; have HL4 : Hid (Lies _ _ _ _ _) := hl4; have HL14 : Hid (Lies w4 _ _ _ _) := HL13.out.later hb4; have HL24 : Hid (Lies w4 _ _ _ _) := HL23.out.later hb4; have HL34 : Hid (Lies w4 _ _ _ _) := HL3.out.later hb4; have HB4 : Hid (Below W.heap.size W w4) := Below.after HB3.out hb4; clear hl4 hb4; have hra := HA.out.later HB4.out; have hrb := HBR.out.later HB4.out; have d0 : w4.cell? ⟨w.heap.size, 0, none⟩ = some (.int .i64 a1) := hra.cell (i := 0) rfl; have d1 : w4.cell? ⟨w.heap.size, 1, none⟩ = some (.int .u64 a2) := hra.cell (i := 1) rfl; have d2 : w4.cell? ⟨w.heap.size, 2, none⟩ = some (.int .i64 a3) := hra.cell (i := 2) rfl; have f0 : w4.cell? ⟨w.heap.size + 1, 0, none⟩ = some (.int .i64 b1) := hrb.cell (i := 0) rfl; have f1 : w4.cell? ⟨w.heap.size + 1, 1, none⟩ = some (.int .u64 b2) := hrb.cell (i := 1) rfl; have f2 : w4.cell? ⟨w.heap.size + 1, 2, none⟩ = some (.int .i64 b3) := hrb.cell (i := 2) rfl; clear hra hrb)
    | (go_at_call 11; clear M3; refine (same_res _ HL14.out HL24.out HR1.out).mono ?_; rintro e w' ⟨rfl, rfl⟩))
  have cA := alive_wd (HG.out.later (Below.after HB.out HB4.out))
  have ne : Nonempty (Wd w4) := ⟨⟨w4, Below.refl _ _⟩⟩
  refine quiet_below (by kernel_rfl) ?_
  repeat (first | go_big_quiet_skip | go_big_quiet_step (first | (go_at_call 12; exact cA _)))
  refine wpQuiet_nil ?_
  rintro _ ⟨p5, rfl⟩
  have HB5 : Hid (Below w.heap.size w p5.v) := Below.after (Below.after HB.out HB4.out) p5.h
  clear cA ne
  go_wp2
  go_ret
  exact ⟨rfl, HB5.out⟩

set_option maxRecDepth 10000 in
set_option maxHeartbeats 4000000 in
theorem core_yn_yy (n k page a1 a2 a3 b1 b2 b3 : Int) (l1 l2 l3 l4 : List Nat) (n1 n2 n3 n4 : Nat) (w : World) (hg : Glb w) (r2 : (a1 == b1 && a2 == b2 && a3 == b3) = decide (l3 = l4))
    (c1 : ∀ w, Calls Tryd.prog 7 #[.int .i64 n, .int .i64 page] w (ResPost w l1 n1 0)) (c2 : ∀ w, Calls Tryd.prog 7 #[.int .i64 k, .int .i64 page] w (ResPost w l2 n2 22))
    (c3 : ∀ w, Calls Tryd.prog 9 #[.agg #[.int .i64 a1, .int .u64 a2, .int .i64 a3], .int .i64 page] w (ResPost w l3 n3 0)) (c4 : ∀ w, Calls Tryd.prog 9 #[.agg #[.int .i64 b1, .int .u64 b2, .int .i64 b3], .int .i64 page] w (ResPost w l4 n4 0)) :
    Calls Tryd.prog 6 #[.int .i64 n, .int .i64 k, .int .i64 page, .agg #[.int .i64 a1, .int .u64 a2, .int .i64 a3], .agg #[.int .i64 b1, .int .u64 b2, .int .i64 b3]] w fun e w' => e = .returned (.bool true) ∧ Below w.heap.size w w' := by
  have HR2 : Hid ((a1 == b1 && a2 == b2 && a3 == b3) = decide (l3 = l4)) := r2
  clear r2
  obtain ⟨W, hW⟩ : ∃ W, W = (w.alloc (.cells #[.int .i64 a1, .int .u64 a2, .int .i64 a3] 24)).alloc (.cells #[.int .i64 b1, .int .u64 b2, .int .i64 b3] 24) := ⟨_, rfl⟩
  have HB : Hid (Below w.heap.size w W) := by rw [hW]; exact Below.after (below_new _ _) (below_new _ _)
  have HA : Hid (Row W w.heap.size [.int .i64 a1, .int .u64 a2, .int .i64 a3] 24) := by rw [hW]; exact (Row.new w [_, _, _] _).alloc _
  have HBR : Hid (Row W (w.heap.size + 1) [.int .i64 b1, .int .u64 b2, .int .i64 b3] 24) := by
    rw [hW]
    have := Row.new (w.alloc (.cells #[.int .i64 a1, .int .u64 a2, .int .i64 a3] 24)) [.int .i64 b1, .int .u64 b2, .int .i64 b3] 24
    rw [size_new] at this
    exact this
  have HG : Hid (Glb w) := hg
  clear hg
  have M1 : Hid True := trivial
  have M2 : Hid True := trivial
  go_enter Tryd.func6, Tryd.ntmps6
  go_wp2_with fail
  rw [← hW]
  clear hW
  go_wp2_with (first
    | (go_at_call 7; clear M1; refine (c1 _).mono ?_; rintro e w1 ⟨x1, y1, rfl, hl1, hb1, _⟩; have HL1 : Hid (Lies _ _ _ _ _) := hl1; have HB1 : Hid (Below W.heap.size W w1) := hb1; clear hl1 hb1)
    | (go_at_call 7; refine (c2 _).mono ?_; rintro e w2 ⟨x2, y2, rfl, hl2, hb2, _⟩; have HL2 : Hid (Lies _ _ _ _ _) := hl2; have HL12 : Hid (Lies w2 _ _ _ _) := HL1.out.later hb2; have HB2 : Hid (Below W.heap.size W w2) := Below.after HB1.out hb2; clear hl2 hb2; have hra := HA.out.later HB2.out; have d0 : w2.cell? ⟨w.heap.size, 0, none⟩ = some (.int .i64 a1) := hra.cell (i := 0) rfl; have d1 : w2.cell? ⟨w.heap.size, 1, none⟩ = some (.int .u64 a2) := hra.cell (i := 1) rfl; have d2 : w2.cell? ⟨w.heap.size, 2, none⟩ = some (.int .i64 a3) := hra.cell (i := 2) rfl; clear hra)
    | (go_at_call 9; clear M2 d0 d1 d2; refine (c3 _).mono ?_; rintro e w3 ⟨x3, y3, rfl, hl3, hb3, _⟩; have HL3 : Hid (Lies _ _ _ _ _) := hl3; have HL13 : Hid (Lies w3 _ _ _ _) := HL12.out.later hb3; have HL23 : Hid (Lies w3 _ _ _ _) := HL2.out.later hb3; have HB3 : Hid (Below W.heap.size W w3) := Below.after HB2.out hb3; clear hl3 hb3; have hra := HBR.out.later HB3.out; have d0 : w3.cell? ⟨w.heap.size + 1, 0, none⟩ = some (.int .i64 b1) := hra.cell (i := 0) rfl; have d1 : w3.cell? ⟨w.heap.size + 1, 1, none⟩ = some (.int .u64 b2) := hra.cell (i := 1) rfl; have d2 : w3.cell? ⟨w.heap.size + 1, 2, none⟩ = some (.int .i64 b3) := hra.cell (i := 2) rfl; clear hra)
    | (go_at_call 9; clear d0 d1 d2; refine (c4 _).mono ?_; rintro e w4 ⟨x4, y4, rfl, hl4, hb4, _⟩; have HL4 : Hid (Lies _ _ _ _ _) := hl4; have HL14 : Hid (Lies w4 _ _ _ _) := HL13.out.later hb4; have HL24 : Hid (Lies w4 _ _ _ _) := HL23.out.later hb4; have HL34 : Hid (Lies w4 _ _ _ _) := HL3.out.later hb4; have HB4 : Hid (Below W.heap.size W w4) := Below.after HB3.out hb4; clear hl4 hb4; have hra := HA.out.later HB4.out; have hrb := HBR.out.later HB4.out; have d0 : w4.cell? ⟨w.heap.size, 0, none⟩ = some (.int .i64 a1) := hra.cell (i := 0) rfl; have d1 : w4.cell? ⟨w.heap.size, 1, none⟩ = some (.int .u64 a2) := hra.cell (i := 1) rfl; have d2 : w4.cell? ⟨w.heap.size, 2, none⟩ = some (.int .i64 a3) := hra.cell (i := 2) rfl; have f0 : w4.cell? ⟨w.heap.size + 1, 0, none⟩ = some (.int .i64 b1) := hrb.cell (i := 0) rfl; have f1 : w4.cell? ⟨w.heap.size + 1, 1, none⟩ = some (.int .u64 b2) := hrb.cell (i := 1) rfl; have f2 : w4.cell? ⟨w.heap.size + 1, 2, none⟩ = some (.int .i64 b3) := hrb.cell (i := 2) rfl; clear hra hrb))
  have sE := eql_map
  go_region_held3 (fun w' => w'.cell? ⟨w.heap.size, 0, none⟩ = some (.int .i64 a1) ∧ w'.cell? ⟨w.heap.size, 1, none⟩ = some (.int .u64 a2) ∧ w'.cell? ⟨w.heap.size, 2, none⟩ = some (.int .i64 a3) ∧ w'.cell? ⟨w.heap.size + 1, 0, none⟩ = some (.int .i64 b1) ∧ w'.cell? ⟨w.heap.size + 1, 1, none⟩ = some (.int .u64 b2) ∧ w'.cell? ⟨w.heap.size + 1, 2, none⟩ = some (.int .i64 b3)) (first | assumption | go_keep)
    (first
    | (go_at_call 11; refine (same_res _ (HL34.out.later (below_drew _)) (HL4.out.later (below_drew _)) HR2.out).mono ?_; rintro e w' ⟨rfl, rfl⟩)
    | (go_at_call 12; refine (alive_any _ (HG.out.later (Below.after (Below.after HB.out HB4.out) (below_drew _)))).mono ?_; rintro e w5 ⟨rfl, hb5⟩; have hra := (HA.out.later (Below.after HB4.out (below_drew _))).later hb5; have hrb := (HBR.out.later (Below.after HB4.out (below_drew _))).later hb5; have hS5 : w5.cell? ⟨w.heap.size, 0, none⟩ = some (.int .i64 a1) ∧ w5.cell? ⟨w.heap.size, 1, none⟩ = some (.int .u64 a2) ∧ w5.cell? ⟨w.heap.size, 2, none⟩ = some (.int .i64 a3) ∧ w5.cell? ⟨w.heap.size + 1, 0, none⟩ = some (.int .i64 b1) ∧ w5.cell? ⟨w.heap.size + 1, 1, none⟩ = some (.int .u64 b2) ∧ w5.cell? ⟨w.heap.size + 1, 2, none⟩ = some (.int .i64 b3) := ⟨hra.cell (i := 0) rfl, hra.cell (i := 1) rfl, hra.cell (i := 2) rfl, hrb.cell (i := 0) rfl, hrb.cell (i := 1) rfl, hrb.cell (i := 2) rfl⟩; have HB5 : Hid (Below w.heap.size w w5) := Below.after (Below.after (Below.after HB.out HB4.out) (below_drew _)) hb5; clear hb5 hra hrb))
  all_goals go_wp2
  all_goals go_ret
  all_goals exact ⟨rfl, HB5.out⟩

set_option maxRecDepth 10000 in
set_option maxHeartbeats 4000000 in
theorem core_yn_yn (n k page a1 a2 a3 b1 b2 b3 : Int) (l1 l2 l3 l4 : List Nat) (n1 n2 n3 n4 : Nat) (w : World) (hg : Glb w)
    (c1 : ∀ w, Calls Tryd.prog 7 #[.int .i64 n, .int .i64 page] w (ResPost w l1 n1 0)) (c2 : ∀ w, Calls Tryd.prog 7 #[.int .i64 k, .int .i64 page] w (ResPost w l2 n2 22))
    (c3 : ∀ w, Calls Tryd.prog 9 #[.agg #[.int .i64 a1, .int .u64 a2, .int .i64 a3], .int .i64 page] w (ResPost w l3 n3 0)) (c4 : ∀ w, Calls Tryd.prog 9 #[.agg #[.int .i64 b1, .int .u64 b2, .int .i64 b3], .int .i64 page] w (ResPost w l4 n4 22)) :
    Calls Tryd.prog 6 #[.int .i64 n, .int .i64 k, .int .i64 page, .agg #[.int .i64 a1, .int .u64 a2, .int .i64 a3], .agg #[.int .i64 b1, .int .u64 b2, .int .i64 b3]] w fun e w' => e = .returned (.bool true) ∧ Below w.heap.size w w' := by
  obtain ⟨W, hW⟩ : ∃ W, W = (w.alloc (.cells #[.int .i64 a1, .int .u64 a2, .int .i64 a3] 24)).alloc (.cells #[.int .i64 b1, .int .u64 b2, .int .i64 b3] 24) := ⟨_, rfl⟩
  have HB : Hid (Below w.heap.size w W) := by rw [hW]; exact Below.after (below_new _ _) (below_new _ _)
  have HA : Hid (Row W w.heap.size [.int .i64 a1, .int .u64 a2, .int .i64 a3] 24) := by rw [hW]; exact (Row.new w [_, _, _] _).alloc _
  have HBR : Hid (Row W (w.heap.size + 1) [.int .i64 b1, .int .u64 b2, .int .i64 b3] 24) := by
    rw [hW]
    have := Row.new (w.alloc (.cells #[.int .i64 a1, .int .u64 a2, .int .i64 a3] 24)) [.int .i64 b1, .int .u64 b2, .int .i64 b3] 24
    rw [size_new] at this
    exact this
  have HG : Hid (Glb w) := hg
  clear hg
  have M1 : Hid True := trivial
  have M2 : Hid True := trivial
  go_enter Tryd.func6, Tryd.ntmps6
  go_wp2_with fail
  rw [← hW]
  clear hW
  go_wp2_with (first
    | (go_at_call 7; clear M1; refine (c1 _).mono ?_; rintro e w1 ⟨x1, y1, rfl, hl1, hb1, _⟩; have HL1 : Hid (Lies _ _ _ _ _) := hl1; have HB1 : Hid (Below W.heap.size W w1) := hb1; clear hl1 hb1)
    | (go_at_call 7; refine (c2 _).mono ?_; rintro e w2 ⟨x2, y2, rfl, hl2, hb2, _⟩; have HL2 : Hid (Lies _ _ _ _ _) := hl2; have HL12 : Hid (Lies w2 _ _ _ _) := HL1.out.later hb2; have HB2 : Hid (Below W.heap.size W w2) := Below.after HB1.out hb2; clear hl2 hb2; have hra := HA.out.later HB2.out; have d0 : w2.cell? ⟨w.heap.size, 0, none⟩ = some (.int .i64 a1) := hra.cell (i := 0) rfl; have d1 : w2.cell? ⟨w.heap.size, 1, none⟩ = some (.int .u64 a2) := hra.cell (i := 1) rfl; have d2 : w2.cell? ⟨w.heap.size, 2, none⟩ = some (.int .i64 a3) := hra.cell (i := 2) rfl; clear hra)
    | (go_at_call 9; clear M2 d0 d1 d2; refine (c3 _).mono ?_; rintro e w3 ⟨x3, y3, rfl, hl3, hb3, _⟩; have HL3 : Hid (Lies _ _ _ _ _) := hl3; have HL13 : Hid (Lies w3 _ _ _ _) := HL12.out.later hb3; have HL23 : Hid (Lies w3 _ _ _ _) := HL2.out.later hb3; have HB3 : Hid (Below W.heap.size W w3) := Below.after HB2.out hb3; clear hl3 hb3; have hra := HBR.out.later HB3.out; have d0 : w3.cell? ⟨w.heap.size + 1, 0, none⟩ = some (.int .i64 b1) := hra.cell (i := 0) rfl; have d1 : w3.cell? ⟨w.heap.size + 1, 1, none⟩ = some (.int .u64 b2) := hra.cell (i := 1) rfl; have d2 : w3.cell? ⟨w.heap.size + 1, 2, none⟩ = some (.int .i64 b3) := hra.cell (i := 2) rfl; clear hra)
    | (go_at_call 9; clear d0 d1 d2; refine (c4 _).mono ?_; rintro e w4 ⟨x4, y4, rfl, hl4, hb4, _⟩; have HL4 : Hid (Lies _ _ _ _ _) := hl4; have HL14 : Hid (Lies w4 _ _ _ _) := HL13.out.later hb4; have HL24 : Hid (Lies w4 _ _ _ _) := HL23.out.later hb4; have HL34 : Hid (Lies w4 _ _ _ _) := HL3.out.later hb4; have HB4 : Hid (Below W.heap.size W w4) := Below.after HB3.out hb4; clear hl4 hb4; have hra := HA.out.later HB4.out; have hrb := HBR.out.later HB4.out; have d0 : w4.cell? ⟨w.heap.size, 0, none⟩ = some (.int .i64 a1) := hra.cell (i := 0) rfl; have d1 : w4.cell? ⟨w.heap.size, 1, none⟩ = some (.int .u64 a2) := hra.cell (i := 1) rfl; have d2 : w4.cell? ⟨w.heap.size, 2, none⟩ = some (.int .i64 a3) := hra.cell (i := 2) rfl; have f0 : w4.cell? ⟨w.heap.size + 1, 0, none⟩ = some (.int .i64 b1) := hrb.cell (i := 0) rfl; have f1 : w4.cell? ⟨w.heap.size + 1, 1, none⟩ = some (.int .u64 b2) := hrb.cell (i := 1) rfl; have f2 : w4.cell? ⟨w.heap.size + 1, 2, none⟩ = some (.int .i64 b3) := hrb.cell (i := 2) rfl; clear hra hrb))
  have cA := alive_wd (HG.out.later (Below.after HB.out HB4.out))
  have ne : Nonempty (Wd w4) := ⟨⟨w4, Below.refl _ _⟩⟩
  refine quiet_below (by kernel_rfl) ?_
  repeat (first | go_big_quiet_skip | go_big_quiet_step (first | (go_at_call 12; exact cA _)))
  refine wpQuiet_nil ?_
  rintro _ ⟨p5, rfl⟩
  have HB5 : Hid (Below w.heap.size w p5.v) := Below.after (Below.after HB.out HB4.out) p5.h
  clear cA ne
  go_wp2
  go_ret
  exact ⟨rfl, HB5.out⟩

set_option maxRecDepth 10000 in
set_option maxHeartbeats 4000000 in
theorem core_yn_n (n k page a1 a2 a3 b1 b2 b3 : Int) (E4 : Int) (l1 l2 l3 l4 : List Nat) (n1 n2 n3 n4 : Nat) (w : World) (hg : Glb w)
    (c1 : ∀ w, Calls Tryd.prog 7 #[.int .i64 n, .int .i64 page] w (ResPost w l1 n1 0)) (c2 : ∀ w, Calls Tryd.prog 7 #[.int .i64 k, .int .i64 page] w (ResPost w l2 n2 22))
    (c3 : ∀ w, Calls Tryd.prog 9 #[.agg #[.int .i64 a1, .int .u64 a2, .int .i64 a3], .int .i64 page] w (ResPost w l3 n3 22)) (c4 : ∀ w, Calls Tryd.prog 9 #[.agg #[.int .i64 b1, .int .u64 b2, .int .i64 b3], .int .i64 page] w (ResPost w l4 n4 E4)) :
    Calls Tryd.prog 6 #[.int .i64 n, .int .i64 k, .int .i64 page, .agg #[.int .i64 a1, .int .u64 a2, .int .i64 a3], .agg #[.int .i64 b1, .int .u64 b2, .int .i64 b3]] w fun e w' => e = .returned (.bool true) ∧ Below w.heap.size w w' := by
  obtain ⟨W, hW⟩ : ∃ W, W = (w.alloc (.cells #[.int .i64 a1, .int .u64 a2, .int .i64 a3] 24)).alloc (.cells #[.int .i64 b1, .int .u64 b2, .int .i64 b3] 24) := ⟨_, rfl⟩
  have HB : Hid (Below w.heap.size w W) := by rw [hW]; exact Below.after (below_new _ _) (below_new _ _)
  have HA : Hid (Row W w.heap.size [.int .i64 a1, .int .u64 a2, .int .i64 a3] 24) := by rw [hW]; exact (Row.new w [_, _, _] _).alloc _
  have HBR : Hid (Row W (w.heap.size + 1) [.int .i64 b1, .int .u64 b2, .int .i64 b3] 24) := by
    rw [hW]
    have := Row.new (w.alloc (.cells #[.int .i64 a1, .int .u64 a2, .int .i64 a3] 24)) [.int .i64 b1, .int .u64 b2, .int .i64 b3] 24
    rw [size_new] at this
    exact this
  have HG : Hid (Glb w) := hg
  clear hg
  have M1 : Hid True := trivial
  have M2 : Hid True := trivial
  go_enter Tryd.func6, Tryd.ntmps6
  go_wp2_with fail
  rw [← hW]
  clear hW
  go_wp2_with (first
    | (go_at_call 7; clear M1; refine (c1 _).mono ?_; rintro e w1 ⟨x1, y1, rfl, hl1, hb1, _⟩; have HL1 : Hid (Lies _ _ _ _ _) := hl1; have HB1 : Hid (Below W.heap.size W w1) := hb1; clear hl1 hb1)
    | (go_at_call 7; refine (c2 _).mono ?_; rintro e w2 ⟨x2, y2, rfl, hl2, hb2, _⟩; have HL2 : Hid (Lies _ _ _ _ _) := hl2; have HL12 : Hid (Lies w2 _ _ _ _) := HL1.out.later hb2; have HB2 : Hid (Below W.heap.size W w2) := Below.after HB1.out hb2; clear hl2 hb2; have hra := HA.out.later HB2.out; have d0 : w2.cell? ⟨w.heap.size, 0, none⟩ = some (.int .i64 a1) := hra.cell (i := 0) rfl; have d1 : w2.cell? ⟨w.heap.size, 1, none⟩ = some (.int .u64 a2) := hra.cell (i := 1) rfl; have d2 : w2.cell? ⟨w.heap.size, 2, none⟩ = some (.int .i64 a3) := hra.cell (i := 2) rfl; clear hra)
    | (go_at_call 9; clear M2 d0 d1 d2; refine (c3 _).mono ?_; rintro e w3 ⟨x3, y3, rfl, hl3, hb3, _⟩; have HL3 : Hid (Lies _ _ _ _ _) := hl3; have HL13 : Hid (Lies w3 _ _ _ _) := HL12.out.later hb3; have HL23 : Hid (Lies w3 _ _ _ _) := HL2.out.later hb3; have HB3 : Hid (Below W.heap.size W w3) := Below.after HB2.out hb3; clear hl3 hb3; have hra := HBR.out.later HB3.out; have d0 : w3.cell? ⟨w.heap.size + 1, 0, none⟩ = some (.int .i64 b1) := hra.cell (i := 0) rfl; have d1 : w3.cell? ⟨w.heap.size + 1, 1, none⟩ = some (.int .u64 b2) := hra.cell (i := 1) rfl; have d2 : w3.cell? ⟨w.heap.size + 1, 2, none⟩ = some (.int .i64 b3) := hra.cell (i := 2) rfl; clear hra)
    | (go_at_call 9; clear d0 d1 d2; refine (c4 _).mono ?_; rintro e w4 ⟨x4, y4, rfl, hl4, hb4, _⟩; have HL4 : Hid (Lies _ _ _ _ _) := hl4; have HL14 : Hid (Lies w4 _ _ _ _) := HL13.out.later hb4; have HL24 : Hid (Lies w4 _ _ _ _) := HL23.out.later hb4; have HL34 : Hid (Lies w4 _ _ _ _) := HL3.out.later hb4; have HB4 : Hid (Below W.heap.size W w4) := Below.after HB3.out hb4; clear hl4 hb4; have hra := HA.out.later HB4.out; have hrb := HBR.out.later HB4.out; have d0 : w4.cell? ⟨w.heap.size, 0, none⟩ = some (.int .i64 a1) := hra.cell (i := 0) rfl; have d1 : w4.cell? ⟨w.heap.size, 1, none⟩ = some (.int .u64 a2) := hra.cell (i := 1) rfl; have d2 : w4.cell? ⟨w.heap.size, 2, none⟩ = some (.int .i64 a3) := hra.cell (i := 2) rfl; have f0 : w4.cell? ⟨w.heap.size + 1, 0, none⟩ = some (.int .i64 b1) := hrb.cell (i := 0) rfl; have f1 : w4.cell? ⟨w.heap.size + 1, 1, none⟩ = some (.int .u64 b2) := hrb.cell (i := 1) rfl; have f2 : w4.cell? ⟨w.heap.size + 1, 2, none⟩ = some (.int .i64 b3) := hrb.cell (i := 2) rfl; clear hra hrb))
  have cA := alive_wd (HG.out.later (Below.after HB.out HB4.out))
  have ne : Nonempty (Wd w4) := ⟨⟨w4, Below.refl _ _⟩⟩
  refine quiet_below (by kernel_rfl) ?_
  repeat (first | go_big_quiet_skip | go_big_quiet_step (first | (go_at_call 12; exact cA _)))
  refine wpQuiet_nil ?_
  rintro _ ⟨p5, rfl⟩
  have HB5 : Hid (Below w.heap.size w p5.v) := Below.after (Below.after HB.out HB4.out) p5.h
  clear cA ne
  go_wp2
  go_ret
  exact ⟨rfl, HB5.out⟩

set_option maxRecDepth 10000 in
set_option maxHeartbeats 4000000 in
theorem core_n_yy (n k page a1 a2 a3 b1 b2 b3 : Int) (E2 : Int) (l1 l2 l3 l4 : List Nat) (n1 n2 n3 n4 : Nat) (w : World) (hg : Glb w) (r2 : (a1 == b1 && a2 == b2 && a3 == b3) = decide (l3 = l4))
    (c1 : ∀ w, Calls Tryd.prog 7 #[.int .i64 n, .int .i64 page] w (ResPost w l1 n1 22)) (c2 : ∀ w, Calls Tryd.prog 7 #[.int .i64 k, .int .i64 page] w (ResPost w l2 n2 E2))
    (c3 : ∀ w, Calls Tryd.prog 9 #[.agg #[.int .i64 a1, .int .u64 a2, .int .i64 a3], .int .i64 page] w (ResPost w l3 n3 0)) (c4 : ∀ w, Calls Tryd.prog 9 #[.agg #[.int .i64 b1, .int .u64 b2, .int .i64 b3], .int .i64 page] w (ResPost w l4 n4 0)) :
    Calls Tryd.prog 6 #[.int .i64 n, .int .i64 k, .int .i64 page, .agg #[.int .i64 a1, .int .u64 a2, .int .i64 a3], .agg #[.int .i64 b1, .int .u64 b2, .int .i64 b3]] w fun e w' => e = .returned (.bool true) ∧ Below w.heap.size w w' := by
  have HR2 : Hid ((a1 == b1 && a2 == b2 && a3 == b3) = decide (l3 = l4)) := r2
  clear r2
  obtain ⟨W, hW⟩ : ∃ W, W = (w.alloc (.cells #[.int .i64 a1, .int .u64 a2, .int .i64 a3] 24)).alloc (.cells #[.int .i64 b1, .int .u64 b2, .int .i64 b3] 24) := ⟨_, rfl⟩
  have HB : Hid (Below w.heap.size w W) := by rw [hW]; exact Below.after (below_new _ _) (below_new _ _)
  have HA : Hid (Row W w.heap.size [.int .i64 a1, .int .u64 a2, .int .i64 a3] 24) := by rw [hW]; exact (Row.new w [_, _, _] _).alloc _
  have HBR : Hid (Row W (w.heap.size + 1) [.int .i64 b1, .int .u64 b2, .int .i64 b3] 24) := by
    rw [hW]
    have := Row.new (w.alloc (.cells #[.int .i64 a1, .int .u64 a2, .int .i64 a3] 24)) [.int .i64 b1, .int .u64 b2, .int .i64 b3] 24
    rw [size_new] at this
    exact this
  have HG : Hid (Glb w) := hg
  clear hg
  have M1 : Hid True := trivial
  have M2 : Hid True := trivial
  go_enter Tryd.func6, Tryd.ntmps6
  go_wp2_with fail
  rw [← hW]
  clear hW
  go_wp2_with (first
    | (go_at_call 7; clear M1; refine (c1 _).mono ?_; rintro e w1 ⟨x1, y1, rfl, hl1, hb1, _⟩; have HL1 : Hid (Lies _ _ _ _ _) := hl1; have HB1 : Hid (Below W.heap.size W w1) := hb1; clear hl1 hb1)
    | (go_at_call 7; refine (c2 _).mono ?_; rintro e w2 ⟨x2, y2, rfl, hl2, hb2, _⟩; have HL2 : Hid (Lies _ _ _ _ _) := hl2; have HL12 : Hid (Lies w2 _ _ _ _) := HL1.out.later hb2; have HB2 : Hid (Below W.heap.size W w2) := Below.after HB1.out hb2; clear hl2 hb2; have hra := HA.out.later HB2.out; have d0 : w2.cell? ⟨w.heap.size, 0, none⟩ = some (.int .i64 a1) := hra.cell (i := 0) rfl; have d1 : w2.cell? ⟨w.heap.size, 1, none⟩ = some (.int .u64 a2) := hra.cell (i := 1) rfl; have d2 : w2.cell? ⟨w.heap.size, 2, none⟩ = some (.int .i64 a3) := hra.cell (i := 2) rfl; clear hra)
    | (go_at_call 9; clear M2 d0 d1 d2; refine (c3 _).mono ?_; rintro e w3 ⟨x3, y3, rfl, hl3, hb3, _⟩; have HL3 : Hid (Lies _ _ _ _ _) := hl3; have HL13 : Hid (Lies w3 _ _ _ _) := HL12.out.later hb3; have HL23 : Hid (Lies w3 _ _ _ _) := HL2.out.later hb3; have HB3 : Hid (Below W.heap.size W w3) := Below.after HB2.out hb3; clear hl3 hb3; have hra := HBR.out.later HB3.out; have d0 : w3.cell? ⟨w.heap.size + 1, 0, none⟩ = some (.int .i64 b1) := hra.cell (i := 0) rfl; have d1 : w3.cell? ⟨w.heap.size + 1, 1, none⟩ = some (.int .u64 b2) := hra.cell (i := 1) rfl; have d2 : w3.cell? ⟨w.heap.size + 1, 2, none⟩ = some (.int .i64 b3) := hra.cell (i := 2) rfl; clear hra)
    | (go_at_call 9; clear d0 d1 d2; refine (c4 _).mono ?_; rintro e w4 ⟨x4, y4, rfl, hl4, hb4, _⟩; have HL4 : Hid (Lies _ _ _ _ _) := hl4; have HL14 : Hid (Lies w4 _ _ _ _) := HL13.out.later hb4; have HL24 : Hid (Lies w4 _ _ _ _) := HL23.out.later hb4; have HL34 : Hid (Lies w4 _ _ _ _) := HL3.out.later hb4; have HB4 : Hid (Below W.heap.size W w4) := Below.after HB3.out hb4; clear hl4 hb4; have hra := HA.out.later HB4.out; have hrb := HBR.out.later HB4.out; have d0 : w4.cell? ⟨w.heap.size, 0, none⟩ = some (.int .i64 a1) := hra.cell (i := 0) rfl; have d1 : w4.cell? ⟨w.heap.size, 1, none⟩ = some (.int .u64 a2) := hra.cell (i := 1) rfl; have d2 : w4.cell? ⟨w.heap.size, 2, none⟩ = some (.int .i64 a3) := hra.cell (i := 2) rfl; have f0 : w4.cell? ⟨w.heap.size + 1, 0, none⟩ = some (.int .i64 b1) := hrb.cell (i := 0) rfl; have f1 : w4.cell? ⟨w.heap.size + 1, 1, none⟩ = some (.int .u64 b2) := hrb.cell (i := 1) rfl; have f2 : w4.cell? ⟨w.heap.size + 1, 2, none⟩ = some (.int .i64 b3) := hrb.cell (i := 2) rfl; clear hra hrb))
  have sE := eql_map
  go_region_held3 (fun w' => w'.cell? ⟨w.heap.size, 0, none⟩ = some (.int .i64 a1) ∧ w'.cell? ⟨w.heap.size, 1, none⟩ = some (.int .u64 a2) ∧ w'.cell? ⟨w.heap.size, 2, none⟩ = some (.int .i64 a3) ∧ w'.cell? ⟨w.heap.size + 1, 0, none⟩ = some (.int .i64 b1) ∧ w'.cell? ⟨w.heap.size + 1, 1, none⟩ = some (.int .u64 b2) ∧ w'.cell? ⟨w.heap.size + 1, 2, none⟩ = some (.int .i64 b3)) (first | assumption | go_keep)
    (first
    | (go_at_call 11; refine (same_res _ (HL34.out.later (below_drew _)) (HL4.out.later (below_drew _)) HR2.out).mono ?_; rintro e w' ⟨rfl, rfl⟩)
    | (go_at_call 12; refine (alive_any _ (HG.out.later (Below.after (Below.after HB.out HB4.out) (below_drew _)))).mono ?_; rintro e w5 ⟨rfl, hb5⟩; have hra := (HA.out.later (Below.after HB4.out (below_drew _))).later hb5; have hrb := (HBR.out.later (Below.after HB4.out (below_drew _))).later hb5; have hS5 : w5.cell? ⟨w.heap.size, 0, none⟩ = some (.int .i64 a1) ∧ w5.cell? ⟨w.heap.size, 1, none⟩ = some (.int .u64 a2) ∧ w5.cell? ⟨w.heap.size, 2, none⟩ = some (.int .i64 a3) ∧ w5.cell? ⟨w.heap.size + 1, 0, none⟩ = some (.int .i64 b1) ∧ w5.cell? ⟨w.heap.size + 1, 1, none⟩ = some (.int .u64 b2) ∧ w5.cell? ⟨w.heap.size + 1, 2, none⟩ = some (.int .i64 b3) := ⟨hra.cell (i := 0) rfl, hra.cell (i := 1) rfl, hra.cell (i := 2) rfl, hrb.cell (i := 0) rfl, hrb.cell (i := 1) rfl, hrb.cell (i := 2) rfl⟩; have HB5 : Hid (Below w.heap.size w w5) := Below.after (Below.after (Below.after HB.out HB4.out) (below_drew _)) hb5; clear hb5 hra hrb))
  all_goals go_wp2
  all_goals go_ret
  all_goals exact ⟨rfl, HB5.out⟩

set_option maxRecDepth 10000 in
set_option maxHeartbeats 4000000 in
theorem core_n_yn (n k page a1 a2 a3 b1 b2 b3 : Int) (E2 : Int) (l1 l2 l3 l4 : List Nat) (n1 n2 n3 n4 : Nat) (w : World) (hg : Glb w)
    (c1 : ∀ w, Calls Tryd.prog 7 #[.int .i64 n, .int .i64 page] w (ResPost w l1 n1 22)) (c2 : ∀ w, Calls Tryd.prog 7 #[.int .i64 k, .int .i64 page] w (ResPost w l2 n2 E2))
    (c3 : ∀ w, Calls Tryd.prog 9 #[.agg #[.int .i64 a1, .int .u64 a2, .int .i64 a3], .int .i64 page] w (ResPost w l3 n3 0)) (c4 : ∀ w, Calls Tryd.prog 9 #[.agg #[.int .i64 b1, .int .u64 b2, .int .i64 b3], .int .i64 page] w (ResPost w l4 n4 22)) :
    Calls Tryd.prog 6 #[.int .i64 n, .int .i64 k, .int .i64 page, .agg #[.int .i64 a1, .int .u64 a2, .int .i64 a3], .agg #[.int .i64 b1, .int .u64 b2, .int .i64 b3]] w fun e w' => e = .returned (.bool true) ∧ Below w.heap.size w w' := by
  obtain ⟨W, hW⟩ : ∃ W, W = (w.alloc (.cells #[.int .i64 a1, .int .u64 a2, .int .i64 a3] 24)).alloc (.cells #[.int .i64 b1, .int .u64 b2, .int .i64 b3] 24) := ⟨_, rfl⟩
  have HB : Hid (Below w.heap.size w W) := by rw [hW]; exact Below.after (below_new _ _) (below_new _ _)
  have HA : Hid (Row W w.heap.size [.int .i64 a1, .int .u64 a2, .int .i64 a3] 24) := by rw [hW]; exact (Row.new w [_, _, _] _).alloc _
  have HBR : Hid (Row W (w.heap.size + 1) [.int .i64 b1, .int .u64 b2, .int .i64 b3] 24) := by
    rw [hW]
    have := Row.new (w.alloc (.cells #[.int .i64 a1, .int .u64 a2, .int .i64 a3] 24)) [.int .i64 b1, .int .u64 b2, .int .i64 b3] 24
    rw [size_new] at this
    exact this
  have HG : Hid (Glb w) := hg
  clear hg
  have M1 : Hid True := trivial
  have M2 : Hid True := trivial
  go_enter Tryd.func6, Tryd.ntmps6
  go_wp2_with fail
  rw [← hW]
  clear hW
  go_wp2_with (first
    | (go_at_call 7; clear M1; refine (c1 _).mono ?_; rintro e w1 ⟨x1, y1, rfl, hl1, hb1, _⟩; have HL1 : Hid (Lies _ _ _ _ _) := hl1; have HB1 : Hid (Below W.heap.size W w1) := hb1; clear hl1 hb1)
    | (go_at_call 7; refine (c2 _).mono ?_; rintro e w2 ⟨x2, y2, rfl, hl2, hb2, _⟩; have HL2 : Hid (Lies _ _ _ _ _) := hl2; have HL12 : Hid (Lies w2 _ _ _ _) := HL1.out.later hb2; have HB2 : Hid (Below W.heap.size W w2) := Below.after HB1.out hb2; clear hl2 hb2; have hra := HA.out.later HB2.out; have d0 : w2.cell? ⟨w.heap.size, 0, none⟩ = some (.int .i64 a1) := hra.cell (i := 0) rfl; have d1 : w2.cell? ⟨w.heap.size, 1, none⟩ = some (.int .u64 a2) := hra.cell (i := 1) rfl; have d2 : w2.cell? ⟨w.heap.size, 2, none⟩ = some (.int .i64 a3) := hra.cell (i := 2) rfl; clear hra)
    | (go_at_call 9; clear M2 d0 d1 d2; refine (c3 _).mono ?_; rintro e w3 ⟨x3, y3, rfl, hl3, hb3, _⟩; have HL3 : Hid (Lies _ _ _ _ _) := hl3; have HL13 : Hid (Lies w3 _ _ _ _) := HL12.out.later hb3; have HL23 : Hid (Lies w3 _ _ _ _) := HL2.out.later hb3; have HB3 : Hid (Below W.heap.size W w3) := Below.after HB2.out hb3; clear hl3 hb3; have hra := HBR.out.later HB3.out; have d0 : w3.cell? ⟨w.heap.size + 1, 0, none⟩ = some (.int .i64 b1) := hra.cell (i := 0) rfl; have d1 : w3.cell? ⟨w.heap.size + 1, 1, none⟩ = some (.int .u64 b2) := hra.cell (i := 1) rfl; have d2 : w3.cell? ⟨w.heap.size + 1, 2, none⟩ = some (.int .i64 b3) := hra.cell (i := 2) rfl; clear hra)
    | (go_at_call 9; clear d0 d1 d2; refine (c4 _).mono ?_; rintro e w4 ⟨x4, y4, rfl, hl4, hb4, _⟩; have HL4 : Hid (Lies _ _ _ _ _) := hl4; have HL14 : Hid (Lies w4 _ _ _ _) := HL13.out.later hb4; have HL24 : Hid (Lies w4 _ _ _ _) := HL23.out.later hb4; have HL34 : Hid (Lies w4 _ _ _ _) := HL3.out.later hb4; have HB4 : Hid (Below W.heap.size W w4) := Below.after HB3.out hb4; clear hl4 hb4; have hra := HA.out.later HB4.out; have hrb := HBR.out.later HB4.out; have d0 : w4.cell? ⟨w.heap.size, 0, none⟩ = some (.int .i64 a1) := hra.cell (i := 0) rfl; have d1 : w4.cell? ⟨w.heap.size, 1, none⟩ = some (.int .u64 a2) := hra.cell (i := 1) rfl; have d2 : w4.cell? ⟨w.heap.size, 2, none⟩ = some (.int .i64 a3) := hra.cell (i := 2) rfl; have f0 : w4.cell? ⟨w.heap.size + 1, 0, none⟩ = some (.int .i64 b1) := hrb.cell (i := 0) rfl; have f1 : w4.cell? ⟨w.heap.size + 1, 1, none⟩ = some (.int .u64 b2) := hrb.cell (i := 1) rfl; have f2 : w4.cell? ⟨w.heap.size + 1, 2, none⟩ = some (.int .i64 b3) := hrb.cell (i := 2) rfl; clear hra hrb))
  have cA := alive_wd (HG.out.later (Below.after HB.out HB4.out))
  have ne : Nonempty (Wd w4) := ⟨⟨w4, Below.refl _ _⟩⟩
  refine quiet_below (by kernel_rfl) ?_
  repeat (first | go_big_quiet_skip | go_big_quiet_step (first | (go_at_call 12; exact cA _)))
  refine wpQuiet_nil ?_
  rintro _ ⟨p5, rfl⟩
  have HB5 : Hid (Below w.heap.size w p5.v) := Below.after (Below.after HB.out HB4.out) p5.h
  clear cA ne
  go_wp2
  go_ret
  exact ⟨rfl, HB5.out⟩

set_option maxRecDepth 10000 in
set_option maxHeartbeats 4000000 in
theorem core_n_n (n k page a1 a2 a3 b1 b2 b3 : Int) (E2 : Int) (E4 : Int) (l1 l2 l3 l4 : List Nat) (n1 n2 n3 n4 : Nat) (w : World) (hg : Glb w)
    (c1 : ∀ w, Calls Tryd.prog 7 #[.int .i64 n, .int .i64 page] w (ResPost w l1 n1 22)) (c2 : ∀ w, Calls Tryd.prog 7 #[.int .i64 k, .int .i64 page] w (ResPost w l2 n2 E2))
    (c3 : ∀ w, Calls Tryd.prog 9 #[.agg #[.int .i64 a1, .int .u64 a2, .int .i64 a3], .int .i64 page] w (ResPost w l3 n3 22)) (c4 : ∀ w, Calls Tryd.prog 9 #[.agg #[.int .i64 b1, .int .u64 b2, .int .i64 b3], .int .i64 page] w (ResPost w l4 n4 E4)) :
    Calls Tryd.prog 6 #[.int .i64 n, .int .i64 k, .int .i64 page, .agg #[.int .i64 a1, .int .u64 a2, .int .i64 a3], .agg #[.int .i64 b1, .int .u64 b2, .int .i64 b3]] w fun e w' => e = .returned (.bool true) ∧ Below w.heap.size w w' := by
  obtain ⟨W, hW⟩ : ∃ W, W = (w.alloc (.cells #[.int .i64 a1, .int .u64 a2, .int .i64 a3] 24)).alloc (.cells #[.int .i64 b1, .int .u64 b2, .int .i64 b3] 24) := ⟨_, rfl⟩
  have HB : Hid (Below w.heap.size w W) := by rw [hW]; exact Below.after (below_new _ _) (below_new _ _)
  have HA : Hid (Row W w.heap.size [.int .i64 a1, .int .u64 a2, .int .i64 a3] 24) := by rw [hW]; exact (Row.new w [_, _, _] _).alloc _
  have HBR : Hid (Row W (w.heap.size + 1) [.int .i64 b1, .int .u64 b2, .int .i64 b3] 24) := by
    rw [hW]
    have := Row.new (w.alloc (.cells #[.int .i64 a1, .int .u64 a2, .int .i64 a3] 24)) [.int .i64 b1, .int .u64 b2, .int .i64 b3] 24
    rw [size_new] at this
    exact this
  have HG : Hid (Glb w) := hg
  clear hg
  have M1 : Hid True := trivial
  have M2 : Hid True := trivial
  go_enter Tryd.func6, Tryd.ntmps6
  go_wp2_with fail
  rw [← hW]
  clear hW
  go_wp2_with (first
    | (go_at_call 7; clear M1; refine (c1 _).mono ?_; rintro e w1 ⟨x1, y1, rfl, hl1, hb1, _⟩; have HL1 : Hid (Lies _ _ _ _ _) := hl1; have HB1 : Hid (Below W.heap.size W w1) := hb1; clear hl1 hb1)
    | (go_at_call 7; refine (c2 _).mono ?_; rintro e w2 ⟨x2, y2, rfl, hl2, hb2, _⟩; have HL2 : Hid (Lies _ _ _ _ _) := hl2; have HL12 : Hid (Lies w2 _ _ _ _) := HL1.out.later hb2; have HB2 : Hid (Below W.heap.size W w2) := Below.after HB1.out hb2; clear hl2 hb2; have hra := HA.out.later HB2.out; have d0 : w2.cell? ⟨w.heap.size, 0, none⟩ = some (.int .i64 a1) := hra.cell (i := 0) rfl; have d1 : w2.cell? ⟨w.heap.size, 1, none⟩ = some (.int .u64 a2) := hra.cell (i := 1) rfl; have d2 : w2.cell? ⟨w.heap.size, 2, none⟩ = some (.int .i64 a3) := hra.cell (i := 2) rfl; clear hra)
    | (go_at_call 9; clear M2 d0 d1 d2; refine (c3 _).mono ?_; rintro e w3 ⟨x3, y3, rfl, hl3, hb3, _⟩; have HL3 : Hid (Lies _ _ _ _ _) := hl3; have HL13 : Hid (Lies w3 _ _ _ _) := HL12.out.later hb3; have HL23 : Hid (Lies w3 _ _ _ _) := HL2.out.later hb3; have HB3 : Hid (Below W.heap.size W w3) := Below.after HB2.out hb3; clear hl3 hb3; have hra := HBR.out.later HB3.out; have d0 : w3.cell? ⟨w.heap.size + 1, 0, none⟩ = some (.int .i64 b1) := hra.cell (i := 0) rfl; have d1 : w3.cell? ⟨w.heap.size + 1, 1, none⟩ = some (.int .u64 b2) := hra.cell (i := 1) rfl; have d2 : w3.cell? ⟨w.heap.size + 1, 2, none⟩ = some (.int .i64 b3) := hra.cell (i := 2) rfl; clear hra)
    | (go_at_call 9; clear d0 d1 d2; refine (c4 _).mono ?_; rintro e w4 ⟨x4, y4, rfl, hl4, hb4, _⟩; have HL4 : Hid (Lies _ _ _ _ _) := hl4; have HL14 : Hid (Lies w4 _ _ _ _) := HL13.out.later hb4; have HL24 : Hid (Lies w4 _ _ _ _) := HL23.out.later hb4; have HL34 : Hid (Lies w4 _ _ _ _) := HL3.out.later hb4; have HB4 : Hid (Below W.heap.size W w4) := Below.after HB3.out hb4; clear hl4 hb4; have hra := HA.out.later HB4.out; have hrb := HBR.out.later HB4.out; have d0 : w4.cell? ⟨w.heap.size, 0, none⟩ = some (.int .i64 a1) := hra.cell (i := 0) rfl; have d1 : w4.cell? ⟨w.heap.size, 1, none⟩ = some (.int .u64 a2) := hra.cell (i := 1) rfl; have d2 : w4.cell? ⟨w.heap.size, 2, none⟩ = some (.int .i64 a3) := hra.cell (i := 2) rfl; have f0 : w4.cell? ⟨w.heap.size + 1, 0, none⟩ = some (.int .i64 b1) := hrb.cell (i := 0) rfl; have f1 : w4.cell? ⟨w.heap.size + 1, 1, none⟩ = some (.int .u64 b2) := hrb.cell (i := 1) rfl; have f2 : w4.cell? ⟨w.heap.size + 1, 2, none⟩ = some (.int .i64 b3) := hrb.cell (i := 2) rfl; clear hra hrb))
  have cA := alive_wd (HG.out.later (Below.after HB.out HB4.out))
  have ne : Nonempty (Wd w4) := ⟨⟨w4, Below.refl _ _⟩⟩
  refine quiet_below (by kernel_rfl) ?_
  repeat (first | go_big_quiet_skip | go_big_quiet_step (first | (go_at_call 12; exact cA _)))
  refine wpQuiet_nil ?_
  rintro _ ⟨p5, rfl⟩
  have HB5 : Hid (Below w.heap.size w p5.v) := Below.after (Below.after HB.out HB4.out) p5.h
  clear cA ne
  go_wp2
  go_ret
  exact ⟨rfl, HB5.out⟩

theorem walk (n k page a1 a2 a3 b1 b2 b3 : Int) (w : World) (hg : Glb w) (_hn : -9223372036854775808 ≤ n ∧ n ≤ 9223372036854775807) (_hk : -9223372036854775808 ≤ k ∧ k ≤ 9223372036854775807) (_hp : -9223372036854775808 ≤ page ∧ page ≤ 9223372036854775807)
    (_ha1 : -9223372036854775808 ≤ a1 ∧ a1 ≤ 9223372036854775807) (ha2 : 0 ≤ a2 ∧ a2 ≤ 18446744073709551615) (_ha3 : -9223372036854775808 ≤ a3 ∧ a3 ≤ 9223372036854775807)
    (_hb1 : -9223372036854775808 ≤ b1 ∧ b1 ≤ 9223372036854775807) (hb2 : 0 ≤ b2 ∧ b2 ≤ 18446744073709551615) (_hb3 : -9223372036854775808 ≤ b3 ∧ b3 ≤ 9223372036854775807) :
    Calls Tryd.prog 6 #[.int .i64 n, .int .i64 k, .int .i64 page, .agg #[.int .i64 a1, .int .u64 a2, .int .i64 a3], .agg #[.int .i64 b1, .int .u64 b2, .int .i64 b3]] w fun e w' => e = .returned (.bool true) ∧ Below w.heap.size w w' := by
  have c1 := fun w => count_res n page w
  have c2 := fun w => count_res k page w
  have c3 := fun w => map_res a1 a2 a3 page w ha2
  have c4 := fun w => map_res b1 b2 b3 page w hb2
  have u1 := unlike_c (n := n) (k := k) (page := page)
  have u2 := unlike_m (a := a1) (b := a2) (c := a3) (a' := b1) (b' := b2) (c' := b3) (page := page) ha2 hb2
  rcases cE_cases n page with h1 | h1
  · rcases cE_cases k page with h2 | h2
    · skip
      rcases mE_cases a1 a3 page with h3 | h3
      · rcases mE_cases b1 b3 page with h4 | h4
        · skip
          exact core_yy_yy n k page a1 a2 a3 b1 b2 b3 _ _ _ _ _ _ _ _ w hg (u1 h1 h2).symm (u2 h3 h4).symm (by rw [← h1]; exact c1) (by rw [← h2]; exact c2) (by rw [← h3]; exact c3) (by rw [← h4]; exact c4)
        · skip
          exact core_yy_yn n k page a1 a2 a3 b1 b2 b3 _ _ _ _ _ _ _ _ w hg (u1 h1 h2).symm (by rw [← h1]; exact c1) (by rw [← h2]; exact c2) (by rw [← h3]; exact c3) (by rw [← h4]; exact c4)
      · skip
        exact core_yy_n n k page a1 a2 a3 b1 b2 b3 _ _ _ _ _ _ _ _ _ w hg (u1 h1 h2).symm (by rw [← h1]; exact c1) (by rw [← h2]; exact c2) (by rw [← h3]; exact c3) c4
    · skip
      rcases mE_cases a1 a3 page with h3 | h3
      · rcases mE_cases b1 b3 page with h4 | h4
        · skip
          exact core_yn_yy n k page a1 a2 a3 b1 b2 b3 _ _ _ _ _ _ _ _ w hg (u2 h3 h4).symm (by rw [← h1]; exact c1) (by rw [← h2]; exact c2) (by rw [← h3]; exact c3) (by rw [← h4]; exact c4)
        · skip
          exact core_yn_yn n k page a1 a2 a3 b1 b2 b3 _ _ _ _ _ _ _ _ w hg (by rw [← h1]; exact c1) (by rw [← h2]; exact c2) (by rw [← h3]; exact c3) (by rw [← h4]; exact c4)
      · skip
        exact core_yn_n n k page a1 a2 a3 b1 b2 b3 _ _ _ _ _ _ _ _ _ w hg (by rw [← h1]; exact c1) (by rw [← h2]; exact c2) (by rw [← h3]; exact c3) c4
  · skip
    rcases mE_cases a1 a3 page with h3 | h3
    · rcases mE_cases b1 b3 page with h4 | h4
      · skip
        exact core_n_yy n k page a1 a2 a3 b1 b2 b3 _ _ _ _ _ _ _ _ _ w hg (u2 h3 h4).symm (by rw [← h1]; exact c1) c2 (by rw [← h3]; exact c3) (by rw [← h4]; exact c4)
      · skip
        exact core_n_yn n k page a1 a2 a3 b1 b2 b3 _ _ _ _ _ _ _ _ _ w hg (by rw [← h1]; exact c1) c2 (by rw [← h3]; exact c3) (by rw [← h4]; exact c4)
    · skip
      exact core_n_n n k page a1 a2 a3 b1 b2 b3 _ _ _ _ _ _ _ _ _ _ w hg (by rw [← h1]; exact c1) c2 (by rw [← h3]; exact c3) c4

set_option maxRecDepth 100000 in
theorem contract (H : Type) (enc : TypeId × Value → H) (W : World) (base : Nat) (args : Array Value) (ds gs : List (DataW H)) (before : List MemPlace)
    (hval : ∀ (j : Nat) t v, Tryd.f6.params[j]? = some t → args[j]? = some v → Value.okWide Tryd.prog W .any base t v)
    (hW : DataW.Whole enc Tryd.prog Tryd.f6.params.toList Rows.headerUnlikeSpec.vars false W args.toList ds gs before) (hL : laidMetH Tryd.prog laid W)
    : Calls Tryd.prog 6 args W fun e W' => ∃ v, e = .returned v ∧ Rows.headerUnlikeSpec.post enc Tryd.prog Tryd.f6 false true false false W args v W' := by
  have hW' := hW
  obtain ⟨p, q, hA0, hV, rfl, hfz, hnd⟩ := hW
  have hA : DataW.TrodAll enc Tryd.prog W 0 (fun _ => true) true Tryd.f6.params.toList args.toList ds p := hA0
  rw [Tryd.params6] at hA hval
  obtain ⟨v0, vs0, d0, ds0, p0, q0, hargs, rfl, rfl, h0, r0⟩ := trodAll_cons hA
  obtain ⟨v1, vs1, d1, ds1, p1, q1, rfl, rfl, rfl, h1, r1⟩ := trodAll_cons r0
  obtain ⟨v2, vs2, d2, ds2, p2, q2, rfl, rfl, rfl, h2, r2⟩ := trodAll_cons r1
  obtain ⟨v3, vs3, d3, ds3, p3, q3, rfl, rfl, rfl, h3, r3⟩ := trodAll_cons r2
  obtain ⟨v4, vs4, d4, ds4, p4, q4, rfl, rfl, rfl, h4, r4⟩ := trodAll_cons r3
  obtain ⟨rfl, rfl, rfl⟩ := trodAll_nil r4
  obtain rfl : args = #[v0, v1, v2, v3, v4] := by cases args; simp_all
  obtain ⟨rfl, rfl⟩ := trodVars_none hV
  obtain ⟨a0, rfl, rfl, rfl, w0⟩ := open_int Tryd.underlying3 (hval 0 3 v0 rfl rfl) h0
  obtain ⟨a1, rfl, rfl, rfl, w1⟩ := open_int Tryd.underlying3 (hval 1 3 v1 rfl rfl) h1
  obtain ⟨a2, rfl, rfl, rfl, w2⟩ := open_int Tryd.underlying3 (hval 2 3 v2 rfl rfl) h2
  obtain ⟨cs3, rfl, sz3⟩ := okWide_struct Tryd.underlying24 (hval 3 24 v3 rfl rfl)
  have k3 := h3
  have lt3 : ∀ x ∈ p3, x.block < W.heap.size := by obtain ⟨m, hm⟩ := k3; exact DataW.trod_lt m _ _ _ hm
  obtain ⟨ma3, mb3, mc3, rfl, ha3, hb3, hc3⟩ : ∃ a b c, cs3 = #[.int .i64 a, .int .u64 b, .int .i64 c] ∧ (-9223372036854775808 ≤ a ∧ a ≤ 9223372036854775807) ∧ (0 ≤ b ∧ b ≤ 18446744073709551615) ∧ (-9223372036854775808 ≤ c ∧ c ≤ 9223372036854775807) := by
    obtain ⟨fuel, hf⟩ := h3
    exact marg_open sz3 hf
  obtain ⟨cs4, rfl, sz4⟩ := okWide_struct Tryd.underlying24 (hval 4 24 v4 rfl rfl)
  have k4 := h4
  have lt4 : ∀ x ∈ p4, x.block < W.heap.size := by obtain ⟨m, hm⟩ := k4; exact DataW.trod_lt m _ _ _ hm
  obtain ⟨ma4, mb4, mc4, rfl, ha4, hb4, hc4⟩ : ∃ a b c, cs4 = #[.int .i64 a, .int .u64 b, .int .i64 c] ∧ (-9223372036854775808 ≤ a ∧ a ≤ 9223372036854775807) ∧ (0 ≤ b ∧ b ≤ 18446744073709551615) ∧ (-9223372036854775808 ≤ c ∧ c ≤ 9223372036854775807) := by
    obtain ⟨fuel, hf⟩ := h4
    exact marg_open sz4 hf
  clear hA0
  refine (walk a0 a1 a2 ma3 mb3 mc3 ma4 mb4 mc4 W (glb_of hL) (bounds_i64 w0) (bounds_i64 w1) (bounds_i64 w2) ha3 hb3 hc3 ha4 hb4 hc4).mono fun e W' ⟨he, bel⟩ => ?_
  subst he
  exact ⟨_, rfl, _, _, _, [], _, [], hW', trodAll_mk1 (shut_bool Tryd.underlying4 _), (trodAll_cons_mk (shut_int Tryd.underlying3 w0) (trodAll_cons_mk (shut_int Tryd.underlying3 w1) (trodAll_cons_mk (shut_int Tryd.underlying3 w2) (trodAll_cons_mk (Below.trod laidOut (by kernel_rfl) (of_decide_eq_true (by kernel_rfl)) k3 bel lt3) (trodAll_cons_mk (Below.trod laidOut (by kernel_rfl) (of_decide_eq_true (by kernel_rfl)) k4 bel lt4) trodAll_mk0))))), rfl, bel.frame _, fun h => by cases h⟩

theorem reads (os : Os) {H : Type} (enc : TypeId × Value → H) : ∃ places, DataW.whole enc Tryd.prog ((laidWorld os).forCall (fun _ _ => 0) ⟨#[], #[.int .i64 0, .int .i64 0, .int .i64 0, .agg #[.int .i64 0, .int .u64 0, .int .i64 0], .agg #[.int .i64 0, .int .u64 0, .int .i64 0]], []⟩).memory Tryd.f6.params.toList Rows.headerUnlikeSpec.vars false (#[.int .i64 0, .int .i64 0, .int .i64 0, .agg #[.int .i64 0, .int .u64 0, .int .i64 0], .agg #[.int .i64 0, .int .u64 0, .int .i64 0]] : Array Value).toList 8 = some ([.lit (.int .i64 0), .lit (.int .i64 0), .lit (.int .i64 0), .agg [.lit (.int .i64 0), .lit (.int .u64 0), .lit (.int .i64 0)], .agg [.lit (.int .i64 0), .lit (.int .u64 0), .lit (.int .i64 0)]], [], places) :=
  ⟨[], by kernel_rfl⟩
set_option maxRecDepth 100000 in
theorem lifted (os : Os) (started : os.Started) (H : Type) (enc : TypeId × Value → H) (F : Stop.Interp) :
    ReturnsInHanded {} Tryd.checked os 6 .any ((OpenSpec.ofChange Rows.headerUnlikeSpec).preRow enc Tryd.prog Tryd.f6 Rows.headerUnlikeRow.domain false Rows.headerUnlikeRow.laid) (((OpenSpec.ofChange Rows.headerUnlikeSpec).at F).post enc Tryd.prog Tryd.f6 false true false false) := by
  obtain ⟨places, hx⟩ := reads os enc
  refine returnsInHanded_of_row (C := Tryd.checked) (s := OpenSpec.ofChange Rows.headerUnlikeSpec) own started (by kernel_rfl) Tryd.func6
    (witness_row_at (enc := enc) (C := Tryd.checked) false (laidWorld os) #[.int .i64 0, .int .i64 0, .int .i64 0, .agg #[.int .i64 0, .int .u64 0, .int .i64 0], .agg #[.int .i64 0, .int .u64 0, .int .i64 0]] (laid_os os) (by kernel_rfl) (by kernel_rfl) (by kernel_rfl)
      (OpenSpec.preRow_of_cond 8 hx (by kernel_rfl) (fun k hk => by cases hk) (by kernel_rfl) (laid_met os _))) ?_
  intro W base args ds gs before hval hW _ _ hsz hL _ _
  exact contract H enc W base args ds gs before hval hW hL
theorem said : Rows.HeaderUnlikeSaid :=
  OpenClaim.holds_of_cond 6 Tryd.f6 rfl rfl rfl rfl rfl rfl rfl ⟨rfl, rfl, rfl, rfl, rfl⟩ rfl rfl rfl rfl rfl (by kernel_rfl) Tryd.func6 (by kernel_rfl)
    (of_decide_eq_true (by kernel_rfl)) (by unfold Func.isWrapper; first | (rw [if_pos (by decide +kernel)]; kernel_rfl) | (rw [if_neg (by decide +kernel)]; exact ⟨rfl, rfl⟩))
    (fun os started H enc _ F => by rw [OpenClaim.pre_eq_preRow]; exact lifted os started H enc F)
set_option maxRecDepth 100000 in
theorem plain (f : FuncId) (fn : Func) (hf : Tryd.pinned.checked.prog.funcNamed "pumice/pumicelaw05.HeaderUnlike" = some f) (hfn : Tryd.pinned.checked.prog.funcs[f]? = some fn) :
    true = Tryd.pinned.checked.prog.looks [] ∧ ∀ (j : Nat) t, fn.params[j]? = some t → Tryd.pinned.checked.prog.wantsStandIn t = false := by
  obtain rfl : f = 6 := Option.some.inj ((show Tryd.prog.funcNamed "pumice/pumicelaw05.HeaderUnlike" = some 6 by kernel_rfl).symm.trans hf) |>.symm
  obtain rfl : fn = Tryd.f6 := (Option.some.inj (Tryd.func6.symm.trans hfn)).symm
  refine ⟨by kernel_rfl, fun j t ht => ?_⟩
  rw [Tryd.params6] at ht
  have hm : t = 3 ∨ t = 3 ∨ t = 3 ∨ t = 24 ∨ t = 24 := by simpa using Array.mem_of_getElem? ht
  rcases hm with rfl | rfl | rfl | rfl | rfl
  · exact (show Tryd.prog.wantsStandIn 3 = false by kernel_rfl)
  · exact (show Tryd.prog.wantsStandIn 3 = false by kernel_rfl)
  · exact (show Tryd.prog.wantsStandIn 3 = false by kernel_rfl)
  · exact (show Tryd.prog.wantsStandIn 24 = false by kernel_rfl)
  · exact (show Tryd.prog.wantsStandIn 24 = false by kernel_rfl)
theorem card : Rows.HeaderUnlikeCardSaid :=
  Claim7.holds_tied_plain_at .later [] _ _ _ _ said (fun _ h => by cases h) (by kernel_rfl) (fun _ h => by cases h) headerUnlike_row_tie rfl ⟨rfl, rfl⟩ (by kernel_rfl) rfl plain (by kernel_rfl)
end Go.Proofs.YtdhbhjfpjmmonaaDoor.headerUnlike

namespace Go.Proofs.YtdhbhjfpjmmonaaDoor
theorem headerUnlike_holds : Rows.HeaderUnlikeCardSaid := headerUnlike.card
#print axioms headerUnlike_holds
end Go.Proofs.YtdhbhjfpjmmonaaDoor
