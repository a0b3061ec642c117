/-
  One operation on two trees that are none.
-/
import Derived.Test.YtlfgeanafidopaaRW
namespace Go.Proofs.Ytlfgeanafidopaa.Bt
open Go.RowKit
set_option maxRecDepth 10000

set_option maxHeartbeats 400000 in
theorem put_nil (k v : K) (w : World) : Calls Try.prog 26 #[.pointer none, .string k, .string v] w fun e w' => e = .returned (.int .i64 14) ∧ w = w' := by
  go_enter Try.func26, Try.ntmps26
  go_wp2
  go_ret
  exact ⟨rfl, rfl⟩
set_option maxHeartbeats 400000 in
theorem get_nil (k : K) (w : World) : Calls Try.prog 23 #[.pointer none, .string k] w fun e w' => e = .returned (.tuple #[.string ⟨#[]⟩, .bool false]) ∧ w = w' := by
  go_enter Try.func23, Try.ntmps23
  go_wp2
  go_ret2
  exact ⟨rfl, rfl⟩
set_option maxHeartbeats 400000 in
theorem delete_nil (k : K) (w : World) : Calls Try.prog 25 #[.pointer none, .string k] w fun e w' => e = .returned (.bool false) ∧ w = w' := by
  go_enter Try.func25, Try.ntmps25
  go_wp2_with (go_at_call 23; refine (get_nil k w).mono ?_; rintro e w' ⟨rfl, rfl⟩)
  go_ret
  exact ⟨rfl, rfl⟩
set_option maxHeartbeats 400000 in
theorem clean_nil (w : World) : Calls Try.prog 22 #[.pointer none] w fun e w' => e = .returned (.int .i64 0) ∧ w = w' := by
  go_enter Try.func22, Try.ntmps22
  go_wp2
  go_ret
  exact ⟨rfl, rfl⟩
set_option maxHeartbeats 4000000 in
theorem one1_nn (W : World) (key val to : K) (n : Int) :
    Calls Try.prog 13 #[.pointer none, .pointer none, .agg #[.int .i64 1, .string key, .string val, .string to, .int .i64 n]] W fun e w' => e = .returned (.bool true) ∧ Below W.heap.size W w' := by
  have hb0 := below_new W (.cells #[.int .i64 1, .string key, .string val, .string to, .int .i64 n] 33)
  obtain ⟨W0, hW0⟩ : ∃ W0, W0 = W.alloc (.cells #[.int .i64 1, .string key, .string val, .string to, .int .i64 n] 33) := ⟨_, rfl⟩
  have hr : Row W0 W.heap.size [.int .i64 1, .string key, .string val, .string to, .int .i64 n] 33 := by rw [hW0]; exact Row.new W _ _
  rw [← hW0] at hb0
  have HB0 : Hid (Below W.heap.size W W0) := hb0
  have HRw : Hid (∀ X, Below W0.heap.size W0 X → X.cell? ⟨W.heap.size, 1, none⟩ = some (.string key) ∧ X.cell? ⟨W.heap.size, 3, none⟩ = some (.string to) ∧ X.cell? ⟨W.heap.size, 4, none⟩ = some (.int .i64 n)) := fun X hX => ⟨(hr.later hX).cell (i := 1) rfl, (hr.later hX).cell (i := 3) rfl, (hr.later hX).cell (i := 4) rfl⟩
  have c0 := hr.cell (i := 0) rfl
  have c1 := hr.cell (i := 1) rfl
  have c2 := hr.cell (i := 2) rfl
  have c3 := hr.cell (i := 3) rfl
  have c4 := hr.cell (i := 4) rfl
  have HW : Hid (W0 = W.alloc (.cells #[.int .i64 1, .string key, .string val, .string to, .int .i64 n] 33)) := hW0
  clear hr hb0 hW0
  go_enter Try.func13, Try.ntmps13
  go_wp2
  rw [← HW.out]
  go_wp2
  go_region_held3 (fun w' => w'.cell? ⟨W.heap.size, 1, none⟩ = some (.string key) ∧ w'.cell? ⟨W.heap.size, 2, none⟩ = some (.string val)) (first | assumption | go_keep) (first
    | (go_at_call 26; refine (put_nil key val _).mono ?_; rintro e W1 ⟨rfl, rfl⟩)
    | (go_at_call 31; refine (rput_nil key val _).mono ?_; rintro e W2 ⟨rfl, rfl⟩))
  go_wp2
  go_ret
  exact ⟨rfl, bafter HB0.out (below_drawn W0 1)⟩
set_option maxHeartbeats 4000000 in
theorem one2_nn (W : World) (key val to : K) (n : Int) :
    Calls Try.prog 13 #[.pointer none, .pointer none, .agg #[.int .i64 2, .string key, .string val, .string to, .int .i64 n]] W fun e w' => e = .returned (.bool true) ∧ Below W.heap.size W w' := by
  have hb0 := below_new W (.cells #[.int .i64 2, .string key, .string val, .string to, .int .i64 n] 33)
  obtain ⟨W0, hW0⟩ : ∃ W0, W0 = W.alloc (.cells #[.int .i64 2, .string key, .string val, .string to, .int .i64 n] 33) := ⟨_, rfl⟩
  have hr : Row W0 W.heap.size [.int .i64 2, .string key, .string val, .string to, .int .i64 n] 33 := by rw [hW0]; exact Row.new W _ _
  rw [← hW0] at hb0
  have HB0 : Hid (Below W.heap.size W W0) := hb0
  have HRw : Hid (∀ X, Below W0.heap.size W0 X → X.cell? ⟨W.heap.size, 1, none⟩ = some (.string key) ∧ X.cell? ⟨W.heap.size, 3, none⟩ = some (.string to) ∧ X.cell? ⟨W.heap.size, 4, none⟩ = some (.int .i64 n)) := fun X hX => ⟨(hr.later hX).cell (i := 1) rfl, (hr.later hX).cell (i := 3) rfl, (hr.later hX).cell (i := 4) rfl⟩
  have c0 := hr.cell (i := 0) rfl
  have c1 := hr.cell (i := 1) rfl
  have c2 := hr.cell (i := 2) rfl
  have c3 := hr.cell (i := 3) rfl
  have c4 := hr.cell (i := 4) rfl
  have HW : Hid (W0 = W.alloc (.cells #[.int .i64 2, .string key, .string val, .string to, .int .i64 n] 33)) := hW0
  clear hr hb0 hW0
  go_enter Try.func13, Try.ntmps13
  go_wp2
  rw [← HW.out]
  go_wp2
  go_region_held3 (fun w' => w'.cell? ⟨W.heap.size, 1, none⟩ = some (.string key)) (first | assumption | go_keep) (first
    | (go_at_call 25; refine (delete_nil key _).mono ?_; rintro e W1 ⟨rfl, rfl⟩)
    | (go_at_call 30; refine (rdel_nil key _).mono ?_; rintro e W2 ⟨rfl, rfl⟩))
  go_wp2
  go_ret
  exact ⟨rfl, bafter HB0.out (below_drawn W0 1)⟩
set_option maxHeartbeats 4000000 in
theorem one3_nn (W : World) (key val to : K) (n : Int) :
    Calls Try.prog 13 #[.pointer none, .pointer none, .agg #[.int .i64 3, .string key, .string val, .string to, .int .i64 n]] W fun e w' => e = .returned (.bool true) ∧ Below W.heap.size W w' := by
  have hb0 := below_new W (.cells #[.int .i64 3, .string key, .string val, .string to, .int .i64 n] 33)
  obtain ⟨W0, hW0⟩ : ∃ W0, W0 = W.alloc (.cells #[.int .i64 3, .string key, .string val, .string to, .int .i64 n] 33) := ⟨_, rfl⟩
  have hr : Row W0 W.heap.size [.int .i64 3, .string key, .string val, .string to, .int .i64 n] 33 := by rw [hW0]; exact Row.new W _ _
  rw [← hW0] at hb0
  have HB0 : Hid (Below W.heap.size W W0) := hb0
  have HRw : Hid (∀ X, Below W0.heap.size W0 X → X.cell? ⟨W.heap.size, 1, none⟩ = some (.string key) ∧ X.cell? ⟨W.heap.size, 3, none⟩ = some (.string to) ∧ X.cell? ⟨W.heap.size, 4, none⟩ = some (.int .i64 n)) := fun X hX => ⟨(hr.later hX).cell (i := 1) rfl, (hr.later hX).cell (i := 3) rfl, (hr.later hX).cell (i := 4) rfl⟩
  have c0 := hr.cell (i := 0) rfl
  have c1 := hr.cell (i := 1) rfl
  have c2 := hr.cell (i := 2) rfl
  have c3 := hr.cell (i := 3) rfl
  have c4 := hr.cell (i := 4) rfl
  have HW : Hid (W0 = W.alloc (.cells #[.int .i64 3, .string key, .string val, .string to, .int .i64 n] 33)) := hW0
  clear hr hb0 hW0
  go_enter Try.func13, Try.ntmps13
  go_wp2_with (first
    | (go_at_call 23; rw [← HW.out]; refine (get_nil key _).mono ?_; rintro e W1 ⟨rfl, rfl⟩)
    | (go_at_call 33; refine (rget_nil key _).mono ?_; rintro e W2 ⟨rfl, rfl⟩))
  go_ret
  exact ⟨rfl, HB0.out⟩
set_option maxHeartbeats 4000000 in
theorem one4_nn (W : World) (key val to : K) (n : Int) :
    Calls Try.prog 13 #[.pointer none, .pointer none, .agg #[.int .i64 4, .string key, .string val, .string to, .int .i64 n]] W fun e w' => e = .returned (.bool true) ∧ Below W.heap.size W w' := by
  have hb0 := below_new W (.cells #[.int .i64 4, .string key, .string val, .string to, .int .i64 n] 33)
  obtain ⟨W0, hW0⟩ : ∃ W0, W0 = W.alloc (.cells #[.int .i64 4, .string key, .string val, .string to, .int .i64 n] 33) := ⟨_, rfl⟩
  have hr : Row W0 W.heap.size [.int .i64 4, .string key, .string val, .string to, .int .i64 n] 33 := by rw [hW0]; exact Row.new W _ _
  rw [← hW0] at hb0
  have HB0 : Hid (Below W.heap.size W W0) := hb0
  have HRw : Hid (∀ X, Below W0.heap.size W0 X → X.cell? ⟨W.heap.size, 1, none⟩ = some (.string key) ∧ X.cell? ⟨W.heap.size, 3, none⟩ = some (.string to) ∧ X.cell? ⟨W.heap.size, 4, none⟩ = some (.int .i64 n)) := fun X hX => ⟨(hr.later hX).cell (i := 1) rfl, (hr.later hX).cell (i := 3) rfl, (hr.later hX).cell (i := 4) rfl⟩
  have c0 := hr.cell (i := 0) rfl
  have c1 := hr.cell (i := 1) rfl
  have c2 := hr.cell (i := 2) rfl
  have c3 := hr.cell (i := 3) rfl
  have c4 := hr.cell (i := 4) rfl
  have HW : Hid (W0 = W.alloc (.cells #[.int .i64 4, .string key, .string val, .string to, .int .i64 n] 33)) := hW0
  have kR := range_nil key to n W0.drew
  clear hr hb0 hW0
  go_enter Try.func13, Try.ntmps13
  go_wp2
  rw [← HW.out]
  go_wp2
  go_region_held3 (fun w' => w'.cell? ⟨W.heap.size, 1, none⟩ = some (.string key) ∧ w'.cell? ⟨W.heap.size, 3, none⟩ = some (.string to) ∧ w'.cell? ⟨W.heap.size, 4, none⟩ = some (.int .i64 n)) (first | assumption | go_keep) (first
    | (go_at_call 17; refine kR.mono ?_; rintro e W1 ⟨rfl, hb1⟩; have Hb1 : Hid (Below W0.heap.size W0 W1) := bafter (below_drawn W0 1) hb1; have k1 := HRw.out W1 Hb1.out; clear hb1)
    | (go_at_call 34; refine (rrange_nil key to n _).mono ?_; rintro e W2 ⟨rfl, rfl⟩)
    | (go_at_call 16; refine (same_yes _ _ [] W1 ⟨World.ownsRow_nil _ 0 _ 3⟩ ⟨World.ownsRow_nil _ 0 _ 3⟩ (by simp)).mono ?_; rintro e W3 ⟨rfl, hb3⟩; have Hb3 : Hid (Below W0.heap.size W0 W3) := bafter Hb1.out hb3; have k3 := HRw.out W3 Hb3.out; clear hb3))
  go_wp2
  go_ret
  exact ⟨rfl, bafter HB0.out Hb3.out⟩
set_option maxHeartbeats 4000000 in
theorem one5_nn (W : World) (key val to : K) (n : Int) :
    Calls Try.prog 13 #[.pointer none, .pointer none, .agg #[.int .i64 5, .string key, .string val, .string to, .int .i64 n]] W fun e w' => e = .returned (.bool true) ∧ Below W.heap.size W w' := by
  have hb0 := below_new W (.cells #[.int .i64 5, .string key, .string val, .string to, .int .i64 n] 33)
  obtain ⟨W0, hW0⟩ : ∃ W0, W0 = W.alloc (.cells #[.int .i64 5, .string key, .string val, .string to, .int .i64 n] 33) := ⟨_, rfl⟩
  have hr : Row W0 W.heap.size [.int .i64 5, .string key, .string val, .string to, .int .i64 n] 33 := by rw [hW0]; exact Row.new W _ _
  rw [← hW0] at hb0
  have HB0 : Hid (Below W.heap.size W W0) := hb0
  have HRw : Hid (∀ X, Below W0.heap.size W0 X → X.cell? ⟨W.heap.size, 1, none⟩ = some (.string key) ∧ X.cell? ⟨W.heap.size, 3, none⟩ = some (.string to) ∧ X.cell? ⟨W.heap.size, 4, none⟩ = some (.int .i64 n)) := fun X hX => ⟨(hr.later hX).cell (i := 1) rfl, (hr.later hX).cell (i := 3) rfl, (hr.later hX).cell (i := 4) rfl⟩
  have c0 := hr.cell (i := 0) rfl
  have c1 := hr.cell (i := 1) rfl
  have c2 := hr.cell (i := 2) rfl
  have c3 := hr.cell (i := 3) rfl
  have c4 := hr.cell (i := 4) rfl
  have HW : Hid (W0 = W.alloc (.cells #[.int .i64 5, .string key, .string val, .string to, .int .i64 n] 33)) := hW0
  have kN : Calls Try.prog 24 #[.pointer none, .string key] W0 fun e w' => e = .returned (.tuple #[.agg #[.string ⟨#[]⟩, .string ⟨#[]⟩, .bool false], .bool false]) ∧ Below W0.heap.size W0 w' := next_nil key W0
  have HQ : Hid (∀ X, Calls Try.prog 35 #[.pointer none, .string key] X fun e w' => e = .returned (.tuple #[.agg #[.string ⟨#[]⟩, .string ⟨#[]⟩, .bool false], .bool false]) ∧ Below X.heap.size X w') := fun X => rnext_nil key X
  clear hr hb0 hW0
  go_enter Try.func13, Try.ntmps13
  go_wp2_with (first
    | (go_at_call 24; rw [← HW.out]; refine kN.mono ?_; rintro e W1 ⟨rfl, hb1⟩; have Hb1 : Hid (Below W0.heap.size W0 W1) := hb1; have k1 := (HRw.out W1 hb1).1; have l1 := World.block_lt_of_cell? W1 _ k1; clear hb1)
    | (go_at_call 35; refine (HQ.out (W1.alloc (.cells #[.string ⟨#[]⟩, .string ⟨#[]⟩, .bool false] 54))).mono ?_; rintro e W2 ⟨rfl, hb2⟩; have HL : Hid (Below W.heap.size W W2) := bafter (bafter (bafter HB0.out Hb1.out) (below_new W1 _)) hb2; have hrw := (Row.new W1 [.string ⟨#[]⟩, .string ⟨#[]⟩, .bool false] 54).later hb2; have z0 := hrw.cell (i := 0) rfl; have z1 := hrw.cell (i := 1) rfl; have z2 := hrw.cell (i := 2) rfl; have l2 := hrw.lt; clear hrw hb2))
  go_ret
  exact ⟨ret_bool (by simp), bafter HL.out (below_new W2 _)⟩
set_option maxHeartbeats 4000000 in
theorem one6_nn (W : World) (key val to : K) (n : Int) :
    Calls Try.prog 13 #[.pointer none, .pointer none, .agg #[.int .i64 6, .string key, .string val, .string to, .int .i64 n]] W fun e w' => e = .returned (.bool true) ∧ Below W.heap.size W w' := by
  have hb0 := below_new W (.cells #[.int .i64 6, .string key, .string val, .string to, .int .i64 n] 33)
  obtain ⟨W0, hW0⟩ : ∃ W0, W0 = W.alloc (.cells #[.int .i64 6, .string key, .string val, .string to, .int .i64 n] 33) := ⟨_, rfl⟩
  have hr : Row W0 W.heap.size [.int .i64 6, .string key, .string val, .string to, .int .i64 n] 33 := by rw [hW0]; exact Row.new W _ _
  rw [← hW0] at hb0
  have HB0 : Hid (Below W.heap.size W W0) := hb0
  have HRw : Hid (∀ X, Below W0.heap.size W0 X → X.cell? ⟨W.heap.size, 1, none⟩ = some (.string key) ∧ X.cell? ⟨W.heap.size, 3, none⟩ = some (.string to) ∧ X.cell? ⟨W.heap.size, 4, none⟩ = some (.int .i64 n)) := fun X hX => ⟨(hr.later hX).cell (i := 1) rfl, (hr.later hX).cell (i := 3) rfl, (hr.later hX).cell (i := 4) rfl⟩
  have c0 := hr.cell (i := 0) rfl
  have c1 := hr.cell (i := 1) rfl
  have c2 := hr.cell (i := 2) rfl
  have c3 := hr.cell (i := 3) rfl
  have c4 := hr.cell (i := 4) rfl
  have HW : Hid (W0 = W.alloc (.cells #[.int .i64 6, .string key, .string val, .string to, .int .i64 n] 33)) := hW0
  clear hr hb0 hW0
  go_enter Try.func13, Try.ntmps13
  go_wp2_with (go_at_call 22; rw [← HW.out]; refine (clean_nil _).mono ?_; rintro e W1 ⟨rfl, rfl⟩)
  go_ret
  exact ⟨rfl, HB0.out⟩
set_option maxHeartbeats 4000000 in
theorem one7_nn (W : World) (key val to : K) (n : Int) (k : Int) (h1 : ¬ k = 1) (h2 : ¬ k = 2) (h3 : ¬ k = 3) (h4 : ¬ k = 4) (h5 : ¬ k = 5) (h6 : ¬ k = 6) :
    Calls Try.prog 13 #[.pointer none, .pointer none, .agg #[.int .i64 k, .string key, .string val, .string to, .int .i64 n]] W fun e w' => e = .returned (.bool true) ∧ Below W.heap.size W w' := by
  have hb0 := below_new W (.cells #[.int .i64 k, .string key, .string val, .string to, .int .i64 n] 33)
  obtain ⟨W0, hW0⟩ : ∃ W0, W0 = W.alloc (.cells #[.int .i64 k, .string key, .string val, .string to, .int .i64 n] 33) := ⟨_, rfl⟩
  have hr : Row W0 W.heap.size [.int .i64 k, .string key, .string val, .string to, .int .i64 n] 33 := by rw [hW0]; exact Row.new W _ _
  rw [← hW0] at hb0
  have HB0 : Hid (Below W.heap.size W W0) := hb0
  have HRw : Hid (∀ X, Below W0.heap.size W0 X → X.cell? ⟨W.heap.size, 1, none⟩ = some (.string key) ∧ X.cell? ⟨W.heap.size, 3, none⟩ = some (.string to) ∧ X.cell? ⟨W.heap.size, 4, none⟩ = some (.int .i64 n)) := fun X hX => ⟨(hr.later hX).cell (i := 1) rfl, (hr.later hX).cell (i := 3) rfl, (hr.later hX).cell (i := 4) rfl⟩
  have c0 := hr.cell (i := 0) rfl
  have c1 := hr.cell (i := 1) rfl
  have c2 := hr.cell (i := 2) rfl
  have c3 := hr.cell (i := 3) rfl
  have c4 := hr.cell (i := 4) rfl
  have HW : Hid (W0 = W.alloc (.cells #[.int .i64 k, .string key, .string val, .string to, .int .i64 n] 33)) := hW0
  have e1 : (k == 1) = false := by simpa using h1
  have e2 : (k == 2) = false := by simpa using h2
  have e3 : (k == 3) = false := by simpa using h3
  have e4 : (k == 4) = false := by simpa using h4
  have e5 : (k == 5) = false := by simpa using h5
  have e6 : (k == 6) = false := by simpa using h6
  rw [hW0] at HB0
  clear hr hb0 hW0
  go_enter Try.func13, Try.ntmps13
  go_wp2
  go_ret
  exact ⟨rfl, HB0.out⟩
end Go.Proofs.Ytlfgeanafidopaa.Bt
