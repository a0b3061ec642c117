/-
  One operation on a tree, with no tree of the document's beside it.
-/
import Derived.Test.YtlfgeanafidopaaRF
import Derived.Laws.StructEq
namespace Go.Proofs.Ytlfgeanafidopaa.Bt
open Go.RowKit
set_option maxRecDepth 10000

/-- What an operation leaves. -/
def Lft (w : World) (p F : Nat) (fs : List Nat) (x : Tre) (w' : World) : Prop := ∃ x', Left w p F fs x' w' ∧ x'.all.length ≤ x.all.length + 1
theorem Lft.of_below {w w' : World} {p F : Nat} {x : Tre} {fs : List Nat} (h : Live w p F x fs) (hb : Below w.heap.size w w') : Lft w p F fs x w' := ⟨x, h.left hb, by omega⟩
theorem Left.first {w W w' : World} {p F : Nat} {fs : List Nat} {x' : Tre} (hb : Below w.heap.size w W) (h : Left W p F fs x' w') : Left w p F fs x' w' := by
  obtain ⟨⟨fs', h1, h2⟩, h3⟩ := h
  refine ⟨⟨fs', h1, fun b hb' => ?_⟩, (Kept.of_below hb).trans h3⟩
  rcases h2 b hb' with q | q
  · exact .inl q
  · exact .inr (Nat.le_trans hb.size q)
theorem Left.then {w W w' : World} {p F : Nat} {fs : List Nat} {x' : Tre} (h : Left w p F fs x' W) (hb : Below W.heap.size W w') : Left w p F fs x' w' := by
  obtain ⟨⟨fs', h1, h2⟩, h3⟩ := h
  exact ⟨⟨fs', h1.later hb, h2⟩, h3.later hb⟩
def opV (kind : Int) (key val to : K) (n : Int) : Value := .agg #[.int .i64 kind, .string key, .string val, .string to, .int .i64 n]
def opL (kind : Int) (key val to : K) (n : Int) : List Value := [.int .i64 kind, .string key, .string val, .string to, .int .i64 n]
/-- The box of an operation lies on. -/
theorem op_box {X w' : World} {p F : Nat} {x x' : Tre} {fs : List Nat} {cs : List Value} {B : Nat} (hl : Live X p F x fs) (hr : Row X B cs 33) (hL : Left X p F fs x' w') : Row w' B cs 33 :=
  hr.kept hL.kept (by
    obtain ⟨t, ht, hfs⟩ := hl.tr
    rintro (e | e)
    · exact hr.ne ht.row (by decide) e
    · rw [← hfs] at e; exact hr.notFoot (by decide) (by decide) ht.lies e)
set_option maxHeartbeats 4000000 in
theorem one1_nil {w : World} {p F : Nat} {x : Tre} {fs : List Nat} (h : Live w p F x fs) (key val to : K) (n : Int) (hlen : x.all.length < 1073741824) :
    Calls Try.prog 13 #[.pointer (some ⟨p, 0, none⟩), .pointer none, .agg #[.int .i64 1, .string key, .string val, .string to, .int .i64 n]] w fun e w' => ∃ b, e = .returned (.bool b) ∧ Lft w p F fs x w' := by
  have hb0 := below_new w (.cells #[.int .i64 1, .string key, .string val, .string to, .int .i64 n] 33)
  obtain ⟨W0, hW0⟩ : ∃ W0, W0 = w.alloc (.cells #[.int .i64 1, .string key, .string val, .string to, .int .i64 n] 33) := ⟨_, rfl⟩
  have hr : Row W0 w.heap.size [.int .i64 1, .string key, .string val, .string to, .int .i64 n] 33 := by rw [hW0]; exact Row.new w _ _
  rw [← hW0] at hb0
  have HP : Hid (∀ X, Below W0.heap.size W0 X → Calls Try.prog 26 #[.pointer (some ⟨p, 0, none⟩), .string key, .string val] X fun e w' => e = .returned (.int .i64 (putE key val)) ∧ Lft w p F fs x w' ∧ w'.cell? ⟨w.heap.size, 1, none⟩ = some (.string key) ∧ w'.cell? ⟨w.heap.size, 2, none⟩ = some (.string val)) := fun X hX => by
    have hb := bafter hb0 hX
    have hl := h.later hb
    refine (putT_any hl key val (by omega)).mono ?_
    rintro e w' ⟨rfl, hL⟩
    have hr2 := op_box hl (hr.later hX) hL
    exact ⟨rfl, ⟨_, hL.first hb, (putR_len h.lo key val h.inv).1⟩, hr2.cell (i := 1) rfl, hr2.cell (i := 2) rfl⟩
  have c0 := hr.cell (i := 0) rfl
  have c1 := hr.cell (i := 1) rfl
  have c2 := hr.cell (i := 2) rfl
  have c3 := hr.cell (i := 3) rfl
  have c4 := hr.cell (i := 4) rfl
  have HW : Hid (W0 = w.alloc (.cells #[.int .i64 1, .string key, .string val, .string to, .int .i64 n] 33)) := hW0
  generalize putE key val = E at *
  clear h hr hb0 hW0
  go_enter Try.func13, Try.ntmps13
  go_wp2
  rw [← HW.out]
  go_wp2
  go_region_held3 (fun w' => w'.cell? ⟨w.heap.size, 1, none⟩ = some (.string key) ∧ w'.cell? ⟨w.heap.size, 2, none⟩ = some (.string val)) (first | assumption | go_keep) (first
    | (go_at_call 26; refine (HP.out W0.drew (below_drawn W0 1)).mono ?_; rintro e W1 ⟨rfl, hL, k1, k2⟩; have HL : Hid (Lft w p F fs x W1) := hL; clear hL)
    | (go_at_call 31; refine (rput_nil key val _).mono ?_; rintro e W2 ⟨rfl, rfl⟩))
  go_wp2
  go_ret
  exact ⟨_, rfl, HL.out⟩
set_option maxHeartbeats 4000000 in
theorem one2_nil {w : World} {p F : Nat} {x : Tre} {fs : List Nat} (h : Live w p F x fs) (key val to : K) (n : Int) (hlen : x.all.length < 1073741824) :
    Calls Try.prog 13 #[.pointer (some ⟨p, 0, none⟩), .pointer none, .agg #[.int .i64 2, .string key, .string val, .string to, .int .i64 n]] w fun e w' => ∃ b, e = .returned (.bool b) ∧ Lft w p F fs x w' := by
  have hb0 := below_new w (.cells #[.int .i64 2, .string key, .string val, .string to, .int .i64 n] 33)
  obtain ⟨W0, hW0⟩ : ∃ W0, W0 = w.alloc (.cells #[.int .i64 2, .string key, .string val, .string to, .int .i64 n] 33) := ⟨_, rfl⟩
  have hr : Row W0 w.heap.size [.int .i64 2, .string key, .string val, .string to, .int .i64 n] 33 := by rw [hW0]; exact Row.new w _ _
  rw [← hW0] at hb0
  have HP : Hid (∀ X, Below W0.heap.size W0 X → Calls Try.prog 25 #[.pointer (some ⟨p, 0, none⟩), .string key] X fun e w' => e = .returned (.bool (look key x.all).isSome) ∧ Lft w p F fs x w' ∧ w'.cell? ⟨w.heap.size, 1, none⟩ = some (.string key)) := fun X hX => by
    have hb := bafter hb0 hX
    have hl := h.later hb
    refine (delT_any hl key (by omega)).mono ?_
    rintro e w' ⟨rfl, hL⟩
    have hr2 := op_box hl (hr.later hX) hL
    exact ⟨rfl, ⟨_, hL.first hb, by have := (delS_len h.lo key h.inv).1; omega⟩, hr2.cell (i := 1) rfl⟩
  have c0 := hr.cell (i := 0) rfl
  have c1 := hr.cell (i := 1) rfl
  have c2 := hr.cell (i := 2) rfl
  have c3 := hr.cell (i := 3) rfl
  have c4 := hr.cell (i := 4) rfl
  have HW : Hid (W0 = w.alloc (.cells #[.int .i64 2, .string key, .string val, .string to, .int .i64 n] 33)) := hW0
  generalize (look key x.all).isSome = E at *
  clear h hr hb0 hW0
  go_enter Try.func13, Try.ntmps13
  go_wp2
  rw [← HW.out]
  go_wp2
  go_region_held3 (fun w' => w'.cell? ⟨w.heap.size, 1, none⟩ = some (.string key)) (first | assumption | go_keep) (first
    | (go_at_call 25; refine (HP.out W0.drew (below_drawn W0 1)).mono ?_; rintro e W1 ⟨rfl, hL, k1⟩; have HL : Hid (Lft w p F fs x W1) := hL; clear hL)
    | (go_at_call 30; refine (rdel_nil key _).mono ?_; rintro e W2 ⟨rfl, rfl⟩))
  go_wp2
  go_ret
  exact ⟨_, rfl, HL.out⟩
set_option maxHeartbeats 4000000 in
theorem one3_nil {w : World} {p F : Nat} {x : Tre} {fs : List Nat} (h : Live w p F x fs) (key val to : K) (n : Int) (_ : x.all.length < 1073741824) :
    Calls Try.prog 13 #[.pointer (some ⟨p, 0, none⟩), .pointer none, .agg #[.int .i64 3, .string key, .string val, .string to, .int .i64 n]] w fun e w' => ∃ b, e = .returned (.bool b) ∧ Lft w p F fs x w' := by
  have hb0 := below_new w (.cells #[.int .i64 3, .string key, .string val, .string to, .int .i64 n] 33)
  obtain ⟨W0, hW0⟩ : ∃ W0, W0 = w.alloc (.cells #[.int .i64 3, .string key, .string val, .string to, .int .i64 n] 33) := ⟨_, rfl⟩
  have hr : Row W0 w.heap.size [.int .i64 3, .string key, .string val, .string to, .int .i64 n] 33 := by rw [hW0]; exact Row.new w _ _
  rw [← hW0] at hb0
  have HP : Hid (Calls Try.prog 23 #[.pointer (some ⟨p, 0, none⟩), .string key] W0 fun e w' => ∃ s b, e = .returned (.tuple #[.string s, .bool b]) ∧ Lft w p F fs x w' ∧ w'.cell? ⟨w.heap.size, 1, none⟩ = some (.string key)) := by
    have hl := h.later hb0
    refine (hl.get key).mono ?_
    rintro e w' ⟨rfl, hb⟩
    exact ⟨_, _, rfl, .of_below h (bafter hb0 hb), (hr.later hb).cell (i := 1) rfl⟩
  have c0 := hr.cell (i := 0) rfl
  have c1 := hr.cell (i := 1) rfl
  have c2 := hr.cell (i := 2) rfl
  have c3 := hr.cell (i := 3) rfl
  have c4 := hr.cell (i := 4) rfl
  have HW : Hid (W0 = w.alloc (.cells #[.int .i64 3, .string key, .string val, .string to, .int .i64 n] 33)) := hW0
  clear h hr hb0 hW0
  go_enter Try.func13, Try.ntmps13
  have M1 : Hid True := trivial
  go_wp2_with (first
    | (clear M1; go_at_call 23; rw [← HW.out]; refine HP.out.mono ?_; rintro e W1 ⟨s1, b1, rfl, hL, k1⟩; have HL : Hid (Lft w p F fs x W1) := hL; clear hL)
    | (go_at_call 33; refine (rget_nil key _).mono ?_; rintro e W2 ⟨rfl, rfl⟩))
  all_goals go_wp2
  all_goals go_ret
  all_goals exact ⟨_, rfl, HL.out⟩
set_option maxHeartbeats 4000000 in
theorem one4_nil {w : World} {p F : Nat} {x : Tre} {fs : List Nat} (h : Live w p F x fs) (key val to : K) (n : Int) (hlen : x.all.length < 1073741824) (hn : n < 9223372036854775808) :
    Calls Try.prog 13 #[.pointer (some ⟨p, 0, none⟩), .pointer none, .agg #[.int .i64 4, .string key, .string val, .string to, .int .i64 n]] w fun e w' => ∃ b, e = .returned (.bool b) ∧ Lft w p F fs x w' := by
  have hb0 := below_new w (.cells #[.int .i64 4, .string key, .string val, .string to, .int .i64 n] 33)
  obtain ⟨W0, hW0⟩ : ∃ W0, W0 = w.alloc (.cells #[.int .i64 4, .string key, .string val, .string to, .int .i64 n] 33) := ⟨_, rfl⟩
  have hr : Row W0 w.heap.size [.int .i64 4, .string key, .string val, .string to, .int .i64 n] 33 := by rw [hW0]; exact Row.new w _ _
  rw [← hW0] at hb0
  have HP : Hid (Calls Try.prog 17 #[.pointer (some ⟨p, 0, none⟩), .string key, .string to, .int .i64 n] W0.drew fun e w' => ∃ v l, e = .returned v ∧ (NdAt w' v l ∧ l.length ≤ 4611686018427387904 ∧ Below w.heap.size w w') ∧ w'.cell? ⟨w.heap.size, 1, none⟩ = some (.string key) ∧ w'.cell? ⟨w.heap.size, 3, none⟩ = some (.string to) ∧ w'.cell? ⟨w.heap.size, 4, none⟩ = some (.int .i64 n)) := by
    have hb := bafter hb0 (below_drawn W0 1)
    have hl := h.later hb
    refine (range_all hl key to n hn hlen).mono ?_
    rintro e w' ⟨v, rfl, hv, hb2⟩
    have hr2 := hr.later (bafter (below_drawn W0 1) hb2)
    refine ⟨v, _, rfl, ⟨hv, ?_, bafter hb hb2⟩, hr2.cell (i := 1) rfl, hr2.cell (i := 3) rfl, hr2.cell (i := 4) rfl⟩
    have : (rng key to n.toNat x.all).length ≤ x.all.length := by
      unfold rng
      refine Nat.le_trans (List.length_take_le' _ _) (Nat.le_trans (List.takeWhile_sublist _).length_le (List.length_filter_le _ _))
    omega
  have HLf : Hid (∀ W, Below w.heap.size w W → Lft w p F fs x W) := fun W hb => .of_below h hb
  have c0 := hr.cell (i := 0) rfl
  have c1 := hr.cell (i := 1) rfl
  have c2 := hr.cell (i := 2) rfl
  have c3 := hr.cell (i := 3) rfl
  have c4 := hr.cell (i := 4) rfl
  have HW : Hid (W0 = w.alloc (.cells #[.int .i64 4, .string key, .string val, .string to, .int .i64 n] 33)) := hW0
  clear h hr hb0 hW0
  go_enter Try.func13, Try.ntmps13
  go_wp2
  rw [← HW.out]
  go_wp2
  go_region_held3 (fun w' => w'.cell? ⟨w.heap.size, 1, none⟩ = some (.string key) ∧ w'.cell? ⟨w.heap.size, 3, none⟩ = some (.string to) ∧ w'.cell? ⟨w.heap.size, 4, none⟩ = some (.int .i64 n)) (first | assumption | go_keep) (first
    | (go_at_call 17; refine HP.out.mono ?_; rintro e W1 ⟨v1, l1, rfl, hN, k1⟩; have HN : Hid (NdAt W1 v1 l1 ∧ l1.length ≤ 4611686018427387904 ∧ Below w.heap.size w W1) := hN; have HK : Hid (∀ X, Below W1.heap.size W1 X → X.cell? ⟨w.heap.size, 1, none⟩ = some (.string key) ∧ X.cell? ⟨w.heap.size, 3, none⟩ = some (.string to) ∧ X.cell? ⟨w.heap.size, 4, none⟩ = some (.int .i64 n)) := (fun X hX => ⟨(hX.cell (p := ⟨w.heap.size, 1, none⟩) (World.block_lt_of_cell? W1 _ k1.1)).trans k1.1, (hX.cell (p := ⟨w.heap.size, 3, none⟩) (World.block_lt_of_cell? W1 _ k1.2.1)).trans k1.2.1, (hX.cell (p := ⟨w.heap.size, 4, none⟩) (World.block_lt_of_cell? W1 _ k1.2.2)).trans k1.2.2⟩); clear hN)
    | (go_at_call 34; refine (rrange_nil key to n _).mono ?_; rintro e W2 ⟨rfl, rfl⟩)
    | (go_at_call 16; refine (same_nil v1 l1 W1 HN.out.1 HN.out.2.1).mono ?_; rintro e W3 ⟨b3, rfl, hb3⟩; have HL : Hid (Lft w p F fs x W3) := HLf.out W3 (bafter HN.out.2.2 hb3); have k3 := HK.out W3 hb3; clear hb3))
  go_wp2
  go_ret
  exact ⟨_, rfl, HL.out⟩
set_option maxHeartbeats 4000000 in
theorem one5_nil {w : World} {p F : Nat} {x : Tre} {fs : List Nat} (h : Live w p F x fs) (key val to : K) (n : Int) (_ : x.all.length < 1073741824) :
    Calls Try.prog 13 #[.pointer (some ⟨p, 0, none⟩), .pointer none, .agg #[.int .i64 5, .string key, .string val, .string to, .int .i64 n]] w fun e w' => ∃ b, e = .returned (.bool b) ∧ Lft w p F fs x w' := by
  have hb0 := below_new w (.cells #[.int .i64 5, .string key, .string val, .string to, .int .i64 n] 33)
  obtain ⟨W0, hW0⟩ : ∃ W0, W0 = w.alloc (.cells #[.int .i64 5, .string key, .string val, .string to, .int .i64 n] 33) := ⟨_, rfl⟩
  have hr : Row W0 w.heap.size [.int .i64 5, .string key, .string val, .string to, .int .i64 n] 33 := by rw [hW0]; exact Row.new w _ _
  rw [← hW0] at hb0
  have HP : Hid (Calls Try.prog 24 #[.pointer (some ⟨p, 0, none⟩), .string key] W0 fun e w' => ∃ s1 s2 b1 b2, e = .returned (.tuple #[.agg #[.string s1, .string s2, .bool b1], .bool b2]) ∧ Below w.heap.size w w' ∧ w'.cell? ⟨w.heap.size, 1, none⟩ = some (.string key)) := by
    have hl := h.later hb0
    refine (hl.next key).mono ?_
    rintro e w' ⟨rfl, hb⟩
    refine ⟨(nxt key x.all).elim ⟨#[]⟩ Prod.fst, (nxt key x.all).elim ⟨#[]⟩ Prod.snd, false, (nxt key x.all).isSome, ?_, bafter hb0 hb, (hr.later hb).cell (i := 1) rfl⟩
    cases nxt key x.all <;> rfl
  have HQ : Hid (∀ X, Calls Try.prog 35 #[.pointer none, .string key] X fun e w' => e = .returned (.tuple #[.agg #[.string ⟨#[]⟩, .string ⟨#[]⟩, .bool false], .bool false]) ∧ Below X.heap.size X w') := fun X => rnext_nil key X
  have HLf : Hid (∀ W, Below w.heap.size w W → Lft w p F fs x W) := fun W hb => .of_below h hb
  have c0 := hr.cell (i := 0) rfl
  have c1 := hr.cell (i := 1) rfl
  have c2 := hr.cell (i := 2) rfl
  have c3 := hr.cell (i := 3) rfl
  have c4 := hr.cell (i := 4) rfl
  have HW : Hid (W0 = w.alloc (.cells #[.int .i64 5, .string key, .string val, .string to, .int .i64 n] 33)) := hW0
  clear h hr hb0 hW0
  go_enter Try.func13, Try.ntmps13
  have M1 : Hid True := trivial
  go_wp2_with (first
    | (clear M1; go_at_call 24; rw [← HW.out]; refine HP.out.mono ?_; rintro e W1 ⟨s1, s2, b1, b2, rfl, hb1, k1⟩; have Hb1 : Hid (Below w.heap.size w W1) := hb1; have l1 := World.block_lt_of_cell? W1 _ k1; clear hb1)
    | (go_at_call 35; refine (HQ.out (W1.alloc (.cells #[.string s1, .string s2, .bool b1] 54))).mono ?_; rintro e W2 ⟨rfl, hb2⟩; have HL : Hid (Below w.heap.size w W2) := (bafter (bafter Hb1.out (below_new W1 _)) hb2); have hrw := (Row.new W1 [.string s1, .string s2, .bool b1] 54).later hb2; have z0 := hrw.cell (i := 0) rfl; have z1 := hrw.cell (i := 1) rfl; have z2 := hrw.cell (i := 2) rfl; have l2 := hrw.lt; clear hrw hb2))
  all_goals go_ret
  all_goals exact ⟨_, rfl, HLf.out _ (bafter HL.out (below_new W2 _))⟩
set_option maxHeartbeats 4000000 in
theorem one6_nil {w : World} {p F : Nat} {x : Tre} {fs : List Nat} (h : Live w p F x fs) (key val to : K) (n : Int) (hlen : x.all.length < 1073741824) :
    Calls Try.prog 13 #[.pointer (some ⟨p, 0, none⟩), .pointer none, .agg #[.int .i64 6, .string key, .string val, .string to, .int .i64 n]] w fun e w' => ∃ b, e = .returned (.bool b) ∧ Lft w p F fs x w' := by
  have hb0 := below_new w (.cells #[.int .i64 6, .string key, .string val, .string to, .int .i64 n] 33)
  obtain ⟨W0, hW0⟩ : ∃ W0, W0 = w.alloc (.cells #[.int .i64 6, .string key, .string val, .string to, .int .i64 n] 33) := ⟨_, rfl⟩
  have hr : Row W0 w.heap.size [.int .i64 6, .string key, .string val, .string to, .int .i64 n] 33 := by rw [hW0]; exact Row.new w _ _
  rw [← hW0] at hb0
  have HP : Hid (Calls Try.prog 22 #[.pointer (some ⟨p, 0, none⟩)] W0 fun e w' => ∃ c, e = .returned (.int .i64 c) ∧ Lft w p F fs x w') := by
    have hl := h.later hb0
    refine (cleanT_any hl (by omega)).mono ?_
    rintro e w' ⟨rfl, hL⟩
    exact ⟨_, rfl, _, hL.first hb0, by rw [show (wipeT x).all = x.all from wipe_flats x.T]; omega⟩
  have c0 := hr.cell (i := 0) rfl
  have c1 := hr.cell (i := 1) rfl
  have c2 := hr.cell (i := 2) rfl
  have c3 := hr.cell (i := 3) rfl
  have c4 := hr.cell (i := 4) rfl
  have HW : Hid (W0 = w.alloc (.cells #[.int .i64 6, .string key, .string val, .string to, .int .i64 n] 33)) := hW0
  clear h hr hb0 hW0
  go_enter Try.func13, Try.ntmps13
  go_wp2_with (go_at_call 22; rw [← HW.out]; refine HP.out.mono ?_; rintro e W1 ⟨c, rfl, hL⟩; have HL : Hid (Lft w p F fs x W1) := hL; clear hL)
  go_ret
  exact ⟨_, rfl, HL.out⟩
set_option maxHeartbeats 4000000 in
theorem one7_nil {w : World} {p F : Nat} {x : Tre} {fs : List Nat} (h : Live w p F x fs) (key val to : K) (n : Int) (_ : x.all.length < 1073741824) (k : Int) (h1 : ¬ k = 1) (h2 : ¬ k = 2) (h3 : ¬ k = 3) (h4 : ¬ k = 4) (h5 : ¬ k = 5) (h6 : ¬ k = 6) :
    Calls Try.prog 13 #[.pointer (some ⟨p, 0, none⟩), .pointer none, .agg #[.int .i64 k, .string key, .string val, .string to, .int .i64 n]] w fun e w' => ∃ b, e = .returned (.bool b) ∧ Lft w p F fs x w' := by
  have hb0 := below_new w (.cells #[.int .i64 k, .string key, .string val, .string to, .int .i64 n] 33)
  obtain ⟨W0, hW0⟩ : ∃ W0, W0 = w.alloc (.cells #[.int .i64 k, .string key, .string val, .string to, .int .i64 n] 33) := ⟨_, rfl⟩
  have hr : Row W0 w.heap.size [.int .i64 k, .string key, .string val, .string to, .int .i64 n] 33 := by rw [hW0]; exact Row.new w _ _
  rw [← hW0] at hb0
  have HL : Hid (Lft w p F fs x W0) := .of_below h hb0
  rw [hW0] at HL
  have c0 := hr.cell (i := 0) rfl
  have c1 := hr.cell (i := 1) rfl
  have c2 := hr.cell (i := 2) rfl
  have c3 := hr.cell (i := 3) rfl
  have c4 := hr.cell (i := 4) rfl
  have HW : Hid (W0 = w.alloc (.cells #[.int .i64 k, .string key, .string val, .string to, .int .i64 n] 33)) := hW0
  have e1 : (k == 1) = false := by simpa using h1
  have e2 : (k == 2) = false := by simpa using h2
  have e3 : (k == 3) = false := by simpa using h3
  have e4 : (k == 4) = false := by simpa using h4
  have e5 : (k == 5) = false := by simpa using h5
  have e6 : (k == 6) = false := by simpa using h6
  clear h hr hb0 hW0
  go_enter Try.func13, Try.ntmps13
  go_wp2
  go_ret
  exact ⟨_, rfl, HL.out⟩
end Go.Proofs.Ytlfgeanafidopaa.Bt
