/-
  The document's answer of Kind of layer 6.
-/
import Derived.Test.YtefpcdpclpignaaKRKey
namespace Go.Proofs.Ytefpcdpclpignaa
open Go.RowKit M

theorem rkind_short (l : List UInt8) (h : l.length < 3) (w : World) :
    Calls Try.prog 10 #[.string (bs l)] w fun e w' => e = .returned (kv 0 0 [] 0) ∧ Below w.heap.size w w' := by
  have hz : ((bs l).size : Int) < 3 := by rw [bs_size]; omega
  obtain ⟨S, eS⟩ : ∃ S, S = bs l := ⟨_, rfl⟩
  rw [← eS] at hz ⊢
  clear eS h
  go_enter Try.func10, Try.ntmps10
  go_wp2
  (try simp only [Exit.inBlock, Exit.then]); refine bodyPost_ret (results_tmp4 rfl _ _ _) rfl ?_
  exact ⟨rfl, Below.refl _ _⟩

/-- What is told of a text with three bytes ahead. -/
structure T3 (S R : ByteArray) (c : UInt8) (n : Nat) : Prop where
  big : 3 ≤ S.size
  max : S.size ≤ 9223372036854775807
  at2 : ∀ h : 2 < S.size, S[2]'h = c
  ext : S.extract 3 S.size = R
  num : ∀ W, Calls Try.prog 54 #[.string S] W fun e w' => e = .returned (.int .i64 (n : Int)) ∧ Below W.heap.size W w'

set_option maxRecDepth 10000 in
set_option maxHeartbeats 2000000 in
theorem rk_a0 (S R : ByteArray) (c : UInt8) (n : Nat) (h : T3 S R c n) (hn : n = 0) (d4 : ((c.toNat : Int) == 4) = false) (w : World) :
    Calls Try.prog 10 #[.string S] w fun e w' => e = .returned (.tuple #[.int .i64 0, .int .i64 0, .string ⟨#[]⟩, .int .i64 0]) ∧ Below w.heap.size w w' := by
  have hz : 2 < S.size := h.big
  have hz2 : decide ((S.size : Int) < 3) = false := decide_eq_false (by have := h.big; omega)
  have hz3 : (3 : Int) ≤ (S.size : Int) := by have := h.big; omega
  have hmx := h.max
  have h2 := h.at2 hz
  have hx := h.ext
  have hN := h.num
  clear h
  subst hn
  have i0 : inoB 0 = false := by decide
  have M1 : Hid True := trivial
  go_enter Try.func10, Try.ntmps10
  go_wp2_with (first
    | (go_at_call 54; clear M1; refine (hN _).mono ?_; rintro e w1 ⟨rfl, hb⟩; have B1 : Hid (Below w.heap.size w w1) := hb; clear hb)
    | (go_at_call 55; refine (rino_any _ _).mono ?_; rintro e wi ⟨rfl, rfl⟩))
  (try simp only [Exit.inBlock, Exit.then]); refine bodyPost_ret (results_tmp4 rfl _ _ _) rfl ?_
  exact ⟨rfl, B1.out⟩

set_option maxRecDepth 10000 in
set_option maxHeartbeats 2000000 in
theorem rk_a1 (S R : ByteArray) (c : UInt8) (n : Nat) (h : T3 S R c n) (hn : n = 0) (hc : c = 4) (hl : ((R.size : Int) == 2) = false) (w : World) :
    Calls Try.prog 10 #[.string S] w fun e w' => e = .returned (.tuple #[.int .i64 0, .int .i64 0, .string ⟨#[]⟩, .int .i64 0]) ∧ Below w.heap.size w w' := by
  have hz : 2 < S.size := h.big
  have hz2 : decide ((S.size : Int) < 3) = false := decide_eq_false (by have := h.big; omega)
  have hz3 : (3 : Int) ≤ (S.size : Int) := by have := h.big; omega
  have hmx := h.max
  have h2 := h.at2 hz
  have hx := h.ext
  have hN := h.num
  clear h
  subst hn
  subst hc
  have i0 : inoB 0 = false := by decide
  have M1 : Hid True := trivial
  go_enter Try.func10, Try.ntmps10
  go_wp2_with (first
    | (go_at_call 54; clear M1; refine (hN _).mono ?_; rintro e w1 ⟨rfl, hb⟩; have B1 : Hid (Below w.heap.size w w1) := hb; clear hb)
    | (go_at_call 55; refine (rino_any _ _).mono ?_; rintro e wi ⟨rfl, rfl⟩))
  (try simp only [Exit.inBlock, Exit.then]); refine bodyPost_ret (results_tmp4 rfl _ _ _) rfl ?_
  exact ⟨rfl, B1.out⟩

set_option maxRecDepth 10000 in
set_option maxHeartbeats 2000000 in
theorem rk_a2 (S R : ByteArray) (c : UInt8) (n : Nat) (h : T3 S R c n) (hn : n = 0) (hc : c = 4) (hl : ((R.size : Int) == 2) = true) (m : Nat) (hM : ∀ W, Calls Try.prog 54 #[.string R] W fun e w' => e = .returned (.int .i64 (m : Int)) ∧ Below W.heap.size W w') (hi : inoB m = false) (w : World) :
    Calls Try.prog 10 #[.string S] w fun e w' => e = .returned (.tuple #[.int .i64 0, .int .i64 0, .string ⟨#[]⟩, .int .i64 0]) ∧ Below w.heap.size w w' := by
  have hz : 2 < S.size := h.big
  have hz2 : decide ((S.size : Int) < 3) = false := decide_eq_false (by have := h.big; omega)
  have hz3 : (3 : Int) ≤ (S.size : Int) := by have := h.big; omega
  have hmx := h.max
  have h2 := h.at2 hz
  have hx := h.ext
  have hN := h.num
  clear h
  subst hn
  subst hc
  have i0 : inoB 0 = false := by decide
  have M1 : Hid True := trivial
  have N2 : Hid True := trivial
  go_enter Try.func10, Try.ntmps10
  go_wp2_with (first
    | (go_at_call 54; clear M1; refine (hN _).mono ?_; rintro e w1 ⟨rfl, hb⟩; have B1 : Hid (Below w.heap.size w w1) := hb; clear hb)
    | (go_at_call 54; clear N2; refine (hM _).mono ?_; rintro e w2 ⟨rfl, hb⟩; have B2 : Hid (Below w.heap.size w w2) := Below.after B1.out hb; clear hb)
    | (go_at_call 55; refine (rino_any _ _).mono ?_; rintro e wi ⟨rfl, rfl⟩))
  (try simp only [Exit.inBlock, Exit.then]); refine bodyPost_ret (results_tmp4 rfl _ _ _) rfl ?_
  exact ⟨rfl, B2.out⟩

set_option maxRecDepth 10000 in
set_option maxHeartbeats 2000000 in
theorem rk_a3 (S R : ByteArray) (c : UInt8) (n : Nat) (h : T3 S R c n) (hn : n = 0) (hc : c = 4) (hl : ((R.size : Int) == 2) = true) (m : Nat) (hM : ∀ W, Calls Try.prog 54 #[.string R] W fun e w' => e = .returned (.int .i64 (m : Int)) ∧ Below W.heap.size W w') (hi : inoB m = true) (w : World) :
    Calls Try.prog 10 #[.string S] w fun e w' => e = .returned (.tuple #[.int .i64 4, .int .i64 (m : Int), .string ⟨#[]⟩, .int .i64 0]) ∧ Below w.heap.size w w' := by
  have hz : 2 < S.size := h.big
  have hz2 : decide ((S.size : Int) < 3) = false := decide_eq_false (by have := h.big; omega)
  have hz3 : (3 : Int) ≤ (S.size : Int) := by have := h.big; omega
  have hmx := h.max
  have h2 := h.at2 hz
  have hx := h.ext
  have hN := h.num
  clear h
  subst hn
  subst hc
  have i0 : inoB 0 = false := by decide
  have M1 : Hid True := trivial
  have N2 : Hid True := trivial
  have N3 : Hid True := trivial
  go_enter Try.func10, Try.ntmps10
  go_wp2_with (first
    | (go_at_call 54; clear M1; refine (hN _).mono ?_; rintro e w1 ⟨rfl, hb⟩; have B1 : Hid (Below w.heap.size w w1) := hb; clear hb)
    | (go_at_call 54; clear N2; refine (hM _).mono ?_; rintro e w2 ⟨rfl, hb⟩; have B2 : Hid (Below w.heap.size w w2) := Below.after B1.out hb; clear hb)
    | (go_at_call 54; clear N3; refine (hM _).mono ?_; rintro e w3 ⟨rfl, hb⟩; have B3 : Hid (Below w.heap.size w w3) := Below.after B2.out hb; clear hb)
    | (go_at_call 55; refine (rino_any _ _).mono ?_; rintro e wi ⟨rfl, rfl⟩))
  (try simp only [Exit.inBlock, Exit.then]); refine bodyPost_ret (results_tmp4 rfl _ _ _) rfl ?_
  exact ⟨rfl, B3.out⟩

set_option maxRecDepth 10000 in
set_option maxHeartbeats 2000000 in
theorem rk_i (S R : ByteArray) (c : UInt8) (n : Nat) (h : T3 S R c n) (hn : ((n : Int) == 0) = false) (hi : inoB n = false) (w : World) :
    Calls Try.prog 10 #[.string S] w fun e w' => e = .returned (.tuple #[.int .i64 0, .int .i64 0, .string ⟨#[]⟩, .int .i64 0]) ∧ Below w.heap.size w w' := by
  have hz : 2 < S.size := h.big
  have hz2 : decide ((S.size : Int) < 3) = false := decide_eq_false (by have := h.big; omega)
  have hz3 : (3 : Int) ≤ (S.size : Int) := by have := h.big; omega
  have hmx := h.max
  have h2 := h.at2 hz
  have hx := h.ext
  have hN := h.num
  clear h
  have M1 : Hid True := trivial
  go_enter Try.func10, Try.ntmps10
  go_wp2_with (first
    | (go_at_call 54; clear M1; refine (hN _).mono ?_; rintro e w1 ⟨rfl, hb⟩; have B1 : Hid (Below w.heap.size w w1) := hb; clear hb)
    | (go_at_call 55; refine (rino_any _ _).mono ?_; rintro e wi ⟨rfl, rfl⟩))
  (try simp only [Exit.inBlock, Exit.then]); refine bodyPost_ret (results_tmp4 rfl _ _ _) rfl ?_
  exact ⟨rfl, B1.out⟩

set_option maxRecDepth 10000 in
set_option maxHeartbeats 2000000 in
theorem rk_b0 (S R : ByteArray) (c : UInt8) (n : Nat) (h : T3 S R c n) (hn : ((n : Int) == 0) = false) (hi : inoB n = true) (hc : c = 1) (he : (R.toList == []) = false) (_he2 : R.toList.isEmpty = false) (w : World) :
    Calls Try.prog 10 #[.string S] w fun e w' => e = .returned (.tuple #[.int .i64 0, .int .i64 0, .string ⟨#[]⟩, .int .i64 0]) ∧ Below w.heap.size w w' := by
  have hz : 2 < S.size := h.big
  have hz2 : decide ((S.size : Int) < 3) = false := decide_eq_false (by have := h.big; omega)
  have hz3 : (3 : Int) ≤ (S.size : Int) := by have := h.big; omega
  have hmx := h.max
  have h2 := h.at2 hz
  have hx := h.ext
  have hN := h.num
  clear h
  subst hc
  have M1 : Hid True := trivial
  go_enter Try.func10, Try.ntmps10
  go_wp2_with (first
    | (go_at_call 54; clear M1; refine (hN _).mono ?_; rintro e w1 ⟨rfl, hb⟩; have B1 : Hid (Below w.heap.size w w1) := hb; clear hb)
    | (go_at_call 55; refine (rino_any _ _).mono ?_; rintro e wi ⟨rfl, rfl⟩))
  (try simp only [Exit.inBlock, Exit.then]); refine bodyPost_ret (results_tmp4 rfl _ _ _) rfl ?_
  exact ⟨rfl, B1.out⟩

set_option maxRecDepth 10000 in
set_option maxHeartbeats 2000000 in
theorem rk_b1 (S R : ByteArray) (c : UInt8) (n : Nat) (h : T3 S R c n) (hn : ((n : Int) == 0) = false) (hi : inoB n = true) (hc : c = 1) (he : (R.toList == []) = true) (_he2 : R.toList.isEmpty = true) (w : World) :
    Calls Try.prog 10 #[.string S] w fun e w' => e = .returned (.tuple #[.int .i64 1, .int .i64 (n : Int), .string ⟨#[]⟩, .int .i64 0]) ∧ Below w.heap.size w w' := by
  have hz : 2 < S.size := h.big
  have hz2 : decide ((S.size : Int) < 3) = false := decide_eq_false (by have := h.big; omega)
  have hz3 : (3 : Int) ≤ (S.size : Int) := by have := h.big; omega
  have hmx := h.max
  have h2 := h.at2 hz
  have hx := h.ext
  have hN := h.num
  clear h
  subst hc
  have M1 : Hid True := trivial
  go_enter Try.func10, Try.ntmps10
  go_wp2_with (first
    | (go_at_call 54; clear M1; refine (hN _).mono ?_; rintro e w1 ⟨rfl, hb⟩; have B1 : Hid (Below w.heap.size w w1) := hb; clear hb)
    | (go_at_call 55; refine (rino_any _ _).mono ?_; rintro e wi ⟨rfl, rfl⟩))
  (try simp only [Exit.inBlock, Exit.then]); refine bodyPost_ret (results_tmp4 rfl _ _ _) rfl ?_
  exact ⟨rfl, B1.out⟩

set_option maxRecDepth 10000 in
set_option maxHeartbeats 2000000 in
theorem rk_c0 (S R : ByteArray) (c : UInt8) (n : Nat) (h : T3 S R c n) (hn : ((n : Int) == 0) = false) (hi : inoB n = true) (hc : c = 2) (k : Int) (hR : ∀ W, Calls Try.prog 56 #[.string R] W fun e w' => e = .returned (.int .i64 k) ∧ W = w') (hk : (k == 0) = false) (w : World) :
    Calls Try.prog 10 #[.string S] w fun e w' => e = .returned (.tuple #[.int .i64 0, .int .i64 0, .string ⟨#[]⟩, .int .i64 0]) ∧ Below w.heap.size w w' := by
  have hz : 2 < S.size := h.big
  have hz2 : decide ((S.size : Int) < 3) = false := decide_eq_false (by have := h.big; omega)
  have hz3 : (3 : Int) ≤ (S.size : Int) := by have := h.big; omega
  have hmx := h.max
  have h2 := h.at2 hz
  have hx := h.ext
  have hN := h.num
  clear h
  subst hc
  have M1 : Hid True := trivial
  go_enter Try.func10, Try.ntmps10
  go_wp2_with (first
    | (go_at_call 54; clear M1; refine (hN _).mono ?_; rintro e w1 ⟨rfl, hb⟩; have B1 : Hid (Below w.heap.size w w1) := hb; clear hb)
    | (go_at_call 56; refine (hR _).mono ?_; rintro e wr ⟨rfl, rfl⟩)
    | (go_at_call 55; refine (rino_any _ _).mono ?_; rintro e wi ⟨rfl, rfl⟩))
  (try simp only [Exit.inBlock, Exit.then]); refine bodyPost_ret (results_tmp4 rfl _ _ _) rfl ?_
  exact ⟨rfl, B1.out⟩

set_option maxRecDepth 10000 in
set_option maxHeartbeats 2000000 in
theorem rk_c1 (S R : ByteArray) (c : UInt8) (n : Nat) (h : T3 S R c n) (hn : ((n : Int) == 0) = false) (hi : inoB n = true) (hc : c = 2) (hR : ∀ W, Calls Try.prog 56 #[.string R] W fun e w' => e = .returned (.int .i64 0) ∧ W = w') (w : World) :
    Calls Try.prog 10 #[.string S] w fun e w' => e = .returned (.tuple #[.int .i64 2, .int .i64 (n : Int), .string R, .int .i64 0]) ∧ Below w.heap.size w w' := by
  have hz : 2 < S.size := h.big
  have hz2 : decide ((S.size : Int) < 3) = false := decide_eq_false (by have := h.big; omega)
  have hz3 : (3 : Int) ≤ (S.size : Int) := by have := h.big; omega
  have hmx := h.max
  have h2 := h.at2 hz
  have hx := h.ext
  have hN := h.num
  clear h
  subst hc
  have M1 : Hid True := trivial
  go_enter Try.func10, Try.ntmps10
  go_wp2_with (first
    | (go_at_call 54; clear M1; refine (hN _).mono ?_; rintro e w1 ⟨rfl, hb⟩; have B1 : Hid (Below w.heap.size w w1) := hb; clear hb)
    | (go_at_call 56; refine (hR _).mono ?_; rintro e wr ⟨rfl, rfl⟩)
    | (go_at_call 55; refine (rino_any _ _).mono ?_; rintro e wi ⟨rfl, rfl⟩))
  (try simp only [Exit.inBlock, Exit.then]); refine bodyPost_ret (results_tmp4 rfl _ _ _) rfl ?_
  exact ⟨rfl, B1.out⟩

set_option maxRecDepth 10000 in
set_option maxHeartbeats 2000000 in
theorem rk_d0 (S R : ByteArray) (c : UInt8) (n : Nat) (h : T3 S R c n) (hn : ((n : Int) == 0) = false) (hi : inoB n = true) (hc : c = 3) (hl : ((R.size : Int) == 2) = false) (w : World) :
    Calls Try.prog 10 #[.string S] w fun e w' => e = .returned (.tuple #[.int .i64 0, .int .i64 0, .string ⟨#[]⟩, .int .i64 0]) ∧ Below w.heap.size w w' := by
  have hz : 2 < S.size := h.big
  have hz2 : decide ((S.size : Int) < 3) = false := decide_eq_false (by have := h.big; omega)
  have hz3 : (3 : Int) ≤ (S.size : Int) := by have := h.big; omega
  have hmx := h.max
  have h2 := h.at2 hz
  have hx := h.ext
  have hN := h.num
  clear h
  subst hc
  have M1 : Hid True := trivial
  go_enter Try.func10, Try.ntmps10
  go_wp2_with (first
    | (go_at_call 54; clear M1; refine (hN _).mono ?_; rintro e w1 ⟨rfl, hb⟩; have B1 : Hid (Below w.heap.size w w1) := hb; clear hb)
    | (go_at_call 55; refine (rino_any _ _).mono ?_; rintro e wi ⟨rfl, rfl⟩))
  (try simp only [Exit.inBlock, Exit.then]); refine bodyPost_ret (results_tmp4 rfl _ _ _) rfl ?_
  exact ⟨rfl, B1.out⟩

set_option maxRecDepth 10000 in
set_option maxHeartbeats 2000000 in
theorem rk_d1 (S R : ByteArray) (c : UInt8) (n : Nat) (h : T3 S R c n) (hn : ((n : Int) == 0) = false) (hi : inoB n = true) (hc : c = 3) (hl : ((R.size : Int) == 2) = true) (m : Nat) (hM : ∀ W, Calls Try.prog 54 #[.string R] W fun e w' => e = .returned (.int .i64 (m : Int)) ∧ Below W.heap.size W w') (hm : decide ((m : Int) < 128) = false) (w : World) :
    Calls Try.prog 10 #[.string S] w fun e w' => e = .returned (.tuple #[.int .i64 0, .int .i64 0, .string ⟨#[]⟩, .int .i64 0]) ∧ Below w.heap.size w w' := by
  have hz : 2 < S.size := h.big
  have hz2 : decide ((S.size : Int) < 3) = false := decide_eq_false (by have := h.big; omega)
  have hz3 : (3 : Int) ≤ (S.size : Int) := by have := h.big; omega
  have hmx := h.max
  have h2 := h.at2 hz
  have hx := h.ext
  have hN := h.num
  clear h
  subst hc
  have M1 : Hid True := trivial
  have N2 : Hid True := trivial
  go_enter Try.func10, Try.ntmps10
  go_wp2_with (first
    | (go_at_call 54; clear M1; refine (hN _).mono ?_; rintro e w1 ⟨rfl, hb⟩; have B1 : Hid (Below w.heap.size w w1) := hb; clear hb)
    | (go_at_call 54; clear N2; refine (hM _).mono ?_; rintro e w2 ⟨rfl, hb⟩; have B2 : Hid (Below w.heap.size w w2) := Below.after B1.out hb; clear hb)
    | (go_at_call 55; refine (rino_any _ _).mono ?_; rintro e wi ⟨rfl, rfl⟩))
  (try simp only [Exit.inBlock, Exit.then]); refine bodyPost_ret (results_tmp4 rfl _ _ _) rfl ?_
  exact ⟨rfl, B2.out⟩

set_option maxRecDepth 10000 in
set_option maxHeartbeats 2000000 in
theorem rk_d2 (S R : ByteArray) (c : UInt8) (n : Nat) (h : T3 S R c n) (hn : ((n : Int) == 0) = false) (hi : inoB n = true) (hc : c = 3) (hl : ((R.size : Int) == 2) = true) (m : Nat) (hM : ∀ W, Calls Try.prog 54 #[.string R] W fun e w' => e = .returned (.int .i64 (m : Int)) ∧ Below W.heap.size W w') (hm : decide ((m : Int) < 128) = true) (w : World) :
    Calls Try.prog 10 #[.string S] w fun e w' => e = .returned (.tuple #[.int .i64 3, .int .i64 (n : Int), .string ⟨#[]⟩, .int .i64 (m : Int)]) ∧ Below w.heap.size w w' := by
  have hz : 2 < S.size := h.big
  have hz2 : decide ((S.size : Int) < 3) = false := decide_eq_false (by have := h.big; omega)
  have hz3 : (3 : Int) ≤ (S.size : Int) := by have := h.big; omega
  have hmx := h.max
  have h2 := h.at2 hz
  have hx := h.ext
  have hN := h.num
  clear h
  subst hc
  have M1 : Hid True := trivial
  have N2 : Hid True := trivial
  have N3 : Hid True := trivial
  go_enter Try.func10, Try.ntmps10
  go_wp2_with (first
    | (go_at_call 54; clear M1; refine (hN _).mono ?_; rintro e w1 ⟨rfl, hb⟩; have B1 : Hid (Below w.heap.size w w1) := hb; clear hb)
    | (go_at_call 54; clear N2; refine (hM _).mono ?_; rintro e w2 ⟨rfl, hb⟩; have B2 : Hid (Below w.heap.size w w2) := Below.after B1.out hb; clear hb)
    | (go_at_call 54; clear N3; refine (hM _).mono ?_; rintro e w3 ⟨rfl, hb⟩; have B3 : Hid (Below w.heap.size w w3) := Below.after B2.out hb; clear hb)
    | (go_at_call 55; refine (rino_any _ _).mono ?_; rintro e wi ⟨rfl, rfl⟩))
  (try simp only [Exit.inBlock, Exit.then]); refine bodyPost_ret (results_tmp4 rfl _ _ _) rfl ?_
  exact ⟨rfl, B3.out⟩

set_option maxRecDepth 10000 in
set_option maxHeartbeats 2000000 in
theorem rk_e (S R : ByteArray) (c : UInt8) (n : Nat) (h : T3 S R c n) (hn : ((n : Int) == 0) = false) (hi : inoB n = true) (d1 : ((c.toNat : Int) == 1) = false) (d2 : ((c.toNat : Int) == 2) = false) (d3 : ((c.toNat : Int) == 3) = false) (w : World) :
    Calls Try.prog 10 #[.string S] w fun e w' => e = .returned (.tuple #[.int .i64 0, .int .i64 0, .string ⟨#[]⟩, .int .i64 0]) ∧ Below w.heap.size w w' := by
  have hz : 2 < S.size := h.big
  have hz2 : decide ((S.size : Int) < 3) = false := decide_eq_false (by have := h.big; omega)
  have hz3 : (3 : Int) ≤ (S.size : Int) := by have := h.big; omega
  have hmx := h.max
  have h2 := h.at2 hz
  have hx := h.ext
  have hN := h.num
  clear h
  have M1 : Hid True := trivial
  go_enter Try.func10, Try.ntmps10
  go_wp2_with (first
    | (go_at_call 54; clear M1; refine (hN _).mono ?_; rintro e w1 ⟨rfl, hb⟩; have B1 : Hid (Below w.heap.size w w1) := hb; clear hb)
    | (go_at_call 55; refine (rino_any _ _).mono ?_; rintro e wi ⟨rfl, rfl⟩))
  (try simp only [Exit.inBlock, Exit.then]); refine bodyPost_ret (results_tmp4 rfl _ _ _) rfl ?_
  exact ⟨rfl, B1.out⟩

theorem rkind_any (l : List UInt8) (hl : l.length ≤ maxLen) (w : World) :
    Calls Try.prog 10 #[.string (bs l)] w fun e w' => e = .returned (kvOf l) ∧ Below w.heap.size w w' := by
  by_cases h3 : l.length < 3
  · have e0 : kvOf l = kv 0 0 [] 0 := by
      match l, h3 with
      | [], _ => rfl
      | [a], _ => rfl
      | [a, b], _ => rfl
    rw [e0]
    exact rkind_short l h3 w
  · obtain ⟨a, b, c, r, rfl⟩ : ∃ a b c r, l = a :: b :: c :: r := by
      match l, h3 with
      | [], h => simp at h
      | [a], h => simp at h
      | [a, b], h => simp at h
      | a :: b :: c :: r, _ => exact ⟨a, b, c, r, rfl⟩
    have hz : (bs (a :: b :: c :: r)).size = r.length + 3 := rfl
    have hT : T3 (bs (a :: b :: c :: r)) (bs r) c (num2 a b) := by
      refine ⟨by omega, hl, fun h => ?_, ?_, fun W => number6_any _ (by simp) W⟩
      · obtain ⟨_, e⟩ := bs_get h; exact e
      · rw [hz, bs_extract]
        congr 1
        exact List.take_of_length_le (by simp)
    have hrl : r.length ≤ maxLen := by simp at hl; omega
    have hM : r.length = 2 → ∀ W, Calls Try.prog 54 #[.string (bs r)] W fun e w' => e = .returned (.int .i64 (hiV r : Nat)) ∧ Below W.heap.size W w' := fun h W => number6_any r (by omega) W
    have hR := fun W => rright_any r hrl W
    have hs2 : (((bs r).size : Int) == 2) = decide (r.length = 2) := by rw [bs_size, Bool.eq_iff_iff, beq_iff_eq, decide_eq_true_iff]; omega
    have hem : ((bs r).toList == []) = r.isEmpty := by rw [bs_toList]; cases r <;> rfl
    have hem2 : (bs r).toList.isEmpty = r.isEmpty := by rw [bs_toList]
    have hcn : ∀ k : Nat, k < 256 → ((c.toNat : Int) == (k : Int)) = decide (c.toNat = k) := fun k _ => by rw [Bool.eq_iff_iff, beq_iff_eq, decide_eq_true_iff]; omega
    have hcu : ∀ k : UInt8, c.toNat = k.toNat → c = k := fun k h => UInt8.toNat_inj.1 h
    have hv := hiV_lt r
    unfold kvOf
    by_cases hn : num2 a b = 0
    · have hi : inoB (num2 a b : Nat) = false := by rw [hn]; decide
      by_cases hc : c.toNat = 4
      · by_cases h2 : r.length = 2
        · cases hi2 : inoB (hiV r : Nat)
          · have e0 : kindOf (a :: b :: c :: r) = (0, 0, [], 0) := by simp [kindOf, hi, hc, hi2]
            rw [e0]
            exact rk_a2 _ _ c _ hT hn (hcu 4 hc) (by rw [hs2]; exact decide_eq_true h2) _ (hM h2) hi2 w
          · have e0 : kindOf (a :: b :: c :: r) = (4, hiV r, [], 0) := by simp [kindOf, hn, hc, h2, hi2]
            rw [e0]
            exact rk_a3 _ _ c _ hT hn (hcu 4 hc) (by rw [hs2]; exact decide_eq_true h2) _ (hM h2) hi2 w
        · have e0 : kindOf (a :: b :: c :: r) = (0, 0, [], 0) := by simp [kindOf, hc, h2]
          rw [e0]
          exact rk_a1 _ _ c _ hT hn (hcu 4 hc) (by rw [hs2]; exact decide_eq_false h2) w
      · have e0 : kindOf (a :: b :: c :: r) = (0, 0, [], 0) := by simp [kindOf, hi, hc]
        rw [e0]
        exact rk_a0 _ _ c _ hT hn ((hcn 4 (by decide)).trans (decide_eq_false hc)) w
    · have hn0 : (((num2 a b : Nat) : Int) == 0) = false := by rw [beq_eq_false_iff_ne]; omega
      cases hi : inoB (num2 a b : Nat)
      · have e0 : kindOf (a :: b :: c :: r) = (0, 0, [], 0) := by simp [kindOf, hi, hn]
        rw [e0]
        exact rk_i _ _ c _ hT hn0 hi w
      · by_cases hc1 : c.toNat = 1
        · cases hre : r.isEmpty
          · have hne : ¬ r = [] := by intro e; rw [e] at hre; cases hre
            have e0 : kindOf (a :: b :: c :: r) = (0, 0, [], 0) := by simp [kindOf, hc1, hne]
            rw [e0]
            exact rk_b0 _ _ c _ hT hn0 hi (hcu 1 hc1) (by rw [hem]; exact hre) (by rw [hem2]; exact hre) w
          · have hne : r = [] := List.isEmpty_iff.1 hre
            have e0 : kindOf (a :: b :: c :: r) = (1, num2 a b, [], 0) := by simp [kindOf, hc1, hne, hi]
            rw [e0]
            exact rk_b1 _ _ c _ hT hn0 hi (hcu 1 hc1) (by rw [hem]; exact hre) (by rw [hem2]; exact hre) w
        · by_cases hc2 : c.toNat = 2
          · cases hnb : nameB r
            · have e0 : kindOf (a :: b :: c :: r) = (0, 0, [], 0) := by simp [kindOf, hc2, hnb]
              rw [e0]
              exact rk_c0 _ _ c _ hT hn0 hi (hcu 2 hc2) _ hR hnb w
            · have e0 : kindOf (a :: b :: c :: r) = (2, num2 a b, r, 0) := by simp [kindOf, hc2, hnb, hi]
              rw [e0]
              have hr0 : rightOf r = 0 := by unfold nameB at hnb; simpa using hnb
              rw [hr0] at hR
              exact rk_c1 _ _ c _ hT hn0 hi (hcu 2 hc2) hR w
          · by_cases hc3 : c.toNat = 3
            · by_cases h2 : r.length = 2
              · by_cases hm : hiV r < 128
                · have hb : blkB (hiV r : Nat) = true := decide_eq_true (by omega)
                  have e0 : kindOf (a :: b :: c :: r) = (3, num2 a b, [], hiV r) := by simp [kindOf, hc3, h2, hb, hi]
                  rw [e0]
                  exact rk_d2 _ _ c _ hT hn0 hi (hcu 3 hc3) (by rw [hs2]; exact decide_eq_true h2) _ (hM h2) (decide_eq_true (by omega)) w
                · have hb : blkB (hiV r : Nat) = false := decide_eq_false (by omega)
                  have e0 : kindOf (a :: b :: c :: r) = (0, 0, [], 0) := by simp [kindOf, hc3, hb]
                  rw [e0]
                  exact rk_d1 _ _ c _ hT hn0 hi (hcu 3 hc3) (by rw [hs2]; exact decide_eq_true h2) _ (hM h2) (decide_eq_false (by omega)) w
              · have e0 : kindOf (a :: b :: c :: r) = (0, 0, [], 0) := by simp [kindOf, hc3, h2]
                rw [e0]
                exact rk_d0 _ _ c _ hT hn0 hi (hcu 3 hc3) (by rw [hs2]; exact decide_eq_false h2) w
            · have e0 : kindOf (a :: b :: c :: r) = (0, 0, [], 0) := by simp [kindOf, hc1, hc2, hc3, hn]
              rw [e0]
              exact rk_e _ _ c _ hT hn0 hi ((hcn 1 (by decide)).trans (decide_eq_false hc1)) ((hcn 2 (by decide)).trans (decide_eq_false hc2)) ((hcn 3 (by decide)).trans (decide_eq_false hc3)) w
end Go.Proofs.Ytefpcdpclpignaa
