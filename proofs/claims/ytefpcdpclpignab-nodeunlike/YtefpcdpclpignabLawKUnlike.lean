/-
  Proved: the statement that unlike things have unlike keys, and each key tells what it is of (NodeUnlike): for every number, text and number; no condition.
-/
import Derived.Test.YtefpcdpclpignabKKeyM
import Derived.Test.YtefpcdpclpignabKArg
namespace Go.Proofs.Ytefpcdpclpignab.nodeUnlike
open Go.ChangeShapes Go.WideShapes Go.ChangeAt Go.RowKit M

/-- A key is made, and Kind is asked of it. -/
abbrev KindIs (S : ByteArray) (k n : Int) (s : ByteArray) (b : Int) : Prop := ∀ W, Calls Try.prog 13 #[.string S] W fun e w' => e = .returned (.tuple #[.int .i64 k, .int .i64 n, .string s, .int .i64 b]) ∧ Below W.heap.size W w'
abbrev InodeIs (ino : Int) (S : ByteArray) : Prop := ∀ W, Calls Try.prog 11 #[.int .i64 ino] W fun e w' => e = .returned (.string S) ∧ Below W.heap.size W w'

set_option maxRecDepth 10000 in
set_option maxHeartbeats 1000000 in
theorem no_low (ino block : Int) (S1 S0 L : ByteArray) (k n : Int) (h : ino < 0) (w : World) (hI : InodeIs ino S1) (hK1 : KindIs S1 k n S0 0) :
    Calls Try.prog 4 #[.int .i64 ino, .string L, .int .i64 block] w fun e w' => e = .returned (.bool true) ∧ Below w.heap.size w w' := by
  have c1 : ¬ (1 : Int) ≤ ino := by omega
  have d1 : decide ((1 : Int) ≤ ino) = false := decide_eq_false c1
  have c2 : ¬ (0 : Int) ≤ ino := by omega
  have d2 : decide ((0 : Int) ≤ ino) = false := decide_eq_false c2
  by_cases c3 : k = 1
  · subst c3
    have M1 : Hid True := trivial
    go_enter Try.func4, Try.ntmps4
    go_wp2_with (first
    | (go_at_call 11; refine (hI _).mono ?_; rintro e w1 ⟨rfl, hb⟩; have B1 : Hid (Below w.heap.size w w1) := hb; clear hb)
    | (go_at_call 13; clear M1; refine (hK1 _).mono ?_; rintro e w2 ⟨rfl, hb⟩; have B2 : Hid (Below w.heap.size w w2) := Below.after B1.out hb; clear hb)
    | (go_at_call 5; refine (alive_any _).mono ?_; rintro e w3 ⟨rfl, hb⟩; have B3 : Hid (Below w.heap.size w w3) := Below.after B2.out hb; clear hb))
    go_ret
    exact ⟨rfl, B3.out⟩
  have c4 : (k == 1) = false := by simpa using c3
  have M1 : Hid True := trivial
  go_enter Try.func4, Try.ntmps4
  go_wp2_with (first
    | (go_at_call 11; refine (hI _).mono ?_; rintro e w1 ⟨rfl, hb⟩; have B1 : Hid (Below w.heap.size w w1) := hb; clear hb)
    | (go_at_call 13; clear M1; refine (hK1 _).mono ?_; rintro e w2 ⟨rfl, hb⟩; have B2 : Hid (Below w.heap.size w w2) := Below.after B1.out hb; clear hb)
    | (go_at_call 5; refine (alive_any _).mono ?_; rintro e w3 ⟨rfl, hb⟩; have B3 : Hid (Below w.heap.size w w3) := Below.after B2.out hb; clear hb))
  go_ret
  exact ⟨rfl, B3.out⟩

set_option maxRecDepth 10000 in
set_option maxHeartbeats 1000000 in
theorem no_high (ino block : Int) (S1 S0 L : ByteArray) (k n : Int) (h : 65535 < ino) (w : World) (hI : InodeIs ino S1) (hK1 : KindIs S1 k n S0 0) :
    Calls Try.prog 4 #[.int .i64 ino, .string L, .int .i64 block] w fun e w' => e = .returned (.bool true) ∧ Below w.heap.size w w' := by
  have c1 : (1 : Int) ≤ ino := by omega
  have c2 : (0 : Int) ≤ ino := by omega
  have d5 : decide (ino ≤ 4096) = false := decide_eq_false (by omega)
  have d6 : decide (ino ≤ 65535) = false := decide_eq_false (by omega)
  by_cases c3 : k = 1
  · subst c3
    have M1 : Hid True := trivial
    go_enter Try.func4, Try.ntmps4
    go_wp2_with (first
    | (go_at_call 11; refine (hI _).mono ?_; rintro e w1 ⟨rfl, hb⟩; have B1 : Hid (Below w.heap.size w w1) := hb; clear hb)
    | (go_at_call 13; clear M1; refine (hK1 _).mono ?_; rintro e w2 ⟨rfl, hb⟩; have B2 : Hid (Below w.heap.size w w2) := Below.after B1.out hb; clear hb)
    | (go_at_call 5; refine (alive_any _).mono ?_; rintro e w3 ⟨rfl, hb⟩; have B3 : Hid (Below w.heap.size w w3) := Below.after B2.out hb; clear hb))
    go_ret
    exact ⟨rfl, B3.out⟩
  have c4 : (k == 1) = false := by simpa using c3
  have M1 : Hid True := trivial
  go_enter Try.func4, Try.ntmps4
  go_wp2_with (first
    | (go_at_call 11; refine (hI _).mono ?_; rintro e w1 ⟨rfl, hb⟩; have B1 : Hid (Below w.heap.size w w1) := hb; clear hb)
    | (go_at_call 13; clear M1; refine (hK1 _).mono ?_; rintro e w2 ⟨rfl, hb⟩; have B2 : Hid (Below w.heap.size w w2) := Below.after B1.out hb; clear hb)
    | (go_at_call 5; refine (alive_any _).mono ?_; rintro e w3 ⟨rfl, hb⟩; have B3 : Hid (Below w.heap.size w w3) := Below.after B2.out hb; clear hb))
  go_ret
  exact ⟨rfl, B3.out⟩

set_option maxRecDepth 10000 in
set_option maxHeartbeats 1000000 in
theorem no_zero (ino block : Int) (S1 S0 L : ByteArray) (k n : Int) (h : ino = 0) (hk : k = 0) (w : World) (hI : InodeIs ino S1) (hK1 : KindIs S1 k n S0 0) :
    Calls Try.prog 4 #[.int .i64 ino, .string L, .int .i64 block] w fun e w' => e = .returned (.bool true) ∧ Below w.heap.size w w' := by
  subst h
  subst hk
  have M1 : Hid True := trivial
  go_enter Try.func4, Try.ntmps4
  go_wp2_with (first
    | (go_at_call 11; refine (hI _).mono ?_; rintro e w1 ⟨rfl, hb⟩; have B1 : Hid (Below w.heap.size w w1) := hb; clear hb)
    | (go_at_call 13; clear M1; refine (hK1 _).mono ?_; rintro e w2 ⟨rfl, hb⟩; have B2 : Hid (Below w.heap.size w w2) := Below.after B1.out hb; clear hb)
    | (go_at_call 5; refine (alive_any _).mono ?_; rintro e w3 ⟨rfl, hb⟩; have B3 : Hid (Below w.heap.size w w3) := Below.after B2.out hb; clear hb))
  go_ret
  exact ⟨rfl, B3.out⟩

set_option maxRecDepth 10000 in
set_option maxHeartbeats 1000000 in
theorem no_mid (ino block : Int) (S1 S0 L : ByteArray) (k n : Int) (h : 4096 < ino) (h2 : ino ≤ 65535) (hk : k = 0) (w : World) (hI : InodeIs ino S1) (hK1 : KindIs S1 k n S0 0) :
    Calls Try.prog 4 #[.int .i64 ino, .string L, .int .i64 block] w fun e w' => e = .returned (.bool true) ∧ Below w.heap.size w w' := by
  subst hk
  have c1 : (1 : Int) ≤ ino := by omega
  have c2 : (0 : Int) ≤ ino := by omega
  have d5 : decide (ino ≤ 4096) = false := decide_eq_false (by omega)
  have M1 : Hid True := trivial
  go_enter Try.func4, Try.ntmps4
  go_wp2_with (first
    | (go_at_call 11; refine (hI _).mono ?_; rintro e w1 ⟨rfl, hb⟩; have B1 : Hid (Below w.heap.size w w1) := hb; clear hb)
    | (go_at_call 13; clear M1; refine (hK1 _).mono ?_; rintro e w2 ⟨rfl, hb⟩; have B2 : Hid (Below w.heap.size w w2) := Below.after B1.out hb; clear hb)
    | (go_at_call 5; refine (alive_any _).mono ?_; rintro e w3 ⟨rfl, hb⟩; have B3 : Hid (Below w.heap.size w w3) := Below.after B2.out hb; clear hb))
  go_ret
  exact ⟨rfl, B3.out⟩

set_option maxRecDepth 10000 in
set_option maxHeartbeats 1000000 in
theorem yes_nb (ino block : Int) (S0 S1 S2 S3 S4 L : ByteArray) (hK2 : KindIs S2 2 ino L 0) (hR : ∀ W, Calls Try.prog 14 #[.string L] W fun e w' => e = .returned (.int .i64 0) ∧ Below W.heap.size W w') (b0 : 0 ≤ block) (b1 : block < 128) (hK3 : KindIs S3 3 ino S0 block) (w : World) (h1 : 1 ≤ ino) (h2 : ino ≤ 4096) (hI : InodeIs ino S1) (hK1 : KindIs S1 1 ino S0 0)
    (hE : ∀ W, Calls Try.prog 7 #[.int .i64 ino, .string L] W fun e w' => e = .returned (.string S2) ∧ Below W.heap.size W w')
    (hB : ∀ W, Calls Try.prog 8 #[.int .i64 ino, .int .i64 block] W fun e w' => e = .returned (.string S3) ∧ Below W.heap.size W w')
    (hO : ∀ W, Calls Try.prog 12 #[.int .i64 ino] W fun e w' => e = .returned (.string S4) ∧ Below W.heap.size W w') (hK4 : KindIs S4 4 ino S0 0) :
    Calls Try.prog 4 #[.int .i64 ino, .string L, .int .i64 block] w fun e w' => e = .returned (.bool true) ∧ Below w.heap.size w w' := by
  have c0 : (0 : Int) ≤ ino := by omega
  have c1 : ino ≤ 65535 := by omega
  have M1 : Hid True := trivial
  have M2 : Hid True := trivial
  have M3 : Hid True := trivial
  go_enter Try.func4, Try.ntmps4
  go_wp2_with (first
    | (go_at_call 11; refine (hI _).mono ?_; rintro e w1 ⟨rfl, hb⟩; have B1 : Hid (Below w.heap.size w w1) := hb; clear hb)
    | (go_at_call 13; clear M1; refine (hK1 _).mono ?_; rintro e w2 ⟨rfl, hb⟩; have B2 : Hid (Below w.heap.size w w2) := Below.after B1.out hb; clear hb)
    | (go_at_call 7; refine (hE _).mono ?_; rintro e w3 ⟨rfl, hb⟩; have B3 : Hid (Below w.heap.size w w3) := Below.after B2.out hb; clear hb)
    | (go_at_call 13; clear M2; refine (hK2 _).mono ?_; rintro e w4 ⟨rfl, hb⟩; have B4 : Hid (Below w.heap.size w w4) := Below.after B3.out hb; clear hb)
    | (go_at_call 14; refine (hR _).mono ?_; rintro e w5 ⟨rfl, hb⟩; have B5 : Hid (Below w.heap.size w w5) := Below.after B4.out hb; clear hb)
    | (go_at_call 8; refine (hB _).mono ?_; rintro e w6 ⟨rfl, hb⟩; have B6 : Hid (Below w.heap.size w w6) := Below.after B5.out hb; clear hb)
    | (go_at_call 13; clear M3; refine (hK3 _).mono ?_; rintro e w7 ⟨rfl, hb⟩; have B7 : Hid (Below w.heap.size w w7) := Below.after B6.out hb; clear hb)
    | (go_at_call 12; refine (hO _).mono ?_; rintro e w8 ⟨rfl, hb⟩; have B8 : Hid (Below w.heap.size w w8) := Below.after B7.out hb; clear hb)
    | (go_at_call 13; refine (hK4 _).mono ?_; rintro e w9 ⟨rfl, hb⟩; have B9 : Hid (Below w.heap.size w w9) := Below.after B8.out hb; clear hb)
    | (go_at_call 5; refine (alive_any _).mono ?_; rintro e w10 ⟨rfl, hb⟩; have B10 : Hid (Below w.heap.size w w10) := Below.after B9.out hb; clear hb))
  go_ret
  exact ⟨rfl, B10.out⟩

set_option maxRecDepth 10000 in
set_option maxHeartbeats 1000000 in
theorem yes_nl (ino block : Int) (S0 S1 S2 S3 S4 L : ByteArray) (hK2 : KindIs S2 2 ino L 0) (hR : ∀ W, Calls Try.prog 14 #[.string L] W fun e w' => e = .returned (.int .i64 0) ∧ Below W.heap.size W w') (b0 : block < 0) (k n b : Int) (hK3 : KindIs S3 k n S0 b) (w : World) (h1 : 1 ≤ ino) (h2 : ino ≤ 4096) (hI : InodeIs ino S1) (hK1 : KindIs S1 1 ino S0 0)
    (hE : ∀ W, Calls Try.prog 7 #[.int .i64 ino, .string L] W fun e w' => e = .returned (.string S2) ∧ Below W.heap.size W w')
    (hB : ∀ W, Calls Try.prog 8 #[.int .i64 ino, .int .i64 block] W fun e w' => e = .returned (.string S3) ∧ Below W.heap.size W w')
    (hO : ∀ W, Calls Try.prog 12 #[.int .i64 ino] W fun e w' => e = .returned (.string S4) ∧ Below W.heap.size W w') (hK4 : KindIs S4 4 ino S0 0) :
    Calls Try.prog 4 #[.int .i64 ino, .string L, .int .i64 block] w fun e w' => e = .returned (.bool true) ∧ Below w.heap.size w w' := by
  have c0 : (0 : Int) ≤ ino := by omega
  have c1 : ino ≤ 65535 := by omega
  have b1 : ¬ (0 : Int) ≤ block := by omega
  have M1 : Hid True := trivial
  have M2 : Hid True := trivial
  have M3 : Hid True := trivial
  go_enter Try.func4, Try.ntmps4
  go_wp2_with (first
    | (go_at_call 11; refine (hI _).mono ?_; rintro e w1 ⟨rfl, hb⟩; have B1 : Hid (Below w.heap.size w w1) := hb; clear hb)
    | (go_at_call 13; clear M1; refine (hK1 _).mono ?_; rintro e w2 ⟨rfl, hb⟩; have B2 : Hid (Below w.heap.size w w2) := Below.after B1.out hb; clear hb)
    | (go_at_call 7; refine (hE _).mono ?_; rintro e w3 ⟨rfl, hb⟩; have B3 : Hid (Below w.heap.size w w3) := Below.after B2.out hb; clear hb)
    | (go_at_call 13; clear M2; refine (hK2 _).mono ?_; rintro e w4 ⟨rfl, hb⟩; have B4 : Hid (Below w.heap.size w w4) := Below.after B3.out hb; clear hb)
    | (go_at_call 14; refine (hR _).mono ?_; rintro e w5 ⟨rfl, hb⟩; have B5 : Hid (Below w.heap.size w w5) := Below.after B4.out hb; clear hb)
    | (go_at_call 8; refine (hB _).mono ?_; rintro e w6 ⟨rfl, hb⟩; have B6 : Hid (Below w.heap.size w w6) := Below.after B5.out hb; clear hb)
    | (go_at_call 13; clear M3; refine (hK3 _).mono ?_; rintro e w7 ⟨rfl, hb⟩; have B7 : Hid (Below w.heap.size w w7) := Below.after B6.out hb; clear hb)
    | (go_at_call 12; refine (hO _).mono ?_; rintro e w8 ⟨rfl, hb⟩; have B8 : Hid (Below w.heap.size w w8) := Below.after B7.out hb; clear hb)
    | (go_at_call 13; refine (hK4 _).mono ?_; rintro e w9 ⟨rfl, hb⟩; have B9 : Hid (Below w.heap.size w w9) := Below.after B8.out hb; clear hb)
    | (go_at_call 5; refine (alive_any _).mono ?_; rintro e w10 ⟨rfl, hb⟩; have B10 : Hid (Below w.heap.size w w10) := Below.after B9.out hb; clear hb))
  go_ret
  exact ⟨rfl, B10.out⟩

set_option maxRecDepth 10000 in
set_option maxHeartbeats 1000000 in
theorem yes_nh (ino block : Int) (S0 S1 S2 S3 S4 L : ByteArray) (hK2 : KindIs S2 2 ino L 0) (hR : ∀ W, Calls Try.prog 14 #[.string L] W fun e w' => e = .returned (.int .i64 0) ∧ Below W.heap.size W w') (b0 : 128 ≤ block) (k n b : Int) (hK3 : KindIs S3 k n S0 b) (w : World) (h1 : 1 ≤ ino) (h2 : ino ≤ 4096) (hI : InodeIs ino S1) (hK1 : KindIs S1 1 ino S0 0)
    (hE : ∀ W, Calls Try.prog 7 #[.int .i64 ino, .string L] W fun e w' => e = .returned (.string S2) ∧ Below W.heap.size W w')
    (hB : ∀ W, Calls Try.prog 8 #[.int .i64 ino, .int .i64 block] W fun e w' => e = .returned (.string S3) ∧ Below W.heap.size W w')
    (hO : ∀ W, Calls Try.prog 12 #[.int .i64 ino] W fun e w' => e = .returned (.string S4) ∧ Below W.heap.size W w') (hK4 : KindIs S4 4 ino S0 0) :
    Calls Try.prog 4 #[.int .i64 ino, .string L, .int .i64 block] w fun e w' => e = .returned (.bool true) ∧ Below w.heap.size w w' := by
  have c0 : (0 : Int) ≤ ino := by omega
  have c1 : ino ≤ 65535 := by omega
  have b1 : (0 : Int) ≤ block := by omega
  have b2 : ¬ block < 128 := by omega
  have M1 : Hid True := trivial
  have M2 : Hid True := trivial
  have M3 : Hid True := trivial
  go_enter Try.func4, Try.ntmps4
  go_wp2_with (first
    | (go_at_call 11; refine (hI _).mono ?_; rintro e w1 ⟨rfl, hb⟩; have B1 : Hid (Below w.heap.size w w1) := hb; clear hb)
    | (go_at_call 13; clear M1; refine (hK1 _).mono ?_; rintro e w2 ⟨rfl, hb⟩; have B2 : Hid (Below w.heap.size w w2) := Below.after B1.out hb; clear hb)
    | (go_at_call 7; refine (hE _).mono ?_; rintro e w3 ⟨rfl, hb⟩; have B3 : Hid (Below w.heap.size w w3) := Below.after B2.out hb; clear hb)
    | (go_at_call 13; clear M2; refine (hK2 _).mono ?_; rintro e w4 ⟨rfl, hb⟩; have B4 : Hid (Below w.heap.size w w4) := Below.after B3.out hb; clear hb)
    | (go_at_call 14; refine (hR _).mono ?_; rintro e w5 ⟨rfl, hb⟩; have B5 : Hid (Below w.heap.size w w5) := Below.after B4.out hb; clear hb)
    | (go_at_call 8; refine (hB _).mono ?_; rintro e w6 ⟨rfl, hb⟩; have B6 : Hid (Below w.heap.size w w6) := Below.after B5.out hb; clear hb)
    | (go_at_call 13; clear M3; refine (hK3 _).mono ?_; rintro e w7 ⟨rfl, hb⟩; have B7 : Hid (Below w.heap.size w w7) := Below.after B6.out hb; clear hb)
    | (go_at_call 12; refine (hO _).mono ?_; rintro e w8 ⟨rfl, hb⟩; have B8 : Hid (Below w.heap.size w w8) := Below.after B7.out hb; clear hb)
    | (go_at_call 13; refine (hK4 _).mono ?_; rintro e w9 ⟨rfl, hb⟩; have B9 : Hid (Below w.heap.size w w9) := Below.after B8.out hb; clear hb)
    | (go_at_call 5; refine (alive_any _).mono ?_; rintro e w10 ⟨rfl, hb⟩; have B10 : Hid (Below w.heap.size w w10) := Below.after B9.out hb; clear hb))
  go_ret
  exact ⟨rfl, B10.out⟩

set_option maxRecDepth 10000 in
set_option maxHeartbeats 1000000 in
theorem yes_xb (ino block : Int) (S0 S1 S2 S3 S4 L : ByteArray) (r : Int) (hr : (r == 0) = false) (hK2 : KindIs S2 0 0 S0 0) (hR : ∀ W, Calls Try.prog 14 #[.string L] W fun e w' => e = .returned (.int .i64 r) ∧ Below W.heap.size W w') (b0 : 0 ≤ block) (b1 : block < 128) (hK3 : KindIs S3 3 ino S0 block) (w : World) (h1 : 1 ≤ ino) (h2 : ino ≤ 4096) (hI : InodeIs ino S1) (hK1 : KindIs S1 1 ino S0 0)
    (hE : ∀ W, Calls Try.prog 7 #[.int .i64 ino, .string L] W fun e w' => e = .returned (.string S2) ∧ Below W.heap.size W w')
    (hB : ∀ W, Calls Try.prog 8 #[.int .i64 ino, .int .i64 block] W fun e w' => e = .returned (.string S3) ∧ Below W.heap.size W w')
    (hO : ∀ W, Calls Try.prog 12 #[.int .i64 ino] W fun e w' => e = .returned (.string S4) ∧ Below W.heap.size W w') (hK4 : KindIs S4 4 ino S0 0) :
    Calls Try.prog 4 #[.int .i64 ino, .string L, .int .i64 block] w fun e w' => e = .returned (.bool true) ∧ Below w.heap.size w w' := by
  have c0 : (0 : Int) ≤ ino := by omega
  have c1 : ino ≤ 65535 := by omega
  have M1 : Hid True := trivial
  have M2 : Hid True := trivial
  have M3 : Hid True := trivial
  go_enter Try.func4, Try.ntmps4
  go_wp2_with (first
    | (go_at_call 11; refine (hI _).mono ?_; rintro e w1 ⟨rfl, hb⟩; have B1 : Hid (Below w.heap.size w w1) := hb; clear hb)
    | (go_at_call 13; clear M1; refine (hK1 _).mono ?_; rintro e w2 ⟨rfl, hb⟩; have B2 : Hid (Below w.heap.size w w2) := Below.after B1.out hb; clear hb)
    | (go_at_call 7; refine (hE _).mono ?_; rintro e w3 ⟨rfl, hb⟩; have B3 : Hid (Below w.heap.size w w3) := Below.after B2.out hb; clear hb)
    | (go_at_call 13; clear M2; refine (hK2 _).mono ?_; rintro e w4 ⟨rfl, hb⟩; have B4 : Hid (Below w.heap.size w w4) := Below.after B3.out hb; clear hb)
    | (go_at_call 14; refine (hR _).mono ?_; rintro e w5 ⟨rfl, hb⟩; have B5 : Hid (Below w.heap.size w w5) := Below.after B4.out hb; clear hb)
    | (go_at_call 8; refine (hB _).mono ?_; rintro e w6 ⟨rfl, hb⟩; have B6 : Hid (Below w.heap.size w w6) := Below.after B5.out hb; clear hb)
    | (go_at_call 13; clear M3; refine (hK3 _).mono ?_; rintro e w7 ⟨rfl, hb⟩; have B7 : Hid (Below w.heap.size w w7) := Below.after B6.out hb; clear hb)
    | (go_at_call 12; refine (hO _).mono ?_; rintro e w8 ⟨rfl, hb⟩; have B8 : Hid (Below w.heap.size w w8) := Below.after B7.out hb; clear hb)
    | (go_at_call 13; refine (hK4 _).mono ?_; rintro e w9 ⟨rfl, hb⟩; have B9 : Hid (Below w.heap.size w w9) := Below.after B8.out hb; clear hb)
    | (go_at_call 5; refine (alive_any _).mono ?_; rintro e w10 ⟨rfl, hb⟩; have B10 : Hid (Below w.heap.size w w10) := Below.after B9.out hb; clear hb))
  go_ret
  exact ⟨rfl, B10.out⟩

set_option maxRecDepth 10000 in
set_option maxHeartbeats 1000000 in
theorem yes_xl (ino block : Int) (S0 S1 S2 S3 S4 L : ByteArray) (r : Int) (hr : (r == 0) = false) (hK2 : KindIs S2 0 0 S0 0) (hR : ∀ W, Calls Try.prog 14 #[.string L] W fun e w' => e = .returned (.int .i64 r) ∧ Below W.heap.size W w') (b0 : block < 0) (k n b : Int) (hK3 : KindIs S3 k n S0 b) (w : World) (h1 : 1 ≤ ino) (h2 : ino ≤ 4096) (hI : InodeIs ino S1) (hK1 : KindIs S1 1 ino S0 0)
    (hE : ∀ W, Calls Try.prog 7 #[.int .i64 ino, .string L] W fun e w' => e = .returned (.string S2) ∧ Below W.heap.size W w')
    (hB : ∀ W, Calls Try.prog 8 #[.int .i64 ino, .int .i64 block] W fun e w' => e = .returned (.string S3) ∧ Below W.heap.size W w')
    (hO : ∀ W, Calls Try.prog 12 #[.int .i64 ino] W fun e w' => e = .returned (.string S4) ∧ Below W.heap.size W w') (hK4 : KindIs S4 4 ino S0 0) :
    Calls Try.prog 4 #[.int .i64 ino, .string L, .int .i64 block] w fun e w' => e = .returned (.bool true) ∧ Below w.heap.size w w' := by
  have c0 : (0 : Int) ≤ ino := by omega
  have c1 : ino ≤ 65535 := by omega
  have b1 : ¬ (0 : Int) ≤ block := by omega
  have M1 : Hid True := trivial
  have M2 : Hid True := trivial
  have M3 : Hid True := trivial
  go_enter Try.func4, Try.ntmps4
  go_wp2_with (first
    | (go_at_call 11; refine (hI _).mono ?_; rintro e w1 ⟨rfl, hb⟩; have B1 : Hid (Below w.heap.size w w1) := hb; clear hb)
    | (go_at_call 13; clear M1; refine (hK1 _).mono ?_; rintro e w2 ⟨rfl, hb⟩; have B2 : Hid (Below w.heap.size w w2) := Below.after B1.out hb; clear hb)
    | (go_at_call 7; refine (hE _).mono ?_; rintro e w3 ⟨rfl, hb⟩; have B3 : Hid (Below w.heap.size w w3) := Below.after B2.out hb; clear hb)
    | (go_at_call 13; clear M2; refine (hK2 _).mono ?_; rintro e w4 ⟨rfl, hb⟩; have B4 : Hid (Below w.heap.size w w4) := Below.after B3.out hb; clear hb)
    | (go_at_call 14; refine (hR _).mono ?_; rintro e w5 ⟨rfl, hb⟩; have B5 : Hid (Below w.heap.size w w5) := Below.after B4.out hb; clear hb)
    | (go_at_call 8; refine (hB _).mono ?_; rintro e w6 ⟨rfl, hb⟩; have B6 : Hid (Below w.heap.size w w6) := Below.after B5.out hb; clear hb)
    | (go_at_call 13; clear M3; refine (hK3 _).mono ?_; rintro e w7 ⟨rfl, hb⟩; have B7 : Hid (Below w.heap.size w w7) := Below.after B6.out hb; clear hb)
    | (go_at_call 12; refine (hO _).mono ?_; rintro e w8 ⟨rfl, hb⟩; have B8 : Hid (Below w.heap.size w w8) := Below.after B7.out hb; clear hb)
    | (go_at_call 13; refine (hK4 _).mono ?_; rintro e w9 ⟨rfl, hb⟩; have B9 : Hid (Below w.heap.size w w9) := Below.after B8.out hb; clear hb)
    | (go_at_call 5; refine (alive_any _).mono ?_; rintro e w10 ⟨rfl, hb⟩; have B10 : Hid (Below w.heap.size w w10) := Below.after B9.out hb; clear hb))
  go_ret
  exact ⟨rfl, B10.out⟩

set_option maxRecDepth 10000 in
set_option maxHeartbeats 1000000 in
theorem yes_xh (ino block : Int) (S0 S1 S2 S3 S4 L : ByteArray) (r : Int) (hr : (r == 0) = false) (hK2 : KindIs S2 0 0 S0 0) (hR : ∀ W, Calls Try.prog 14 #[.string L] W fun e w' => e = .returned (.int .i64 r) ∧ Below W.heap.size W w') (b0 : 128 ≤ block) (k n b : Int) (hK3 : KindIs S3 k n S0 b) (w : World) (h1 : 1 ≤ ino) (h2 : ino ≤ 4096) (hI : InodeIs ino S1) (hK1 : KindIs S1 1 ino S0 0)
    (hE : ∀ W, Calls Try.prog 7 #[.int .i64 ino, .string L] W fun e w' => e = .returned (.string S2) ∧ Below W.heap.size W w')
    (hB : ∀ W, Calls Try.prog 8 #[.int .i64 ino, .int .i64 block] W fun e w' => e = .returned (.string S3) ∧ Below W.heap.size W w')
    (hO : ∀ W, Calls Try.prog 12 #[.int .i64 ino] W fun e w' => e = .returned (.string S4) ∧ Below W.heap.size W w') (hK4 : KindIs S4 4 ino S0 0) :
    Calls Try.prog 4 #[.int .i64 ino, .string L, .int .i64 block] w fun e w' => e = .returned (.bool true) ∧ Below w.heap.size w w' := by
  have c0 : (0 : Int) ≤ ino := by omega
  have c1 : ino ≤ 65535 := by omega
  have b1 : (0 : Int) ≤ block := by omega
  have b2 : ¬ block < 128 := by omega
  have M1 : Hid True := trivial
  have M2 : Hid True := trivial
  have M3 : Hid True := trivial
  go_enter Try.func4, Try.ntmps4
  go_wp2_with (first
    | (go_at_call 11; refine (hI _).mono ?_; rintro e w1 ⟨rfl, hb⟩; have B1 : Hid (Below w.heap.size w w1) := hb; clear hb)
    | (go_at_call 13; clear M1; refine (hK1 _).mono ?_; rintro e w2 ⟨rfl, hb⟩; have B2 : Hid (Below w.heap.size w w2) := Below.after B1.out hb; clear hb)
    | (go_at_call 7; refine (hE _).mono ?_; rintro e w3 ⟨rfl, hb⟩; have B3 : Hid (Below w.heap.size w w3) := Below.after B2.out hb; clear hb)
    | (go_at_call 13; clear M2; refine (hK2 _).mono ?_; rintro e w4 ⟨rfl, hb⟩; have B4 : Hid (Below w.heap.size w w4) := Below.after B3.out hb; clear hb)
    | (go_at_call 14; refine (hR _).mono ?_; rintro e w5 ⟨rfl, hb⟩; have B5 : Hid (Below w.heap.size w w5) := Below.after B4.out hb; clear hb)
    | (go_at_call 8; refine (hB _).mono ?_; rintro e w6 ⟨rfl, hb⟩; have B6 : Hid (Below w.heap.size w w6) := Below.after B5.out hb; clear hb)
    | (go_at_call 13; clear M3; refine (hK3 _).mono ?_; rintro e w7 ⟨rfl, hb⟩; have B7 : Hid (Below w.heap.size w w7) := Below.after B6.out hb; clear hb)
    | (go_at_call 12; refine (hO _).mono ?_; rintro e w8 ⟨rfl, hb⟩; have B8 : Hid (Below w.heap.size w w8) := Below.after B7.out hb; clear hb)
    | (go_at_call 13; refine (hK4 _).mono ?_; rintro e w9 ⟨rfl, hb⟩; have B9 : Hid (Below w.heap.size w w9) := Below.after B8.out hb; clear hb)
    | (go_at_call 5; refine (alive_any _).mono ?_; rintro e w10 ⟨rfl, hb⟩; have B10 : Hid (Below w.heap.size w w10) := Below.after B9.out hb; clear hb))
  go_ret
  exact ⟨rfl, B10.out⟩

theorem kindIs {l : List UInt8} (hl : l.length ≤ 281474976710656) {k n b : Nat} {s : List UInt8} (h : kindOf l = (k, n, s, b)) {k' n' b' : Int} (hk : (k : Int) = k') (hn : (n : Int) = n') (hb : (b : Int) = b') : KindIs (bs l) k' n' (bs s) b' := by
  subst hk hn hb
  exact fun W => kind_at hl h W

theorem walk_l (ino : Int) (name : List UInt8) (block : Int) (w : World) (hl : name.length ≤ 140737488351232) :
    Calls Try.prog 4 #[.int .i64 ino, .string (bs name), .int .i64 block] w fun e w' => e = .returned (.bool true) ∧ Below w.heap.size w w' := by
  have hI : InodeIs ino (bs (pre3 ino 1)) := fun W => inodeKey_any ino W
  have l1 : (pre3 ino 1).length ≤ 281474976710656 := by rw [pre3_len]; omega
  have hk1 := kind_inode ino
  by_cases h0 : ino < 0
  · by_cases hi : inoB (m16 ino : Nat) = true
    · rw [if_pos hi] at hk1
      exact no_low ino block _ _ _ _ _ h0 w hI (kindIs l1 hk1 rfl rfl rfl)
    · rw [if_neg hi] at hk1
      exact no_low ino block _ _ _ _ _ h0 w hI (kindIs l1 hk1 rfl rfl rfl)
  by_cases h9 : 65535 < ino
  · by_cases hi : inoB (m16 ino : Nat) = true
    · rw [if_pos hi] at hk1
      exact no_high ino block _ _ _ _ _ h9 w hI (kindIs l1 hk1 rfl rfl rfl)
    · rw [if_neg hi] at hk1
      exact no_high ino block _ _ _ _ _ h9 w hI (kindIs l1 hk1 rfl rfl rfl)
  have hm := m16_small (n := ino) (by omega) (by omega)
  by_cases h1 : 1 ≤ ino ∧ ino ≤ 4096
  · have hi : inoB (m16 ino : Nat) = true := by rw [hm]; exact decide_eq_true h1
    rw [if_pos hi] at hk1
    have hK1 := kindIs l1 hk1 rfl hm rfl
    have hE := fun W => entryKey_any ino name hl W
    have hB := fun W => blockKey_any ino block W
    have hO := fun W => orphanKey_any ino W
    have hk4 := kind_orphan ino
    rw [if_pos hi] at hk4
    have hK4 := kindIs (by rw [List.length_append, pre3_len, hi2_len]; omega) hk4 rfl hm rfl
    have hk2 := kind_entry ino name
    have l2 : (pre3 ino 2 ++ name).length ≤ 281474976710656 := by rw [List.length_append, pre3_len]; omega
    have hR := fun W => right_any name (by unfold maxLen; omega) W
    have hk3 := kind_block ino block
    have l3 : (pre3 ino 3 ++ hi2 block).length ≤ 281474976710656 := by rw [List.length_append, pre3_len, hi2_len]; omega
    have hblk : ∃ k n b : Nat, kindOf (pre3 ino 3 ++ hi2 block) = (k, n, [], b) := by
      rw [hk3]; split
      · exact ⟨_, _, _, rfl⟩
      · exact ⟨_, _, _, rfl⟩
    have hblk2 : 0 ≤ block → block < 128 → kindOf (pre3 ino 3 ++ hi2 block) = (3, m16 ino, [], m16 block) := by
      intro b0 b1
      rw [hk3, if_pos ⟨hi, by rw [m16_small b0 (by omega)]; exact decide_eq_true (by omega)⟩]
    by_cases hn : nameB name = true
    · rw [if_pos ⟨hi, hn⟩] at hk2
      have hK2 := kindIs l2 hk2 rfl hm rfl
      have hr : rightOf name = 0 := by unfold nameB at hn; simpa using hn
      rw [hr] at hR
      by_cases b0 : block < 0
      · obtain ⟨k, n, b, hk⟩ := hblk
        exact yes_nl ino block _ _ _ _ _ _ hK2 hR b0 _ _ _ (kindIs l3 hk rfl rfl rfl) w h1.1 h1.2 hI hK1 hE hB hO hK4
      · by_cases b1 : block < 128
        · exact yes_nb ino block _ _ _ _ _ _ hK2 hR (by omega) b1 (kindIs l3 (hblk2 (by omega) b1) rfl hm (m16_small (by omega) (by omega))) w h1.1 h1.2 hI hK1 hE hB hO hK4
        · obtain ⟨k, n, b, hk⟩ := hblk
          exact yes_nh ino block _ _ _ _ _ _ hK2 hR (by omega) _ _ _ (kindIs l3 hk rfl rfl rfl) w h1.1 h1.2 hI hK1 hE hB hO hK4
    · rw [if_neg (fun h => hn h.2)] at hk2
      have hK2 := kindIs l2 hk2 rfl rfl rfl
      have hr : (rightOf name == 0) = false := by unfold nameB at hn; simpa using hn
      by_cases b0 : block < 0
      · obtain ⟨k, n, b, hk⟩ := hblk
        exact yes_xl ino block _ _ _ _ _ _ _ hr hK2 hR b0 _ _ _ (kindIs l3 hk rfl rfl rfl) w h1.1 h1.2 hI hK1 hE hB hO hK4
      · by_cases b1 : block < 128
        · exact yes_xb ino block _ _ _ _ _ _ _ hr hK2 hR (by omega) b1 (kindIs l3 (hblk2 (by omega) b1) rfl hm (m16_small (by omega) (by omega))) w h1.1 h1.2 hI hK1 hE hB hO hK4
        · obtain ⟨k, n, b, hk⟩ := hblk
          exact yes_xh ino block _ _ _ _ _ _ _ hr hK2 hR (by omega) _ _ _ (kindIs l3 hk rfl rfl rfl) w h1.1 h1.2 hI hK1 hE hB hO hK4
  · have hi : ¬ inoB (m16 ino : Nat) = true := by rw [hm]; unfold inoB; simp; omega
    rw [if_neg hi] at hk1
    by_cases hz : ino = 0
    · exact no_zero ino block _ _ _ 0 _ hz rfl w hI (kindIs l1 hk1 rfl rfl rfl)
    · exact no_mid ino block _ _ _ 0 _ (by omega) (by omega) rfl w hI (kindIs l1 hk1 rfl rfl rfl)

theorem walk (ino : Int) (x : ByteArray) (block : Int) (w : World) (_ : (Lit.int .i64 ino).wf = true) (_ : x.size ≤ maxLen) (hx : x.size ≤ 140737488351232) (_ : (Lit.int .i64 block).wf = true) :
    Calls Try.prog 4 #[.int .i64 ino, .string x, .int .i64 block] w fun e w' => e = .returned (.bool true) ∧ Below w.heap.size w w' := by
  rw [← bs_of x]
  refine walk_l _ _ _ w ?_
  rw [Array.length_toList]
  exact hx

set_option maxRecDepth 100000 in
theorem lifted (os : Os) (started : os.Started) (H : Type) (enc : TypeId × Value → H) :
    ReturnsInHanded {} Try.checked os 4 .any (Rows.nodeUnlikeSpec.pre6 enc Try.prog Try.f4 Rows.nodeUnlikeRow.domain false) (Rows.nodeUnlikeSpec.post enc Try.prog Try.f4 false true false false) := by
  refine returnsInHanded_of_change_sized (C := Try.checked) own started (by kernel_rfl) Try.func4
    (ChangeSpec.witness6 (enc := enc) (C := Try.checked) false ⟨#[], #[.int .i64 0, .string ⟨#[]⟩, .int .i64 0], []⟩ 8 (by kernel_rfl) (by kernel_rfl) (by kernel_rfl) (by kernel_rfl)) ?_
  intro W base args ds gs before hval0 hW hcnd hsz0 _
  have hval : ∀ (j : Nat) t v, Try.f4.params[j]? = some t → args[j]? = some v → Value.okWide Try.prog W .any base t v := hval0
  have hsz : (DataW.weightsEach Try.prog (Try.f4.params.toList ++ Rows.nodeUnlikeSpec.plain.varTypes Try.prog) (ds ++ gs)).all (· ≤ reachBytes) = true := hsz0
  have hW' := hW
  obtain ⟨p, q, hA0, hV, rfl, hfz, hnd⟩ := hW
  have hA : DataW.TrodAll enc Try.prog W 0 (fun _ => true) true Try.f4.params.toList args.toList ds p := hA0
  rw [Try.params4] at hA hval hsz
  obtain ⟨v0, vs0, d0, ds0, p0, q0, hargs, rfl, rfl, h0, r0⟩ := trodAll_cons hA
  obtain ⟨v1, vs1, d1, ds1, p1, q1, rfl, rfl, rfl, h1, r1⟩ := trodAll_cons r0
  obtain ⟨v2, vs2, d2, ds2, p2, q2, rfl, rfl, rfl, h2, r2⟩ := trodAll_cons r1
  obtain ⟨rfl, rfl, rfl⟩ := trodAll_nil r2
  obtain rfl : args = #[v0, v1, v2] := by cases args; simp_all
  obtain ⟨rfl, rfl⟩ := trodVars_none hV
  obtain ⟨a0, rfl, rfl, rfl, w0⟩ := open_int Try.underlying3 (hval 0 3 v0 rfl rfl) h0
  obtain ⟨a1, rfl, rfl, rfl, w1⟩ := Go.ChangeMaps.open_string Try.underlying9 (hval 1 9 v1 rfl rfl) h1
  have s1 : a1.size ≤ 140737488351232 := by
    have := sized_string hsz (j := 1) (t := 9) rfl rfl
    rw [Array.length_toList] at this
    exact this
  obtain ⟨a2, rfl, rfl, rfl, w2⟩ := open_int Try.underlying3 (hval 2 3 v2 rfl rfl) h2
  clear hA0 hval0
  refine (walk a0 a1 a2 W w0 w1 s1 w2).mono fun e W' ⟨he, bel⟩ => ?_
  subst he
  exact ⟨_, rfl, _, _, _, [], _, [], hW', trodAll_mk1 (shut_bool Try.underlying4 _), (trodAll_cons_mk (shut_int Try.underlying3 w0) (trodAll_cons_mk (Go.ChangeMaps.shut_string Try.underlying9 w1) (trodAll_cons_mk (shut_int Try.underlying3 w2) trodAll_mk0))), rfl, bel.frame _, fun h => by cases h⟩

theorem over : Rows.nodeUnlikeRow.holds Try.pinned (OpenSpec.ofChange Rows.nodeUnlikeSpec) :=
  OpenClaim.holds_of_wide 4 Try.f4 rfl rfl rfl rfl rfl rfl rfl ⟨rfl, rfl, rfl, rfl, rfl⟩ rfl rfl rfl rfl rfl (by kernel_rfl) Try.func4 (by kernel_rfl)
    (of_decide_eq_true (by kernel_rfl)) (by unfold Func.isWrapper; first | (rw [if_pos (by decide +kernel)]; kernel_rfl) | (rw [if_neg (by decide +kernel)]; exact ⟨rfl, rfl⟩))
    (fun os started H enc _ => lifted os started H enc)
end Go.Proofs.Ytefpcdpclpignab.nodeUnlike

namespace Go.Proofs.Ytefpcdpclpignab
theorem nodeUnlike_holds : Rows.NodeUnlikeSaid := nodeUnlike.over
#print axioms nodeUnlike_holds
end Go.Proofs.Ytefpcdpclpignab
