/-
  Proved: the statement that the keys of one kind of one inode stand together, in order, and no other key among them (NodeOrder): for every four numbers and two texts; no condition.
-/
import Derived.Test.YtefpcdpclpignabKOrd
import Derived.Test.YtefpcdpclpignabKArg
namespace Go.Proofs.Ytefpcdpclpignab.nodeOrder
open Go.ChangeShapes Go.WideShapes Go.ChangeAt Go.RowKit M

theorem ek_any (n : Int) (s : ByteArray) (h : s.size ≤ 140737488351232) (w : World) : Calls Try.prog 7 #[.int .i64 n, .string s] w fun e w' => e = .returned (.string (EK n s)) ∧ Below w.heap.size w w' := by
  have := entryKey_any n s.data.toList (by rw [Array.length_toList]; exact h) w
  rw [bs_of] at this
  exact this
theorem bk_any (n m : Int) (w : World) : Calls Try.prog 8 #[.int .i64 n, .int .i64 m] w fun e w' => e = .returned (.string (BK n m)) ∧ Below w.heap.size w w' := blockKey_any n m w
theorem ik_any (n : Int) (w : World) : Calls Try.prog 11 #[.int .i64 n] w fun e w' => e = .returned (.string (IK n)) ∧ Below w.heap.size w w' := inodeKey_any n w
theorem ok_any (n : Int) (w : World) : Calls Try.prog 12 #[.int .i64 n] w fun e w' => e = .returned (.string (OK n)) ∧ Below w.heap.size w w' := orphanKey_any n w
theorem f2_any (n : Int) (w : World) : Calls Try.prog 9 #[.int .i64 n, .int .i64 2] w fun e w' => e = .returned (.tuple #[.string (FK n 2), .string (FK n (2 + 1))]) ∧ Below w.heap.size w w' := from_any n 2 w
theorem f3_any (n : Int) (w : World) : Calls Try.prog 9 #[.int .i64 n, .int .i64 3] w fun e w' => e = .returned (.tuple #[.string (FK n 3), .string (FK n (3 + 1))]) ∧ Below w.heap.size w w' := from_any n 3 w

set_option maxRecDepth 10000 in
set_option maxHeartbeats 1000000 in
theorem out (c1 c2 c3 c4 c5 c6 c7 c8 : Bool) (hc : (c1 || c2 || c3 || c4 || c5 || c6 || c7 || c8) = true) (ino other x y : Int) (A B : ByteArray) (w : World)
    (e1 : decide (ino < 1) = c1) (e2 : decide (4096 < ino) = c2) (e3 : decide (other < 1) = c3) (e4 : decide (4096 < other) = c4) (e5 : decide (x < 0) = c5) (e6 : decide (127 < x) = c6) (e7 : decide (y < 0) = c7) (e8 : decide (127 < y) = c8) :
    Calls Try.prog 3 #[.int .i64 ino, .int .i64 other, .string A, .string B, .int .i64 x, .int .i64 y] w fun e w' => e = .returned (.bool true) ∧ Below w.heap.size w w' := by
  cases c1
  · cases c2
    · cases c3
      · cases c4
        · cases c5
          · cases c6
            · cases c7
              · cases c8
                · cases hc
                · clear hc
                  go_enter Try.func3, Try.ntmps3
                  go_wp2_with (go_at_call 5; refine (alive_any _).mono ?_; rintro e w1 ⟨rfl, hb⟩)
                  go_ret
                  exact ⟨rfl, hb⟩
              · clear hc
                clear e8
                go_enter Try.func3, Try.ntmps3
                go_wp2_with (go_at_call 5; refine (alive_any _).mono ?_; rintro e w1 ⟨rfl, hb⟩)
                go_ret
                exact ⟨rfl, hb⟩
            · clear hc
              clear e7
              clear e8
              go_enter Try.func3, Try.ntmps3
              go_wp2_with (go_at_call 5; refine (alive_any _).mono ?_; rintro e w1 ⟨rfl, hb⟩)
              go_ret
              exact ⟨rfl, hb⟩
          · clear hc
            clear e6
            clear e7
            clear e8
            go_enter Try.func3, Try.ntmps3
            go_wp2_with (go_at_call 5; refine (alive_any _).mono ?_; rintro e w1 ⟨rfl, hb⟩)
            go_ret
            exact ⟨rfl, hb⟩
        · clear hc
          clear e5
          clear e6
          clear e7
          clear e8
          go_enter Try.func3, Try.ntmps3
          go_wp2_with (go_at_call 5; refine (alive_any _).mono ?_; rintro e w1 ⟨rfl, hb⟩)
          go_ret
          exact ⟨rfl, hb⟩
      · clear hc
        clear e4
        clear e5
        clear e6
        clear e7
        clear e8
        go_enter Try.func3, Try.ntmps3
        go_wp2_with (go_at_call 5; refine (alive_any _).mono ?_; rintro e w1 ⟨rfl, hb⟩)
        go_ret
        exact ⟨rfl, hb⟩
    · clear hc
      clear e3
      clear e4
      clear e5
      clear e6
      clear e7
      clear e8
      go_enter Try.func3, Try.ntmps3
      go_wp2_with (go_at_call 5; refine (alive_any _).mono ?_; rintro e w1 ⟨rfl, hb⟩)
      go_ret
      exact ⟨rfl, hb⟩
  · clear hc
    clear e2
    clear e3
    clear e4
    clear e5
    clear e6
    clear e7
    clear e8
    go_enter Try.func3, Try.ntmps3
    go_wp2_with (go_at_call 5; refine (alive_any _).mono ?_; rintro e w1 ⟨rfl, hb⟩)
    go_ret
    exact ⟨rfl, hb⟩

set_option maxRecDepth 10000 in
set_option maxHeartbeats 4000000 in
theorem same (ino other x y : Int) (A B : ByteArray) (w : World) (hA : A.size ≤ 140737488351232) (hB : B.size ≤ 140737488351232)
    (n0 : 1 ≤ ino) (n1 : ino ≤ 4096) (m0 : 1 ≤ other) (m1 : other ≤ 4096) (x0 : 0 ≤ x) (x1 : x ≤ 127) (y0 : 0 ≤ y) (y1 : y ≤ 127) (h : other = ino) :
    Calls Try.prog 3 #[.int .i64 ino, .int .i64 other, .string A, .string B, .int .i64 x, .int .i64 y] w fun e w' => e = .returned (.bool true) ∧ Below w.heap.size w w' := by
  have g1 := lt_ek n0 n1 A B
  have g2 := lt_bk n0 n1 x0 x1 y0 y1
  have g3 : wi (EK ino A) (FK ino 2) (FK ino (2 + 1)) = true := (wi_key n0 n1 (by omega) n1 (i := 2) (j := 2) (by decide) (by decide) _).trans (by simp)
  have g4 : wi (IK ino) (FK ino 2) (FK ino (2 + 1)) = false := by have h := wi_key n0 n1 (by omega) n1 (i := 1) (j := 2) (by decide) (by decide) []; rw [List.append_nil] at h; exact h.trans (by simp)
  have g5 : wi (BK ino x) (FK ino 2) (FK ino (2 + 1)) = false := (wi_key n0 n1 (by omega) n1 (i := 3) (j := 2) (by decide) (by decide) _).trans (by simp)
  have g6 : wi (OK ino) (FK ino 2) (FK ino (2 + 1)) = false := (wi_key n0 n1 (m := 0) (by omega) (by omega) (i := 4) (j := 2) (by decide) (by decide) _).trans (by simp)
  have g7 : wi (EK other A) (FK ino 2) (FK ino (2 + 1)) = decide (other = ino) := (wi_key n0 n1 (by omega) m1 (i := 2) (j := 2) (by decide) (by decide) _).trans (by simp)
  have g8 : wi (BK ino x) (FK ino 3) (FK ino (3 + 1)) = true := (wi_key n0 n1 (by omega) n1 (i := 3) (j := 3) (by decide) (by decide) _).trans (by simp)
  have g9 : wi (EK ino A) (FK ino 3) (FK ino (3 + 1)) = false := (wi_key n0 n1 (by omega) n1 (i := 2) (j := 3) (by decide) (by decide) _).trans (by simp)
  have g10 : wi (BK other y) (FK ino 3) (FK ino (3 + 1)) = decide (other = ino) := (wi_key n0 n1 (by omega) m1 (i := 3) (j := 3) (by decide) (by decide) _).trans (by simp)
  have g11 := lt_ik n0 n1 m0 m1
  obtain ⟨F2, hF2⟩ : ∃ F, F = FK ino 2 := ⟨_, rfl⟩
  obtain ⟨T2, hT2⟩ : ∃ F, F = FK ino (2 + 1) := ⟨_, rfl⟩
  obtain ⟨F3, hF3⟩ : ∃ F, F = FK ino 3 := ⟨_, rfl⟩
  obtain ⟨T3, hT3⟩ : ∃ F, F = FK ino (3 + 1) := ⟨_, rfl⟩
  have q2 := fun W => f2_any ino W
  have q3 := fun W => f3_any ino W
  rw [← hF2, ← hT2] at g3 g4 g5 g6 g7 q2
  rw [← hF3, ← hT3] at g8 g9 g10 q3
  clear hF2 hT2 hF3 hT3
  have o1 : decide (ino < 1) = false := decide_eq_false (by omega)
  have o2 : decide (4096 < ino) = false := decide_eq_false (by omega)
  have o3 : decide (other < 1) = false := decide_eq_false (by omega)
  have o4 : decide (4096 < other) = false := decide_eq_false (by omega)
  have o5 : decide (x < 0) = false := decide_eq_false (by omega)
  have o6 : decide (127 < x) = false := decide_eq_false (by omega)
  have o7 : decide (y < 0) = false := decide_eq_false (by omega)
  have o8 : decide (127 < y) = false := decide_eq_false (by omega)
  clear n0 n1 m0 m1 x0 x1 y0 y1
  subst h
  have r1 : (decide (other = other)) = true := decide_eq_true rfl
  have M1 : Hid True := trivial
  have M2 : Hid True := trivial
  have M3 : Hid True := trivial
  have M4 : Hid True := trivial
  have M5 : Hid True := trivial
  have M6 : Hid True := trivial
  have M7 : Hid True := trivial
  have M8 : Hid True := trivial
  have M9 : Hid True := trivial
  have M10 : Hid True := trivial
  have M11 : Hid True := trivial
  have M12 : Hid True := trivial
  have M13 : Hid True := trivial
  have M14 : Hid True := trivial
  have M15 : Hid True := trivial
  have M16 : Hid True := trivial
  have M17 : Hid True := trivial
  go_enter Try.func3, Try.ntmps3
  go_wp2_with (first
    | (go_at_call 7; clear M1; refine (ek_any _ _ (by assumption) _).mono ?_; rintro e w1 ⟨rfl, hb⟩; have B1 : Hid (Below w.heap.size w w1) := Below.after (Below.refl _ _) hb; clear hb)
    | (go_at_call 7; clear M2; refine (ek_any _ _ (by assumption) _).mono ?_; rintro e w2 ⟨rfl, hb⟩; have B2 : Hid (Below w.heap.size w w2) := Below.after B1.out hb; clear hb)
    | (go_at_call 8; clear M3; refine (bk_any _ _ _).mono ?_; rintro e w3 ⟨rfl, hb⟩; have B3 : Hid (Below w.heap.size w w3) := Below.after B2.out hb; clear hb)
    | (go_at_call 8; clear M4; refine (bk_any _ _ _).mono ?_; rintro e w4 ⟨rfl, hb⟩; have B4 : Hid (Below w.heap.size w w4) := Below.after B3.out hb; clear hb)
    | (go_at_call 9; clear M5; refine (q2 _).mono ?_; rintro e w5 ⟨rfl, hb⟩; have B5 : Hid (Below w.heap.size w w5) := Below.after B4.out hb; clear hb)
    | (go_at_call 7; clear M6; refine (ek_any _ _ (by assumption) _).mono ?_; rintro e w6 ⟨rfl, hb⟩; have B6 : Hid (Below w.heap.size w w6) := Below.after B5.out hb; clear hb)
    | (go_at_call 11; clear M7; refine (ik_any _ _).mono ?_; rintro e w7 ⟨rfl, hb⟩; have B7 : Hid (Below w.heap.size w w7) := Below.after B6.out hb; clear hb)
    | (go_at_call 8; clear M8; refine (bk_any _ _ _).mono ?_; rintro e w8 ⟨rfl, hb⟩; have B8 : Hid (Below w.heap.size w w8) := Below.after B7.out hb; clear hb)
    | (go_at_call 12; clear M9; refine (ok_any _ _).mono ?_; rintro e w9 ⟨rfl, hb⟩; have B9 : Hid (Below w.heap.size w w9) := Below.after B8.out hb; clear hb)
    | (go_at_call 7; clear M10; refine (ek_any _ _ (by assumption) _).mono ?_; rintro e w10 ⟨rfl, hb⟩; have B10 : Hid (Below w.heap.size w w10) := Below.after B9.out hb; clear hb)
    | (go_at_call 9; clear M11; refine (q3 _).mono ?_; rintro e w11 ⟨rfl, hb⟩; have B11 : Hid (Below w.heap.size w w11) := Below.after B10.out hb; clear hb)
    | (go_at_call 8; clear M12; refine (bk_any _ _ _).mono ?_; rintro e w12 ⟨rfl, hb⟩; have B12 : Hid (Below w.heap.size w w12) := Below.after B11.out hb; clear hb)
    | (go_at_call 7; clear M13; refine (ek_any _ _ (by assumption) _).mono ?_; rintro e w13 ⟨rfl, hb⟩; have B13 : Hid (Below w.heap.size w w13) := Below.after B12.out hb; clear hb)
    | (go_at_call 8; clear M14; refine (bk_any _ _ _).mono ?_; rintro e w14 ⟨rfl, hb⟩; have B14 : Hid (Below w.heap.size w w14) := Below.after B13.out hb; clear hb)
    | (go_at_call 11; clear M15; refine (ik_any _ _).mono ?_; rintro e w15 ⟨rfl, hb⟩; have B15 : Hid (Below w.heap.size w w15) := Below.after B14.out hb; clear hb)
    | (go_at_call 11; clear M16; refine (ik_any _ _).mono ?_; rintro e w16 ⟨rfl, hb⟩; have B16 : Hid (Below w.heap.size w w16) := Below.after B15.out hb; clear hb)
    | (go_at_call 5; clear M17; refine (alive_any _).mono ?_; rintro e w17 ⟨rfl, hb⟩; have B17 : Hid (Below w.heap.size w w17) := Below.after B16.out hb; clear hb)
    | (go_at_call 6; refine (less_any _ _ _).mono ?_; rintro e wl ⟨rfl, rfl⟩)
    | (go_at_call 10; refine (lwithin_any _ _ _ _).mono ?_; rintro e wl ⟨rfl, rfl⟩))
  go_ret
  exact ⟨rfl, B17.out⟩

set_option maxRecDepth 10000 in
set_option maxHeartbeats 4000000 in
theorem apart (ino other x y : Int) (A B : ByteArray) (w : World) (hA : A.size ≤ 140737488351232) (hB : B.size ≤ 140737488351232)
    (n0 : 1 ≤ ino) (n1 : ino ≤ 4096) (m0 : 1 ≤ other) (m1 : other ≤ 4096) (x0 : 0 ≤ x) (x1 : x ≤ 127) (y0 : 0 ≤ y) (y1 : y ≤ 127) (h : ¬ other = ino) :
    Calls Try.prog 3 #[.int .i64 ino, .int .i64 other, .string A, .string B, .int .i64 x, .int .i64 y] w fun e w' => e = .returned (.bool true) ∧ Below w.heap.size w w' := by
  have g1 := lt_ek n0 n1 A B
  have g2 := lt_bk n0 n1 x0 x1 y0 y1
  have g3 : wi (EK ino A) (FK ino 2) (FK ino (2 + 1)) = true := (wi_key n0 n1 (by omega) n1 (i := 2) (j := 2) (by decide) (by decide) _).trans (by simp)
  have g4 : wi (IK ino) (FK ino 2) (FK ino (2 + 1)) = false := by have h := wi_key n0 n1 (by omega) n1 (i := 1) (j := 2) (by decide) (by decide) []; rw [List.append_nil] at h; exact h.trans (by simp)
  have g5 : wi (BK ino x) (FK ino 2) (FK ino (2 + 1)) = false := (wi_key n0 n1 (by omega) n1 (i := 3) (j := 2) (by decide) (by decide) _).trans (by simp)
  have g6 : wi (OK ino) (FK ino 2) (FK ino (2 + 1)) = false := (wi_key n0 n1 (m := 0) (by omega) (by omega) (i := 4) (j := 2) (by decide) (by decide) _).trans (by simp)
  have g7 : wi (EK other A) (FK ino 2) (FK ino (2 + 1)) = decide (other = ino) := (wi_key n0 n1 (by omega) m1 (i := 2) (j := 2) (by decide) (by decide) _).trans (by simp)
  have g8 : wi (BK ino x) (FK ino 3) (FK ino (3 + 1)) = true := (wi_key n0 n1 (by omega) n1 (i := 3) (j := 3) (by decide) (by decide) _).trans (by simp)
  have g9 : wi (EK ino A) (FK ino 3) (FK ino (3 + 1)) = false := (wi_key n0 n1 (by omega) n1 (i := 2) (j := 3) (by decide) (by decide) _).trans (by simp)
  have g10 : wi (BK other y) (FK ino 3) (FK ino (3 + 1)) = decide (other = ino) := (wi_key n0 n1 (by omega) m1 (i := 3) (j := 3) (by decide) (by decide) _).trans (by simp)
  have g11 := lt_ik n0 n1 m0 m1
  obtain ⟨F2, hF2⟩ : ∃ F, F = FK ino 2 := ⟨_, rfl⟩
  obtain ⟨T2, hT2⟩ : ∃ F, F = FK ino (2 + 1) := ⟨_, rfl⟩
  obtain ⟨F3, hF3⟩ : ∃ F, F = FK ino 3 := ⟨_, rfl⟩
  obtain ⟨T3, hT3⟩ : ∃ F, F = FK ino (3 + 1) := ⟨_, rfl⟩
  have q2 := fun W => f2_any ino W
  have q3 := fun W => f3_any ino W
  rw [← hF2, ← hT2] at g3 g4 g5 g6 g7 q2
  rw [← hF3, ← hT3] at g8 g9 g10 q3
  clear hF2 hT2 hF3 hT3
  have o1 : decide (ino < 1) = false := decide_eq_false (by omega)
  have o2 : decide (4096 < ino) = false := decide_eq_false (by omega)
  have o3 : decide (other < 1) = false := decide_eq_false (by omega)
  have o4 : decide (4096 < other) = false := decide_eq_false (by omega)
  have o5 : decide (x < 0) = false := decide_eq_false (by omega)
  have o6 : decide (127 < x) = false := decide_eq_false (by omega)
  have o7 : decide (y < 0) = false := decide_eq_false (by omega)
  have o8 : decide (127 < y) = false := decide_eq_false (by omega)
  clear n0 n1 m0 m1 x0 x1 y0 y1
  have r1 : (decide (other = ino)) = false := decide_eq_false h
  have r2 : (other != ino) = true := by simpa using h
  have M1 : Hid True := trivial
  have M2 : Hid True := trivial
  have M3 : Hid True := trivial
  have M4 : Hid True := trivial
  have M5 : Hid True := trivial
  have M6 : Hid True := trivial
  have M7 : Hid True := trivial
  have M8 : Hid True := trivial
  have M9 : Hid True := trivial
  have M10 : Hid True := trivial
  have M11 : Hid True := trivial
  have M12 : Hid True := trivial
  have M13 : Hid True := trivial
  have M14 : Hid True := trivial
  have M15 : Hid True := trivial
  have M16 : Hid True := trivial
  have M17 : Hid True := trivial
  go_enter Try.func3, Try.ntmps3
  go_wp2_with (first
    | (go_at_call 7; clear M1; refine (ek_any _ _ (by assumption) _).mono ?_; rintro e w1 ⟨rfl, hb⟩; have B1 : Hid (Below w.heap.size w w1) := Below.after (Below.refl _ _) hb; clear hb)
    | (go_at_call 7; clear M2; refine (ek_any _ _ (by assumption) _).mono ?_; rintro e w2 ⟨rfl, hb⟩; have B2 : Hid (Below w.heap.size w w2) := Below.after B1.out hb; clear hb)
    | (go_at_call 8; clear M3; refine (bk_any _ _ _).mono ?_; rintro e w3 ⟨rfl, hb⟩; have B3 : Hid (Below w.heap.size w w3) := Below.after B2.out hb; clear hb)
    | (go_at_call 8; clear M4; refine (bk_any _ _ _).mono ?_; rintro e w4 ⟨rfl, hb⟩; have B4 : Hid (Below w.heap.size w w4) := Below.after B3.out hb; clear hb)
    | (go_at_call 9; clear M5; refine (q2 _).mono ?_; rintro e w5 ⟨rfl, hb⟩; have B5 : Hid (Below w.heap.size w w5) := Below.after B4.out hb; clear hb)
    | (go_at_call 7; clear M6; refine (ek_any _ _ (by assumption) _).mono ?_; rintro e w6 ⟨rfl, hb⟩; have B6 : Hid (Below w.heap.size w w6) := Below.after B5.out hb; clear hb)
    | (go_at_call 11; clear M7; refine (ik_any _ _).mono ?_; rintro e w7 ⟨rfl, hb⟩; have B7 : Hid (Below w.heap.size w w7) := Below.after B6.out hb; clear hb)
    | (go_at_call 8; clear M8; refine (bk_any _ _ _).mono ?_; rintro e w8 ⟨rfl, hb⟩; have B8 : Hid (Below w.heap.size w w8) := Below.after B7.out hb; clear hb)
    | (go_at_call 12; clear M9; refine (ok_any _ _).mono ?_; rintro e w9 ⟨rfl, hb⟩; have B9 : Hid (Below w.heap.size w w9) := Below.after B8.out hb; clear hb)
    | (go_at_call 7; clear M10; refine (ek_any _ _ (by assumption) _).mono ?_; rintro e w10 ⟨rfl, hb⟩; have B10 : Hid (Below w.heap.size w w10) := Below.after B9.out hb; clear hb)
    | (go_at_call 9; clear M11; refine (q3 _).mono ?_; rintro e w11 ⟨rfl, hb⟩; have B11 : Hid (Below w.heap.size w w11) := Below.after B10.out hb; clear hb)
    | (go_at_call 8; clear M12; refine (bk_any _ _ _).mono ?_; rintro e w12 ⟨rfl, hb⟩; have B12 : Hid (Below w.heap.size w w12) := Below.after B11.out hb; clear hb)
    | (go_at_call 7; clear M13; refine (ek_any _ _ (by assumption) _).mono ?_; rintro e w13 ⟨rfl, hb⟩; have B13 : Hid (Below w.heap.size w w13) := Below.after B12.out hb; clear hb)
    | (go_at_call 8; clear M14; refine (bk_any _ _ _).mono ?_; rintro e w14 ⟨rfl, hb⟩; have B14 : Hid (Below w.heap.size w w14) := Below.after B13.out hb; clear hb)
    | (go_at_call 11; clear M15; refine (ik_any _ _).mono ?_; rintro e w15 ⟨rfl, hb⟩; have B15 : Hid (Below w.heap.size w w15) := Below.after B14.out hb; clear hb)
    | (go_at_call 11; clear M16; refine (ik_any _ _).mono ?_; rintro e w16 ⟨rfl, hb⟩; have B16 : Hid (Below w.heap.size w w16) := Below.after B15.out hb; clear hb)
    | (go_at_call 5; clear M17; refine (alive_any _).mono ?_; rintro e w17 ⟨rfl, hb⟩; have B17 : Hid (Below w.heap.size w w17) := Below.after B16.out hb; clear hb)
    | (go_at_call 6; refine (less_any _ _ _).mono ?_; rintro e wl ⟨rfl, rfl⟩)
    | (go_at_call 10; refine (lwithin_any _ _ _ _).mono ?_; rintro e wl ⟨rfl, rfl⟩))
  go_ret
  exact ⟨rfl, B17.out⟩

theorem walk (ino other : Int) (A B : ByteArray) (x y : Int) (w : World) (_ : (Lit.int .i64 ino).wf = true) (_ : (Lit.int .i64 other).wf = true) (_ : A.size ≤ maxLen) (hA : A.size ≤ 140737488351232) (_ : B.size ≤ maxLen) (hB : B.size ≤ 140737488351232) (_ : (Lit.int .i64 x).wf = true) (_ : (Lit.int .i64 y).wf = true) :
    Calls Try.prog 3 #[.int .i64 ino, .int .i64 other, .string A, .string B, .int .i64 x, .int .i64 y] w fun e w' => e = .returned (.bool true) ∧ Below w.heap.size w w' := by
  by_cases hc : (1 ≤ ino ∧ ino ≤ 4096) ∧ (1 ≤ other ∧ other ≤ 4096) ∧ (0 ≤ x ∧ x ≤ 127) ∧ (0 ≤ y ∧ y ≤ 127)
  · obtain ⟨⟨n0, n1⟩, ⟨m0, m1⟩, ⟨x0, x1⟩, ⟨y0, y1⟩⟩ := hc
    by_cases h : other = ino
    · exact same ino other x y A B w hA hB n0 n1 m0 m1 x0 x1 y0 y1 h
    · exact apart ino other x y A B w hA hB n0 n1 m0 m1 x0 x1 y0 y1 h
  · refine out _ _ _ _ _ _ _ _ ?_ ino other x y A B w rfl rfl rfl rfl rfl rfl rfl rfl
    simp only [Bool.or_eq_true, decide_eq_true_eq]
    omega

set_option maxRecDepth 100000 in
theorem lifted (os : Os) (started : os.Started) (H : Type) (enc : TypeId × Value → H) :
    ReturnsInHanded {} Try.checked os 3 .any (Rows.nodeOrderSpec.pre6 enc Try.prog Try.f3 Rows.nodeOrderRow.domain false) (Rows.nodeOrderSpec.post enc Try.prog Try.f3 false true false false) := by
  refine returnsInHanded_of_change_sized (C := Try.checked) own started (by kernel_rfl) Try.func3
    (ChangeSpec.witness6 (enc := enc) (C := Try.checked) false ⟨#[], #[.int .i64 0, .int .i64 0, .string ⟨#[]⟩, .string ⟨#[]⟩, .int .i64 0, .int .i64 0], []⟩ 8 (by kernel_rfl) (by kernel_rfl) (by kernel_rfl) (by kernel_rfl)) ?_
  intro W base args ds gs before hval0 hW hcnd hsz0 _
  have hval : ∀ (j : Nat) t v, Try.f3.params[j]? = some t → args[j]? = some v → Value.okWide Try.prog W .any base t v := hval0
  have hsz : (DataW.weightsEach Try.prog (Try.f3.params.toList ++ Rows.nodeOrderSpec.plain.varTypes Try.prog) (ds ++ gs)).all (· ≤ reachBytes) = true := hsz0
  have hW' := hW
  obtain ⟨p, q, hA0, hV, rfl, hfz, hnd⟩ := hW
  have hA : DataW.TrodAll enc Try.prog W 0 (fun _ => true) true Try.f3.params.toList args.toList ds p := hA0
  rw [Try.params3] at hA hval hsz
  obtain ⟨v0, vs0, d0, ds0, p0, q0, hargs, rfl, rfl, h0, r0⟩ := trodAll_cons hA
  obtain ⟨v1, vs1, d1, ds1, p1, q1, rfl, rfl, rfl, h1, r1⟩ := trodAll_cons r0
  obtain ⟨v2, vs2, d2, ds2, p2, q2, rfl, rfl, rfl, h2, r2⟩ := trodAll_cons r1
  obtain ⟨v3, vs3, d3, ds3, p3, q3, rfl, rfl, rfl, h3, r3⟩ := trodAll_cons r2
  obtain ⟨v4, vs4, d4, ds4, p4, q4, rfl, rfl, rfl, h4, r4⟩ := trodAll_cons r3
  obtain ⟨v5, vs5, d5, ds5, p5, q5, rfl, rfl, rfl, h5, r5⟩ := trodAll_cons r4
  obtain ⟨rfl, rfl, rfl⟩ := trodAll_nil r5
  obtain rfl : args = #[v0, v1, v2, v3, v4, v5] := by cases args; simp_all
  obtain ⟨rfl, rfl⟩ := trodVars_none hV
  obtain ⟨a0, rfl, rfl, rfl, w0⟩ := open_int Try.underlying3 (hval 0 3 v0 rfl rfl) h0
  obtain ⟨a1, rfl, rfl, rfl, w1⟩ := open_int Try.underlying3 (hval 1 3 v1 rfl rfl) h1
  obtain ⟨a2, rfl, rfl, rfl, w2⟩ := Go.ChangeMaps.open_string Try.underlying9 (hval 2 9 v2 rfl rfl) h2
  have s2 : a2.size ≤ 140737488351232 := by
    have := sized_string hsz (j := 2) (t := 9) rfl rfl
    rw [Array.length_toList] at this
    exact this
  obtain ⟨a3, rfl, rfl, rfl, w3⟩ := Go.ChangeMaps.open_string Try.underlying9 (hval 3 9 v3 rfl rfl) h3
  have s3 : a3.size ≤ 140737488351232 := by
    have := sized_string hsz (j := 3) (t := 9) rfl rfl
    rw [Array.length_toList] at this
    exact this
  obtain ⟨a4, rfl, rfl, rfl, w4⟩ := open_int Try.underlying3 (hval 4 3 v4 rfl rfl) h4
  obtain ⟨a5, rfl, rfl, rfl, w5⟩ := open_int Try.underlying3 (hval 5 3 v5 rfl rfl) h5
  clear hA0 hval0
  refine (walk a0 a1 a2 a3 a4 a5 W w0 w1 w2 s2 w3 s3 w4 w5).mono fun e W' ⟨he, bel⟩ => ?_
  subst he
  exact ⟨_, rfl, _, _, _, [], _, [], hW', trodAll_mk1 (shut_bool Try.underlying4 _), (trodAll_cons_mk (shut_int Try.underlying3 w0) (trodAll_cons_mk (shut_int Try.underlying3 w1) (trodAll_cons_mk (Go.ChangeMaps.shut_string Try.underlying9 w2) (trodAll_cons_mk (Go.ChangeMaps.shut_string Try.underlying9 w3) (trodAll_cons_mk (shut_int Try.underlying3 w4) (trodAll_cons_mk (shut_int Try.underlying3 w5) trodAll_mk0)))))), rfl, bel.frame _, fun h => by cases h⟩

theorem over : Rows.nodeOrderRow.holds Try.pinned (OpenSpec.ofChange Rows.nodeOrderSpec) :=
  OpenClaim.holds_of_wide 3 Try.f3 rfl rfl rfl rfl rfl rfl rfl ⟨rfl, rfl, rfl, rfl, rfl⟩ rfl rfl rfl rfl rfl (by kernel_rfl) Try.func3 (by kernel_rfl)
    (of_decide_eq_true (by kernel_rfl)) (by unfold Func.isWrapper; first | (rw [if_pos (by decide +kernel)]; kernel_rfl) | (rw [if_neg (by decide +kernel)]; exact ⟨rfl, rfl⟩))
    (fun os started H enc _ => lifted os started H enc)
end Go.Proofs.Ytefpcdpclpignab.nodeOrder

namespace Go.Proofs.Ytefpcdpclpignab
theorem nodeOrder_holds : Rows.NodeOrderSaid := nodeOrder.over
#print axioms nodeOrder_holds
end Go.Proofs.Ytefpcdpclpignab
