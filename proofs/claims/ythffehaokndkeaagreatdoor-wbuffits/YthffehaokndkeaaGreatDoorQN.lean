/-
  A nil log's Broken; Open of a nil manager and of a logical block that is none.
  What the document's power says.
  What the document's Right says: what the program's says.
  The document's Lebs.
-/
import Derived.Test.YthffehaokndkeaaGreatDoorQH
import Derived.Test.YthffehaokndkeaaGreatDoorQL
import Derived.Test.YthffehaokndkeaaGreatDoorKP
import Derived.Test.YthffehaokndkeaaGreatDoorKA
import Derived.Deep.LoopGhost
namespace Go.Proofs.YthffehaokndkeaaGreatDoor
open Go.RowKit Go.Extern.Stop Go.Stop Go.Extern
set_option maxRecDepth 10000

theorem broken_nil (w : World) : Calls Tryz.prog 27 #[.pointer none] w fun e w' => e = .returned (.bool false) ∧ Below w.heap.size w w' := by
  have ne := Wd.non w
  go_enter Tryz.func27, Tryz.ntmps27
  go_wp2_with fail
  refine quiet_below (by kernel_rfl) ?_
  repeat (first | go_big_quiet_skip | go_big_quiet_step (first | fail))
  refine wpQuiet_nil ?_
  rintro _ ⟨p4, rfl⟩
  obtain ⟨w4, hw4⟩ : ∃ W, W = p4.v := ⟨_, rfl⟩
  have HB4 : Hid (Below w.heap.size w w4) := by rw [hw4]; exact p4.h
  rw [← hw4]
  clear hw4
  clear p4
  go_wp2
  go_ret
  exact ⟨rfl, HB4.out⟩
theorem mread_nil (w : World) (leb page : Int) : Calls Tryz.prog 75 #[.pointer none, .int .i64 leb, .int .i64 page] w fun e w' => e = .returned (.tuple #[.slice none 0 0, .int .i64 14]) ∧ w = w' := by
  go_enter Tryz.func75, Tryz.ntmps75
  go_wp2
  go_ret2
  exact ⟨rfl, rfl⟩
theorem mread_bad {base : Nat} {w : World} {m : Mg} {c : CS} (h : MLies base w m c) (leb page : Int) (hh : hasB c leb = false) :
    Calls Tryz.prog 75 #[.pointer (some ⟨m.p, 0, none⟩), .int .i64 leb, .int .i64 page] w fun e w' => e = .returned (.tuple #[.slice none 0 0, .int .i64 22]) ∧ Below w.heap.size w w' := by
  have kH := mhas_any h leb
  rw [hh] at kH
  clear h hh
  go_enter Tryz.func75, Tryz.ntmps75
  go_wp2_with (go_at_call 58; refine kH.mono ?_; rintro e w1 ⟨rfl, hb1⟩; have HB1 := hidV hb1; clear hb1)
  go_ret2
  exact ⟨rfl, HB1.out⟩
theorem open_nil (w : World) (leb : Int) : Calls Tryz.prog 13 #[.pointer none, .int .i64 leb] w fun e w' => e = .returned (.tuple #[.pointer none, .int .i64 14]) ∧ w = w' :=
  open_no (.pointer none) leb 14 (by decide) (fun w' => w = w') ((mread_nil w leb 0).mono fun _ _ ⟨h1, h2⟩ => ⟨_, h1, h2⟩)
/-- Open of a fresh manager, at any number. -/
theorem open_which {base : Nat} {w0 w : World} {m : Mg} {c : CS} {P : List (List (List Nat))} {f : Int → Option (List (List Nat))} {z : Nat} (h : Al base 1 w0 z w m c P f) (hn : c.gb = 16 ∧ c.gp = 32 ∧ c.gz = 64 ∧ c.gr = 0) (leb : Int) :
    Calls Tryz.prog 13 #[.pointer (some ⟨m.p, 0, none⟩), .int .i64 leb] w fun e w' => ∃ v, e = .returned (.tuple #[v, .int .i64 (if leb < 0 ∨ 14 ≤ leb then 22 else 0)]) ∧ Kept (fun k => base ≤ k) w w' := by
  have hl : lebsI c.gb c.gp c.gz c.gr = 14 := by
    rw [hn.1, hn.2.1, hn.2.2.1, hn.2.2.2]; kernel_rfl
  by_cases hb : leb < 0 ∨ 14 ≤ leb
  · rw [if_pos hb]
    refine (open_no (.pointer (some ⟨m.p, 0, none⟩)) leb 22 (by decide) (fun w' => Below w.heap.size w w') ((mread_bad h.ms.ml leb 0 ?_).mono fun _ _ ⟨h1, h2⟩ => ⟨_, h1, h2⟩)).mono fun e w' ⟨h1, h2⟩ => ⟨_, h1, .of_below h2⟩
    unfold hasB
    rw [hl]
    rcases hb with hb | hb
    · rw [decide_eq_false (show ¬ 0 ≤ leb by omega)]; rfl
    · rw [decide_eq_false (show ¬ leb < 14 by omega), Bool.and_false]
  · rw [if_neg hb]
    obtain ⟨k, rfl⟩ : ∃ k : Nat, leb = k := ⟨leb.toNat, by omega⟩
    refine (open_any h.ms k (by rw [hn.1, hn.2.2.2]; omega)).mono fun e w' ⟨l, h1, h2⟩ => ⟨_, h1, h2.kp.mono fun k hk => ?_⟩
    rw [hk]
    exact h.ms.ml.low.1
end Go.Proofs.YthffehaokndkeaaGreatDoor
namespace Go.Proofs.YthffehaokndkeaaGreatDoor
open Go.RowKit
set_option maxRecDepth 10000

/-- What the document's power says, in k halvings at most. -/
def powD : Nat → Int → Bool
  | 0, n => n == 1
  | k + 1, n => if 1 < n ∧ n % 2 = 0 then powD k (n / 2) else n == 1
theorem powD_stop {k : Nat} {n : Int} (h : ¬ (1 < n ∧ n % 2 = 0)) : powD k n = (n == 1) := by
  cases k with
  | zero => rfl
  | succ k => unfold powD; rw [if_neg h]
theorem half_wrap {k : Int} (h1 : 1 < k) (h2 : k ≤ 9223372036854775807) : wrap64 (k.tdiv 2) = k / 2 := by
  rw [Int.tdiv_eq_ediv_of_nonneg (by omega)]
  unfold wrap64
  omega
set_option maxHeartbeats 2000000 in
theorem d_pow (n : Int) (h2 : n ≤ 9223372036854775807) (w : World) : Calls Tryz.prog 99 #[.int .i64 n] w fun e w' => e = .returned (.bool (powD n.toNat n)) ∧ w = w' := by
  obtain ⟨B, hB⟩ : ∃ B, powD n.toNat n = B := ⟨_, rfl⟩
  rw [hB]
  have HB : Hid (powD n.toNat n = B) := hB
  have H2 : Hid (n ≤ 9223372036854775807) := h2
  clear hB h2
  go_enter Tryz.func99, Tryz.ntmps99
  go_wp2
  go_loopg [0] n.toNat (fun gm s0 wr => ∃ k : Int, s0 = .int .i64 k ∧ Hid (k.toNat ≤ gm ∧ k ≤ 9223372036854775807 ∧ powD gm k = B) ∧ w = wr)
  case atStart => exact ⟨n, rfl, ⟨Nat.le_refl _, H2.out, HB.out⟩, rfl⟩
  case round =>
    obtain ⟨k, rfl, HK, rfl⟩ := hrel
    by_cases h1 : 1 < k
    · have hm : k.tmod 2 = k % 2 := Int.tmod_eq_emod_of_nonneg (by omega)
      have hw1 : IntKind.i64.wrap (k % 2) = k % 2 := by rw [IntKind.wrap_i64]; omega
      by_cases h0 : k % 2 = 0
      · have e0 : (k % 2 == 0) = true := by simpa using h0
        have HQ : Hid (k % 2 = 0) := h0
        have hw2 := half_wrap h1 HK.out.2.1
        clear h0
        go_wp2
        go_roundg (gk - 1)
        case measure => have := HK.out.1; omega
        case rel =>
          refine ⟨k / 2, ?_, ⟨?_, ?_, ?_⟩, rfl⟩
          · rw [hw2]
          · have := HK.out.1; omega
          · have := HK.out.2.1; omega
          · obtain ⟨j, rfl⟩ : ∃ j, gk = j + 1 := ⟨gk - 1, by have := HK.out.1; omega⟩
            have := HK.out.2.2
            unfold powD at this
            rw [if_pos ⟨h1, HQ.out⟩] at this
            exact this
      · have e0 : (k % 2 == 0) = false := by simpa using h0
        have hs := powD_stop (k := gk) (n := k) (fun q => h0 q.2)
        have HS : Hid ((k == 1) = B) := hs.symm.trans HK.out.2.2
        clear h0 hs
        go_wp2
        go_ret
        exact ⟨by rw [← HS.out]; rfl, rfl⟩
    · have hs := powD_stop (k := gk) (n := k) (fun q => h1 q.1)
      have HS : Hid ((k == 1) = B) := hs.symm.trans HK.out.2.2
      clear hs
      go_wp2
      go_ret
      exact ⟨by rw [← HS.out]; rfl, rfl⟩
end Go.Proofs.YthffehaokndkeaaGreatDoor
namespace Go.Proofs.YthffehaokndkeaaGreatDoor
open Go.RowKit
set_option maxRecDepth 10000

theorem pow_all : ∀ n : Fin 513, powD n.val (n.val : Int) = powB (n.val : Int) := by decide +kernel
theorem pow_same {n : Int} (h0 : 0 ≤ n) (h1 : n ≤ 512) : powD n.toNat n = powB n := by
  obtain ⟨k, rfl⟩ : ∃ k : Nat, n = k := ⟨n.toNat, by omega⟩
  have := pow_all ⟨k, by omega⟩
  simpa using this
set_option maxHeartbeats 4000000 in
theorem d_right (b p z r : Int) (w : World) : Calls Tryz.prog 65 #[.agg #[.int .i64 b, .int .i64 p, .int .i64 z, .int .i64 r]] w fun e w' => e = .returned (.bool (rightB b p z r)) ∧ Below w.heap.size w w' := by
  obtain ⟨X, hX⟩ : ∃ X, X = rightB b p z r := ⟨_, rfl⟩
  rw [← hX]
  have HX : Hid (X = rightB b p z r) := hX
  clear hX
  by_cases hb : 16 ≤ b ∧ b ≤ 256
  · by_cases hp : 8 ≤ p ∧ p ≤ 64
    · have kp := fun W => d_pow p (by omega) W
      rw [pow_same (by omega) (by omega)] at kp
      have b1 : ¬ b < 16 := by omega
      have b2 : ¬ 256 < b := by omega
      have p1 : ¬ p < 8 := by omega
      have p2 : ¬ 64 < p := by omega
      by_cases hz : 64 ≤ z ∧ z ≤ 512
      · have kz := fun W => d_pow z (by omega) W
        rw [pow_same (by omega) (by omega)] at kz
        obtain ⟨z1, z2⟩ := hz
        have HX2 : Hid (X = (powB p && (powB z && (decide (1536 ≤ wrap64 (wrap64 (p - 2) * z)) && decide (0 ≤ r ∧ r ≤ wrap64 (b.tdiv 4)))))) := by
          show _ = _
          rw [HX.out]; unfold rightB
          rw [decide_eq_true hb, decide_eq_true hp, decide_eq_true (show 64 ≤ z ∧ z ≤ 512 from ⟨z1, z2⟩)]; simp
        have M1 : Hid True := trivial
        cases hP : powB p
        · rw [hP] at kp
          have HX3 : Hid (X = false) := by show _ = _; rw [HX2.out, hP]; rfl
          clear hb hp hP
          go_enter Tryz.func65, Tryz.ntmps65
          go_wp2_with (go_at_call 99; refine (kp _).mono ?_; rintro e w' ⟨rfl, rfl⟩)
          go_ret
          exact ⟨ret_bool HX3.out.symm, below_new _ _⟩
        · rw [hP] at kp
          cases hZ : powB z
          · rw [hZ] at kz
            have HX3 : Hid (X = false) := by show _ = _; rw [HX2.out, hP, hZ]; rfl
            clear hb hp hP hZ
            go_enter Tryz.func65, Tryz.ntmps65
            go_wp2_with (first
              | (go_at_call 99; clear M1; refine (kp _).mono ?_; rintro e w' ⟨rfl, rfl⟩)
              | (go_at_call 99; refine (kz _).mono ?_; rintro e w' ⟨rfl, rfl⟩))
            go_ret
            exact ⟨ret_bool HX3.out.symm, below_new _ _⟩
          · rw [hZ] at kz
            have HX3 : Hid (X = (decide (1536 ≤ wrap64 (wrap64 (p - 2) * z)) && decide (0 ≤ r ∧ r ≤ wrap64 (b.tdiv 4)))) := by show _ = _; rw [HX2.out, hP, hZ]; rfl
            have hw1 : wrap64 (p - 2) = p - 2 := by unfold wrap64; omega
            have hw2 : wrap64 (b.tdiv 4) = b / 4 := by rw [Int.tdiv_eq_ediv_of_nonneg (by omega)]; unfold wrap64; omega
            have HX3 : Hid (X = (decide (1536 ≤ wrap64 ((p - 2) * z)) && decide (0 ≤ r ∧ r ≤ b / 4))) := by have := HX3.out; rw [hw1, hw2] at this; exact this
            clear hw1 hw2
            by_cases hy : 1536 ≤ wrap64 ((p - 2) * z)
            · by_cases hr0 : 0 ≤ r
              · by_cases hr1 : r ≤ b / 4
                · have HX4 : Hid (X = true) := by show _ = _; rw [HX3.out, decide_eq_true hy, decide_eq_true (show 0 ≤ r ∧ r ≤ b / 4 from ⟨hr0, hr1⟩)]; rfl
                  clear hb hp hP hZ
                  go_enter Tryz.func65, Tryz.ntmps65
                  go_wp2_with (first
                    | (go_at_call 99; clear M1; refine (kp _).mono ?_; rintro e w' ⟨rfl, rfl⟩)
                    | (go_at_call 99; refine (kz _).mono ?_; rintro e w' ⟨rfl, rfl⟩))
                  go_ret
                  exact ⟨ret_bool HX4.out.symm, below_new _ _⟩
                · have HX4 : Hid (X = false) := by show _ = _; rw [HX3.out, decide_eq_false (show ¬ (0 ≤ r ∧ r ≤ b / 4) from fun q => hr1 q.2)]; simp
                  clear hb hp hP hZ
                  go_enter Tryz.func65, Tryz.ntmps65
                  go_wp2_with (first
                    | (go_at_call 99; clear M1; refine (kp _).mono ?_; rintro e w' ⟨rfl, rfl⟩)
                    | (go_at_call 99; refine (kz _).mono ?_; rintro e w' ⟨rfl, rfl⟩))
                  go_ret
                  exact ⟨ret_bool (by rw [HX4.out]; exact decide_eq_false (by omega)), below_new _ _⟩
              · have HX4 : Hid (X = false) := by show _ = _; rw [HX3.out, decide_eq_false (show ¬ (0 ≤ r ∧ r ≤ b / 4) from fun q => hr0 q.1)]; simp
                clear hb hp hP hZ
                go_enter Tryz.func65, Tryz.ntmps65
                go_wp2_with (first
                  | (go_at_call 99; clear M1; refine (kp _).mono ?_; rintro e w' ⟨rfl, rfl⟩)
                  | (go_at_call 99; refine (kz _).mono ?_; rintro e w' ⟨rfl, rfl⟩))
                go_ret
                exact ⟨ret_bool HX4.out.symm, below_new _ _⟩
            · have HX4 : Hid (X = false) := by show _ = _; rw [HX3.out, decide_eq_false hy]; rfl
              clear hb hp hP hZ
              go_enter Tryz.func65, Tryz.ntmps65
              go_wp2_with (first
                | (go_at_call 99; clear M1; refine (kp _).mono ?_; rintro e w' ⟨rfl, rfl⟩)
                | (go_at_call 99; refine (kz _).mono ?_; rintro e w' ⟨rfl, rfl⟩))
              go_ret
              exact ⟨ret_bool HX4.out.symm, below_new _ _⟩
      · have HX2 : Hid (X = false) := by
          show _ = _
          rw [HX.out]; unfold rightB; rw [decide_eq_false hz]; simp
        have hz' : ¬ 64 ≤ z ∨ (64 ≤ z ∧ ¬ z ≤ 512) := by omega
        cases hP : powB p
        · rw [hP] at kp
          clear hb hp hP hz hz'
          go_enter Tryz.func65, Tryz.ntmps65
          go_wp2_with (go_at_call 99; refine (kp _).mono ?_; rintro e w' ⟨rfl, rfl⟩)
          go_ret
          exact ⟨ret_bool HX2.out.symm, below_new _ _⟩
        · rw [hP] at kp
          clear hb hp hP hz
          rcases hz' with q | ⟨q1, q2⟩
          all_goals
            go_enter Tryz.func65, Tryz.ntmps65
            go_wp2_with (go_at_call 99; refine (kp _).mono ?_; rintro e w' ⟨rfl, rfl⟩)
            go_ret
            exact ⟨ret_bool HX2.out.symm, below_new _ _⟩
    · have HX2 : Hid (X = false) := by
        show _ = _
        rw [HX.out]; unfold rightB; rw [decide_eq_false hp]; simp
      have hp' : p < 8 ∨ (¬ p < 8 ∧ 64 < p) := by omega
      have b1 : ¬ b < 16 := by omega
      have b2 : ¬ 256 < b := by omega
      clear hb hp
      rcases hp' with q | ⟨q1, q2⟩
      all_goals
        go_enter Tryz.func65, Tryz.ntmps65
        go_wp2
        go_ret
        exact ⟨ret_bool HX2.out.symm, below_new _ _⟩
  · have HX2 : Hid (X = false) := by
      show _ = _
      rw [HX.out]; unfold rightB; rw [decide_eq_false hb]; simp
    have hb' : b < 16 ∨ (¬ b < 16 ∧ 256 < b) := by omega
    clear hb
    rcases hb' with q | ⟨q1, q2⟩
    all_goals
      go_enter Tryz.func65, Tryz.ntmps65
      go_wp2
      go_ret
      exact ⟨ret_bool HX2.out.symm, below_new _ _⟩
end Go.Proofs.YthffehaokndkeaaGreatDoor
namespace Go.Proofs.YthffehaokndkeaaGreatDoor
open Go.RowKit
set_option maxRecDepth 10000

set_option maxHeartbeats 2000000 in
theorem rlebs_any (b p z r : Int) (w : World) : Calls Tryz.prog 28 #[.agg #[.int .i64 b, .int .i64 p, .int .i64 z, .int .i64 r]] w fun e w' => e = .returned (.int .i64 (lebsI b p z r)) ∧ Below w.heap.size w w' := by
  obtain ⟨W, hW⟩ : ∃ W, W = w.alloc (.cells #[.int .i64 b, .int .i64 p, .int .i64 z, .int .i64 r] 23) := ⟨_, rfl⟩
  have hr : Row W w.heap.size [.int .i64 b, .int .i64 p, .int .i64 z, .int .i64 r] 23 := by rw [hW]; exact Row.new w [_, _, _, _] _
  have HB : Hid (Below w.heap.size w W) := by rw [hW]; exact below_new w _
  have cR := d_right b p z r W
  have c0 : W.cell? ⟨w.heap.size, 0, none⟩ = some (.int .i64 b) := hr.cell (i := 0) rfl
  have c1 : W.cell? ⟨w.heap.size, 1, none⟩ = some (.int .i64 p) := hr.cell (i := 1) rfl
  have c2 : W.cell? ⟨w.heap.size, 2, none⟩ = some (.int .i64 z) := hr.cell (i := 2) rfl
  have c3 : W.cell? ⟨w.heap.size, 3, none⟩ = some (.int .i64 r) := hr.cell (i := 3) rfl
  have HR : Hid (Row W w.heap.size [.int .i64 b, .int .i64 p, .int .i64 z, .int .i64 r] 23) := hr
  have HI : Hid (lebsI b p z r = if rightB b p z r then b - r - 2 else 0) := rfl
  have HQ : Hid (rightB b p z r = true → 16 ≤ b ∧ b ≤ 256 ∧ 0 ≤ r ∧ r ≤ 64) := by
    intro h
    unfold rightB at h
    simp only [Bool.and_eq_true, decide_eq_true_eq] at h
    obtain ⟨h1, _, _, _, _, _, h7⟩ := h
    have : wrap64 (b.tdiv 4) = b.tdiv 4 := by
      have e : b.tdiv 4 = b / 4 := Int.tdiv_eq_ediv_of_nonneg (by omega)
      rw [e]
      unfold wrap64; omega
    rw [this, Int.tdiv_eq_ediv_of_nonneg (by omega)] at h7
    omega
  obtain ⟨R, hR⟩ : ∃ R, R = rightB b p z r := ⟨_, rfl⟩
  rw [← hR] at cR HI HQ
  clear hr hR
  cases R with
  | true =>
    obtain ⟨q1, q2, q3, q4⟩ := HQ.out rfl
    go_enter Tryz.func28, Tryz.ntmps28
    go_wp2_with fail
    rw [← hW]
    clear hW
    go_wp2_with (go_at_call 65; refine cR.mono ?_; rintro e w2 ⟨rfl, hb2⟩; have hr2 := HR.out.later hb2; have d0 : w2.cell? ⟨w.heap.size, 0, none⟩ = some (.int .i64 b) := hr2.cell (i := 0) rfl; have d3 : w2.cell? ⟨w.heap.size, 3, none⟩ = some (.int .i64 r) := hr2.cell (i := 3) rfl; have HB2 : Hid (Below w.heap.size w w2) := Below.after HB.out hb2; clear hb2 hr2)
    go_ret
    exact ⟨by rw [HI.out, if_pos trivial]; rfl, HB2.out⟩
  | false =>
    go_enter Tryz.func28, Tryz.ntmps28
    go_wp2_with fail
    rw [← hW]
    clear hW
    go_wp2_with (go_at_call 65; refine cR.mono ?_; rintro e w2 ⟨rfl, hb2⟩; have HB2 : Hid (Below w.heap.size w w2) := Below.after HB.out hb2; clear hb2)
    go_ret
    exact ⟨by rw [HI.out]; rfl, HB2.out⟩
end Go.Proofs.YthffehaokndkeaaGreatDoor
