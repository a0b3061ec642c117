/-
  Proved: the statement that any calls on a tree, and on a nil one, answer what a sorted list answers, and that the tree's shape is sound behind each (BtreePlays), in its second form: for every input whose bulk is at most 1048576.
-/
import Derived.Test.YtlfgeanafidopaaRY
import Derived.Test.YtlfgeanafidopaaRO
import Derived.OwnWalk
import Derived.JoinedCond
import Derived.Deep.RegionWith
import Derived.Deep.DeepCutAuto
namespace Go.Proofs.Ytlfgeanafidopaa.btreePlays
open Go.ChangeShapes Go.WideShapes Go.ChangeAt Go.RowKit Bt
set_option maxRecDepth 10000

theorem fan_nat {f : Int} (h : okFan f = true) : ∃ F : Nat, f = (F : Int) ∧ 4 ≤ F ∧ F ≤ 64 := by
  unfold okFan at h
  simp at h
  exact ⟨f.toNat, by omega, by omega, by omega⟩
theorem bld_inv {F : Nat} (hF : 4 ≤ F) : ∀ (l : List Nw) (x : Tre), InvT F x → InvT F (bld F l x).1 ∧ (bld F l x).1.all.length ≤ x.all.length + l.length ∧ ((bld F l x).2 = 0 ∨ (bld F l x).2 = 22)
  | [], x, h => ⟨h, Nat.le_refl _, .inl rfl⟩
  | y :: l, x, h => by
    rw [bld]
    split
    · obtain ⟨a, b⟩ := delS_len hF y.k h
      obtain ⟨i1, i2, i3⟩ := bld_inv hF l _ b
      exact ⟨i1, by simp only [List.length_cons]; omega, i3⟩
    · split
      · obtain ⟨a, b⟩ := putR_len hF y.k y.v h
        obtain ⟨i1, i2, i3⟩ := bld_inv hF l _ b
        exact ⟨i1, by simp only [List.length_cons]; omega, i3⟩
      · rename_i hE
        refine ⟨h, by simp only [List.length_cons]; omega, .inr ?_⟩
        unfold putE at hE ⊢
        split at hE
        · exact absurd rfl hE
        · rename_i q; rw [if_neg q]
set_option maxHeartbeats 4000000 in
theorem walk_bad (f : Int) (a : Option Addr) (len cap : Nat) (a2 : Option Addr) (len2 cap2 : Nat) (w : World) (h : okFan f = false) :
    Calls Try.prog 3 #[.int .i64 f, .slice a len cap, .slice a2 len2 cap2] w fun e w' => e = .returned (.bool true) ∧ Below w.heap.size w w' := by
  have kB := build_bad f a len cap w h
  have kR := fun W => rbuild_bad f a len cap W h
  clear h
  go_enter Try.func3, Try.ntmps3
  go_wp2_with (first
    | (go_at_call 9; refine kB.mono ?_; rintro e w' ⟨rfl, rfl⟩)
    | (go_at_call 10; refine (kR _).mono ?_; rintro e w' ⟨rfl, rfl⟩)
    | (go_at_call 11; refine (alive_any _).mono ?_; rintro e W2 ⟨rfl, hb2⟩))
  go_ret
  exact ⟨rfl, hb2⟩
theorem narg_later {w w' : World} {a : Option Addr} {len cap : Nat} {l : List Nw} (h : NArg w a len cap l) (hb : Below w.heap.size w w') : NArg w' a len cap l := ⟨h.len_eq, h.le, h.max, h.row.later hb⟩
theorem rbl_eq {F : Nat} (h1 : 4 ≤ F) (l : List Nw) : (bld F l tre0).2 = (rbl l []).2 ∧ (bld F l tre0).1.all = (rbl l []).1 := bld_rbl h1 l tre0 inv0
set_option maxHeartbeats 4000000 in
theorem walk_err (F : Nat) (h1 : 4 ≤ F) (h2 : F ≤ 64) (a : Option Addr) (len cap : Nat) (a2 : Option Addr) (len2 cap2 : Nat) (l : List Nw) (w : World) (hA : NArg w a len cap l) (hsz : len ≤ 1048576) (hE : (bld F l tre0).2 ≠ 0) :
    Calls Try.prog 3 #[.int .i64 (F : Nat), .slice a len cap, .slice a2 len2 cap2] w fun e w' => e = .returned (.bool true) ∧ Below w.heap.size w w' := by
  have kB : Calls Try.prog 9 #[.int .i64 (F : Nat), .slice a len cap] w fun e w' => e = .returned (.tuple #[.pointer none, .int .i64 22]) ∧ Below w.heap.size w w' := by
    refine (build_any F h1 h2 a len cap l w hA (by omega)).mono ?_
    rintro e w' ⟨p, rfl, hb, _⟩
    refine ⟨?_, hb⟩
    unfold bltV
    rw [if_neg hE]
    rcases (bld_inv h1 l tre0 inv0).2.2 with q | q
    · exact absurd q hE
    · rw [q]
  have kR : ∀ W, Below w.heap.size w W → Calls Try.prog 10 #[.int .i64 (F : Nat), .slice a len cap] W fun e w' => e = .returned (.tuple #[.pointer none, .int .i64 22]) ∧ Below W.heap.size W w' := fun W hb => by
    refine (rbuild_ok F h1 h2 a len cap l W (narg_later hA hb) hsz).mono ?_
    rintro e w' (⟨q, _⟩ | ⟨_, rfl, hb'⟩)
    · rw [← (rbl_eq h1 l).1] at q; exact absurd q hE
    · exact ⟨rfl, hb'⟩
  clear hA hE
  go_enter Try.func3, Try.ntmps3
  go_wp2_with (first
    | (go_at_call 9; refine kB.mono ?_; rintro e W1 ⟨rfl, hb1⟩)
    | (go_at_call 10; refine (kR _ hb1).mono ?_; rintro e W2 ⟨rfl, hb2⟩)
    | (go_at_call 11; refine (alive_any _).mono ?_; rintro e W3 ⟨rfl, hb3⟩))
  go_ret
  exact ⟨rfl, bafter (bafter hb1 hb2) hb3⟩
set_option maxHeartbeats 16000000 in
theorem walk_ok (F : Nat) (h1 : 4 ≤ F) (h2 : F ≤ 64) (a : Option Addr) (len cap : Nat) (a2 : Option Addr) (len2 cap2 : Nat) (l : List Nw) (ol : List Opn) (w : World) (hA : NArg w a len cap l) (hO : OpArg w a2 len2 cap2 ol) (hsz : len ≤ 1048576) (hsz2 : len2 ≤ 1048576) (hE : (bld F l tre0).2 = 0) :
    Calls Try.prog 3 #[.int .i64 (F : Nat), .slice a len cap, .slice a2 len2 cap2] w fun e w' => e = .returned (.bool true) ∧ Below w.heap.size w w' := by
  obtain ⟨i1, i2, _⟩ := bld_inv h1 l tre0 inv0
  have hlen : (bld F l tre0).1.all.length ≤ 1048576 := by
    have e0 : tre0.all.length = 0 := rfl
    have := hA.len_eq; omega
  have hup : UpT (bld F l tre0).1 := up_bld F l tre0 up_tre0
  have hre := rbl_eq h1 l
  obtain ⟨X, hX⟩ : ∃ X, X = (bld F l tre0).1 := ⟨_, rfl⟩
  have kB : Calls Try.prog 9 #[.int .i64 (F : Nat), .slice a len cap] w fun e w' => ∃ p, e = .returned (.tuple #[.pointer (some ⟨p, 0, none⟩), .int .i64 0]) ∧ Blt w p F X w' := by
    refine (build_any F h1 h2 a len cap l w hA (by omega)).mono ?_
    rintro e w' ⟨p, rfl, hb, hB⟩
    refine ⟨p, ?_, by rw [hX]; exact hB hE⟩
    unfold bltV
    rw [if_pos hE]
  have kR : ∀ W p, Blt w p F X W → Calls Try.prog 10 #[.int .i64 (F : Nat), .slice a len cap] W fun e w' => ∃ r, e = .returned (.tuple #[.pointer (some ⟨r, 0, none⟩), .int .i64 0]) ∧ ∃ fs, Pl w p F r 0 X fs w' := fun W p hB => by
    refine (rbuild_ok F h1 h2 a len cap l W (narg_later hA hB.below) hsz).mono ?_
    rintro e w' (⟨_, r, rfl, hRB⟩ | ⟨q, _⟩)
    · obtain ⟨fs, q1, q2⟩ := hB.live
      have hLX : (rbl l []).1 = X.all := by rw [hX]; exact hre.2.symm
      rw [hLX] at hRB
      have hs := hB.below.size
      exact ⟨r, rfl, fs, ⟨q1.later hRB.below, hRB.at_, hRB.rl, by rw [hX]; exact hup⟩, q2, hB.p, Nat.le_trans hs hRB.r, bafter hB.below hRB.below, by rw [hX]; omega⟩
    · rw [← hre.1, hE] at q; cases q
  have HOp : Hid (∀ i y, ol[i]? = some y → y.Ok ∧ ∃ b off, a2 = some ⟨b, off, none⟩ ∧ ∀ X, Below w.heap.size w X → X.cell? ⟨b, off + i * 5, none⟩ = some (.int .i64 y.k) ∧ X.cell? ⟨b, off + i * 5 + 1, none⟩ = some (.string y.key) ∧ X.cell? ⟨b, off + i * 5 + 2, none⟩ = some (.string y.val) ∧ X.cell? ⟨b, off + i * 5 + 3, none⟩ = some (.string y.to) ∧ X.cell? ⟨b, off + i * 5 + 4, none⟩ = some (.int .i64 y.n)) := fun i y hy => by
    rcases hO.row with e | ⟨b, off, e, hc⟩
    · rw [e] at hy; simp at hy
    · refine ⟨(hc i y hy).2.2.2.2.2, b, off, e, fun X hb => ?_⟩
      rcases hO.row.later hb with e' | ⟨b', off', e', hc'⟩
      · rw [e'] at hy; simp at hy
      · rw [e] at e'
        cases e'
        obtain ⟨q0, q1, q2, q3, q4, _⟩ := hc' i y hy
        exact ⟨q0, q1, q2, q3, q4⟩
  have HOL : Hid (len2 = ol.length) := hO.len_eq
  have hcap := hO.le
  have hcm := hO.max
  unfold maxLen at hcm
  clear hA hE i1 i2 hX hsz hO hlen hup hre
  go_enter Try.func3, Try.ntmps3
  go_wp2_with (first
    | (go_at_call 9; refine kB.mono ?_; rintro e W1 ⟨p, rfl, hB⟩; have HB : Hid (Blt w p F X W1) := hB; clear hB)
    | (go_at_call 10; refine (kR _ _ HB.out).mono ?_; rintro e W2 ⟨r, rfl, fs, hP⟩; have HP : Hid (Pl w p F r 0 X fs W2) := hP; clear hP)
    | (go_at_call 11; refine (alive_any _).mono ?_; rintro e W3 ⟨rfl, hb3⟩; have HP3 : Hid (Pl w p F r 0 X fs W3) := HP.out.later hb3; clear hb3))
  clear kB kR HB HP
  go_loopg [7, 11] len2 (fun kx s7 s11 wr => ∃ (i q : Nat) (x : Tre) (fs : List Nat), i + kx = len2 ∧ i ≤ 200 ∧ s7 = .pointer (some ⟨q, 0, none⟩) ∧ s11 = .int .i64 (i : Nat) ∧ Hid (Pl w q F r i x fs wr))
  case atStart => exact ⟨0, p, X, fs, by omega, by omega, rfl, rfl, HP3.out⟩
  case round =>
    obtain ⟨i, q, x, fs', hi, hi200, rfl, rfl, I⟩ := hrel
    by_cases hlt : i < len2 ∧ i < 200
    · obtain ⟨hlt1, hlt2⟩ := hlt
      obtain ⟨y, hy⟩ : ∃ y, ol[i]? = some y := ⟨_, List.getElem?_eq_getElem (by have := HOL.out; omega)⟩
      obtain ⟨hok, b, off, rfl, hcs⟩ := HOp.out i y hy
      clear HOp
      have HOp : Hid (∀ X, Below w.heap.size w X → X.cell? ⟨b, off + i * 5, none⟩ = some (.int .i64 y.k) ∧ X.cell? ⟨b, off + i * 5 + 1, none⟩ = some (.string y.key) ∧ X.cell? ⟨b, off + i * 5 + 2, none⟩ = some (.string y.val) ∧ X.cell? ⟨b, off + i * 5 + 3, none⟩ = some (.string y.to) ∧ X.cell? ⟨b, off + i * 5 + 4, none⟩ = some (.int .i64 y.n)) := hcs
      have HOk : Hid y.Ok := hok
      obtain ⟨q0, q1, q2, q3, q4⟩ := hcs wr I.out.below
      have HI1 : Hid (i + 1 ≤ 1000000) := by show _ ≤ _; omega
      have hi1 : (i : Int) < (len2 : Int) := by omega
      have hi2 : (i : Int) < 200 := by omega
      have M1 : Hid True := trivial
      have M2 : Hid True := trivial
      have M3 : Hid True := trivial
      clear hcs hok hy
      have kC := I.out.clone
      have HKC : Hid (Calls Try.prog 12 #[.pointer (some ⟨q, 0, none⟩)] wr fun e w' => ∃ q' fs'', e = .returned (.pointer (some ⟨q', 0, none⟩)) ∧ Pl w q' F r i x fs'' w') := kC
      clear kC
      go_upto_if 55 with fail
      go_cut [7] (fun s7 wx => ∃ (q7 : Nat) (fs7 : List Nat), s7 = .pointer (some ⟨q7, 0, none⟩) ∧ Hid (Pl w q7 F r i x fs7 wx))
      case first =>
        by_cases h7 : y.k = 7
        · have h7' : (y.k == 7) = true := by rw [h7]; rfl
          go_wp2_with (go_at_call 12; refine HKC.out.mono ?_; rintro e W0 ⟨q7, fs7, rfl, hP7⟩; have HP0 : Hid (Pl w q7 F r i x fs7 W0) := hP7; clear hP7)
          go_meet
          case rel => exact ⟨q7, fs7, rfl, HP0⟩
        · have h7' : (y.k == 7) = false := by simpa using h7
          go_wp2
          go_meet
          case rel => exact ⟨q, fs', rfl, I⟩
      case rest =>
        obtain ⟨q7, fs7, rfl, HP0⟩ := hcut
        clear q0 q1 q2 q3 q4 HKC I
        obtain ⟨q0, q1, q2, q3, q4⟩ := HOp.out wc HP0.out.below
        have HOne : Hid (Calls Try.prog 13 #[.pointer (some ⟨q7, 0, none⟩), .pointer (some ⟨r, 0, none⟩), .agg #[.int .i64 y.k, .string y.key, .string y.val, .string y.to, .int .i64 y.n]] wc.drew fun e w' => e = .returned (.bool true) ∧ ∃ x' fs', Pl w q7 F r (i + 1) x' fs' w') := (HP0.out.later (below_drawn wc 1)).one (by have := HI1.out; omega) y HOk.out
        go_wp2
        go_region_with (first
          | (clear M1; go_at_call 13; refine HOne.out.mono ?_; rintro e W1 ⟨rfl, x1, fs1, hP1⟩; have HP1 : Hid (Pl w q7 F r (i + 1) x1 fs1 W1) := hP1; obtain ⟨y10, y11, y12, y13, y14⟩ := HOp.out W1 hP1.below; obtain ⟨ra, rc, hrd⟩ := hP1.reads; have HRd : Hid (∀ X, Below W1.heap.size W1 X → X.cell? ⟨r, 0, none⟩ = some (.slice ra x1.all.length rc) ∧ NdAt X (.slice ra x1.all.length rc) x1.all) := hrd; clear hP1 hrd)
          | (clear M2; go_at_call 13; refine (one_nn y _).mono ?_; rintro e W2 ⟨rfl, hb2⟩; have HP2 : Hid (Pl w q7 F r (i + 1) x1 fs1 W2) := HP1.out.later hb2; have HB2 : Hid (Below W1.heap.size W1 W2) := hb2; obtain ⟨d2⟩ : Nonempty (W2.cell? ⟨r, 0, none⟩ = some (.slice ra x1.all.length rc)) := ⟨(HRd.out W2 hb2).1⟩; clear hb2)
          | (go_at_call 14; refine (len_any HP2.out.both.live).mono ?_; rintro e W9 ⟨rfl, rfl⟩)
          | (go_at_call 15; refine (rlen_any HP2.out.both.at_).mono ?_; rintro e W9 ⟨rfl, rfl⟩)
          | (go_at_call 17; refine (HP2.out.range HI1.out).mono ?_; rintro e W3 ⟨a5, c5, rfl, hv, hb3⟩; have HV : Hid (NdAt W3 (.slice a5 x1.all.length c5) x1.all) := hv; have HP3 : Hid (Pl w q7 F r (i + 1) x1 fs1 W3) := HP2.out.later hb3; have HB3 : Hid (Below W1.heap.size W1 W3) := bafter HB2.out hb3; obtain ⟨d3⟩ : Nonempty (W3.cell? ⟨r, 0, none⟩ = some (.slice ra x1.all.length rc)) := ⟨(HRd.out W3 HB3.out).1⟩; clear hv hb3)
          | (go_at_call 16; refine (same_yes _ _ _ _ HV.out (HRd.out W3 HB3.out).2 (by have := HP3.out.len; have := HI1.out; omega)).mono ?_; rintro e W4 ⟨rfl, hb4⟩; have HP4 : Hid (Pl w q7 F r (i + 1) x1 fs1 W4) := HP3.out.later hb4; clear hb4)
          | (clear M3; go_at_call 20; refine (HP4.out.shapes HI1.out).mono ?_; rintro e W5 ⟨a6, n6, c6, S6, rfl, hS6, hE6, hb5⟩; have HS6 : Hid (ShRow W4 W5 (.slice a6 n6 c6) S6) := hS6; have HE6 : Hid (S6.map Shc.s = shps x1.n [x1.T]) := hE6; have HP5 : Hid (Pl w q7 F r (i + 1) x1 fs1 W5) := HP4.out.later hb5; clear hS6 hE6 hb5)
          | (go_at_call 19; refine (HP5.out.conv HI1.out HS6.out HE6.out).mono ?_; rintro e W6 ⟨a7, n7, c7, rfl, hR7, hb6⟩; have HR7 : Hid (RSh W5 W6 (.slice a7 n7 c7) S6) := hR7; have HP6 : Hid (Pl w q7 F r (i + 1) x1 fs1 W6) := HP5.out.later hb6; clear hR7 hb6)
          | (go_at_call 18; refine (HP6.out.sound HI1.out HR7.out HE6.out).mono ?_; rintro e W7 ⟨rfl, hb7⟩; have HP7 : Hid (Pl w q7 F r (i + 1) x1 fs1 W7) := HP6.out.later hb7; obtain ⟨hwr⟩ : Nonempty (IntKind.i64.wrap ((x1.n : Int) + 1) = (x1.n : Int) + 1) := ⟨by have hlv := HP6.out.level HI1.out; rw [IntKind.wrap_i64]; omega⟩; clear hb7)
          | (go_at_call 21; refine (height_any HP7.out.both.live (by have := HP7.out.len; have := HI1.out; omega)).mono ?_; rintro e W9 ⟨rfl, rfl⟩)
          | (go_at_call 20; refine (HP7.out.top HI1.out).mono ?_; rintro e W8 ⟨g8, n8, c8, rfl, hn8, t8, hb8⟩; have HP8 : Hid (Pl w q7 F r (i + 1) x1 fs1 W8) := HP7.out.later hb8; have hn8I : (0 : Int) < (n8 : Int) := (by omega); clear hb8 hn8))
        all_goals
          go_wp2
          go_roundg (len2 - (i + 1))
          case measure => omega
          case rel => exact ⟨i + 1, q7, x1, fs1, by omega, by omega, rfl, by go_num, HP8.out⟩
    · have HI2 : Hid (i ≤ 1000000) := by show _ ≤ _; omega
      clear HOp
      by_cases hlt1 : i < len2
      · have hi1 : (i : Int) < (len2 : Int) := by omega
        have hi2 : ¬ (i : Int) < 200 := by omega
        go_wp2_with (first
          | (go_at_call 20; refine (I.out.shapes HI2.out).mono ?_; rintro e W5 ⟨a6, n6, c6, S6, rfl, hS6, hE6, hb5⟩; have HS6 : Hid (ShRow wr W5 (.slice a6 n6 c6) S6) := hS6; have HE6 : Hid (S6.map Shc.s = shps x.n [x.T]) := hE6; have HP5 : Hid (Pl w q F r i x fs' W5) := I.out.later hb5; clear hS6 hE6 hb5)
          | (go_at_call 19; refine (HP5.out.conv HI2.out HS6.out HE6.out).mono ?_; rintro e W6 ⟨a7, n7, c7, rfl, hR7, hb6⟩; have HR7 : Hid (RSh W5 W6 (.slice a7 n7 c7) S6) := hR7; have HP6 : Hid (Pl w q F r i x fs' W6) := HP5.out.later hb6; clear hR7 hb6)
          | (go_at_call 18; refine (HP6.out.sound HI2.out HR7.out HE6.out).mono ?_; rintro e W7 ⟨rfl, hb7⟩; have HP7 : Hid (Pl w q F r i x fs' W7) := HP6.out.later hb7; clear hb7))
        go_ret
        exact ⟨rfl, HP7.out.below⟩
      · have hi1 : ¬ (i : Int) < (len2 : Int) := by omega
        go_wp2_with (first
          | (go_at_call 20; refine (I.out.shapes HI2.out).mono ?_; rintro e W5 ⟨a6, n6, c6, S6, rfl, hS6, hE6, hb5⟩; have HS6 : Hid (ShRow wr W5 (.slice a6 n6 c6) S6) := hS6; have HE6 : Hid (S6.map Shc.s = shps x.n [x.T]) := hE6; have HP5 : Hid (Pl w q F r i x fs' W5) := I.out.later hb5; clear hS6 hE6 hb5)
          | (go_at_call 19; refine (HP5.out.conv HI2.out HS6.out HE6.out).mono ?_; rintro e W6 ⟨a7, n7, c7, rfl, hR7, hb6⟩; have HR7 : Hid (RSh W5 W6 (.slice a7 n7 c7) S6) := hR7; have HP6 : Hid (Pl w q F r i x fs' W6) := HP5.out.later hb6; clear hR7 hb6)
          | (go_at_call 18; refine (HP6.out.sound HI2.out HR7.out HE6.out).mono ?_; rintro e W7 ⟨rfl, hb7⟩; have HP7 : Hid (Pl w q F r i x fs' W7) := HP6.out.later hb7; clear hb7))
        go_ret
        exact ⟨rfl, HP7.out.below⟩
theorem walk (f : Int) (a : Option Addr) (len cap : Nat) (l : List Nw) (a2 : Option Addr) (len2 cap2 : Nat) (ol : List Opn) (w : World) (_ : (Lit.int .i64 f).wf = true) (hA : NArg w a len cap l) (hO : OpArg w a2 len2 cap2 ol) (hs : len ≤ 1048576) (hs2 : len2 ≤ 1048576) :
    Calls Try.prog 3 #[.int .i64 f, .slice a len cap, .slice a2 len2 cap2] w fun e w' => e = .returned (.bool true) ∧ Below w.heap.size w w' := by
  cases h : okFan f with
  | false => exact walk_bad f a len cap a2 len2 cap2 w h
  | true =>
    obtain ⟨F, rfl, h1, h2⟩ := fan_nat h
    by_cases hE : (bld F l tre0).2 = 0
    · exact walk_ok F h1 h2 a len cap a2 len2 cap2 l ol w hA hO hs hs2 hE
    · exact walk_err F h1 h2 a len cap a2 len2 cap2 l w hA hs hE
set_option maxRecDepth 100000 in
theorem contract (H : Type) (enc : TypeId × Value → H) (W : World) (base : Nat) (args : Array Value) (ds gs : List (DataW H)) (before : List MemPlace)
    (hval : ∀ (j : Nat) t v, Try.f3.params[j]? = some t → args[j]? = some v → Value.okWide Try.prog W .any base t v)
    (hW : DataW.Whole enc Try.prog Try.f3.params.toList Rows.btreePlaysSpec.vars false W args.toList ds gs before) (hk : Rows.uptoSmall H (ds ++ gs) = true) :
    Calls Try.prog 3 args W fun e W' => ∃ v, e = .returned v ∧ Rows.btreePlaysSpec.post enc Try.prog Try.f3 false true false false W args v W' := by
  have hW' := hW
  obtain ⟨p, q, hA0, hV, rfl, hfz, hnd⟩ := hW
  have hA : DataW.TrodAll enc Try.prog W 0 (fun _ => true) true Try.f3.params.toList args.toList ds p := hA0
  rw [Try.params3] at hA hval
  obtain ⟨v0, vs0, d0, ds0, p0, q0, hargs, rfl, rfl, h0, r0⟩ := trodAll_cons hA
  obtain ⟨v1, vs1, d1, ds1, p1, q1, rfl, rfl, rfl, h1, r1⟩ := trodAll_cons r0
  obtain ⟨v2, vs2, d2, ds2, p2, q2, rfl, rfl, rfl, h2, r2⟩ := trodAll_cons r1
  obtain ⟨rfl, rfl, rfl⟩ := trodAll_nil r2
  obtain rfl : args = #[v0, v1, v2] := by cases args; simp_all
  obtain ⟨rfl, rfl⟩ := trodVars_none hV
  simp only [List.append_nil] at hk
  have hb : Rows.uptoBulkAll ([d0, d1, d2] : List (DataW H)) ≤ 1048576 := of_decide_eq_true hk
  simp only [Rows.uptoBulkAll] at hb
  obtain ⟨a0, rfl, rfl, rfl, w0⟩ := open_int Try.underlying3 (hval 0 3 v0 rfl rfl) h0
  obtain ⟨a1, len1, cap1, rfl⟩ := okWide_slice Try.underlying22 (hval 1 22 v1 rfl rfl)
  have k1 := h1
  have lt1 : ∀ x ∈ p1, x.block < W.heap.size := by obtain ⟨m, hm⟩ := k1; exact DataW.trod_lt m _ _ _ hm
  obtain ⟨l1, w1, b1⟩ : ∃ l, NArg W a1 len1 cap1 l ∧ cap1 ≤ Rows.uptoBulk d1 := by
    obtain ⟨fuel, hf⟩ := h1
    obtain ⟨l, hl, hd⟩ := narg_open hf
    refine ⟨l, hl, ?_⟩
    rcases hd with h | ⟨elems, spare, rfl, hc⟩
    · omega
    · have q1 := bulk_len elems
      have q2 := bulk_len spare
      simp only [Rows.uptoBulk]
      omega
  obtain ⟨a2, len2, cap2, rfl⟩ := okWide_slice Try.underlying23 (hval 2 23 v2 rfl rfl)
  have k2 := h2
  have lt2 : ∀ x ∈ p2, x.block < W.heap.size := by obtain ⟨m, hm⟩ := k2; exact DataW.trod_lt m _ _ _ hm
  obtain ⟨l2, w2, b2⟩ : ∃ l, OpArg W a2 len2 cap2 l ∧ cap2 ≤ Rows.uptoBulk d2 := by
    obtain ⟨fuel, hf⟩ := h2
    obtain ⟨l, hl, hd⟩ := oparg_open hf
    refine ⟨l, hl, ?_⟩
    rcases hd with h | ⟨elems, spare, rfl, hc⟩
    · omega
    · have q1 := bulk_len elems
      have q2 := bulk_len spare
      simp only [Rows.uptoBulk]
      omega
  clear hA0
  refine (walk a0 a1 len1 cap1 l1 a2 len2 cap2 l2 W w0 w1 w2 (by have := w1.le; omega) (by have := w2.le; omega)).mono fun e W' ⟨he, bel⟩ => ?_
  subst he
  exact ⟨_, rfl, _, _, _, [], _, [], hW', trodAll_mk1 (shut_bool Try.underlying4 _), (trodAll_cons_mk (shut_int Try.underlying3 w0) (trodAll_cons_mk (Below.trod laidOut (by kernel_rfl) (of_decide_eq_true (by kernel_rfl)) k1 bel lt1) (trodAll_cons_mk (Below.trod laidOut (by kernel_rfl) (of_decide_eq_true (by kernel_rfl)) k2 bel lt2) trodAll_mk0))), rfl, bel.frame _, fun h => by cases h⟩

set_option maxRecDepth 100000 in
theorem lifted (os : Os) (started : os.Started) (H : Type) (enc : TypeId × Value → H) (F : Stop.Interp) :
    ReturnsInHanded {} Try.checked os 3 .any ((Rows.OpenSpec.upto Rows.btreePlaysSpec).pre6 enc Try.prog Try.f3 Rows.btreePlaysUptoRow.domain false) (((Rows.OpenSpec.upto Rows.btreePlaysSpec).at F).post enc Try.prog Try.f3 false true false false) := by
  refine returnsInHanded_of_cond (C := Try.checked) (s := Rows.OpenSpec.upto Rows.btreePlaysSpec) (k := Rows.uptoSmall) rfl own started (by kernel_rfl) Try.func3
    (OpenSpec.witness (enc := enc) (C := Try.checked) (s := Rows.OpenSpec.upto Rows.btreePlaysSpec) (k := Rows.uptoSmall) rfl false ⟨#[], #[.int .i64 0, .slice none 0 0, .slice none 0 0], []⟩ 8 (by kernel_rfl) (by kernel_rfl) (by kernel_rfl)
      (x := ([.lit (.int .i64 0), .nil, .nil], [], [])) (by kernel_rfl) rfl (by kernel_rfl)) ?_
  intro W base args ds gs before hval hW _ hk _
  exact contract H enc W base args ds gs before hval hW hk

theorem over : Rows.BtreePlaysUptoSaid :=
  OpenClaim.holds_of_cond 3 Try.f3 rfl rfl rfl rfl rfl rfl rfl ⟨rfl, rfl, rfl, rfl, rfl⟩ rfl rfl rfl rfl rfl (by kernel_rfl) Try.func3 (by kernel_rfl)
    (of_decide_eq_true (by kernel_rfl)) (by unfold Func.isWrapper; first | (rw [if_pos (by decide +kernel)]; kernel_rfl) | (rw [if_neg (by decide +kernel)]; exact ⟨rfl, rfl⟩))
    (fun os started H enc _ F => lifted os started H enc F)
end Go.Proofs.Ytlfgeanafidopaa.btreePlays

namespace Go.Proofs.Ytlfgeanafidopaa
theorem btreePlaysUpto_holds : Rows.BtreePlaysUptoSaid := btreePlays.over
#print axioms btreePlaysUpto_holds
end Go.Proofs.Ytlfgeanafidopaa
