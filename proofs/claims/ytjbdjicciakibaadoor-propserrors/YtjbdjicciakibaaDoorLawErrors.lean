/-
  For all numbers, scripts and operations: PropsErrors answers true (a call with an error changes nothing), and leaves its arguments as they were; given that the five variables of the library that it reaches hold what their initialisers lay (the card ties them).
-/
import Derived.Test.YtjbdjicciakibaaDoorBMade
namespace Go.Proofs.YtjbdjicciakibaaDoor.propsErrors
open Go.ChangeShapes Go.WideShapes Go.ChangeAt Go.RowKit
set_option maxRecDepth 10000

theorem take_err {l : List PB} {leb n : Int} (h : (takeF l leb n).1 ≠ 0) : (takeF l leb n).2 = l := by
  unfold takeF at h ⊢
  repeat (first | rfl | split)
  all_goals simp_all
theorem use_err {size : Int} {l : List PB} {leb n : Int} (h : (useF size l leb n).1 ≠ 0) : (useF size l leb n).2 = l := by
  unfold useF at h ⊢
  repeat (first | rfl | split)
  all_goals simp_all
theorem kill_err {l : List PB} {leb n : Int} (h : (killF l leb n).1 ≠ 0) : (killF l leb n).2 = l := by
  unfold killF at h ⊢
  repeat (first | rfl | split)
  all_goals simp_all
theorem close_err {l : List PB} {leb : Int} (h : (closeF l leb).1 ≠ 0) : (closeF l leb).2 = l := by
  unfold closeF at h ⊢
  repeat (first | rfl | split)
  all_goals simp_all
theorem free_err {l : List PB} {leb : Int} (h : (freeF l leb).1 ≠ 0) : (freeF l leb).2 = l := by
  unfold freeF at h ⊢
  repeat (first | rfl | split)
  all_goals simp_all
set_option maxHeartbeats 4000000 in
theorem walk_no (n size : Int) (h : ¬ newOk n size) (a : Option Addr) (m cap : Nat) (o : BOp) (w : World) (hg : Gl w) :
    Calls Tryd.prog 3 #[.int .i64 n, .int .i64 size, .slice a m cap, .agg #[.int .i64 o.kind, .int .i64 o.leb, .int .i64 o.n]] w fun e w' => e = .returned (.bool true) ∧ Below w.heap.size w w' := by
  have hb := below_new w (.cells #[.int .i64 o.kind, .int .i64 o.leb, .int .i64 o.n] 24)
  have kM := made_no n size h a m cap (w.alloc (.cells #[.int .i64 o.kind, .int .i64 o.leb, .int .i64 o.n] 24))
  have HB := hidW hb
  have HG := hidW hg
  clear h hb hg
  go_enter Tryd.func3, Tryd.ntmps3
  go_wp2_with (first
    | (go_at_call 6; refine kM.mono ?_; rintro e w1 ⟨rfl, hb1⟩; have HB1 := hidW (Below.after HB.out hb1); clear hb1)
    | (go_at_call 7; refine (alive_any _ (HG.out.later HB1.out)).mono ?_; rintro e w2 ⟨rfl, hb2⟩; have HB2 := hidW (Below.after HB1.out hb2); clear hb2))
  go_ret
  exact ⟨rfl, HB2.out⟩
set_option maxHeartbeats 8000000 in
theorem walk_1 (n : Nat) (size : Int) (h : newOk n size) (a : Option Addr) (m cap : Nat) (os : List BOp) (leb nn : Int) (w : World) (hA : OArg w a m cap os) (hg : Gl w) :
    Calls Tryd.prog 3 #[.int .i64 (n : Nat), .int .i64 size, .slice a m cap, .agg #[.int .i64 1, .int .i64 leb, .int .i64 nn]] w fun e w' => e = .returned (.bool true) ∧ Below w.heap.size w w' := by
  obtain ⟨X, hX⟩ : ∃ X, X = w.alloc (.cells #[.int .i64 1, .int .i64 leb, .int .i64 nn] 24) := ⟨_, rfl⟩
  have hb : Below w.heap.size w X := by rw [hX]; exact below_new _ _
  have hr : Row X w.heap.size [.int .i64 1, .int .i64 leb, .int .i64 nn] 24 := by rw [hX]; exact Row.new _ _ _
  have kM := made_go n size h a m cap os X ⟨hA.len_eq, hA.le, hA.max, orow_later hA.row hb, hA.nil⟩
  obtain ⟨l, hl⟩ : ∃ l, l = madeF size n os := ⟨_, rfl⟩
  rw [← hl] at kM
  obtain ⟨T, hT⟩ : ∃ T, T = textF size l := ⟨_, rfl⟩
  have kT := hidW (fun (W : World) (p q cap : Nat) (hW : BLies W p q cap size l) (hO : BkOk size l) (hp : Pows W) => text_any (w := W) ⟨hW, hp⟩ hO.ok (by have := hO.s1; omega) hO.s2 hO.n2)
  rw [← hT] at kT
  have HB := hidW hb
  have HR := hidW hr
  have HG := hidW (hg.later hb)
  obtain ⟨R, hR⟩ : ∃ R, R = takeF l leb nn := ⟨_, rfl⟩
  have kO := hidW (fun (W : World) (p q cap : Nat) (hW : BLies W p q cap size l) (hO : BkOk size l) => (take_go hW leb nn : Calls _ _ _ W _))
  rw [← hR] at kO
  have hE : R.1 ≠ 0 → R.2 = l := by rw [hR]; exact take_err
  have hq : ((bs T).toList == (bs T).toList) = true := by rw [bs_eq]; simp
  clear h hA hg hb hr hl hT hR
  by_cases h0 : R.1 = 0
  · have e0 : (R.1 == 0) = true := by simpa using h0
    have HO2 := hidW (show ∀ W W' p q cap, Left W W' p q cap size R.2 → Below X.heap.size X W → X.heap.size ≤ q → Below X.heap.size X W' from fun W W' p q cap hl hb hq => hb.trans (hl.2.below hb.size (fun k e => by subst e; exact hq)))
    clear hE h0
    go_enter Tryd.func3, Tryd.ntmps3
    go_wp2_with fail
    rw [← hX]
    clear hX
    refine kM.mono ?_
    rintro e w1 ⟨rfl, hm1⟩
    have HM1 := hidW hm1
    clear hm1
    go_wp2_with (first
      | (go_at_call 8; refine (kT.out _ _ _ _ HM1.out.bk HM1.out.ok (HG.out.later HM1.out.bel).pw).mono ?_; rintro e w2 ⟨rfl, hb2⟩; have HM2 := hidW (HM1.out.later hb2); have r2 := (HR.out.later HM1.out.bel).later hb2; have c0 : w2.cell? ⟨w.heap.size, 0, none⟩ = some (.int .i64 1) := r2.cell (i := 0) rfl; have c1 : w2.cell? ⟨w.heap.size, 1, none⟩ = some (.int .i64 leb) := r2.cell (i := 1) rfl; have c2 : w2.cell? ⟨w.heap.size, 2, none⟩ = some (.int .i64 nn) := r2.cell (i := 2) rfl; clear hb2 r2 HM1)
      | (go_at_call 9; refine (kO.out _ _ _ _ HM2.out.bk HM2.out.ok).mono ?_; rintro e w3 ⟨rfl, hl3⟩; have HB3 := hidW (HO2.out _ _ _ _ _ hl3 HM2.out.bel HM2.out.hq); clear hl3 c0 c1 c2)
      | (go_at_call 7; refine (alive_any _ (HG.out.later HB3.out)).mono ?_; rintro e w4 ⟨rfl, hb4⟩; have HB4 := hidW (Below.after HB.out (Below.after HB3.out hb4)); clear hb4))
    go_ret
    exact ⟨rfl, HB4.out⟩
  · have e0 : (R.1 == 0) = false := by simpa using h0
    have hRl := hE h0
    rw [hRl] at kO
    clear hE h0 hRl
    go_enter Tryd.func3, Tryd.ntmps3
    go_wp2_with fail
    rw [← hX]
    clear hX
    refine kM.mono ?_
    rintro e w1 ⟨rfl, hm1⟩
    have HM1 := hidW hm1
    clear hm1
    go_wp2_with (first
      | (go_at_call 8; refine (kT.out _ _ _ _ HM1.out.bk HM1.out.ok (HG.out.later HM1.out.bel).pw).mono ?_; rintro e w2 ⟨rfl, hb2⟩; have HM2 := hidW (HM1.out.later hb2); have r2 := (HR.out.later HM1.out.bel).later hb2; have c0 : w2.cell? ⟨w.heap.size, 0, none⟩ = some (.int .i64 1) := r2.cell (i := 0) rfl; have c1 : w2.cell? ⟨w.heap.size, 1, none⟩ = some (.int .i64 leb) := r2.cell (i := 1) rfl; have c2 : w2.cell? ⟨w.heap.size, 2, none⟩ = some (.int .i64 nn) := r2.cell (i := 2) rfl; clear hb2 r2 HM1)
      | (go_at_call 9; refine (kO.out _ _ _ _ HM2.out.bk HM2.out.ok).mono ?_; rintro e w3 ⟨rfl, hl3⟩; have HM3 := hidW (HM2.out.left hl3 HM2.out.ok); clear hl3 c0 c1 c2)
      | (go_at_call 8; refine (kT.out _ _ _ _ HM3.out.bk HM3.out.ok (HG.out.later HM3.out.bel).pw).mono ?_; rintro e w4 ⟨rfl, hb4⟩; have HM4 := hidW (HM3.out.later hb4); clear hb4 HM3)
      | (go_at_call 7; refine (alive_any _ (HG.out.later HM4.out.bel)).mono ?_; rintro e w5 ⟨rfl, hb5⟩; have HB5 := hidW (Below.after HB.out (Below.after HM4.out.bel hb5)); clear hb5))
    go_ret
    exact ⟨rfl, HB5.out⟩
set_option maxHeartbeats 8000000 in
theorem walk_2 (n : Nat) (size : Int) (h : newOk n size) (a : Option Addr) (m cap : Nat) (os : List BOp) (leb nn : Int) (w : World) (hA : OArg w a m cap os) (hg : Gl w) :
    Calls Tryd.prog 3 #[.int .i64 (n : Nat), .int .i64 size, .slice a m cap, .agg #[.int .i64 2, .int .i64 leb, .int .i64 nn]] w fun e w' => e = .returned (.bool true) ∧ Below w.heap.size w w' := by
  obtain ⟨X, hX⟩ : ∃ X, X = w.alloc (.cells #[.int .i64 2, .int .i64 leb, .int .i64 nn] 24) := ⟨_, rfl⟩
  have hb : Below w.heap.size w X := by rw [hX]; exact below_new _ _
  have hr : Row X w.heap.size [.int .i64 2, .int .i64 leb, .int .i64 nn] 24 := by rw [hX]; exact Row.new _ _ _
  have kM := made_go n size h a m cap os X ⟨hA.len_eq, hA.le, hA.max, orow_later hA.row hb, hA.nil⟩
  obtain ⟨l, hl⟩ : ∃ l, l = madeF size n os := ⟨_, rfl⟩
  rw [← hl] at kM
  obtain ⟨T, hT⟩ : ∃ T, T = textF size l := ⟨_, rfl⟩
  have kT := hidW (fun (W : World) (p q cap : Nat) (hW : BLies W p q cap size l) (hO : BkOk size l) (hp : Pows W) => text_any (w := W) ⟨hW, hp⟩ hO.ok (by have := hO.s1; omega) hO.s2 hO.n2)
  rw [← hT] at kT
  have HB := hidW hb
  have HR := hidW hr
  have HG := hidW (hg.later hb)
  obtain ⟨R, hR⟩ : ∃ R, R = useF size l leb nn := ⟨_, rfl⟩
  have kO := hidW (fun (W : World) (p q cap : Nat) (hW : BLies W p q cap size l) (hO : BkOk size l) => (use_go hW hO.ok hO.s2 leb nn : Calls _ _ _ W _))
  rw [← hR] at kO
  have hE : R.1 ≠ 0 → R.2 = l := by rw [hR]; exact use_err
  have hq : ((bs T).toList == (bs T).toList) = true := by rw [bs_eq]; simp
  clear h hA hg hb hr hl hT hR
  by_cases h0 : R.1 = 0
  · have e0 : (R.1 == 0) = true := by simpa using h0
    have HO2 := hidW (show ∀ W W' p q cap, Left W W' p q cap size R.2 → Below X.heap.size X W → X.heap.size ≤ q → Below X.heap.size X W' from fun W W' p q cap hl hb hq => hb.trans (hl.2.below hb.size (fun k e => by subst e; exact hq)))
    clear hE h0
    go_enter Tryd.func3, Tryd.ntmps3
    go_wp2_with fail
    rw [← hX]
    clear hX
    refine kM.mono ?_
    rintro e w1 ⟨rfl, hm1⟩
    have HM1 := hidW hm1
    clear hm1
    go_wp2_with (first
      | (go_at_call 8; refine (kT.out _ _ _ _ HM1.out.bk HM1.out.ok (HG.out.later HM1.out.bel).pw).mono ?_; rintro e w2 ⟨rfl, hb2⟩; have HM2 := hidW (HM1.out.later hb2); have r2 := (HR.out.later HM1.out.bel).later hb2; have c0 : w2.cell? ⟨w.heap.size, 0, none⟩ = some (.int .i64 2) := r2.cell (i := 0) rfl; have c1 : w2.cell? ⟨w.heap.size, 1, none⟩ = some (.int .i64 leb) := r2.cell (i := 1) rfl; have c2 : w2.cell? ⟨w.heap.size, 2, none⟩ = some (.int .i64 nn) := r2.cell (i := 2) rfl; clear hb2 r2 HM1)
      | (go_at_call 10; refine (kO.out _ _ _ _ HM2.out.bk HM2.out.ok).mono ?_; rintro e w3 ⟨rfl, hl3⟩; have HB3 := hidW (HO2.out _ _ _ _ _ hl3 HM2.out.bel HM2.out.hq); clear hl3 c0 c1 c2)
      | (go_at_call 7; refine (alive_any _ (HG.out.later HB3.out)).mono ?_; rintro e w4 ⟨rfl, hb4⟩; have HB4 := hidW (Below.after HB.out (Below.after HB3.out hb4)); clear hb4))
    go_ret
    exact ⟨rfl, HB4.out⟩
  · have e0 : (R.1 == 0) = false := by simpa using h0
    have hRl := hE h0
    rw [hRl] at kO
    clear hE h0 hRl
    go_enter Tryd.func3, Tryd.ntmps3
    go_wp2_with fail
    rw [← hX]
    clear hX
    refine kM.mono ?_
    rintro e w1 ⟨rfl, hm1⟩
    have HM1 := hidW hm1
    clear hm1
    go_wp2_with (first
      | (go_at_call 8; refine (kT.out _ _ _ _ HM1.out.bk HM1.out.ok (HG.out.later HM1.out.bel).pw).mono ?_; rintro e w2 ⟨rfl, hb2⟩; have HM2 := hidW (HM1.out.later hb2); have r2 := (HR.out.later HM1.out.bel).later hb2; have c0 : w2.cell? ⟨w.heap.size, 0, none⟩ = some (.int .i64 2) := r2.cell (i := 0) rfl; have c1 : w2.cell? ⟨w.heap.size, 1, none⟩ = some (.int .i64 leb) := r2.cell (i := 1) rfl; have c2 : w2.cell? ⟨w.heap.size, 2, none⟩ = some (.int .i64 nn) := r2.cell (i := 2) rfl; clear hb2 r2 HM1)
      | (go_at_call 10; refine (kO.out _ _ _ _ HM2.out.bk HM2.out.ok).mono ?_; rintro e w3 ⟨rfl, hl3⟩; have HM3 := hidW (HM2.out.left hl3 HM2.out.ok); clear hl3 c0 c1 c2)
      | (go_at_call 8; refine (kT.out _ _ _ _ HM3.out.bk HM3.out.ok (HG.out.later HM3.out.bel).pw).mono ?_; rintro e w4 ⟨rfl, hb4⟩; have HM4 := hidW (HM3.out.later hb4); clear hb4 HM3)
      | (go_at_call 7; refine (alive_any _ (HG.out.later HM4.out.bel)).mono ?_; rintro e w5 ⟨rfl, hb5⟩; have HB5 := hidW (Below.after HB.out (Below.after HM4.out.bel hb5)); clear hb5))
    go_ret
    exact ⟨rfl, HB5.out⟩
set_option maxHeartbeats 8000000 in
theorem walk_3 (n : Nat) (size : Int) (h : newOk n size) (a : Option Addr) (m cap : Nat) (os : List BOp) (leb nn : Int) (w : World) (hA : OArg w a m cap os) (hg : Gl w) :
    Calls Tryd.prog 3 #[.int .i64 (n : Nat), .int .i64 size, .slice a m cap, .agg #[.int .i64 3, .int .i64 leb, .int .i64 nn]] w fun e w' => e = .returned (.bool true) ∧ Below w.heap.size w w' := by
  obtain ⟨X, hX⟩ : ∃ X, X = w.alloc (.cells #[.int .i64 3, .int .i64 leb, .int .i64 nn] 24) := ⟨_, rfl⟩
  have hb : Below w.heap.size w X := by rw [hX]; exact below_new _ _
  have hr : Row X w.heap.size [.int .i64 3, .int .i64 leb, .int .i64 nn] 24 := by rw [hX]; exact Row.new _ _ _
  have kM := made_go n size h a m cap os X ⟨hA.len_eq, hA.le, hA.max, orow_later hA.row hb, hA.nil⟩
  obtain ⟨l, hl⟩ : ∃ l, l = madeF size n os := ⟨_, rfl⟩
  rw [← hl] at kM
  obtain ⟨T, hT⟩ : ∃ T, T = textF size l := ⟨_, rfl⟩
  have kT := hidW (fun (W : World) (p q cap : Nat) (hW : BLies W p q cap size l) (hO : BkOk size l) (hp : Pows W) => text_any (w := W) ⟨hW, hp⟩ hO.ok (by have := hO.s1; omega) hO.s2 hO.n2)
  rw [← hT] at kT
  have HB := hidW hb
  have HR := hidW hr
  have HG := hidW (hg.later hb)
  obtain ⟨R, hR⟩ : ∃ R, R = killF l leb nn := ⟨_, rfl⟩
  have kO := hidW (fun (W : World) (p q cap : Nat) (hW : BLies W p q cap size l) (hO : BkOk size l) => (kill_go hW hO.ok hO.s2 leb nn : Calls _ _ _ W _))
  rw [← hR] at kO
  have hE : R.1 ≠ 0 → R.2 = l := by rw [hR]; exact kill_err
  have hq : ((bs T).toList == (bs T).toList) = true := by rw [bs_eq]; simp
  clear h hA hg hb hr hl hT hR
  by_cases h0 : R.1 = 0
  · have e0 : (R.1 == 0) = true := by simpa using h0
    have HO2 := hidW (show ∀ W W' p q cap, Left W W' p q cap size R.2 → Below X.heap.size X W → X.heap.size ≤ q → Below X.heap.size X W' from fun W W' p q cap hl hb hq => hb.trans (hl.2.below hb.size (fun k e => by subst e; exact hq)))
    clear hE h0
    go_enter Tryd.func3, Tryd.ntmps3
    go_wp2_with fail
    rw [← hX]
    clear hX
    refine kM.mono ?_
    rintro e w1 ⟨rfl, hm1⟩
    have HM1 := hidW hm1
    clear hm1
    go_wp2_with (first
      | (go_at_call 8; refine (kT.out _ _ _ _ HM1.out.bk HM1.out.ok (HG.out.later HM1.out.bel).pw).mono ?_; rintro e w2 ⟨rfl, hb2⟩; have HM2 := hidW (HM1.out.later hb2); have r2 := (HR.out.later HM1.out.bel).later hb2; have c0 : w2.cell? ⟨w.heap.size, 0, none⟩ = some (.int .i64 3) := r2.cell (i := 0) rfl; have c1 : w2.cell? ⟨w.heap.size, 1, none⟩ = some (.int .i64 leb) := r2.cell (i := 1) rfl; have c2 : w2.cell? ⟨w.heap.size, 2, none⟩ = some (.int .i64 nn) := r2.cell (i := 2) rfl; clear hb2 r2 HM1)
      | (go_at_call 11; refine (kO.out _ _ _ _ HM2.out.bk HM2.out.ok).mono ?_; rintro e w3 ⟨rfl, hl3⟩; have HB3 := hidW (HO2.out _ _ _ _ _ hl3 HM2.out.bel HM2.out.hq); clear hl3 c0 c1 c2)
      | (go_at_call 7; refine (alive_any _ (HG.out.later HB3.out)).mono ?_; rintro e w4 ⟨rfl, hb4⟩; have HB4 := hidW (Below.after HB.out (Below.after HB3.out hb4)); clear hb4))
    go_ret
    exact ⟨rfl, HB4.out⟩
  · have e0 : (R.1 == 0) = false := by simpa using h0
    have hRl := hE h0
    rw [hRl] at kO
    clear hE h0 hRl
    go_enter Tryd.func3, Tryd.ntmps3
    go_wp2_with fail
    rw [← hX]
    clear hX
    refine kM.mono ?_
    rintro e w1 ⟨rfl, hm1⟩
    have HM1 := hidW hm1
    clear hm1
    go_wp2_with (first
      | (go_at_call 8; refine (kT.out _ _ _ _ HM1.out.bk HM1.out.ok (HG.out.later HM1.out.bel).pw).mono ?_; rintro e w2 ⟨rfl, hb2⟩; have HM2 := hidW (HM1.out.later hb2); have r2 := (HR.out.later HM1.out.bel).later hb2; have c0 : w2.cell? ⟨w.heap.size, 0, none⟩ = some (.int .i64 3) := r2.cell (i := 0) rfl; have c1 : w2.cell? ⟨w.heap.size, 1, none⟩ = some (.int .i64 leb) := r2.cell (i := 1) rfl; have c2 : w2.cell? ⟨w.heap.size, 2, none⟩ = some (.int .i64 nn) := r2.cell (i := 2) rfl; clear hb2 r2 HM1)
      | (go_at_call 11; refine (kO.out _ _ _ _ HM2.out.bk HM2.out.ok).mono ?_; rintro e w3 ⟨rfl, hl3⟩; have HM3 := hidW (HM2.out.left hl3 HM2.out.ok); clear hl3 c0 c1 c2)
      | (go_at_call 8; refine (kT.out _ _ _ _ HM3.out.bk HM3.out.ok (HG.out.later HM3.out.bel).pw).mono ?_; rintro e w4 ⟨rfl, hb4⟩; have HM4 := hidW (HM3.out.later hb4); clear hb4 HM3)
      | (go_at_call 7; refine (alive_any _ (HG.out.later HM4.out.bel)).mono ?_; rintro e w5 ⟨rfl, hb5⟩; have HB5 := hidW (Below.after HB.out (Below.after HM4.out.bel hb5)); clear hb5))
    go_ret
    exact ⟨rfl, HB5.out⟩
set_option maxHeartbeats 8000000 in
theorem walk_4 (n : Nat) (size : Int) (h : newOk n size) (a : Option Addr) (m cap : Nat) (os : List BOp) (leb nn : Int) (w : World) (hA : OArg w a m cap os) (hg : Gl w) :
    Calls Tryd.prog 3 #[.int .i64 (n : Nat), .int .i64 size, .slice a m cap, .agg #[.int .i64 4, .int .i64 leb, .int .i64 nn]] w fun e w' => e = .returned (.bool true) ∧ Below w.heap.size w w' := by
  obtain ⟨X, hX⟩ : ∃ X, X = w.alloc (.cells #[.int .i64 4, .int .i64 leb, .int .i64 nn] 24) := ⟨_, rfl⟩
  have hb : Below w.heap.size w X := by rw [hX]; exact below_new _ _
  have hr : Row X w.heap.size [.int .i64 4, .int .i64 leb, .int .i64 nn] 24 := by rw [hX]; exact Row.new _ _ _
  have kM := made_go n size h a m cap os X ⟨hA.len_eq, hA.le, hA.max, orow_later hA.row hb, hA.nil⟩
  obtain ⟨l, hl⟩ : ∃ l, l = madeF size n os := ⟨_, rfl⟩
  rw [← hl] at kM
  obtain ⟨T, hT⟩ : ∃ T, T = textF size l := ⟨_, rfl⟩
  have kT := hidW (fun (W : World) (p q cap : Nat) (hW : BLies W p q cap size l) (hO : BkOk size l) (hp : Pows W) => text_any (w := W) ⟨hW, hp⟩ hO.ok (by have := hO.s1; omega) hO.s2 hO.n2)
  rw [← hT] at kT
  have HB := hidW hb
  have HR := hidW hr
  have HG := hidW (hg.later hb)
  obtain ⟨R, hR⟩ : ∃ R, R = closeF l leb := ⟨_, rfl⟩
  have kO := hidW (fun (W : World) (p q cap : Nat) (hW : BLies W p q cap size l) (hO : BkOk size l) => (close_go hW leb : Calls _ _ _ W _))
  rw [← hR] at kO
  have hE : R.1 ≠ 0 → R.2 = l := by rw [hR]; exact close_err
  have hq : ((bs T).toList == (bs T).toList) = true := by rw [bs_eq]; simp
  clear h hA hg hb hr hl hT hR
  by_cases h0 : R.1 = 0
  · have e0 : (R.1 == 0) = true := by simpa using h0
    have HO2 := hidW (show ∀ W W' p q cap, Left W W' p q cap size R.2 → Below X.heap.size X W → X.heap.size ≤ q → Below X.heap.size X W' from fun W W' p q cap hl hb hq => hb.trans (hl.2.below hb.size (fun k e => by subst e; exact hq)))
    clear hE h0
    go_enter Tryd.func3, Tryd.ntmps3
    go_wp2_with fail
    rw [← hX]
    clear hX
    refine kM.mono ?_
    rintro e w1 ⟨rfl, hm1⟩
    have HM1 := hidW hm1
    clear hm1
    go_wp2_with (first
      | (go_at_call 8; refine (kT.out _ _ _ _ HM1.out.bk HM1.out.ok (HG.out.later HM1.out.bel).pw).mono ?_; rintro e w2 ⟨rfl, hb2⟩; have HM2 := hidW (HM1.out.later hb2); have r2 := (HR.out.later HM1.out.bel).later hb2; have c0 : w2.cell? ⟨w.heap.size, 0, none⟩ = some (.int .i64 4) := r2.cell (i := 0) rfl; have c1 : w2.cell? ⟨w.heap.size, 1, none⟩ = some (.int .i64 leb) := r2.cell (i := 1) rfl; have c2 : w2.cell? ⟨w.heap.size, 2, none⟩ = some (.int .i64 nn) := r2.cell (i := 2) rfl; clear hb2 r2 HM1)
      | (go_at_call 12; refine (kO.out _ _ _ _ HM2.out.bk HM2.out.ok).mono ?_; rintro e w3 ⟨rfl, hl3⟩; have HB3 := hidW (HO2.out _ _ _ _ _ hl3 HM2.out.bel HM2.out.hq); clear hl3 c0 c1 c2)
      | (go_at_call 7; refine (alive_any _ (HG.out.later HB3.out)).mono ?_; rintro e w4 ⟨rfl, hb4⟩; have HB4 := hidW (Below.after HB.out (Below.after HB3.out hb4)); clear hb4))
    go_ret
    exact ⟨rfl, HB4.out⟩
  · have e0 : (R.1 == 0) = false := by simpa using h0
    have hRl := hE h0
    rw [hRl] at kO
    clear hE h0 hRl
    go_enter Tryd.func3, Tryd.ntmps3
    go_wp2_with fail
    rw [← hX]
    clear hX
    refine kM.mono ?_
    rintro e w1 ⟨rfl, hm1⟩
    have HM1 := hidW hm1
    clear hm1
    go_wp2_with (first
      | (go_at_call 8; refine (kT.out _ _ _ _ HM1.out.bk HM1.out.ok (HG.out.later HM1.out.bel).pw).mono ?_; rintro e w2 ⟨rfl, hb2⟩; have HM2 := hidW (HM1.out.later hb2); have r2 := (HR.out.later HM1.out.bel).later hb2; have c0 : w2.cell? ⟨w.heap.size, 0, none⟩ = some (.int .i64 4) := r2.cell (i := 0) rfl; have c1 : w2.cell? ⟨w.heap.size, 1, none⟩ = some (.int .i64 leb) := r2.cell (i := 1) rfl; have c2 : w2.cell? ⟨w.heap.size, 2, none⟩ = some (.int .i64 nn) := r2.cell (i := 2) rfl; clear hb2 r2 HM1)
      | (go_at_call 12; refine (kO.out _ _ _ _ HM2.out.bk HM2.out.ok).mono ?_; rintro e w3 ⟨rfl, hl3⟩; have HM3 := hidW (HM2.out.left hl3 HM2.out.ok); clear hl3 c0 c1 c2)
      | (go_at_call 8; refine (kT.out _ _ _ _ HM3.out.bk HM3.out.ok (HG.out.later HM3.out.bel).pw).mono ?_; rintro e w4 ⟨rfl, hb4⟩; have HM4 := hidW (HM3.out.later hb4); clear hb4 HM3)
      | (go_at_call 7; refine (alive_any _ (HG.out.later HM4.out.bel)).mono ?_; rintro e w5 ⟨rfl, hb5⟩; have HB5 := hidW (Below.after HB.out (Below.after HM4.out.bel hb5)); clear hb5))
    go_ret
    exact ⟨rfl, HB5.out⟩
set_option maxHeartbeats 8000000 in
theorem walk_5 (n : Nat) (size : Int) (h : newOk n size) (a : Option Addr) (m cap : Nat) (os : List BOp) (k leb nn : Int) (h1 : ¬ k = 1) (h2 : ¬ k = 2) (h3 : ¬ k = 3) (h4 : ¬ k = 4) (w : World) (hA : OArg w a m cap os) (hg : Gl w) :
    Calls Tryd.prog 3 #[.int .i64 (n : Nat), .int .i64 size, .slice a m cap, .agg #[.int .i64 k, .int .i64 leb, .int .i64 nn]] w fun e w' => e = .returned (.bool true) ∧ Below w.heap.size w w' := by
  obtain ⟨X, hX⟩ : ∃ X, X = w.alloc (.cells #[.int .i64 k, .int .i64 leb, .int .i64 nn] 24) := ⟨_, rfl⟩
  have hb : Below w.heap.size w X := by rw [hX]; exact below_new _ _
  have hr : Row X w.heap.size [.int .i64 k, .int .i64 leb, .int .i64 nn] 24 := by rw [hX]; exact Row.new _ _ _
  have kM := made_go n size h a m cap os X ⟨hA.len_eq, hA.le, hA.max, orow_later hA.row hb, hA.nil⟩
  obtain ⟨l, hl⟩ : ∃ l, l = madeF size n os := ⟨_, rfl⟩
  rw [← hl] at kM
  obtain ⟨T, hT⟩ : ∃ T, T = textF size l := ⟨_, rfl⟩
  have kT := hidW (fun (W : World) (p q cap : Nat) (hW : BLies W p q cap size l) (hO : BkOk size l) (hp : Pows W) => text_any (w := W) ⟨hW, hp⟩ hO.ok (by have := hO.s1; omega) hO.s2 hO.n2)
  rw [← hT] at kT
  have HB := hidW hb
  have HR := hidW hr
  have HG := hidW (hg.later hb)
  obtain ⟨R, hR⟩ : ∃ R, R = freeF l leb := ⟨_, rfl⟩
  have kO := hidW (fun (W : World) (p q cap : Nat) (hW : BLies W p q cap size l) (hO : BkOk size l) => (free_go hW leb : Calls _ _ _ W _))
  rw [← hR] at kO
  have hE : R.1 ≠ 0 → R.2 = l := by rw [hR]; exact free_err
  have hq : ((bs T).toList == (bs T).toList) = true := by rw [bs_eq]; simp
  clear h hA hg hb hr hl hT hR
  by_cases h0 : R.1 = 0
  · have e0 : (R.1 == 0) = true := by simpa using h0
    have HO2 := hidW (show ∀ W W' p q cap, Left W W' p q cap size R.2 → Below X.heap.size X W → X.heap.size ≤ q → Below X.heap.size X W' from fun W W' p q cap hl hb hq => hb.trans (hl.2.below hb.size (fun k e => by subst e; exact hq)))
    clear hE h0
    go_enter Tryd.func3, Tryd.ntmps3
    go_wp2_with fail
    rw [← hX]
    clear hX
    refine kM.mono ?_
    rintro e w1 ⟨rfl, hm1⟩
    have HM1 := hidW hm1
    clear hm1
    go_wp2_with (first
      | (go_at_call 8; refine (kT.out _ _ _ _ HM1.out.bk HM1.out.ok (HG.out.later HM1.out.bel).pw).mono ?_; rintro e w2 ⟨rfl, hb2⟩; have HM2 := hidW (HM1.out.later hb2); have r2 := (HR.out.later HM1.out.bel).later hb2; have c0 : w2.cell? ⟨w.heap.size, 0, none⟩ = some (.int .i64 k) := r2.cell (i := 0) rfl; have c1 : w2.cell? ⟨w.heap.size, 1, none⟩ = some (.int .i64 leb) := r2.cell (i := 1) rfl; have c2 : w2.cell? ⟨w.heap.size, 2, none⟩ = some (.int .i64 nn) := r2.cell (i := 2) rfl; clear hb2 r2 HM1)
      | (go_at_call 13; refine (kO.out _ _ _ _ HM2.out.bk HM2.out.ok).mono ?_; rintro e w3 ⟨rfl, hl3⟩; have HB3 := hidW (HO2.out _ _ _ _ _ hl3 HM2.out.bel HM2.out.hq); clear hl3 c0 c1 c2)
      | (go_at_call 7; refine (alive_any _ (HG.out.later HB3.out)).mono ?_; rintro e w4 ⟨rfl, hb4⟩; have HB4 := hidW (Below.after HB.out (Below.after HB3.out hb4)); clear hb4))
    go_ret
    exact ⟨rfl, HB4.out⟩
  · have e0 : (R.1 == 0) = false := by simpa using h0
    have hRl := hE h0
    rw [hRl] at kO
    clear hE h0 hRl
    go_enter Tryd.func3, Tryd.ntmps3
    go_wp2_with fail
    rw [← hX]
    clear hX
    refine kM.mono ?_
    rintro e w1 ⟨rfl, hm1⟩
    have HM1 := hidW hm1
    clear hm1
    go_wp2_with (first
      | (go_at_call 8; refine (kT.out _ _ _ _ HM1.out.bk HM1.out.ok (HG.out.later HM1.out.bel).pw).mono ?_; rintro e w2 ⟨rfl, hb2⟩; have HM2 := hidW (HM1.out.later hb2); have r2 := (HR.out.later HM1.out.bel).later hb2; have c0 : w2.cell? ⟨w.heap.size, 0, none⟩ = some (.int .i64 k) := r2.cell (i := 0) rfl; have c1 : w2.cell? ⟨w.heap.size, 1, none⟩ = some (.int .i64 leb) := r2.cell (i := 1) rfl; have c2 : w2.cell? ⟨w.heap.size, 2, none⟩ = some (.int .i64 nn) := r2.cell (i := 2) rfl; clear hb2 r2 HM1)
      | (go_at_call 13; refine (kO.out _ _ _ _ HM2.out.bk HM2.out.ok).mono ?_; rintro e w3 ⟨rfl, hl3⟩; have HM3 := hidW (HM2.out.left hl3 HM2.out.ok); clear hl3 c0 c1 c2)
      | (go_at_call 8; refine (kT.out _ _ _ _ HM3.out.bk HM3.out.ok (HG.out.later HM3.out.bel).pw).mono ?_; rintro e w4 ⟨rfl, hb4⟩; have HM4 := hidW (HM3.out.later hb4); clear hb4 HM3)
      | (go_at_call 7; refine (alive_any _ (HG.out.later HM4.out.bel)).mono ?_; rintro e w5 ⟨rfl, hb5⟩; have HB5 := hidW (Below.after HB.out (Below.after HM4.out.bel hb5)); clear hb5))
    go_ret
    exact ⟨rfl, HB5.out⟩
theorem walk (n size : Int) (a : Option Addr) (m cap : Nat) (os : List BOp) (o : BOp) (w : World) (hg : Gl w) (hA : OArg w a m cap os) :
    Calls Tryd.prog 3 #[.int .i64 n, .int .i64 size, .slice a m cap, .agg #[.int .i64 o.kind, .int .i64 o.leb, .int .i64 o.n]] w fun e w' => e = .returned (.bool true) ∧ Below w.heap.size w w' := by
  by_cases h : newOk n size
  · obtain ⟨k, rfl⟩ : ∃ k : Nat, n = (k : Int) := ⟨n.toNat, by have := h.1; omega⟩
    by_cases h1 : o.kind = 1
    · rw [h1]; exact walk_1 k size h a m cap os _ _ w hA hg
    · by_cases h2 : o.kind = 2
      · rw [h2]; exact walk_2 k size h a m cap os _ _ w hA hg
      · by_cases h3 : o.kind = 3
        · rw [h3]; exact walk_3 k size h a m cap os _ _ w hA hg
        · by_cases h4 : o.kind = 4
          · rw [h4]; exact walk_4 k size h a m cap os _ _ w hA hg
          · exact walk_5 k size h a m cap os _ _ _ h1 h2 h3 h4 w hA hg
  · exact walk_no n size h a m cap o w hg
set_option maxHeartbeats 2000000 in
set_option maxRecDepth 100000 in
theorem contract (H : Type) (enc : TypeId × Value → H) (W : World) (base : Nat) (args : Array Value) (ds gs : List (DataW H)) (before : List MemPlace)
    (hval : ∀ (j : Nat) t v, Tryd.f3.params[j]? = some t → args[j]? = some v → Value.okWide Tryd.prog W .any base t v)
    (hW : DataW.Whole enc Tryd.prog Tryd.f3.params.toList Rows.propsErrorsSpec.vars false W args.toList ds gs before) (hL : laidMetH Tryd.prog laid W)
    : Calls Tryd.prog 3 args W fun e W' => ∃ v, e = .returned v ∧ Rows.propsErrorsSpec.post enc Tryd.prog Tryd.f3 false true false false W args v W' := by
  have hW' := hW
  obtain ⟨p, q, hA0, hV, rfl, hfz, hnd⟩ := hW
  have hA : DataW.TrodAll enc Tryd.prog W 0 (fun _ => true) true Tryd.f3.params.toList args.toList ds p := hA0
  rw [Tryd.params3] at hA hval
  obtain ⟨v0, vs0, d0, ds0, p0, q0, hargs, rfl, rfl, h0, r0⟩ := trodAll_cons hA
  obtain ⟨v1, vs1, d1, ds1, p1, q1, rfl, rfl, rfl, h1, r1⟩ := trodAll_cons r0
  obtain ⟨v2, vs2, d2, ds2, p2, q2, rfl, rfl, rfl, h2, r2⟩ := trodAll_cons r1
  obtain ⟨v3, vs3, d3, ds3, p3, q3, rfl, rfl, rfl, h3, r3⟩ := trodAll_cons r2
  obtain ⟨rfl, rfl, rfl⟩ := trodAll_nil r3
  obtain rfl : args = #[v0, v1, v2, v3] := by cases args; simp_all
  obtain ⟨rfl, rfl⟩ := trodVars_none hV
  obtain ⟨a0, rfl, rfl, rfl, w0⟩ := open_int Tryd.underlying3 (hval 0 3 v0 rfl rfl) h0
  obtain ⟨a1, rfl, rfl, rfl, w1⟩ := open_int Tryd.underlying3 (hval 1 3 v1 rfl rfl) h1
  obtain ⟨a2, len2, cap2, rfl⟩ := okWide_slice Tryd.underlying22 (hval 2 22 v2 rfl rfl)
  have k2 := h2
  have lt2 : ∀ x ∈ p2, x.block < W.heap.size := by obtain ⟨m, hm⟩ := k2; exact DataW.trod_lt m _ _ _ hm
  obtain ⟨l2, w2⟩ : ∃ l, OArg W a2 len2 cap2 l := by
    obtain ⟨fuel, hf⟩ := h2
    exact oarg_open hf
  obtain ⟨cs3, rfl, sz3⟩ := okWide_struct Tryd.underlying24 (hval 3 24 v3 rfl rfl)
  have k3 := h3
  have lt3 : ∀ x ∈ p3, x.block < W.heap.size := by obtain ⟨m, hm⟩ := k3; exact DataW.trod_lt m _ _ _ hm
  obtain ⟨o3, rfl⟩ : ∃ o : BOp, cs3 = #[.int .i64 o.kind, .int .i64 o.leb, .int .i64 o.n] := by
    obtain ⟨fuel, hf⟩ := h3
    exact op_open sz3 hf
  clear hA0
  refine (walk a0 a1 a2 len2 cap2 l2 o3 W (gl_of hL) w2).mono fun e W' ⟨he, bel⟩ => ?_
  subst he
  exact ⟨_, rfl, _, _, _, [], _, [], hW', trodAll_mk1 (shut_bool Tryd.underlying4 _), (trodAll_cons_mk (shut_int Tryd.underlying3 w0) (trodAll_cons_mk (shut_int Tryd.underlying3 w1) (trodAll_cons_mk (Below.trod laidOut (by kernel_rfl) (of_decide_eq_true (by kernel_rfl)) k2 bel lt2) (trodAll_cons_mk (Below.trod laidOut (by kernel_rfl) (of_decide_eq_true (by kernel_rfl)) k3 bel lt3) trodAll_mk0)))), rfl, bel.frame _, fun h => by cases h⟩

theorem reads (os : Os) {H : Type} (enc : TypeId × Value → H) : ∃ places, DataW.whole enc Tryd.prog ((laidWorld os).forCall (fun _ _ => 0) ⟨#[], #[.int .i64 0, .int .i64 0, .slice none 0 0, .agg #[.int .i64 0, .int .i64 0, .int .i64 0]], []⟩).memory Tryd.f3.params.toList Rows.propsErrorsSpec.vars false (#[.int .i64 0, .int .i64 0, .slice none 0 0, .agg #[.int .i64 0, .int .i64 0, .int .i64 0]] : Array Value).toList 8 = some ([.lit (.int .i64 0), .lit (.int .i64 0), .nil, .agg [.lit (.int .i64 0), .lit (.int .i64 0), .lit (.int .i64 0)]], [], places) :=
  ⟨[], by kernel_rfl⟩
set_option maxRecDepth 100000 in
theorem lifted (os : Os) (started : os.Started) (H : Type) (enc : TypeId × Value → H) (F : Stop.Interp) :
    ReturnsInHanded {} Tryd.checked os 3 .any ((OpenSpec.ofChange Rows.propsErrorsSpec).preRow enc Tryd.prog Tryd.f3 Rows.propsErrorsRow.domain false Rows.propsErrorsRow.laid) (((OpenSpec.ofChange Rows.propsErrorsSpec).at F).post enc Tryd.prog Tryd.f3 false true false false) := by
  obtain ⟨places, hx⟩ := reads os enc
  refine returnsInHanded_of_row (C := Tryd.checked) (s := OpenSpec.ofChange Rows.propsErrorsSpec) own started (by kernel_rfl) Tryd.func3
    (witness_row_at (enc := enc) (C := Tryd.checked) false (laidWorld os) #[.int .i64 0, .int .i64 0, .slice none 0 0, .agg #[.int .i64 0, .int .i64 0, .int .i64 0]] (laid_os os) (by kernel_rfl) (by kernel_rfl) (by kernel_rfl)
      (OpenSpec.preRow_of_cond 8 hx (by kernel_rfl) (fun k hk => by cases hk) (by kernel_rfl) (laid_met os _))) ?_
  intro W base args ds gs before hval hW _ _ hsz hL _ _
  exact contract H enc W base args ds gs before hval hW hL
theorem said : Rows.PropsErrorsSaid :=
  OpenClaim.holds_of_cond 3 Tryd.f3 rfl rfl rfl rfl rfl rfl rfl ⟨rfl, rfl, rfl, rfl, rfl⟩ rfl rfl rfl rfl rfl (by kernel_rfl) Tryd.func3 (by kernel_rfl)
    (of_decide_eq_true (by kernel_rfl)) (by unfold Func.isWrapper; first | (rw [if_pos (by decide +kernel)]; kernel_rfl) | (rw [if_neg (by decide +kernel)]; exact ⟨rfl, rfl⟩))
    (fun os started H enc _ F => by rw [OpenClaim.pre_eq_preRow]; exact lifted os started H enc F)
set_option maxRecDepth 100000 in
theorem plain (f : FuncId) (fn : Func) (hf : Tryd.pinned.checked.prog.funcNamed "pumice/pumicelaw14.PropsErrors" = some f) (hfn : Tryd.pinned.checked.prog.funcs[f]? = some fn) :
    true = Tryd.pinned.checked.prog.looks [] ∧ ∀ (j : Nat) t, fn.params[j]? = some t → Tryd.pinned.checked.prog.wantsStandIn t = false := by
  obtain rfl : f = 3 := Option.some.inj ((show Tryd.prog.funcNamed "pumice/pumicelaw14.PropsErrors" = some 3 by kernel_rfl).symm.trans hf) |>.symm
  obtain rfl : fn = Tryd.f3 := (Option.some.inj (Tryd.func3.symm.trans hfn)).symm
  refine ⟨by kernel_rfl, fun j t ht => ?_⟩
  rw [Tryd.params3] at ht
  have hm : t ∈ [3, 3, 22, 24] := by simpa using Array.mem_of_getElem? ht
  have hall : ∀ u ∈ [3, 3, 22, 24], Tryd.prog.wantsStandIn u = false := by
    intro u hu
    simp only [List.mem_cons, List.not_mem_nil, or_false] at hu
    rcases hu with rfl | rfl | rfl | rfl
    · exact (show Tryd.prog.wantsStandIn 3 = false by kernel_rfl)
    · exact (show Tryd.prog.wantsStandIn 3 = false by kernel_rfl)
    · exact (show Tryd.prog.wantsStandIn 22 = false by kernel_rfl)
    · exact (show Tryd.prog.wantsStandIn 24 = false by kernel_rfl)
  exact hall t hm
theorem card : Rows.PropsErrorsCardSaid :=
  Claim7.holds_tied_plain_at .later [] _ _ _ _ said (fun _ h => by cases h) (by kernel_rfl) (fun _ h => by cases h) propsErrors_row_tie rfl ⟨rfl, rfl⟩ (by kernel_rfl) rfl plain (by kernel_rfl)
end Go.Proofs.YtjbdjicciakibaaDoor.propsErrors

namespace Go.Proofs.YtjbdjicciakibaaDoor
theorem propsErrors_holds : Rows.PropsErrorsCardSaid := propsErrors.card
#print axioms propsErrors_holds
end Go.Proofs.YtjbdjicciakibaaDoor
