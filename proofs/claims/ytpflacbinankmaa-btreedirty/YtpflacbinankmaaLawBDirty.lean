/-
  Proved: the statement that one change of a clean tree makes few nodes dirty, and a look none (BtreeDirty), whatever comes in.
-/
import Derived.Test.YtpflacbinankmaaBDirty
import Derived.Test.YtpflacbinankmaaBDirtT
import Derived.Test.YtpflacbinankmaaBNext
import Derived.Test.YtpflacbinankmaaBSame
import Derived.Test.YtpflacbinankmaaBAlive
import Derived.Test.YtpflacbinankmaaRows
import Derived.OwnWalk
import Derived.JoinedCond
namespace Go.Proofs.Ytpflacbinankmaa.btreeDirty
open Go.ChangeShapes Go.WideShapes Go.ChangeAt Go.RowKit Bt
set_option maxRecDepth 10000

theorem fan_nat {f : Int} (h : okFan f = true) : ∃ F : Nat, f = (F : Int) ∧ 4 ≤ F ∧ F ≤ 64 := by
  unfold okFan at h
  simp at h
  exact ⟨f.toNat, by omega, by omega, by omega⟩
theorem bld_inv {F : Nat} (hF : 4 ≤ F) : ∀ (l : List Nw) (x : Tre), InvT F x → InvT F (bld F l x).1 ∧ (bld F l x).1.all.length ≤ x.all.length + l.length ∧ ((bld F l x).2 = 0 ∨ (bld F l x).2 = 22)
  | [], x, h => ⟨h, Nat.le_refl _, .inl rfl⟩
  | y :: l, x, h => by
    rw [bld]
    split
    · obtain ⟨a, b⟩ := delS_len hF y.k h
      obtain ⟨i1, i2, i3⟩ := bld_inv hF l _ b
      exact ⟨i1, by simp only [List.length_cons]; omega, i3⟩
    · split
      · obtain ⟨a, b⟩ := putR_len hF y.k y.v h
        obtain ⟨i1, i2, i3⟩ := bld_inv hF l _ b
        exact ⟨i1, by simp only [List.length_cons]; omega, i3⟩
      · rename_i hE
        refine ⟨h, by simp only [List.length_cons]; omega, .inr ?_⟩
        unfold putE at hE ⊢
        split at hE
        · exact absurd rfl hE
        · rename_i q; rw [if_neg q]
theorem kids_two {n F : Nat} (hF : 4 ≤ F) : ∀ (l : List (El (n + 1))), (∀ e ∈ l, Fill F (n + 1) e) → 2 * l.length ≤ (l.flatMap El.l).length
  | [], _ => by simp
  | e :: l, h => by
    have h1 := (h e (by simp)).1
    have h2 := kids_two hF l (fun y hy => h y (by simp [hy]))
    rw [List.flatMap_cons, List.length_append, List.length_cons]
    omega
theorem flats_flat {n : Nat} (l : List (El (n + 1))) : flats l = flats (l.flatMap El.l) := by
  unfold flats
  rw [List.flatMap_assoc]
  rfl
theorem shps_bound {F : Nat} (hF : 4 ≤ F) : ∀ (n : Nat) (l : List (El (n + 1))), (∀ e ∈ l, Fill F (n + 1) e) → (shps n l).length + l.length ≤ (flats l).length
  | 0, l, h => by
    have h1 := kids_two hF l h
    rw [flats_flat, flats_zero, List.length_map]
    show (l.map (shp 0)).length + _ ≤ _
    rw [List.length_map]
    omega
  | n + 1, l, h => by
    have h1 := kids_two hF l h
    have h2 := shps_bound hF n (l.flatMap El.l) (fun e he => by
      obtain ⟨y, hy, he⟩ := List.mem_flatMap.1 he
      exact (h y hy).2.2 e he)
    rw [← flats_flat] at h2
    show (l.map (shp (n + 1)) ++ shps n (l.flatMap El.l)).length + _ ≤ _
    rw [List.length_append, List.length_map]
    omega
theorem shps_tot {F : Nat} (hF : 4 ≤ F) {x : Tre} (h : InvT F x) : (shps x.n [x.T]).length ≤ x.all.length + 1 := by
  obtain ⟨n, T⟩ := x
  replace h : Inv F n T := h
  cases n with
  | zero => exact Nat.le_add_left _ _
  | succ n =>
    have := shps_bound hF n T.l h.good.kids
    show ([T].map (shp (n + 1)) ++ shps n ([T].flatMap El.l)).length ≤ (flats T.l).length + 1
    rw [List.length_append, List.length_map, List.flatMap_singleton]
    simp only [List.length_cons, List.length_nil]
    omega
def psum (f : Nat → Nat) (i : Nat) : Nat := ((List.range i).map f).sum
theorem psum_succ (f : Nat → Nat) (i : Nat) : psum f (i + 1) = psum f i + f i := by
  unfold psum
  rw [List.range_succ, List.map_append, List.sum_append]
  simp
theorem psum_le (f : Nat → Nat) (H : Nat) (h : ∀ j, j < H → f j ≤ 3) : ∀ i, i ≤ H → psum f i ≤ 3 * i
  | 0, _ => Nat.le_refl _
  | i + 1, hi => by
    have := psum_le f H h i (by omega)
    have := h i (by omega)
    rw [psum_succ]; omega
set_option maxHeartbeats 4000000 in
theorem walk_bad (f : Int) (a : Option Addr) (len cap : Nat) (key val : K) (gone : Bool) (w : World) (h : okFan f = false) :
    Calls Try.prog 5 #[.int .i64 f, .slice a len cap, .string key, .string val, .bool gone] w fun e w' => e = .returned (.bool true) ∧ Below w.heap.size w w' := by
  have kB := build_bad f a len cap w h
  clear h
  go_enter Try.func5, Try.ntmps5
  go_wp2_with (first
    | (go_at_call 9; refine kB.mono ?_; rintro e w' ⟨rfl, rfl⟩)
    | (go_at_call 11; refine (alive_any _).mono ?_; rintro e W2 ⟨rfl, hb2⟩))
  go_ret
  exact ⟨rfl, hb2⟩
set_option maxHeartbeats 4000000 in
theorem walk_err (F : Nat) (h1 : 4 ≤ F) (h2 : F ≤ 64) (a : Option Addr) (len cap : Nat) (key val : K) (gone : Bool) (l : List Nw) (w : World) (hA : NArg w a len cap l) (hsz : len < 2305843009213693000) (hE : (bld F l tre0).2 ≠ 0) :
    Calls Try.prog 5 #[.int .i64 (F : Nat), .slice a len cap, .string key, .string val, .bool gone] w fun e w' => e = .returned (.bool true) ∧ Below w.heap.size w w' := by
  have kB : Calls Try.prog 9 #[.int .i64 (F : Nat), .slice a len cap] w fun e w' => e = .returned (.tuple #[.pointer none, .int .i64 22]) ∧ Below w.heap.size w w' := by
    refine (build_any F h1 h2 a len cap l w hA hsz).mono ?_
    rintro e w' ⟨p, rfl, hb, _⟩
    refine ⟨?_, hb⟩
    unfold bltV
    rw [if_neg hE]
    rcases (bld_inv h1 l tre0 inv0).2.2 with q | q
    · exact absurd q hE
    · rw [q]
  clear hA hE
  go_enter Try.func5, Try.ntmps5
  go_wp2_with (first
    | (go_at_call 9; refine kB.mono ?_; rintro e W1 ⟨rfl, hb1⟩)
    | (go_at_call 11; refine (alive_any _).mono ?_; rintro e W2 ⟨rfl, hb2⟩))
  go_ret
  exact ⟨rfl, bafter hb1 hb2⟩
/-- What is told of a key, in parts. -/
theorem got_parts {a b : Option K} (h1 : (a.getD ⟨#[]⟩).toList = (b.getD ⟨#[]⟩).toList) (h2 : a.isSome = b.isSome) : a = b := by
  cases a <;> cases b <;> simp at h1 h2 ⊢
  exact list_inj h1
set_option maxHeartbeats 16000000 in
theorem walk_ok (F : Nat) (h1 : 4 ≤ F) (h2 : F ≤ 64) (a : Option Addr) (len cap : Nat) (key val : K) (gone : Bool) (l : List Nw) (w : World) (hA : NArg w a len cap l) (hsz : len ≤ 3518437208780) (hE : (bld F l tre0).2 = 0) :
    Calls Try.prog 5 #[.int .i64 (F : Nat), .slice a len cap, .string key, .string val, .bool gone] w fun e w' => e = .returned (.bool true) ∧ Below w.heap.size w w' := by
  obtain ⟨i1, i2, _⟩ := bld_inv h1 l tre0 inv0
  have hlen : (bld F l tre0).1.all.length ≤ 3518437208780 := by
    have e0 : tre0.all.length = 0 := rfl
    have := hA.len_eq; omega
  obtain ⟨X, hX⟩ : ∃ X, X = (bld F l tre0).1 := ⟨_, rfl⟩
  have kB : Calls Try.prog 9 #[.int .i64 (F : Nat), .slice a len cap] w fun e w' => ∃ p, e = .returned (.tuple #[.pointer (some ⟨p, 0, none⟩), .int .i64 0]) ∧ Blt w p F X w' := by
    refine (build_any F h1 h2 a len cap l w hA (by omega)).mono ?_
    rintro e w' ⟨p, rfl, hb, hB⟩
    refine ⟨p, ?_, by rw [hX]; exact hB hE⟩
    unfold bltV
    rw [if_pos hE]
  have hUX : UpT X := by rw [hX]; exact up_bld F l tre0 up_tre0
  rw [← hX] at i1 hlen
  obtain ⟨x, hx⟩ : ∃ x, x = wipeT X := ⟨_, rfl⟩
  have xI : InvT F x := by rw [hx]; exact inv_wipe i1
  have xC : Cl (x.n + 1) x.T := by rw [hx]; exact cl_wipeT hUX
  have xU : UpT x := cl_up _ _ xC
  have xl : x.all.length ≤ 3518437208780 := by rw [hx, show (wipeT X).all = X.all from wipe_flats X.T]; exact hlen
  obtain ⟨y, hy⟩ : ∃ y, y = if gone then delS F key x else putR F key val x := ⟨_, rfl⟩
  have hO : Once F key x y := by
    rw [hy]
    split
    · exact once_del h1 key xI xU xC
    · exact once_put h1 key val xI xU xC
  have yl : y.all.length ≤ 3518437208781 := by have := hO.len; omega
  have HC1 : Hid (∀ p W, Blt w p F X W → Calls Try.prog 22 #[.pointer (some ⟨p, 0, none⟩)] W fun e w' => ∃ c, e = .returned (.int .i64 c) ∧ Blt w p F x w') := fun p W hB => by
    obtain ⟨fs, q1, q2⟩ := hB.live
    refine (cleanT_any q1 (by omega)).mono ?_
    rintro e w' ⟨rfl, hL⟩
    exact ⟨_, rfl, by rw [hx]; exact Blt.step hB.p hB.below q2 hL⟩
  have HC2 : Hid (∀ p W, Blt w p F x W → Calls Try.prog 22 #[.pointer (some ⟨p, 0, none⟩)] W fun e w' => e = .returned (.int .i64 0) ∧ Blt w p F x w') := fun p W hB => by
    obtain ⟨fs, q1, q2⟩ := hB.live
    refine (cleanT_any q1 (by omega)).mono ?_
    rintro e w' ⟨rfl, hL⟩
    have e1 : cntT x = 0 := by rw [hx]; exact cnt_wiped X
    have e2 : wipeT x = x := by rw [hx]; exact wipe_again X
    rw [e2] at hL
    exact ⟨by rw [e1]; rfl, Blt.step hB.p hB.below q2 hL⟩
  have HH : Hid (∀ p W, Blt w p F x W → Calls Try.prog 21 #[.pointer (some ⟨p, 0, none⟩)] W fun e w' => e = .returned (.int .i64 ((x.n + 1 : Nat) : Int)) ∧ W = w') := fun p W hB => by
    obtain ⟨fs, q1, _⟩ := hB.live
    exact height_any q1 (by omega)
  have HG1 : Hid (∀ p W, Blt w p F x W → Calls Try.prog 23 #[.pointer (some ⟨p, 0, none⟩), .string key] W fun e w' => e = .returned (.tuple #[.string ((Bt.look key x.all).getD ⟨#[]⟩), .bool (Bt.look key x.all).isSome]) ∧ Blt w p F x w') := fun p W hB => by
    obtain ⟨fs, q1, _⟩ := hB.live
    refine (q1.get key).mono ?_
    rintro e w' ⟨rfl, hb⟩
    exact ⟨rfl, hB.later hb⟩
  have HR : Hid (∀ p W, Blt w p F x W → Calls Try.prog 17 #[.pointer (some ⟨p, 0, none⟩), .string ⟨#[]⟩, .string ⟨#[]⟩, .int .i64 5] W fun e w' => ∃ v, e = .returned v ∧ Blt w p F x w') := fun p W hB => by
    obtain ⟨fs, q1, _⟩ := hB.live
    refine (q1.range ⟨#[]⟩ ⟨#[]⟩ 5 (by decide) (by decide) (.inl (by decide))).mono ?_
    rintro e w' ⟨v, rfl, ht⟩
    exact ⟨v, rfl, hB.later ht.2⟩
  have HN : Hid (∀ p W, Blt w p F x W → Calls Try.prog 24 #[.pointer (some ⟨p, 0, none⟩), .string key] W fun e w' => ∃ v, e = .returned v ∧ Blt w p F x w') := fun p W hB => by
    obtain ⟨fs, q1, _⟩ := hB.live
    refine (q1.next key).mono ?_
    rintro e w' ⟨rfl, hb⟩
    exact ⟨_, rfl, hB.later hb⟩
  have HD : Hid (gone = true → ∀ p W, Blt w p F x W → Calls Try.prog 25 #[.pointer (some ⟨p, 0, none⟩), .string key] W fun e w' => ∃ b, e = .returned (.bool b) ∧ Blt w p F y w') := fun hg p W hB => by
    obtain ⟨fs, q1, q2⟩ := hB.live
    refine (delT_any q1 key (by omega)).mono ?_
    rintro e w' ⟨rfl, hL⟩
    refine ⟨_, rfl, ?_⟩
    rw [hy, if_pos hg]
    exact Blt.step hB.p hB.below q2 hL
  have HP : Hid (gone = false → ∀ p W, Blt w p F x W → Calls Try.prog 26 #[.pointer (some ⟨p, 0, none⟩), .string key, .string val] W fun e w' => ∃ b, e = .returned (.int .i64 b) ∧ Blt w p F y w') := fun hg p W hB => by
    obtain ⟨fs, q1, q2⟩ := hB.live
    refine (putT_any q1 key val (by omega)).mono ?_
    rintro e w' ⟨rfl, hL⟩
    refine ⟨_, rfl, ?_⟩
    rw [hy, if_neg (by rw [hg]; decide)]
    exact Blt.step hB.p hB.below q2 hL
  have HT : Hid (∀ p W, Blt w p F y W → Calls Try.prog 27 #[.pointer (some ⟨p, 0, none⟩)] W fun e w' => ∃ B, e = .returned (.slice (some ⟨B, 0, none⟩) (y.n + 1) (y.n + 1)) ∧ Blt w p F y w' ∧ Whole w' B (dcV (y.n + 1) (dirt (y.n + 1) y.T)) 3) := fun p W hB => by
    obtain ⟨fs, q1, _⟩ := hB.live
    refine (dirty_any q1 (by have := shps_tot h1 hO.inv; omega) (by omega)).mono ?_
    rintro e w' ⟨B, rfl, hb, hw⟩
    exact ⟨B, rfl, hB.later hb, hw⟩
  have HG2 : Hid (∀ p W, Blt w p F y W → Calls Try.prog 23 #[.pointer (some ⟨p, 0, none⟩), .string key] W fun e w' => e = .returned (.tuple #[.string ((Bt.look key y.all).getD ⟨#[]⟩), .bool (Bt.look key y.all).isSome]) ∧ Blt w p F y w') := fun p W hB => by
    obtain ⟨fs, q1, _⟩ := hB.live
    refine (q1.get key).mono ?_
    rintro e w' ⟨rfl, hb⟩
    exact ⟨rfl, hB.later hb⟩
  have HC3 : Hid (∀ p W, Blt w p F y W → Calls Try.prog 22 #[.pointer (some ⟨p, 0, none⟩)] W fun e w' => e = .returned (.int .i64 ((psum (dirt (y.n + 1) y.T) (y.n + 1) : Nat) : Int)) ∧ Below w.heap.size w w') := fun p W hB => by
    obtain ⟨fs, q1, q2⟩ := hB.live
    refine (cleanT_any q1 (by omega)).mono ?_
    rintro e w' ⟨rfl, hL⟩
    exact ⟨by rw [cnt_sum hO.up]; rfl, (Blt.step hB.p hB.below q2 hL).below⟩
  have HSN : Hid (Bt.look key x.all = Bt.look key y.all → psum (dirt (y.n + 1) y.T) (y.n + 1) = 0) := hO.none
  have HSS : Hid (Bt.look key x.all ≠ Bt.look key y.all → psum (dirt (y.n + 1) y.T) (y.n + 1) ≠ 0) := hO.some
  have hnl : y.n ≤ y.all.length := inv_level h1 hO.inv
  have HFw : Hid (∀ j, j < y.n + 1 → dirt (y.n + 1) y.T j ≤ if j < x.n + 1 then 3 else 1) := hO.few
  obtain ⟨f, hf⟩ : ∃ f, f = dirt (y.n + 1) y.T := ⟨_, rfl⟩
  rw [← hf] at HT HC3 HSN HSS HFw
  obtain ⟨H, hH⟩ : ∃ H, H = y.n + 1 := ⟨_, rfl⟩
  rw [← hH] at HT HC3 HSN HSS HFw
  have hHb : H ≤ 4000000000000 := by omega
  obtain ⟨LV, hLV⟩ : ∃ LV, LV = x.n + 1 := ⟨_, rfl⟩
  rw [← hLV] at HH HFw
  have HPS : Hid (∀ i, i ≤ H → psum f i ≤ 3 * i) := psum_le f H (fun j hj => by have := HFw.out j hj; split at this <;> omega)
  have HEq : Hid (((Bt.look key x.all).getD ⟨#[]⟩).toList = ((Bt.look key y.all).getD ⟨#[]⟩).toList → (Bt.look key x.all).isSome = (Bt.look key y.all).isSome → Bt.look key x.all = Bt.look key y.all) := got_parts
  obtain ⟨L1, hL1⟩ : ∃ L1, L1 = Bt.look key x.all := ⟨_, rfl⟩
  obtain ⟨L2, hL2⟩ : ∃ L2, L2 = Bt.look key y.all := ⟨_, rfl⟩
  rw [← hL1] at HG1 HSN HSS HEq
  rw [← hL2] at HG2 HSN HSS HEq
  have hLVb : LV ≤ 4000000000000 := by
    have : x.n ≤ x.all.length := inv_level h1 xI
    omega
  have HPE : Hid (L1 = L2 → L1.getD ⟨#[]⟩ = L2.getD ⟨#[]⟩ ∧ L1.isSome = L2.isSome) := fun e => by rw [e]; exact ⟨rfl, rfl⟩
  clear hA hE i1 i2 hX hUX hx xI xC xU xl hy hO yl hlen hnl hf hH hLV hL1 hL2 hsz
  generalize L1.getD ⟨#[]⟩ = s1 at *
  generalize L2.getD ⟨#[]⟩ = s2 at *
  generalize L1.isSome = b1 at *
  generalize L2.isSome = b2 at *
  have M1 : Hid True := trivial
  have M2 : Hid True := trivial
  cases gone
  all_goals
    go_enter Try.func5, Try.ntmps5
    go_wp2_with (first
      | (go_at_call 9; refine kB.mono ?_; rintro e W1 ⟨p, rfl, hB⟩; have HB : Hid (Blt w p F X W1) := hB; clear hB)
      | (clear M1; go_at_call 22; refine (HC1.out p W1 HB.out).mono ?_; rintro e W2 ⟨c1, rfl, hB⟩; have HB2 : Hid (Blt w p F x W2) := hB; clear hB)
      | (clear M2; go_at_call 22; refine (HC2.out p W2 HB2.out).mono ?_; rintro e W3 ⟨rfl, hB⟩; have HB3 : Hid (Blt w p F x W3) := hB; clear hB)
      | (go_at_call 21; refine (HH.out p W3 HB3.out).mono ?_; rintro e W4 ⟨rfl, rfl⟩)
      | (go_at_call 23; refine (HG1.out p W3 HB3.out).mono ?_; rintro e W5 ⟨rfl, hB⟩; have HB5 : Hid (Blt w p F x W5) := hB; clear hB)
      | (go_at_call 17; refine (HR.out p W5 HB5.out).mono ?_; rintro e W6 ⟨v6, rfl, hB⟩; have HB6 : Hid (Blt w p F x W6) := hB; clear hB)
      | (go_at_call 24; refine (HN.out p W6 HB6.out).mono ?_; rintro e W7 ⟨v7, rfl, hB⟩; have HB7 : Hid (Blt w p F x W7) := hB; clear hB)
      | (go_at_call 25; refine (HD.out (by first | exact trivial | exact rfl) p W7 HB7.out).mono ?_; rintro e W8 ⟨b8, rfl, hB⟩; have HB8 : Hid (Blt w p F y W8) := hB; clear hB)
      | (go_at_call 26; refine (HP.out (by first | exact trivial | exact rfl) p W7 HB7.out).mono ?_; rintro e W8 ⟨b8, rfl, hB⟩; have HB8 : Hid (Blt w p F y W8) := hB; clear hB)
      | (go_at_call 27; refine (HT.out p W8 HB8.out).mono ?_; rintro e W9 ⟨B, rfl, hB, hw⟩; have HB9 : Hid (Blt w p F y W9) := hB; have Hw9 : Hid (Whole W9 B (dcV H f) 3) := hw; clear hB hw))
    go_loopg [18, 19] H (fun kx s18 s19 wr => ∃ i : Nat, i + kx = H ∧ s18 = .int .i64 ((psum f i : Nat) : Int) ∧ s19 = .int .i64 (i : Nat) ∧ wr = W9)
    case atStart => exact ⟨0, by omega, rfl, rfl, rfl⟩
    case round =>
      obtain ⟨i, hi, rfl, rfl, rfl⟩ := hrel
      by_cases hlt : i < H
      · have hc := Hw9.out.cell (i := i)
        rw [dcV_get H f i hlt] at hc
        have hfw := HFw.out i hlt
        have hps := HPS.out i (by omega)
        have HSc : Hid (psum f (i + 1) = psum f i + f i) := psum_succ f i
        obtain ⟨fi, hfi⟩ : ∃ fi, fi = f i := ⟨_, rfl⟩
        rw [← hfi] at hc hfw HSc
        obtain ⟨ps, hpe⟩ : ∃ ps, ps = psum f i := ⟨_, rfl⟩
        rw [← hpe] at hps HSc ⊢
        clear hfi hpe
        have hi1 : (i : Int) < (H : Int) := by omega
        by_cases hil : i < LV
        · rw [if_pos hil] at hfw
          have g1 : (i : Int) < (LV : Int) := by omega
          have g2 : ¬ (3 : Int) < (fi : Int) := by omega
          have g3 : ¬ (LV : Int) ≤ (i : Int) := by omega
          go_wp2
          go_roundg (H - (i + 1))
          case measure => omega
          case rel => exact ⟨i + 1, by omega, by rw [HSc.out]; go_num, by go_num, rfl⟩
        · rw [if_neg hil] at hfw
          have g1 : ¬ (i : Int) < (LV : Int) := by omega
          have g2 : ¬ (1 : Int) < (fi : Int) := by omega
          have g3 : (LV : Int) ≤ (i : Int) := by omega
          go_wp2
          go_roundg (H - (i + 1))
          case measure => omega
          case rel => exact ⟨i + 1, by omega, by rw [HSc.out]; go_num, by go_num, rfl⟩
      · have hiH : i = H := by omega
        subst hiH
        by_cases hLL : L1 = L2
        · obtain ⟨e1, e2⟩ := HPE.out hLL
          subst e1 e2
          have hz := HSN.out hLL
          rw [hz] at HC3 ⊢
          go_wp2_with (first
            | (go_at_call 23; refine (HG2.out p wr HB9.out).mono ?_; rintro e W10 ⟨rfl, hB⟩; have HB10 : Hid (Blt w p F y W10) := hB; clear hB)
            | (go_at_call 22; refine (HC3.out p W10 HB10.out).mono ?_; rintro e W11 ⟨rfl, hb11⟩)
            | (go_at_call 11; refine (alive_any _).mono ?_; rintro e W12 ⟨rfl, hb12⟩))
          go_ret
          exact ⟨rfl, bafter hb11 hb12⟩
        · have hnz := HSS.out hLL
          obtain ⟨ps, hpe⟩ : ∃ ps, ps = psum f i := ⟨_, rfl⟩
          rw [← hpe] at hnz HC3 ⊢
          have n1 : ¬ (ps : Int) = 0 := by omega
          have n2 : ((ps : Int) == 0) = false := by simpa using n1
          have n3 : ((ps : Int) != 0) = true := by simpa using n1
          by_cases hs : s1.toList = s2.toList
          · have hs2 : (s1.toList == s2.toList) = true := by simpa using hs
            have hb : b1 ≠ b2 := fun e => hLL (HEq.out hs e)
            have hbb : (b1 == b2) = false := by simpa using hb
            have hbn : (b1 != b2) = true := by simpa using hb
            go_wp2_with (first
              | (go_at_call 23; refine (HG2.out p wr HB9.out).mono ?_; rintro e W10 ⟨rfl, hB⟩; have HB10 : Hid (Blt w p F y W10) := hB; clear hB)
              | (go_at_call 22; refine (HC3.out p W10 HB10.out).mono ?_; rintro e W11 ⟨rfl, hb11⟩)
              | (go_at_call 11; refine (alive_any _).mono ?_; rintro e W12 ⟨rfl, hb12⟩))
            go_ret
            exact ⟨rfl, bafter hb11 hb12⟩
          · have hs2 : (s1.toList == s2.toList) = false := by simpa using hs
            go_wp2_with (first
              | (go_at_call 23; refine (HG2.out p wr HB9.out).mono ?_; rintro e W10 ⟨rfl, hB⟩; have HB10 : Hid (Blt w p F y W10) := hB; clear hB)
              | (go_at_call 22; refine (HC3.out p W10 HB10.out).mono ?_; rintro e W11 ⟨rfl, hb11⟩)
              | (go_at_call 11; refine (alive_any _).mono ?_; rintro e W12 ⟨rfl, hb12⟩))
            go_ret
            exact ⟨rfl, bafter hb11 hb12⟩
theorem walk (f : Int) (a : Option Addr) (len cap : Nat) (l : List Nw) (key val : K) (gone : Bool) (w : World) (_ : (Lit.int .i64 f).wf = true) (hA : NArg w a len cap l) (hs : cap * 40 ≤ 140737488351232) (_ : key.size ≤ maxLen) (_ : val.size ≤ maxLen) :
    Calls Try.prog 5 #[.int .i64 f, .slice a len cap, .string key, .string val, .bool gone] w fun e w' => e = .returned (.bool true) ∧ Below w.heap.size w w' := by
  have hl := hA.le
  cases h : okFan f with
  | false => exact walk_bad f a len cap key val gone w h
  | true =>
    obtain ⟨F, rfl, h1, h2⟩ := fan_nat h
    by_cases hE : (bld F l tre0).2 = 0
    · exact walk_ok F h1 h2 a len cap key val gone l w hA (by omega) hE
    · exact walk_err F h1 h2 a len cap key val gone l w hA (by omega) hE
set_option maxRecDepth 100000 in
theorem lifted (os : Os) (started : os.Started) (H : Type) (enc : TypeId × Value → H) :
    ReturnsInHanded {} Try.checked os 5 .any (Rows.btreeDirtySpec.pre6 enc Try.prog Try.f5 Rows.btreeDirtyRow.domain false) (Rows.btreeDirtySpec.post enc Try.prog Try.f5 false true false false) := by
  refine returnsInHanded_of_change_sized (C := Try.checked) own started (by kernel_rfl) Try.func5
    (ChangeSpec.witness6 (enc := enc) (C := Try.checked) false ⟨#[], #[.int .i64 0, .slice none 0 0, .string ⟨#[]⟩, .string ⟨#[]⟩, .bool false], []⟩ 8 (by kernel_rfl) (by kernel_rfl) (by kernel_rfl) (by kernel_rfl)) ?_
  intro W base args ds gs before hval0 hW hcnd hsz0 _
  have hval : ∀ (j : Nat) t v, Try.f5.params[j]? = some t → args[j]? = some v → Value.okWide Try.prog W .any base t v := hval0
  have hsz : (DataW.weightsEach Try.prog (Try.f5.params.toList ++ Rows.btreeDirtySpec.plain.varTypes Try.prog) (ds ++ gs)).all (· ≤ reachBytes) = true := hsz0
  have hW' := hW
  obtain ⟨p, q, hA0, hV, rfl, hfz, hnd⟩ := hW
  have hA : DataW.TrodAll enc Try.prog W 0 (fun _ => true) true Try.f5.params.toList args.toList ds p := hA0
  rw [Try.params5] at hA hval hsz
  obtain ⟨v0, vs0, d0, ds0, p0, q0, hargs, rfl, rfl, h0, r0⟩ := trodAll_cons hA
  obtain ⟨v1, vs1, d1, ds1, p1, q1, rfl, rfl, rfl, h1, r1⟩ := trodAll_cons r0
  obtain ⟨v2, vs2, d2, ds2, p2, q2, rfl, rfl, rfl, h2, r2⟩ := trodAll_cons r1
  obtain ⟨v3, vs3, d3, ds3, p3, q3, rfl, rfl, rfl, h3, r3⟩ := trodAll_cons r2
  obtain ⟨v4, vs4, d4, ds4, p4, q4, rfl, rfl, rfl, h4, r4⟩ := trodAll_cons r3
  obtain ⟨rfl, rfl, rfl⟩ := trodAll_nil r4
  obtain rfl : args = #[v0, v1, v2, v3, v4] := by cases args; simp_all
  obtain ⟨rfl, rfl⟩ := trodVars_none hV
  obtain ⟨a0, rfl, rfl, rfl, w0⟩ := open_int Try.underlying3 (hval 0 3 v0 rfl rfl) h0
  obtain ⟨a1, len1, cap1, rfl⟩ := okWide_slice Try.underlying22 (hval 1 22 v1 rfl rfl)
  have k1 := h1
  have lt1 : ∀ x ∈ p1, x.block < W.heap.size := by obtain ⟨m, hm⟩ := k1; exact DataW.trod_lt m _ _ _ hm
  obtain ⟨l1, w1, s1⟩ : ∃ l, NArg W a1 len1 cap1 l ∧ cap1 * 40 ≤ 140737488351232 := by
    obtain ⟨fuel, hf⟩ := h1
    obtain ⟨l, hl, hd⟩ := narg_open hf
    refine ⟨l, hl, ?_⟩
    rcases hd with h | ⟨elems, spare, rfl, hc⟩
    · omega
    have := sized_slice hsz (j := 1) (t := 22) (e := 54) rfl rfl Try.underlying22
    rw [bytesNd, hc] at this
    simp only [reachBytes] at this
    omega
  obtain ⟨a2, rfl, rfl, rfl, w2⟩ := Go.ChangeMaps.open_string Try.underlying9 (hval 2 9 v2 rfl rfl) h2
  obtain ⟨a3, rfl, rfl, rfl, w3⟩ := Go.ChangeMaps.open_string Try.underlying9 (hval 3 9 v3 rfl rfl) h3
  obtain ⟨a4, rfl, rfl, rfl⟩ := open_bool Try.underlying4 (hval 4 4 v4 rfl rfl) h4
  clear hA0 hval0
  refine (walk a0 a1 len1 cap1 l1 a2 a3 a4 W w0 w1 s1 w2 w3).mono fun e W' ⟨he, bel⟩ => ?_
  subst he
  exact ⟨_, rfl, _, _, _, [], _, [], hW', trodAll_mk1 (shut_bool Try.underlying4 _), (trodAll_cons_mk (shut_int Try.underlying3 w0) (trodAll_cons_mk (Below.trod laidOut (by kernel_rfl) (of_decide_eq_true (by kernel_rfl)) k1 bel lt1) (trodAll_cons_mk (Go.ChangeMaps.shut_string Try.underlying9 w2) (trodAll_cons_mk (Go.ChangeMaps.shut_string Try.underlying9 w3) (trodAll_cons_mk (shut_bool Try.underlying4 a4) trodAll_mk0))))), rfl, bel.frame _, fun h => by cases h⟩

theorem over : Rows.btreeDirtyRow.holds Try.pinned (OpenSpec.ofChange Rows.btreeDirtySpec) :=
  OpenClaim.holds_of_wide 5 Try.f5 rfl rfl rfl rfl rfl rfl rfl ⟨rfl, rfl, rfl, rfl, rfl⟩ rfl rfl rfl rfl rfl (by kernel_rfl) Try.func5 (by kernel_rfl)
    (of_decide_eq_true (by kernel_rfl)) (by unfold Func.isWrapper; first | (rw [if_pos (by decide +kernel)]; kernel_rfl) | (rw [if_neg (by decide +kernel)]; exact ⟨rfl, rfl⟩))
    (fun os started H enc _ => lifted os started H enc)
end Go.Proofs.Ytpflacbinankmaa.btreeDirty

namespace Go.Proofs.Ytpflacbinankmaa
theorem btreeDirty_holds : Rows.BtreeDirtySaid := btreeDirty.over
#print axioms btreeDirty_holds
end Go.Proofs.Ytpflacbinankmaa
