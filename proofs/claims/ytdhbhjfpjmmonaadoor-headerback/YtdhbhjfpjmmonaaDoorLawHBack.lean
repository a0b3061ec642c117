/-
  For all numbers, mappings, places and bytes: HeaderBack answers true (what was made is parsed as it was, never as the other kind, with a byte turned as nothing), and leaves its arguments as they were; given that the package's error variable holds what its initialiser lays (the card ties it). No other condition.
-/
import Derived.Test.YtdhbhjfpjmmonaaDoorHEq
namespace Go.Proofs.YtdhbhjfpjmmonaaDoor.headerBack
open Go.ChangeShapes Go.WideShapes Go.ChangeAt Go.RowKit M

theorem store_lies {w : World} {base g page k z : Nat} {l : List Nat} (h : w.ownsRow base 5 1 (.slice (some ⟨g, 0, none⟩) page page) l.length (l.map u8v)) (hl : l.length = page) (hlt : ∀ x ∈ l, x < 256) (hz : z < 256) (hp : page ≤ 512) :
    Lies (w.setCell ⟨g, k, none⟩ (.int .u8 (z : Int))) (some ⟨g, 0, none⟩) page page (l.set k z) := by
  subst hl
  have h3 := (h.stored k (u8v z)).1
  have e : (l.map u8v).set k (u8v z) = (l.set k z).map u8v := by rw [List.map_set]
  have h4 : (w.setCell ⟨g, k, none⟩ (u8v z)).ownsRow base 5 1 (.slice (some ⟨g, 0, none⟩) l.length l.length) (l.set k z).length ((l.set k z).map u8v) := by rw [List.length_set, ← e]; exact h3
  obtain ⟨a, c, hv, hr, _, _⟩ := owns_row h4
  simp only [Value.slice.injEq] at hv
  obtain ⟨rfl, _, _⟩ := hv
  exact ⟨by rw [List.length_set], Nat.le_refl _, by unfold maxLen; omega, set_lt hlt hz k, hr⟩
theorem other_kept (w : World) (g k : Nat) (v : Value) : Kept (fun j => j = g) w (w.setCell ⟨g, k, none⟩ v) := (Kept.refl (fun j => j = g) w).setCell (p := ⟨g, k, none⟩) rfl _
theorem other_lies {w : World} {g g2 k n c : Nat} {v : Value} {l : List Nat} (h : Lies w (some ⟨g2, 0, none⟩) n c l) (hne : g2 ≠ g) : Lies (w.setCell ⟨g, k, none⟩ v) (some ⟨g2, 0, none⟩) n c l :=
  ⟨h.len, h.le, h.max, h.lt, brow_kept h.row (other_kept w g k v) (fun b off e => by cases e; exact hne)⟩
theorem own_lt {w w' : World} {g n c : Nat} {l : List Nat} (h : Own w w' (.slice (some ⟨g, 0, none⟩) n c) l) : w.heap.size ≤ g ∧ g < w'.heap.size := by
  rcases h.1.2 with ⟨h0, _⟩ | ⟨g', cap, cur, he, hbg, hgg, _⟩
  · cases h0
  · simp only [Value.slice.injEq, Option.some.injEq, Addr.mk.injEq] at he
    rw [he.1.1]
    exact ⟨hbg, (Array.getElem?_eq_some_iff.1 hgg).1⟩
theorem img_cell {w : World} {base g page k x : Nat} {l : List Nat} (hl : l.length = page) (hx : x = l.getD k 0) (hk : k < page) (h : w.ownsRow base 5 1 (.slice (some ⟨g, 0, none⟩) page page) l.length (l.map u8v)) :
    w.cell? ⟨g, k, none⟩ = some (.int .u8 (x : Int)) := by
  subst hl
  rw [h.cellAt k (by omega), hx]
  simp [u8v, List.getD, hk]
theorem img_frozen {w : World} {base g page k : Nat} {l : List Nat} (hl : l.length = page) (h : w.ownsRow base 5 1 (.slice (some ⟨g, 0, none⟩) page page) l.length (l.map u8v)) : w.frozen? ⟨g, k, none⟩ = false := by
  subst hl
  exact h.frozenAt k


set_option maxRecDepth 10000 in
set_option maxHeartbeats 4000000 in
theorem core_t_y (n page : Nat) (a1 a2 a3 : Nat) (at1 by1 : Nat) (w : World) (hg : Glb w) (k1 : 2 ≤ at1) (k2 : at1 < page) (y1 : by1 < 256) (y2 : by1 ≠ 0) (hn : n ≤ 2147483647) (ha1 : a1 ≤ 255) (ha2 : a2 < 18446744073709551616) (ha3 : a3 ≤ 64) (p1 : 64 ≤ page) (p2 : page ≤ 512)
    (c1 : ∀ w, Calls Tryd.prog 7 #[.int .i64 n, .int .i64 page] w (MadePost w (countL n) page))
    (c2 : ∀ w, Calls Tryd.prog 9 #[.agg #[.int .i64 a1, .int .u64 a2, .int .i64 a3], .int .i64 page] w (MadePost w (mapL a1 a2 a3) page)) :
    Calls Tryd.prog 5 #[.int .i64 n, .int .i64 page, .agg #[.int .i64 a1, .int .u64 a2, .int .i64 a3], .int .i64 at1, .int .u8 by1] w fun e w' => e = .returned (.bool true) ∧ Below w.heap.size w w' := by
  obtain ⟨W, hW⟩ : ∃ W, W = w.alloc (.cells #[.int .i64 a1, .int .u64 a2, .int .i64 a3] 24) := ⟨_, rfl⟩
  have HB : Hid (Below w.heap.size w W) := by rw [hW]; exact below_new _ _
  have HA : Hid (Row W w.heap.size [.int .i64 a1, .int .u64 a2, .int .i64 a3] 24) := by rw [hW]; exact Row.new w [_, _, _] _
  have HG : Hid (Glb W) := hg.later HB.out
  have BC : Hid (parseC (imgL (countL n) page) = some n) := back_c n page hn p1 p2
  have XC : Hid (parseM (imgL (countL n) page) = none) := cross_c n page p1 p2
  have e0 : ((n : Int) != (n : Int)) = false := by simp
  have e1 : ((page : Int) != (page : Int)) = false := by simp
  have BM : Hid (parseM (imgL (mapL a1 a2 a3) page) = some (a1, a2, a3)) := back_m a1 a2 a3 page ha1 ha2 ha3 p1 p2
  have XM : Hid (parseC (imgL (mapL a1 a2 a3) page) = none) := cross_m a1 a2 a3 page p1 p2
  have q1 : ((a1 : Int) == (a1 : Int)) = true := by simp
  have q2 : ((a2 : Int) == (a2 : Int)) = true := by simp
  have q3 : ((a3 : Int) == (a3 : Int)) = true := by simp
  obtain ⟨x, hx⟩ : ∃ x, x = (imgL (countL n) page).getD at1 0 := ⟨_, rfl⟩
  have HX : Hid (x = (imgL (countL n) page).getD at1 0) := hx
  have hx256 : x < 256 := by
    rw [hx]
    exact imgL_lt (countL_lt n) page _ (by simp [List.getD]; rw [List.getElem?_eq_getElem (by rw [imgL_length]; exact k2)]; simp)
  have hxor := u8_xor_nat x by1 hx256 y1
  have HZ : Hid (x ^^^ by1 < 256) := xor_lt8 hx256 y1
  have TC : Hid (parseC ((imgL (countL n) page).set at1 (x ^^^ by1)) = none) := turned_c n page at1 (x ^^^ by1) p1 p2 k1 k2 HZ.out (by rw [← hx]; exact turned_ne y2)
  have HK2 : Hid (at1 < page) := k2
  have i1 : (2 : Int) ≤ (at1 : Int) := by omega
  have i2 : (at1 : Int) < (page : Int) := by omega
  have i3 : ((by1 : Int) != 0) = true := by simp; omega
  have i4 : ¬ ((by1 : Int) == 0) = true := by simp; omega
  clear hx y2
  have HP2 : Hid (page ≤ 512) := p2
  clear p1 p2
  clear hg hn ha1 ha2 ha3
  have M1 : Hid True := trivial
  have M2 : Hid True := trivial
  go_enter Tryd.func5, Tryd.ntmps5
  go_wp2_with fail
  rw [← hW]
  clear hW
  go_wp2_with (first
    | (go_at_call 7; refine (c1 _).mono ?_; rintro e w1 ⟨g1, rfl, hl1, hb1, ho1⟩; have HL1 : Hid (Lies _ _ _ _ _) := hl1; have HB1 : Hid (Below W.heap.size W w1) := hb1; have HO1 : Hid (Own W w1 _ _) := ho1; clear hl1 hb1 ho1; have hra := HA.out.later HB1.out; have d0 : w1.cell? ⟨w.heap.size, 0, none⟩ = some (.int .i64 a1) := hra.cell (i := 0) rfl; have d1 : w1.cell? ⟨w.heap.size, 1, none⟩ = some (.int .u64 a2) := hra.cell (i := 1) rfl; have d2 : w1.cell? ⟨w.heap.size, 2, none⟩ = some (.int .i64 a3) := hra.cell (i := 2) rfl; clear hra)
    | (go_at_call 9; clear d0 d1 d2; refine (c2 _).mono ?_; rintro e w2 ⟨g2, rfl, hl2, hb2, ho2⟩; have HL2 : Hid (Lies _ _ _ _ _) := hl2; have HO2 : Hid (Own w1 w2 _ _) := ho2; have HL12 : Hid (Lies w2 _ _ _ _) := HL1.out.later hb2; have HO12 : Hid (World.ownsRow w2 _ _ _ _ _ _) := owns_later HO1.out.1 hb2; have HBV : Hid (Below w1.heap.size w1 w2) := hb2; have HB2 : Hid (Below W.heap.size W w2) := Below.after HB1.out hb2; clear hl2 hb2 ho2)
    | (go_at_call 12; refine (alive_any _ (HG.out.later HB2.out)).mono ?_; rintro e w3 ⟨rfl, hb3⟩; have HL13 : Hid (Lies w3 _ _ _ _) := HL12.out.later hb3; have HO13 : Hid (World.ownsRow w3 _ _ _ _ _ _) := owns_later HO12.out hb3; have HBY : Hid (Below w1.heap.size w1 w3) := Below.after HBV.out hb3; have HL23 : Hid (Lies w3 _ _ _ _) := HL2.out.later hb3; have HB3 : Hid (Below W.heap.size W w3) := Below.after HB2.out hb3; clear hb3)
    | (go_at_call 13; clear M1; refine (pc_some (HG.out.later HB3.out) HL13.out BC.out).mono ?_; rintro e w4 ⟨rfl, hb4⟩; have HL14 : Hid (Lies w4 _ _ _ _) := HL13.out.later hb4; have HO14 : Hid (World.ownsRow w4 _ _ _ _ _ _) := owns_later HO13.out hb4; have HBX : Hid (Below w1.heap.size w1 w4) := Below.after HBY.out hb4; have HL24 : Hid (Lies w4 _ _ _ _) := HL23.out.later hb4; have HB4 : Hid (Below W.heap.size W w4) := Below.after HB3.out hb4; clear hb4)
    | (go_at_call 15; clear M2; refine (pm_none (HG.out.later HB4.out) HL14.out XC.out).mono ?_; rintro e w5 ⟨rfl, hb5⟩; have HO15 : Hid (World.ownsRow w5 _ _ _ _ _ _) := owns_later HO14.out hb5; have hcell := img_cell (imgL_length _ _) HX.out HK2.out HO15.out; have hfr := img_frozen (k := at1) (imgL_length _ _) HO15.out; have HB5 : Hid (Below W.heap.size W w5) := Below.after HB4.out hb5; have hgl : g1 < w5.heap.size := Nat.lt_of_lt_of_le (own_lt HO1.out).2 (Nat.le_trans HBX.out.size hb5.size); have HL25 : Hid (Lies w5 _ _ _ _) := HL24.out.later hb5; clear hb5)
    | (go_at_call 13; clear BC hcell hfr; have hg1 := own_lt HO1.out; have hbs : Below W.heap.size W ((w5.setCell ⟨g1, at1, none⟩ (.int .u8 ((x ^^^ by1 : Nat) : Int))).alloc (.cells #[.int .i64 0, .int .u64 0, .int .i64 0] 30)) := Below.after (HB5.out.setCell hg1.1 _) (below_new _ _); have hgs : Glb ((w5.setCell ⟨g1, at1, none⟩ (.int .u8 ((x ^^^ by1 : Nat) : Int))).alloc (.cells #[.int .i64 0, .int .u64 0, .int .i64 0] 30)) := ((HG.out.later HB5.out).kept (other_kept w5 g1 at1 _) (fun e => by have := HG.out.lt; omega)).later (below_new _ _); refine (pc_none hgs (Lies.later (store_lies HO15.out (imgL_length _ _) (imgL_lt (countL_lt n) page) HZ.out HP2.out) (below_new _ _)) TC.out).mono ?_; rintro e w6 ⟨rfl, hb6⟩; have HL26 : Hid (Lies w6 _ _ _ _) := Lies.later (Lies.later (other_lies HL25.out (by have := (own_lt HO2.out).1; omega)) (below_new _ _)) hb6; have HB6 : Hid (Below W.heap.size W w6) := Below.after hbs hb6; clear hb6 hbs hgs)
    | (go_at_call 15; refine (pm_some (HG.out.later HB6.out) HL26.out BM.out).mono ?_; rintro e w7 ⟨rfl, hb7⟩; have HL28 : Hid (Lies (w7.alloc (.cells #[.int .i64 a1, .int .u64 a2, .int .i64 a3] 30)) _ _ _ _) := HL26.out.later (Below.after hb7 (below_new _ _)); have HB8 : Hid (Below W.heap.size W (w7.alloc (.cells #[.int .i64 a1, .int .u64 a2, .int .i64 a3] 30))) := Below.after (Below.after HB6.out hb7) (below_new _ _); clear hb7)
    | (go_at_call 13; refine (pc_none (HG.out.later HB8.out) HL28.out XM.out).mono ?_; rintro e w9 ⟨rfl, hb9⟩; have hrk := (Row.new w7 [.int .i64 (a1 : Int), .int .u64 (a2 : Int), .int .i64 (a3 : Int)] 30).later hb9; have HB9 : Hid (Below W.heap.size W w9) := Below.after HB8.out hb9; have hra := HA.out.later HB9.out; have d0 : w9.cell? ⟨w.heap.size, 0, none⟩ = some (.int .i64 a1) := hra.cell (i := 0) rfl; have d1 : w9.cell? ⟨w.heap.size, 1, none⟩ = some (.int .u64 a2) := hra.cell (i := 1) rfl; have d2 : w9.cell? ⟨w.heap.size, 2, none⟩ = some (.int .i64 a3) := hra.cell (i := 2) rfl; have f0 : w9.cell? ⟨w7.heap.size, 0, none⟩ = some (.int .i64 a1) := hrk.cell (i := 0) rfl; have f1 : w9.cell? ⟨w7.heap.size, 1, none⟩ = some (.int .u64 a2) := hrk.cell (i := 1) rfl; have f2 : w9.cell? ⟨w7.heap.size, 2, none⟩ = some (.int .i64 a3) := hrk.cell (i := 2) rfl; clear hb9 hrk hra))
  go_ret
  exact ⟨rfl, Below.after HB.out HB9.out⟩

set_option maxRecDepth 10000 in
set_option maxHeartbeats 4000000 in
theorem core_t_n (n page : Nat) (a1 a2 a3 : Int) (at1 by1 : Nat) (w : World) (hg : Glb w) (k1 : 2 ≤ at1) (k2 : at1 < page) (y1 : by1 < 256) (y2 : by1 ≠ 0) (hn : n ≤ 2147483647) (p1 : 64 ≤ page) (p2 : page ≤ 512)
    (c1 : ∀ w, Calls Tryd.prog 7 #[.int .i64 n, .int .i64 page] w (MadePost w (countL n) page))
    (c2 : ∀ w, Calls Tryd.prog 9 #[.agg #[.int .i64 a1, .int .u64 a2, .int .i64 a3], .int .i64 page] w (NoPost w)) :
    Calls Tryd.prog 5 #[.int .i64 n, .int .i64 page, .agg #[.int .i64 a1, .int .u64 a2, .int .i64 a3], .int .i64 at1, .int .u8 by1] w fun e w' => e = .returned (.bool true) ∧ Below w.heap.size w w' := by
  obtain ⟨W, hW⟩ : ∃ W, W = w.alloc (.cells #[.int .i64 a1, .int .u64 a2, .int .i64 a3] 24) := ⟨_, rfl⟩
  have HB : Hid (Below w.heap.size w W) := by rw [hW]; exact below_new _ _
  have HA : Hid (Row W w.heap.size [.int .i64 a1, .int .u64 a2, .int .i64 a3] 24) := by rw [hW]; exact Row.new w [_, _, _] _
  have HG : Hid (Glb W) := hg.later HB.out
  have BC : Hid (parseC (imgL (countL n) page) = some n) := back_c n page hn p1 p2
  have XC : Hid (parseM (imgL (countL n) page) = none) := cross_c n page p1 p2
  have e0 : ((n : Int) != (n : Int)) = false := by simp
  have e1 : ((page : Int) != (page : Int)) = false := by simp
  obtain ⟨x, hx⟩ : ∃ x, x = (imgL (countL n) page).getD at1 0 := ⟨_, rfl⟩
  have HX : Hid (x = (imgL (countL n) page).getD at1 0) := hx
  have hx256 : x < 256 := by
    rw [hx]
    exact imgL_lt (countL_lt n) page _ (by simp [List.getD]; rw [List.getElem?_eq_getElem (by rw [imgL_length]; exact k2)]; simp)
  have hxor := u8_xor_nat x by1 hx256 y1
  have HZ : Hid (x ^^^ by1 < 256) := xor_lt8 hx256 y1
  have TC : Hid (parseC ((imgL (countL n) page).set at1 (x ^^^ by1)) = none) := turned_c n page at1 (x ^^^ by1) p1 p2 k1 k2 HZ.out (by rw [← hx]; exact turned_ne y2)
  have HK2 : Hid (at1 < page) := k2
  have i1 : (2 : Int) ≤ (at1 : Int) := by omega
  have i2 : (at1 : Int) < (page : Int) := by omega
  have i3 : ((by1 : Int) != 0) = true := by simp; omega
  have i4 : ¬ ((by1 : Int) == 0) = true := by simp; omega
  clear hx y2
  have HP2 : Hid (page ≤ 512) := p2
  clear p1 p2
  clear hg hn
  have M1 : Hid True := trivial
  have M2 : Hid True := trivial
  go_enter Tryd.func5, Tryd.ntmps5
  go_wp2_with fail
  rw [← hW]
  clear hW
  go_wp2_with (first
    | (go_at_call 7; refine (c1 _).mono ?_; rintro e w1 ⟨g1, rfl, hl1, hb1, ho1⟩; have HL1 : Hid (Lies _ _ _ _ _) := hl1; have HB1 : Hid (Below W.heap.size W w1) := hb1; have HO1 : Hid (Own W w1 _ _) := ho1; clear hl1 hb1 ho1; have hra := HA.out.later HB1.out; have d0 : w1.cell? ⟨w.heap.size, 0, none⟩ = some (.int .i64 a1) := hra.cell (i := 0) rfl; have d1 : w1.cell? ⟨w.heap.size, 1, none⟩ = some (.int .u64 a2) := hra.cell (i := 1) rfl; have d2 : w1.cell? ⟨w.heap.size, 2, none⟩ = some (.int .i64 a3) := hra.cell (i := 2) rfl; clear hra)
    | (go_at_call 9; clear d0 d1 d2; refine (c2 _).mono ?_; rintro e w2 ⟨rfl, hb2⟩; have HL12 : Hid (Lies w2 _ _ _ _) := HL1.out.later hb2; have HO12 : Hid (World.ownsRow w2 _ _ _ _ _ _) := owns_later HO1.out.1 hb2; have HBV : Hid (Below w1.heap.size w1 w2) := hb2; have HB2 : Hid (Below W.heap.size W w2) := Below.after HB1.out hb2; clear hb2)
    | (go_at_call 12; refine (alive_any _ (HG.out.later HB2.out)).mono ?_; rintro e w3 ⟨rfl, hb3⟩; have HL13 : Hid (Lies w3 _ _ _ _) := HL12.out.later hb3; have HO13 : Hid (World.ownsRow w3 _ _ _ _ _ _) := owns_later HO12.out hb3; have HBY : Hid (Below w1.heap.size w1 w3) := Below.after HBV.out hb3; have HB3 : Hid (Below W.heap.size W w3) := Below.after HB2.out hb3; clear hb3)
    | (go_at_call 13; clear M1; refine (pc_some (HG.out.later HB3.out) HL13.out BC.out).mono ?_; rintro e w4 ⟨rfl, hb4⟩; have HL14 : Hid (Lies w4 _ _ _ _) := HL13.out.later hb4; have HO14 : Hid (World.ownsRow w4 _ _ _ _ _ _) := owns_later HO13.out hb4; have HBX : Hid (Below w1.heap.size w1 w4) := Below.after HBY.out hb4; have HB4 : Hid (Below W.heap.size W w4) := Below.after HB3.out hb4; clear hb4)
    | (go_at_call 15; clear M2; refine (pm_none (HG.out.later HB4.out) HL14.out XC.out).mono ?_; rintro e w5 ⟨rfl, hb5⟩; have HO15 : Hid (World.ownsRow w5 _ _ _ _ _ _) := owns_later HO14.out hb5; have hcell := img_cell (imgL_length _ _) HX.out HK2.out HO15.out; have hfr := img_frozen (k := at1) (imgL_length _ _) HO15.out; have HB5 : Hid (Below W.heap.size W w5) := Below.after HB4.out hb5; have hgl : g1 < w5.heap.size := Nat.lt_of_lt_of_le (own_lt HO1.out).2 (Nat.le_trans HBX.out.size hb5.size); clear hb5)
    | (go_at_call 13; clear BC hcell hfr; have hg1 := own_lt HO1.out; have hbs : Below W.heap.size W ((w5.setCell ⟨g1, at1, none⟩ (.int .u8 ((x ^^^ by1 : Nat) : Int))).alloc (.cells #[.int .i64 0, .int .u64 0, .int .i64 0] 30)) := Below.after (HB5.out.setCell hg1.1 _) (below_new _ _); have hgs : Glb ((w5.setCell ⟨g1, at1, none⟩ (.int .u8 ((x ^^^ by1 : Nat) : Int))).alloc (.cells #[.int .i64 0, .int .u64 0, .int .i64 0] 30)) := ((HG.out.later HB5.out).kept (other_kept w5 g1 at1 _) (fun e => by have := HG.out.lt; omega)).later (below_new _ _); refine (pc_none hgs (Lies.later (store_lies HO15.out (imgL_length _ _) (imgL_lt (countL_lt n) page) HZ.out HP2.out) (below_new _ _)) TC.out).mono ?_; rintro e w6 ⟨rfl, hb6⟩; have HB6 : Hid (Below W.heap.size W w6) := Below.after hbs hb6; clear hb6 hbs hgs))
  go_ret
  exact ⟨rfl, Below.after HB.out HB6.out⟩

set_option maxRecDepth 10000 in
set_option maxHeartbeats 4000000 in
theorem core_f1_y (n page : Nat) (a1 a2 a3 : Nat) (at1 by1 : Int) (w : World) (hg : Glb w) (i1 : at1 < 2) (hn : n ≤ 2147483647) (ha1 : a1 ≤ 255) (ha2 : a2 < 18446744073709551616) (ha3 : a3 ≤ 64) (p1 : 64 ≤ page) (p2 : page ≤ 512)
    (c1 : ∀ w, Calls Tryd.prog 7 #[.int .i64 n, .int .i64 page] w (MadePost w (countL n) page))
    (c2 : ∀ w, Calls Tryd.prog 9 #[.agg #[.int .i64 a1, .int .u64 a2, .int .i64 a3], .int .i64 page] w (MadePost w (mapL a1 a2 a3) page)) :
    Calls Tryd.prog 5 #[.int .i64 n, .int .i64 page, .agg #[.int .i64 a1, .int .u64 a2, .int .i64 a3], .int .i64 at1, .int .u8 by1] w fun e w' => e = .returned (.bool true) ∧ Below w.heap.size w w' := by
  obtain ⟨W, hW⟩ : ∃ W, W = w.alloc (.cells #[.int .i64 a1, .int .u64 a2, .int .i64 a3] 24) := ⟨_, rfl⟩
  have HB : Hid (Below w.heap.size w W) := by rw [hW]; exact below_new _ _
  have HA : Hid (Row W w.heap.size [.int .i64 a1, .int .u64 a2, .int .i64 a3] 24) := by rw [hW]; exact Row.new w [_, _, _] _
  have HG : Hid (Glb W) := hg.later HB.out
  have BC : Hid (parseC (imgL (countL n) page) = some n) := back_c n page hn p1 p2
  have XC : Hid (parseM (imgL (countL n) page) = none) := cross_c n page p1 p2
  have e0 : ((n : Int) != (n : Int)) = false := by simp
  have e1 : ((page : Int) != (page : Int)) = false := by simp
  have BM : Hid (parseM (imgL (mapL a1 a2 a3) page) = some (a1, a2, a3)) := back_m a1 a2 a3 page ha1 ha2 ha3 p1 p2
  have XM : Hid (parseC (imgL (mapL a1 a2 a3) page) = none) := cross_m a1 a2 a3 page p1 p2
  have q1 : ((a1 : Int) == (a1 : Int)) = true := by simp
  have q2 : ((a2 : Int) == (a2 : Int)) = true := by simp
  have q3 : ((a3 : Int) == (a3 : Int)) = true := by simp
  have HP2 : Hid (page ≤ 512) := p2
  clear p1 p2
  clear hg hn ha1 ha2 ha3
  have M1 : Hid True := trivial
  have M2 : Hid True := trivial
  go_enter Tryd.func5, Tryd.ntmps5
  go_wp2_with fail
  rw [← hW]
  clear hW
  go_wp2_with (first
    | (go_at_call 7; refine (c1 _).mono ?_; rintro e w1 ⟨g1, rfl, hl1, hb1, ho1⟩; have HL1 : Hid (Lies _ _ _ _ _) := hl1; have HB1 : Hid (Below W.heap.size W w1) := hb1; have HO1 : Hid (Own W w1 _ _) := ho1; clear hl1 hb1 ho1; have hra := HA.out.later HB1.out; have d0 : w1.cell? ⟨w.heap.size, 0, none⟩ = some (.int .i64 a1) := hra.cell (i := 0) rfl; have d1 : w1.cell? ⟨w.heap.size, 1, none⟩ = some (.int .u64 a2) := hra.cell (i := 1) rfl; have d2 : w1.cell? ⟨w.heap.size, 2, none⟩ = some (.int .i64 a3) := hra.cell (i := 2) rfl; clear hra)
    | (go_at_call 9; clear d0 d1 d2; refine (c2 _).mono ?_; rintro e w2 ⟨g2, rfl, hl2, hb2, ho2⟩; have HL2 : Hid (Lies _ _ _ _ _) := hl2; have HO2 : Hid (Own w1 w2 _ _) := ho2; have HL12 : Hid (Lies w2 _ _ _ _) := HL1.out.later hb2; have HO12 : Hid (World.ownsRow w2 _ _ _ _ _ _) := owns_later HO1.out.1 hb2; have HBV : Hid (Below w1.heap.size w1 w2) := hb2; have HB2 : Hid (Below W.heap.size W w2) := Below.after HB1.out hb2; clear hl2 hb2 ho2)
    | (go_at_call 12; refine (alive_any _ (HG.out.later HB2.out)).mono ?_; rintro e w3 ⟨rfl, hb3⟩; have HL13 : Hid (Lies w3 _ _ _ _) := HL12.out.later hb3; have HO13 : Hid (World.ownsRow w3 _ _ _ _ _ _) := owns_later HO12.out hb3; have HBY : Hid (Below w1.heap.size w1 w3) := Below.after HBV.out hb3; have HL23 : Hid (Lies w3 _ _ _ _) := HL2.out.later hb3; have HB3 : Hid (Below W.heap.size W w3) := Below.after HB2.out hb3; clear hb3)
    | (go_at_call 13; clear M1; refine (pc_some (HG.out.later HB3.out) HL13.out BC.out).mono ?_; rintro e w4 ⟨rfl, hb4⟩; have HL14 : Hid (Lies w4 _ _ _ _) := HL13.out.later hb4; have HO14 : Hid (World.ownsRow w4 _ _ _ _ _ _) := owns_later HO13.out hb4; have HBX : Hid (Below w1.heap.size w1 w4) := Below.after HBY.out hb4; have HL24 : Hid (Lies w4 _ _ _ _) := HL23.out.later hb4; have HB4 : Hid (Below W.heap.size W w4) := Below.after HB3.out hb4; clear hb4)
    | (go_at_call 15; clear M2; refine (pm_none (HG.out.later HB4.out) HL14.out XC.out).mono ?_; rintro e w5 ⟨rfl, hb5⟩; have HB5 : Hid (Below W.heap.size W (w5.alloc (.cells #[.int .i64 0, .int .u64 0, .int .i64 0] 30))) := Below.after (Below.after HB4.out hb5) (below_new _ _); have HL25 : Hid (Lies (w5.alloc (.cells #[.int .i64 0, .int .u64 0, .int .i64 0] 30)) _ _ _ _) := HL24.out.later (Below.after hb5 (below_new _ _)); clear hb5)
    | (go_at_call 15; refine (pm_some (HG.out.later HB5.out) HL25.out BM.out).mono ?_; rintro e w7 ⟨rfl, hb7⟩; have HL28 : Hid (Lies (w7.alloc (.cells #[.int .i64 a1, .int .u64 a2, .int .i64 a3] 30)) _ _ _ _) := HL25.out.later (Below.after hb7 (below_new _ _)); have HB8 : Hid (Below W.heap.size W (w7.alloc (.cells #[.int .i64 a1, .int .u64 a2, .int .i64 a3] 30))) := Below.after (Below.after HB5.out hb7) (below_new _ _); clear hb7)
    | (go_at_call 13; refine (pc_none (HG.out.later HB8.out) HL28.out XM.out).mono ?_; rintro e w9 ⟨rfl, hb9⟩; have hrk := (Row.new w7 [.int .i64 (a1 : Int), .int .u64 (a2 : Int), .int .i64 (a3 : Int)] 30).later hb9; have HB9 : Hid (Below W.heap.size W w9) := Below.after HB8.out hb9; have hra := HA.out.later HB9.out; have d0 : w9.cell? ⟨w.heap.size, 0, none⟩ = some (.int .i64 a1) := hra.cell (i := 0) rfl; have d1 : w9.cell? ⟨w.heap.size, 1, none⟩ = some (.int .u64 a2) := hra.cell (i := 1) rfl; have d2 : w9.cell? ⟨w.heap.size, 2, none⟩ = some (.int .i64 a3) := hra.cell (i := 2) rfl; have f0 : w9.cell? ⟨w7.heap.size, 0, none⟩ = some (.int .i64 a1) := hrk.cell (i := 0) rfl; have f1 : w9.cell? ⟨w7.heap.size, 1, none⟩ = some (.int .u64 a2) := hrk.cell (i := 1) rfl; have f2 : w9.cell? ⟨w7.heap.size, 2, none⟩ = some (.int .i64 a3) := hrk.cell (i := 2) rfl; clear hb9 hrk hra))
  go_ret
  exact ⟨rfl, Below.after HB.out HB9.out⟩

set_option maxRecDepth 10000 in
set_option maxHeartbeats 4000000 in
theorem core_f1_n (n page : Nat) (a1 a2 a3 : Int) (at1 by1 : Int) (w : World) (hg : Glb w) (i1 : at1 < 2) (hn : n ≤ 2147483647) (p1 : 64 ≤ page) (p2 : page ≤ 512)
    (c1 : ∀ w, Calls Tryd.prog 7 #[.int .i64 n, .int .i64 page] w (MadePost w (countL n) page))
    (c2 : ∀ w, Calls Tryd.prog 9 #[.agg #[.int .i64 a1, .int .u64 a2, .int .i64 a3], .int .i64 page] w (NoPost w)) :
    Calls Tryd.prog 5 #[.int .i64 n, .int .i64 page, .agg #[.int .i64 a1, .int .u64 a2, .int .i64 a3], .int .i64 at1, .int .u8 by1] w fun e w' => e = .returned (.bool true) ∧ Below w.heap.size w w' := by
  obtain ⟨W, hW⟩ : ∃ W, W = w.alloc (.cells #[.int .i64 a1, .int .u64 a2, .int .i64 a3] 24) := ⟨_, rfl⟩
  have HB : Hid (Below w.heap.size w W) := by rw [hW]; exact below_new _ _
  have HA : Hid (Row W w.heap.size [.int .i64 a1, .int .u64 a2, .int .i64 a3] 24) := by rw [hW]; exact Row.new w [_, _, _] _
  have HG : Hid (Glb W) := hg.later HB.out
  have BC : Hid (parseC (imgL (countL n) page) = some n) := back_c n page hn p1 p2
  have XC : Hid (parseM (imgL (countL n) page) = none) := cross_c n page p1 p2
  have e0 : ((n : Int) != (n : Int)) = false := by simp
  have e1 : ((page : Int) != (page : Int)) = false := by simp
  have HP2 : Hid (page ≤ 512) := p2
  clear p1 p2
  clear hg hn
  have M1 : Hid True := trivial
  have M2 : Hid True := trivial
  go_enter Tryd.func5, Tryd.ntmps5
  go_wp2_with fail
  rw [← hW]
  clear hW
  go_wp2_with (first
    | (go_at_call 7; refine (c1 _).mono ?_; rintro e w1 ⟨g1, rfl, hl1, hb1, ho1⟩; have HL1 : Hid (Lies _ _ _ _ _) := hl1; have HB1 : Hid (Below W.heap.size W w1) := hb1; have HO1 : Hid (Own W w1 _ _) := ho1; clear hl1 hb1 ho1; have hra := HA.out.later HB1.out; have d0 : w1.cell? ⟨w.heap.size, 0, none⟩ = some (.int .i64 a1) := hra.cell (i := 0) rfl; have d1 : w1.cell? ⟨w.heap.size, 1, none⟩ = some (.int .u64 a2) := hra.cell (i := 1) rfl; have d2 : w1.cell? ⟨w.heap.size, 2, none⟩ = some (.int .i64 a3) := hra.cell (i := 2) rfl; clear hra)
    | (go_at_call 9; clear d0 d1 d2; refine (c2 _).mono ?_; rintro e w2 ⟨rfl, hb2⟩; have HL12 : Hid (Lies w2 _ _ _ _) := HL1.out.later hb2; have HO12 : Hid (World.ownsRow w2 _ _ _ _ _ _) := owns_later HO1.out.1 hb2; have HBV : Hid (Below w1.heap.size w1 w2) := hb2; have HB2 : Hid (Below W.heap.size W w2) := Below.after HB1.out hb2; clear hb2)
    | (go_at_call 12; refine (alive_any _ (HG.out.later HB2.out)).mono ?_; rintro e w3 ⟨rfl, hb3⟩; have HL13 : Hid (Lies w3 _ _ _ _) := HL12.out.later hb3; have HO13 : Hid (World.ownsRow w3 _ _ _ _ _ _) := owns_later HO12.out hb3; have HBY : Hid (Below w1.heap.size w1 w3) := Below.after HBV.out hb3; have HB3 : Hid (Below W.heap.size W w3) := Below.after HB2.out hb3; clear hb3)
    | (go_at_call 13; clear M1; refine (pc_some (HG.out.later HB3.out) HL13.out BC.out).mono ?_; rintro e w4 ⟨rfl, hb4⟩; have HL14 : Hid (Lies w4 _ _ _ _) := HL13.out.later hb4; have HO14 : Hid (World.ownsRow w4 _ _ _ _ _ _) := owns_later HO13.out hb4; have HBX : Hid (Below w1.heap.size w1 w4) := Below.after HBY.out hb4; have HB4 : Hid (Below W.heap.size W w4) := Below.after HB3.out hb4; clear hb4)
    | (go_at_call 15; clear M2; refine (pm_none (HG.out.later HB4.out) HL14.out XC.out).mono ?_; rintro e w5 ⟨rfl, hb5⟩; have HB5 : Hid (Below W.heap.size W (w5.alloc (.cells #[.int .i64 0, .int .u64 0, .int .i64 0] 30))) := Below.after (Below.after HB4.out hb5) (below_new _ _); clear hb5))
  go_ret
  exact ⟨rfl, Below.after HB.out HB5.out⟩

set_option maxRecDepth 10000 in
set_option maxHeartbeats 4000000 in
theorem core_f2_y (n page : Nat) (a1 a2 a3 : Nat) (at1 by1 : Int) (w : World) (hg : Glb w) (i1 : ¬ at1 < 2) (i2 : (page : Int) ≤ at1) (hn : n ≤ 2147483647) (ha1 : a1 ≤ 255) (ha2 : a2 < 18446744073709551616) (ha3 : a3 ≤ 64) (p1 : 64 ≤ page) (p2 : page ≤ 512)
    (c1 : ∀ w, Calls Tryd.prog 7 #[.int .i64 n, .int .i64 page] w (MadePost w (countL n) page))
    (c2 : ∀ w, Calls Tryd.prog 9 #[.agg #[.int .i64 a1, .int .u64 a2, .int .i64 a3], .int .i64 page] w (MadePost w (mapL a1 a2 a3) page)) :
    Calls Tryd.prog 5 #[.int .i64 n, .int .i64 page, .agg #[.int .i64 a1, .int .u64 a2, .int .i64 a3], .int .i64 at1, .int .u8 by1] w fun e w' => e = .returned (.bool true) ∧ Below w.heap.size w w' := by
  obtain ⟨W, hW⟩ : ∃ W, W = w.alloc (.cells #[.int .i64 a1, .int .u64 a2, .int .i64 a3] 24) := ⟨_, rfl⟩
  have HB : Hid (Below w.heap.size w W) := by rw [hW]; exact below_new _ _
  have HA : Hid (Row W w.heap.size [.int .i64 a1, .int .u64 a2, .int .i64 a3] 24) := by rw [hW]; exact Row.new w [_, _, _] _
  have HG : Hid (Glb W) := hg.later HB.out
  have BC : Hid (parseC (imgL (countL n) page) = some n) := back_c n page hn p1 p2
  have XC : Hid (parseM (imgL (countL n) page) = none) := cross_c n page p1 p2
  have e0 : ((n : Int) != (n : Int)) = false := by simp
  have e1 : ((page : Int) != (page : Int)) = false := by simp
  have BM : Hid (parseM (imgL (mapL a1 a2 a3) page) = some (a1, a2, a3)) := back_m a1 a2 a3 page ha1 ha2 ha3 p1 p2
  have XM : Hid (parseC (imgL (mapL a1 a2 a3) page) = none) := cross_m a1 a2 a3 page p1 p2
  have q1 : ((a1 : Int) == (a1 : Int)) = true := by simp
  have q2 : ((a2 : Int) == (a2 : Int)) = true := by simp
  have q3 : ((a3 : Int) == (a3 : Int)) = true := by simp
  have HP2 : Hid (page ≤ 512) := p2
  clear p1 p2
  clear hg hn ha1 ha2 ha3
  have M1 : Hid True := trivial
  have M2 : Hid True := trivial
  go_enter Tryd.func5, Tryd.ntmps5
  go_wp2_with fail
  rw [← hW]
  clear hW
  go_wp2_with (first
    | (go_at_call 7; refine (c1 _).mono ?_; rintro e w1 ⟨g1, rfl, hl1, hb1, ho1⟩; have HL1 : Hid (Lies _ _ _ _ _) := hl1; have HB1 : Hid (Below W.heap.size W w1) := hb1; have HO1 : Hid (Own W w1 _ _) := ho1; clear hl1 hb1 ho1; have hra := HA.out.later HB1.out; have d0 : w1.cell? ⟨w.heap.size, 0, none⟩ = some (.int .i64 a1) := hra.cell (i := 0) rfl; have d1 : w1.cell? ⟨w.heap.size, 1, none⟩ = some (.int .u64 a2) := hra.cell (i := 1) rfl; have d2 : w1.cell? ⟨w.heap.size, 2, none⟩ = some (.int .i64 a3) := hra.cell (i := 2) rfl; clear hra)
    | (go_at_call 9; clear d0 d1 d2; refine (c2 _).mono ?_; rintro e w2 ⟨g2, rfl, hl2, hb2, ho2⟩; have HL2 : Hid (Lies _ _ _ _ _) := hl2; have HO2 : Hid (Own w1 w2 _ _) := ho2; have HL12 : Hid (Lies w2 _ _ _ _) := HL1.out.later hb2; have HO12 : Hid (World.ownsRow w2 _ _ _ _ _ _) := owns_later HO1.out.1 hb2; have HBV : Hid (Below w1.heap.size w1 w2) := hb2; have HB2 : Hid (Below W.heap.size W w2) := Below.after HB1.out hb2; clear hl2 hb2 ho2)
    | (go_at_call 12; refine (alive_any _ (HG.out.later HB2.out)).mono ?_; rintro e w3 ⟨rfl, hb3⟩; have HL13 : Hid (Lies w3 _ _ _ _) := HL12.out.later hb3; have HO13 : Hid (World.ownsRow w3 _ _ _ _ _ _) := owns_later HO12.out hb3; have HBY : Hid (Below w1.heap.size w1 w3) := Below.after HBV.out hb3; have HL23 : Hid (Lies w3 _ _ _ _) := HL2.out.later hb3; have HB3 : Hid (Below W.heap.size W w3) := Below.after HB2.out hb3; clear hb3)
    | (go_at_call 13; clear M1; refine (pc_some (HG.out.later HB3.out) HL13.out BC.out).mono ?_; rintro e w4 ⟨rfl, hb4⟩; have HL14 : Hid (Lies w4 _ _ _ _) := HL13.out.later hb4; have HO14 : Hid (World.ownsRow w4 _ _ _ _ _ _) := owns_later HO13.out hb4; have HBX : Hid (Below w1.heap.size w1 w4) := Below.after HBY.out hb4; have HL24 : Hid (Lies w4 _ _ _ _) := HL23.out.later hb4; have HB4 : Hid (Below W.heap.size W w4) := Below.after HB3.out hb4; clear hb4)
    | (go_at_call 15; clear M2; refine (pm_none (HG.out.later HB4.out) HL14.out XC.out).mono ?_; rintro e w5 ⟨rfl, hb5⟩; have HB5 : Hid (Below W.heap.size W (w5.alloc (.cells #[.int .i64 0, .int .u64 0, .int .i64 0] 30))) := Below.after (Below.after HB4.out hb5) (below_new _ _); have HL25 : Hid (Lies (w5.alloc (.cells #[.int .i64 0, .int .u64 0, .int .i64 0] 30)) _ _ _ _) := HL24.out.later (Below.after hb5 (below_new _ _)); clear hb5)
    | (go_at_call 15; refine (pm_some (HG.out.later HB5.out) HL25.out BM.out).mono ?_; rintro e w7 ⟨rfl, hb7⟩; have HL28 : Hid (Lies (w7.alloc (.cells #[.int .i64 a1, .int .u64 a2, .int .i64 a3] 30)) _ _ _ _) := HL25.out.later (Below.after hb7 (below_new _ _)); have HB8 : Hid (Below W.heap.size W (w7.alloc (.cells #[.int .i64 a1, .int .u64 a2, .int .i64 a3] 30))) := Below.after (Below.after HB5.out hb7) (below_new _ _); clear hb7)
    | (go_at_call 13; refine (pc_none (HG.out.later HB8.out) HL28.out XM.out).mono ?_; rintro e w9 ⟨rfl, hb9⟩; have hrk := (Row.new w7 [.int .i64 (a1 : Int), .int .u64 (a2 : Int), .int .i64 (a3 : Int)] 30).later hb9; have HB9 : Hid (Below W.heap.size W w9) := Below.after HB8.out hb9; have hra := HA.out.later HB9.out; have d0 : w9.cell? ⟨w.heap.size, 0, none⟩ = some (.int .i64 a1) := hra.cell (i := 0) rfl; have d1 : w9.cell? ⟨w.heap.size, 1, none⟩ = some (.int .u64 a2) := hra.cell (i := 1) rfl; have d2 : w9.cell? ⟨w.heap.size, 2, none⟩ = some (.int .i64 a3) := hra.cell (i := 2) rfl; have f0 : w9.cell? ⟨w7.heap.size, 0, none⟩ = some (.int .i64 a1) := hrk.cell (i := 0) rfl; have f1 : w9.cell? ⟨w7.heap.size, 1, none⟩ = some (.int .u64 a2) := hrk.cell (i := 1) rfl; have f2 : w9.cell? ⟨w7.heap.size, 2, none⟩ = some (.int .i64 a3) := hrk.cell (i := 2) rfl; clear hb9 hrk hra))
  go_ret
  exact ⟨rfl, Below.after HB.out HB9.out⟩

set_option maxRecDepth 10000 in
set_option maxHeartbeats 4000000 in
theorem core_f2_n (n page : Nat) (a1 a2 a3 : Int) (at1 by1 : Int) (w : World) (hg : Glb w) (i1 : ¬ at1 < 2) (i2 : (page : Int) ≤ at1) (hn : n ≤ 2147483647) (p1 : 64 ≤ page) (p2 : page ≤ 512)
    (c1 : ∀ w, Calls Tryd.prog 7 #[.int .i64 n, .int .i64 page] w (MadePost w (countL n) page))
    (c2 : ∀ w, Calls Tryd.prog 9 #[.agg #[.int .i64 a1, .int .u64 a2, .int .i64 a3], .int .i64 page] w (NoPost w)) :
    Calls Tryd.prog 5 #[.int .i64 n, .int .i64 page, .agg #[.int .i64 a1, .int .u64 a2, .int .i64 a3], .int .i64 at1, .int .u8 by1] w fun e w' => e = .returned (.bool true) ∧ Below w.heap.size w w' := by
  obtain ⟨W, hW⟩ : ∃ W, W = w.alloc (.cells #[.int .i64 a1, .int .u64 a2, .int .i64 a3] 24) := ⟨_, rfl⟩
  have HB : Hid (Below w.heap.size w W) := by rw [hW]; exact below_new _ _
  have HA : Hid (Row W w.heap.size [.int .i64 a1, .int .u64 a2, .int .i64 a3] 24) := by rw [hW]; exact Row.new w [_, _, _] _
  have HG : Hid (Glb W) := hg.later HB.out
  have BC : Hid (parseC (imgL (countL n) page) = some n) := back_c n page hn p1 p2
  have XC : Hid (parseM (imgL (countL n) page) = none) := cross_c n page p1 p2
  have e0 : ((n : Int) != (n : Int)) = false := by simp
  have e1 : ((page : Int) != (page : Int)) = false := by simp
  have HP2 : Hid (page ≤ 512) := p2
  clear p1 p2
  clear hg hn
  have M1 : Hid True := trivial
  have M2 : Hid True := trivial
  go_enter Tryd.func5, Tryd.ntmps5
  go_wp2_with fail
  rw [← hW]
  clear hW
  go_wp2_with (first
    | (go_at_call 7; refine (c1 _).mono ?_; rintro e w1 ⟨g1, rfl, hl1, hb1, ho1⟩; have HL1 : Hid (Lies _ _ _ _ _) := hl1; have HB1 : Hid (Below W.heap.size W w1) := hb1; have HO1 : Hid (Own W w1 _ _) := ho1; clear hl1 hb1 ho1; have hra := HA.out.later HB1.out; have d0 : w1.cell? ⟨w.heap.size, 0, none⟩ = some (.int .i64 a1) := hra.cell (i := 0) rfl; have d1 : w1.cell? ⟨w.heap.size, 1, none⟩ = some (.int .u64 a2) := hra.cell (i := 1) rfl; have d2 : w1.cell? ⟨w.heap.size, 2, none⟩ = some (.int .i64 a3) := hra.cell (i := 2) rfl; clear hra)
    | (go_at_call 9; clear d0 d1 d2; refine (c2 _).mono ?_; rintro e w2 ⟨rfl, hb2⟩; have HL12 : Hid (Lies w2 _ _ _ _) := HL1.out.later hb2; have HO12 : Hid (World.ownsRow w2 _ _ _ _ _ _) := owns_later HO1.out.1 hb2; have HBV : Hid (Below w1.heap.size w1 w2) := hb2; have HB2 : Hid (Below W.heap.size W w2) := Below.after HB1.out hb2; clear hb2)
    | (go_at_call 12; refine (alive_any _ (HG.out.later HB2.out)).mono ?_; rintro e w3 ⟨rfl, hb3⟩; have HL13 : Hid (Lies w3 _ _ _ _) := HL12.out.later hb3; have HO13 : Hid (World.ownsRow w3 _ _ _ _ _ _) := owns_later HO12.out hb3; have HBY : Hid (Below w1.heap.size w1 w3) := Below.after HBV.out hb3; have HB3 : Hid (Below W.heap.size W w3) := Below.after HB2.out hb3; clear hb3)
    | (go_at_call 13; clear M1; refine (pc_some (HG.out.later HB3.out) HL13.out BC.out).mono ?_; rintro e w4 ⟨rfl, hb4⟩; have HL14 : Hid (Lies w4 _ _ _ _) := HL13.out.later hb4; have HO14 : Hid (World.ownsRow w4 _ _ _ _ _ _) := owns_later HO13.out hb4; have HBX : Hid (Below w1.heap.size w1 w4) := Below.after HBY.out hb4; have HB4 : Hid (Below W.heap.size W w4) := Below.after HB3.out hb4; clear hb4)
    | (go_at_call 15; clear M2; refine (pm_none (HG.out.later HB4.out) HL14.out XC.out).mono ?_; rintro e w5 ⟨rfl, hb5⟩; have HB5 : Hid (Below W.heap.size W (w5.alloc (.cells #[.int .i64 0, .int .u64 0, .int .i64 0] 30))) := Below.after (Below.after HB4.out hb5) (below_new _ _); clear hb5))
  go_ret
  exact ⟨rfl, Below.after HB.out HB5.out⟩

set_option maxRecDepth 10000 in
set_option maxHeartbeats 4000000 in
theorem core_f3_y (n page : Nat) (a1 a2 a3 : Nat) (at1 : Int) (w : World) (hg : Glb w) (i1 : ¬ at1 < 2) (i2 : at1 < (page : Int)) (hn : n ≤ 2147483647) (ha1 : a1 ≤ 255) (ha2 : a2 < 18446744073709551616) (ha3 : a3 ≤ 64) (p1 : 64 ≤ page) (p2 : page ≤ 512)
    (c1 : ∀ w, Calls Tryd.prog 7 #[.int .i64 n, .int .i64 page] w (MadePost w (countL n) page))
    (c2 : ∀ w, Calls Tryd.prog 9 #[.agg #[.int .i64 a1, .int .u64 a2, .int .i64 a3], .int .i64 page] w (MadePost w (mapL a1 a2 a3) page)) :
    Calls Tryd.prog 5 #[.int .i64 n, .int .i64 page, .agg #[.int .i64 a1, .int .u64 a2, .int .i64 a3], .int .i64 at1, .int .u8 0] w fun e w' => e = .returned (.bool true) ∧ Below w.heap.size w w' := by
  obtain ⟨W, hW⟩ : ∃ W, W = w.alloc (.cells #[.int .i64 a1, .int .u64 a2, .int .i64 a3] 24) := ⟨_, rfl⟩
  have HB : Hid (Below w.heap.size w W) := by rw [hW]; exact below_new _ _
  have HA : Hid (Row W w.heap.size [.int .i64 a1, .int .u64 a2, .int .i64 a3] 24) := by rw [hW]; exact Row.new w [_, _, _] _
  have HG : Hid (Glb W) := hg.later HB.out
  have BC : Hid (parseC (imgL (countL n) page) = some n) := back_c n page hn p1 p2
  have XC : Hid (parseM (imgL (countL n) page) = none) := cross_c n page p1 p2
  have e0 : ((n : Int) != (n : Int)) = false := by simp
  have e1 : ((page : Int) != (page : Int)) = false := by simp
  have BM : Hid (parseM (imgL (mapL a1 a2 a3) page) = some (a1, a2, a3)) := back_m a1 a2 a3 page ha1 ha2 ha3 p1 p2
  have XM : Hid (parseC (imgL (mapL a1 a2 a3) page) = none) := cross_m a1 a2 a3 page p1 p2
  have q1 : ((a1 : Int) == (a1 : Int)) = true := by simp
  have q2 : ((a2 : Int) == (a2 : Int)) = true := by simp
  have q3 : ((a3 : Int) == (a3 : Int)) = true := by simp
  have HP2 : Hid (page ≤ 512) := p2
  clear p1 p2
  clear hg hn ha1 ha2 ha3
  have M1 : Hid True := trivial
  have M2 : Hid True := trivial
  go_enter Tryd.func5, Tryd.ntmps5
  go_wp2_with fail
  rw [← hW]
  clear hW
  go_wp2_with (first
    | (go_at_call 7; refine (c1 _).mono ?_; rintro e w1 ⟨g1, rfl, hl1, hb1, ho1⟩; have HL1 : Hid (Lies _ _ _ _ _) := hl1; have HB1 : Hid (Below W.heap.size W w1) := hb1; have HO1 : Hid (Own W w1 _ _) := ho1; clear hl1 hb1 ho1; have hra := HA.out.later HB1.out; have d0 : w1.cell? ⟨w.heap.size, 0, none⟩ = some (.int .i64 a1) := hra.cell (i := 0) rfl; have d1 : w1.cell? ⟨w.heap.size, 1, none⟩ = some (.int .u64 a2) := hra.cell (i := 1) rfl; have d2 : w1.cell? ⟨w.heap.size, 2, none⟩ = some (.int .i64 a3) := hra.cell (i := 2) rfl; clear hra)
    | (go_at_call 9; clear d0 d1 d2; refine (c2 _).mono ?_; rintro e w2 ⟨g2, rfl, hl2, hb2, ho2⟩; have HL2 : Hid (Lies _ _ _ _ _) := hl2; have HO2 : Hid (Own w1 w2 _ _) := ho2; have HL12 : Hid (Lies w2 _ _ _ _) := HL1.out.later hb2; have HO12 : Hid (World.ownsRow w2 _ _ _ _ _ _) := owns_later HO1.out.1 hb2; have HBV : Hid (Below w1.heap.size w1 w2) := hb2; have HB2 : Hid (Below W.heap.size W w2) := Below.after HB1.out hb2; clear hl2 hb2 ho2)
    | (go_at_call 12; refine (alive_any _ (HG.out.later HB2.out)).mono ?_; rintro e w3 ⟨rfl, hb3⟩; have HL13 : Hid (Lies w3 _ _ _ _) := HL12.out.later hb3; have HO13 : Hid (World.ownsRow w3 _ _ _ _ _ _) := owns_later HO12.out hb3; have HBY : Hid (Below w1.heap.size w1 w3) := Below.after HBV.out hb3; have HL23 : Hid (Lies w3 _ _ _ _) := HL2.out.later hb3; have HB3 : Hid (Below W.heap.size W w3) := Below.after HB2.out hb3; clear hb3)
    | (go_at_call 13; clear M1; refine (pc_some (HG.out.later HB3.out) HL13.out BC.out).mono ?_; rintro e w4 ⟨rfl, hb4⟩; have HL14 : Hid (Lies w4 _ _ _ _) := HL13.out.later hb4; have HO14 : Hid (World.ownsRow w4 _ _ _ _ _ _) := owns_later HO13.out hb4; have HBX : Hid (Below w1.heap.size w1 w4) := Below.after HBY.out hb4; have HL24 : Hid (Lies w4 _ _ _ _) := HL23.out.later hb4; have HB4 : Hid (Below W.heap.size W w4) := Below.after HB3.out hb4; clear hb4)
    | (go_at_call 15; clear M2; refine (pm_none (HG.out.later HB4.out) HL14.out XC.out).mono ?_; rintro e w5 ⟨rfl, hb5⟩; have HB5 : Hid (Below W.heap.size W (w5.alloc (.cells #[.int .i64 0, .int .u64 0, .int .i64 0] 30))) := Below.after (Below.after HB4.out hb5) (below_new _ _); have HL25 : Hid (Lies (w5.alloc (.cells #[.int .i64 0, .int .u64 0, .int .i64 0] 30)) _ _ _ _) := HL24.out.later (Below.after hb5 (below_new _ _)); clear hb5)
    | (go_at_call 15; refine (pm_some (HG.out.later HB5.out) HL25.out BM.out).mono ?_; rintro e w7 ⟨rfl, hb7⟩; have HL28 : Hid (Lies (w7.alloc (.cells #[.int .i64 a1, .int .u64 a2, .int .i64 a3] 30)) _ _ _ _) := HL25.out.later (Below.after hb7 (below_new _ _)); have HB8 : Hid (Below W.heap.size W (w7.alloc (.cells #[.int .i64 a1, .int .u64 a2, .int .i64 a3] 30))) := Below.after (Below.after HB5.out hb7) (below_new _ _); clear hb7)
    | (go_at_call 13; refine (pc_none (HG.out.later HB8.out) HL28.out XM.out).mono ?_; rintro e w9 ⟨rfl, hb9⟩; have hrk := (Row.new w7 [.int .i64 (a1 : Int), .int .u64 (a2 : Int), .int .i64 (a3 : Int)] 30).later hb9; have HB9 : Hid (Below W.heap.size W w9) := Below.after HB8.out hb9; have hra := HA.out.later HB9.out; have d0 : w9.cell? ⟨w.heap.size, 0, none⟩ = some (.int .i64 a1) := hra.cell (i := 0) rfl; have d1 : w9.cell? ⟨w.heap.size, 1, none⟩ = some (.int .u64 a2) := hra.cell (i := 1) rfl; have d2 : w9.cell? ⟨w.heap.size, 2, none⟩ = some (.int .i64 a3) := hra.cell (i := 2) rfl; have f0 : w9.cell? ⟨w7.heap.size, 0, none⟩ = some (.int .i64 a1) := hrk.cell (i := 0) rfl; have f1 : w9.cell? ⟨w7.heap.size, 1, none⟩ = some (.int .u64 a2) := hrk.cell (i := 1) rfl; have f2 : w9.cell? ⟨w7.heap.size, 2, none⟩ = some (.int .i64 a3) := hrk.cell (i := 2) rfl; clear hb9 hrk hra))
  go_ret
  exact ⟨rfl, Below.after HB.out HB9.out⟩

set_option maxRecDepth 10000 in
set_option maxHeartbeats 4000000 in
theorem core_f3_n (n page : Nat) (a1 a2 a3 : Int) (at1 : Int) (w : World) (hg : Glb w) (i1 : ¬ at1 < 2) (i2 : at1 < (page : Int)) (hn : n ≤ 2147483647) (p1 : 64 ≤ page) (p2 : page ≤ 512)
    (c1 : ∀ w, Calls Tryd.prog 7 #[.int .i64 n, .int .i64 page] w (MadePost w (countL n) page))
    (c2 : ∀ w, Calls Tryd.prog 9 #[.agg #[.int .i64 a1, .int .u64 a2, .int .i64 a3], .int .i64 page] w (NoPost w)) :
    Calls Tryd.prog 5 #[.int .i64 n, .int .i64 page, .agg #[.int .i64 a1, .int .u64 a2, .int .i64 a3], .int .i64 at1, .int .u8 0] w fun e w' => e = .returned (.bool true) ∧ Below w.heap.size w w' := by
  obtain ⟨W, hW⟩ : ∃ W, W = w.alloc (.cells #[.int .i64 a1, .int .u64 a2, .int .i64 a3] 24) := ⟨_, rfl⟩
  have HB : Hid (Below w.heap.size w W) := by rw [hW]; exact below_new _ _
  have HA : Hid (Row W w.heap.size [.int .i64 a1, .int .u64 a2, .int .i64 a3] 24) := by rw [hW]; exact Row.new w [_, _, _] _
  have HG : Hid (Glb W) := hg.later HB.out
  have BC : Hid (parseC (imgL (countL n) page) = some n) := back_c n page hn p1 p2
  have XC : Hid (parseM (imgL (countL n) page) = none) := cross_c n page p1 p2
  have e0 : ((n : Int) != (n : Int)) = false := by simp
  have e1 : ((page : Int) != (page : Int)) = false := by simp
  have HP2 : Hid (page ≤ 512) := p2
  clear p1 p2
  clear hg hn
  have M1 : Hid True := trivial
  have M2 : Hid True := trivial
  go_enter Tryd.func5, Tryd.ntmps5
  go_wp2_with fail
  rw [← hW]
  clear hW
  go_wp2_with (first
    | (go_at_call 7; refine (c1 _).mono ?_; rintro e w1 ⟨g1, rfl, hl1, hb1, ho1⟩; have HL1 : Hid (Lies _ _ _ _ _) := hl1; have HB1 : Hid (Below W.heap.size W w1) := hb1; have HO1 : Hid (Own W w1 _ _) := ho1; clear hl1 hb1 ho1; have hra := HA.out.later HB1.out; have d0 : w1.cell? ⟨w.heap.size, 0, none⟩ = some (.int .i64 a1) := hra.cell (i := 0) rfl; have d1 : w1.cell? ⟨w.heap.size, 1, none⟩ = some (.int .u64 a2) := hra.cell (i := 1) rfl; have d2 : w1.cell? ⟨w.heap.size, 2, none⟩ = some (.int .i64 a3) := hra.cell (i := 2) rfl; clear hra)
    | (go_at_call 9; clear d0 d1 d2; refine (c2 _).mono ?_; rintro e w2 ⟨rfl, hb2⟩; have HL12 : Hid (Lies w2 _ _ _ _) := HL1.out.later hb2; have HO12 : Hid (World.ownsRow w2 _ _ _ _ _ _) := owns_later HO1.out.1 hb2; have HBV : Hid (Below w1.heap.size w1 w2) := hb2; have HB2 : Hid (Below W.heap.size W w2) := Below.after HB1.out hb2; clear hb2)
    | (go_at_call 12; refine (alive_any _ (HG.out.later HB2.out)).mono ?_; rintro e w3 ⟨rfl, hb3⟩; have HL13 : Hid (Lies w3 _ _ _ _) := HL12.out.later hb3; have HO13 : Hid (World.ownsRow w3 _ _ _ _ _ _) := owns_later HO12.out hb3; have HBY : Hid (Below w1.heap.size w1 w3) := Below.after HBV.out hb3; have HB3 : Hid (Below W.heap.size W w3) := Below.after HB2.out hb3; clear hb3)
    | (go_at_call 13; clear M1; refine (pc_some (HG.out.later HB3.out) HL13.out BC.out).mono ?_; rintro e w4 ⟨rfl, hb4⟩; have HL14 : Hid (Lies w4 _ _ _ _) := HL13.out.later hb4; have HO14 : Hid (World.ownsRow w4 _ _ _ _ _ _) := owns_later HO13.out hb4; have HBX : Hid (Below w1.heap.size w1 w4) := Below.after HBY.out hb4; have HB4 : Hid (Below W.heap.size W w4) := Below.after HB3.out hb4; clear hb4)
    | (go_at_call 15; clear M2; refine (pm_none (HG.out.later HB4.out) HL14.out XC.out).mono ?_; rintro e w5 ⟨rfl, hb5⟩; have HB5 : Hid (Below W.heap.size W (w5.alloc (.cells #[.int .i64 0, .int .u64 0, .int .i64 0] 30))) := Below.after (Below.after HB4.out hb5) (below_new _ _); clear hb5))
  go_ret
  exact ⟨rfl, Below.after HB.out HB5.out⟩

set_option maxRecDepth 10000 in
set_option maxHeartbeats 4000000 in
theorem core_n_y (n : Int) (a1 a2 a3 : Nat) (page : Nat) (at1 by1 : Int) (w : World) (hg : Glb w) (ha1 : a1 ≤ 255) (ha2 : a2 < 18446744073709551616) (ha3 : a3 ≤ 64) (p1 : 64 ≤ page) (p2 : page ≤ 512)
    (c1 : ∀ w, Calls Tryd.prog 7 #[.int .i64 n, .int .i64 page] w (NoPost w))
    (c2 : ∀ w, Calls Tryd.prog 9 #[.agg #[.int .i64 a1, .int .u64 a2, .int .i64 a3], .int .i64 page] w (MadePost w (mapL a1 a2 a3) page)) :
    Calls Tryd.prog 5 #[.int .i64 n, .int .i64 page, .agg #[.int .i64 a1, .int .u64 a2, .int .i64 a3], .int .i64 at1, .int .u8 by1] w fun e w' => e = .returned (.bool true) ∧ Below w.heap.size w w' := by
  obtain ⟨W, hW⟩ : ∃ W, W = w.alloc (.cells #[.int .i64 a1, .int .u64 a2, .int .i64 a3] 24) := ⟨_, rfl⟩
  have HB : Hid (Below w.heap.size w W) := by rw [hW]; exact below_new _ _
  have HA : Hid (Row W w.heap.size [.int .i64 a1, .int .u64 a2, .int .i64 a3] 24) := by rw [hW]; exact Row.new w [_, _, _] _
  have HG : Hid (Glb W) := hg.later HB.out
  have BM : Hid (parseM (imgL (mapL a1 a2 a3) page) = some (a1, a2, a3)) := back_m a1 a2 a3 page ha1 ha2 ha3 p1 p2
  have XM : Hid (parseC (imgL (mapL a1 a2 a3) page) = none) := cross_m a1 a2 a3 page p1 p2
  have q1 : ((a1 : Int) == (a1 : Int)) = true := by simp
  have q2 : ((a2 : Int) == (a2 : Int)) = true := by simp
  have q3 : ((a3 : Int) == (a3 : Int)) = true := by simp
  have HP2 : Hid (page ≤ 512) := p2
  clear p1 p2
  clear hg ha1 ha2 ha3
  have M1 : Hid True := trivial
  have M2 : Hid True := trivial
  go_enter Tryd.func5, Tryd.ntmps5
  go_wp2_with fail
  rw [← hW]
  clear hW
  go_wp2_with (first
    | (go_at_call 7; refine (c1 _).mono ?_; rintro e w1 ⟨rfl, hb1⟩; have HB1 : Hid (Below W.heap.size W w1) := hb1; clear hb1; have hra := HA.out.later HB1.out; have d0 : w1.cell? ⟨w.heap.size, 0, none⟩ = some (.int .i64 a1) := hra.cell (i := 0) rfl; have d1 : w1.cell? ⟨w.heap.size, 1, none⟩ = some (.int .u64 a2) := hra.cell (i := 1) rfl; have d2 : w1.cell? ⟨w.heap.size, 2, none⟩ = some (.int .i64 a3) := hra.cell (i := 2) rfl; clear hra)
    | (go_at_call 9; clear d0 d1 d2; refine (c2 _).mono ?_; rintro e w2 ⟨g2, rfl, hl2, hb2, ho2⟩; have HL2 : Hid (Lies _ _ _ _ _) := hl2; have HO2 : Hid (Own w1 w2 _ _) := ho2; have HB2 : Hid (Below W.heap.size W w2) := Below.after HB1.out hb2; clear hl2 hb2 ho2)
    | (go_at_call 12; refine (alive_any _ (HG.out.later HB2.out)).mono ?_; rintro e w3 ⟨rfl, hb3⟩; have HL23 : Hid (Lies w3 _ _ _ _) := HL2.out.later hb3; have HB3 : Hid (Below W.heap.size W w3) := Below.after HB2.out hb3; clear hb3)
    | (go_at_call 15; refine (pm_some (HG.out.later HB3.out) HL23.out BM.out).mono ?_; rintro e w7 ⟨rfl, hb7⟩; have HL28 : Hid (Lies (w7.alloc (.cells #[.int .i64 a1, .int .u64 a2, .int .i64 a3] 30)) _ _ _ _) := HL23.out.later (Below.after hb7 (below_new _ _)); have HB8 : Hid (Below W.heap.size W (w7.alloc (.cells #[.int .i64 a1, .int .u64 a2, .int .i64 a3] 30))) := Below.after (Below.after HB3.out hb7) (below_new _ _); clear hb7)
    | (go_at_call 13; refine (pc_none (HG.out.later HB8.out) HL28.out XM.out).mono ?_; rintro e w9 ⟨rfl, hb9⟩; have hrk := (Row.new w7 [.int .i64 (a1 : Int), .int .u64 (a2 : Int), .int .i64 (a3 : Int)] 30).later hb9; have HB9 : Hid (Below W.heap.size W w9) := Below.after HB8.out hb9; have hra := HA.out.later HB9.out; have d0 : w9.cell? ⟨w.heap.size, 0, none⟩ = some (.int .i64 a1) := hra.cell (i := 0) rfl; have d1 : w9.cell? ⟨w.heap.size, 1, none⟩ = some (.int .u64 a2) := hra.cell (i := 1) rfl; have d2 : w9.cell? ⟨w.heap.size, 2, none⟩ = some (.int .i64 a3) := hra.cell (i := 2) rfl; have f0 : w9.cell? ⟨w7.heap.size, 0, none⟩ = some (.int .i64 a1) := hrk.cell (i := 0) rfl; have f1 : w9.cell? ⟨w7.heap.size, 1, none⟩ = some (.int .u64 a2) := hrk.cell (i := 1) rfl; have f2 : w9.cell? ⟨w7.heap.size, 2, none⟩ = some (.int .i64 a3) := hrk.cell (i := 2) rfl; clear hb9 hrk hra))
  go_ret
  exact ⟨rfl, Below.after HB.out HB9.out⟩

set_option maxRecDepth 10000 in
set_option maxHeartbeats 4000000 in
theorem core_n_n (n : Int) (a1 a2 a3 : Int) (page : Int) (at1 by1 : Int) (w : World) (hg : Glb w) 
    (c1 : ∀ w, Calls Tryd.prog 7 #[.int .i64 n, .int .i64 page] w (NoPost w))
    (c2 : ∀ w, Calls Tryd.prog 9 #[.agg #[.int .i64 a1, .int .u64 a2, .int .i64 a3], .int .i64 page] w (NoPost w)) :
    Calls Tryd.prog 5 #[.int .i64 n, .int .i64 page, .agg #[.int .i64 a1, .int .u64 a2, .int .i64 a3], .int .i64 at1, .int .u8 by1] w fun e w' => e = .returned (.bool true) ∧ Below w.heap.size w w' := by
  obtain ⟨W, hW⟩ : ∃ W, W = w.alloc (.cells #[.int .i64 a1, .int .u64 a2, .int .i64 a3] 24) := ⟨_, rfl⟩
  have HB : Hid (Below w.heap.size w W) := by rw [hW]; exact below_new _ _
  have HA : Hid (Row W w.heap.size [.int .i64 a1, .int .u64 a2, .int .i64 a3] 24) := by rw [hW]; exact Row.new w [_, _, _] _
  have HG : Hid (Glb W) := hg.later HB.out
  clear hg
  have M1 : Hid True := trivial
  have M2 : Hid True := trivial
  go_enter Tryd.func5, Tryd.ntmps5
  go_wp2_with fail
  rw [← hW]
  clear hW
  go_wp2_with (first
    | (go_at_call 7; refine (c1 _).mono ?_; rintro e w1 ⟨rfl, hb1⟩; have HB1 : Hid (Below W.heap.size W w1) := hb1; clear hb1; have hra := HA.out.later HB1.out; have d0 : w1.cell? ⟨w.heap.size, 0, none⟩ = some (.int .i64 a1) := hra.cell (i := 0) rfl; have d1 : w1.cell? ⟨w.heap.size, 1, none⟩ = some (.int .u64 a2) := hra.cell (i := 1) rfl; have d2 : w1.cell? ⟨w.heap.size, 2, none⟩ = some (.int .i64 a3) := hra.cell (i := 2) rfl; clear hra)
    | (go_at_call 9; clear d0 d1 d2; refine (c2 _).mono ?_; rintro e w2 ⟨rfl, hb2⟩; have HB2 : Hid (Below W.heap.size W w2) := Below.after HB1.out hb2; clear hb2)
    | (go_at_call 12; refine (alive_any _ (HG.out.later HB2.out)).mono ?_; rintro e w3 ⟨rfl, hb3⟩; have HB3 : Hid (Below W.heap.size W w3) := Below.after HB2.out hb3; clear hb3))
  go_ret
  exact ⟨rfl, Below.after HB.out HB3.out⟩

theorem walk (n page a1 a2 a3 at1 by1 : Int) (w : World) (hg : Glb w) (_hn : -9223372036854775808 ≤ n ∧ n ≤ 9223372036854775807) (_hp : -9223372036854775808 ≤ page ∧ page ≤ 9223372036854775807)
    (_ha1 : -9223372036854775808 ≤ a1 ∧ a1 ≤ 9223372036854775807) (ha2 : 0 ≤ a2 ∧ a2 ≤ 18446744073709551615) (_ha3 : -9223372036854775808 ≤ a3 ∧ a3 ≤ 9223372036854775807)
    (_hat : -9223372036854775808 ≤ at1 ∧ at1 ≤ 9223372036854775807) (hby : 0 ≤ by1 ∧ by1 ≤ 255) :
    Calls Tryd.prog 5 #[.int .i64 n, .int .i64 page, .agg #[.int .i64 a1, .int .u64 a2, .int .i64 a3], .int .i64 at1, .int .u8 by1] w fun e w' => e = .returned (.bool true) ∧ Below w.heap.size w w' := by
  by_cases hc : countOk n ∧ pageOk page
  · have hc' := hc
    obtain ⟨⟨n1, n2⟩, p1, p2⟩ := hc'
    obtain ⟨n', rfl⟩ : ∃ n' : Nat, n = n' := ⟨n.toNat, by omega⟩
    obtain ⟨p', rfl⟩ : ∃ p' : Nat, page = p' := ⟨page.toNat, by omega⟩
    have c1 := fun w => count_made n' p' w (by omega) (by omega) (by omega)
    by_cases hm : (lebOk a1 ∧ pagesOk a3) ∧ pageOk p'
    · obtain ⟨⟨⟨j1, j2⟩, j3, j4⟩, _⟩ := hm
      obtain ⟨a1', rfl⟩ : ∃ x : Nat, a1 = x := ⟨a1.toNat, by omega⟩
      obtain ⟨a2', rfl⟩ : ∃ x : Nat, a2 = x := ⟨a2.toNat, by omega⟩
      obtain ⟨a3', rfl⟩ : ∃ x : Nat, a3 = x := ⟨a3.toNat, by omega⟩
      have c2 := fun w => map_made a1' a2' a3' p' w (by omega) (by omega) (by omega) (by omega) (by omega)
      by_cases k1 : at1 < 2
      · exact core_f1_y n' p' a1' a2' a3' at1 by1 w hg k1 (by omega) (by omega) (by omega) (by omega) (by omega) (by omega) c1 c2
      · by_cases k2 : at1 < (p' : Int)
        · by_cases k3 : by1 = 0
          · subst k3
            exact core_f3_y n' p' a1' a2' a3' at1 w hg k1 k2 (by omega) (by omega) (by omega) (by omega) (by omega) (by omega) c1 c2
          · obtain ⟨at', rfl⟩ : ∃ x : Nat, at1 = x := ⟨at1.toNat, by omega⟩
            obtain ⟨by', rfl⟩ : ∃ x : Nat, by1 = x := ⟨by1.toNat, by omega⟩
            exact core_t_y n' p' a1' a2' a3' at' by' w hg (by omega) (by omega) (by omega) (by omega) (by omega) (by omega) (by omega) (by omega) (by omega) (by omega) c1 c2
        · exact core_f2_y n' p' a1' a2' a3' at1 by1 w hg k1 (by omega) (by omega) (by omega) (by omega) (by omega) (by omega) (by omega) c1 c2
    · have c2 : ∀ w, Calls Tryd.prog 9 #[.agg #[.int .i64 a1, .int .u64 a2, .int .i64 a3], .int .i64 (p' : Int)] w (NoPost w) := fun w => mapping_no a1 a2 a3 p' w hm
      by_cases k1 : at1 < 2
      · exact core_f1_n n' p' a1 a2 a3 at1 by1 w hg k1 (by omega) (by omega) (by omega) c1 c2
      · by_cases k2 : at1 < (p' : Int)
        · by_cases k3 : by1 = 0
          · subst k3
            exact core_f3_n n' p' a1 a2 a3 at1 w hg k1 k2 (by omega) (by omega) (by omega) c1 c2
          · obtain ⟨at', rfl⟩ : ∃ x : Nat, at1 = x := ⟨at1.toNat, by omega⟩
            obtain ⟨by', rfl⟩ : ∃ x : Nat, by1 = x := ⟨by1.toNat, by omega⟩
            exact core_t_n n' p' a1 a2 a3 at' by' w hg (by omega) (by omega) (by omega) (by omega) (by omega) (by omega) (by omega) c1 c2
        · exact core_f2_n n' p' a1 a2 a3 at1 by1 w hg k1 (by omega) (by omega) (by omega) (by omega) c1 c2
  · have c1 : ∀ w, Calls Tryd.prog 7 #[.int .i64 n, .int .i64 page] w (NoPost w) := fun w => count_no n page w hc
    by_cases hm : (lebOk a1 ∧ pagesOk a3) ∧ pageOk page
    · obtain ⟨⟨⟨j1, j2⟩, j3, j4⟩, p1, p2⟩ := hm
      obtain ⟨p', rfl⟩ : ∃ p' : Nat, page = p' := ⟨page.toNat, by omega⟩
      obtain ⟨a1', rfl⟩ : ∃ x : Nat, a1 = x := ⟨a1.toNat, by omega⟩
      obtain ⟨a2', rfl⟩ : ∃ x : Nat, a2 = x := ⟨a2.toNat, by omega⟩
      obtain ⟨a3', rfl⟩ : ∃ x : Nat, a3 = x := ⟨a3.toNat, by omega⟩
      have c2 := fun w => map_made a1' a2' a3' p' w (by omega) (by omega) (by omega) (by omega) (by omega)
      exact core_n_y n a1' a2' a3' p' at1 by1 w hg (by omega) (by omega) (by omega) (by omega) (by omega) c1 c2
    · exact core_n_n n a1 a2 a3 page at1 by1 w hg c1 (fun w => mapping_no a1 a2 a3 page w hm)

set_option maxRecDepth 100000 in
theorem contract (H : Type) (enc : TypeId × Value → H) (W : World) (base : Nat) (args : Array Value) (ds gs : List (DataW H)) (before : List MemPlace)
    (hval : ∀ (j : Nat) t v, Tryd.f5.params[j]? = some t → args[j]? = some v → Value.okWide Tryd.prog W .any base t v)
    (hW : DataW.Whole enc Tryd.prog Tryd.f5.params.toList Rows.headerBackSpec.vars false W args.toList ds gs before) (hL : laidMetH Tryd.prog laid W)
    : Calls Tryd.prog 5 args W fun e W' => ∃ v, e = .returned v ∧ Rows.headerBackSpec.post enc Tryd.prog Tryd.f5 false true false false W args v W' := by
  have hW' := hW
  obtain ⟨p, q, hA0, hV, rfl, hfz, hnd⟩ := hW
  have hA : DataW.TrodAll enc Tryd.prog W 0 (fun _ => true) true Tryd.f5.params.toList args.toList ds p := hA0
  rw [Tryd.params5] at hA hval
  obtain ⟨v0, vs0, d0, ds0, p0, q0, hargs, rfl, rfl, h0, r0⟩ := trodAll_cons hA
  obtain ⟨v1, vs1, d1, ds1, p1, q1, rfl, rfl, rfl, h1, r1⟩ := trodAll_cons r0
  obtain ⟨v2, vs2, d2, ds2, p2, q2, rfl, rfl, rfl, h2, r2⟩ := trodAll_cons r1
  obtain ⟨v3, vs3, d3, ds3, p3, q3, rfl, rfl, rfl, h3, r3⟩ := trodAll_cons r2
  obtain ⟨v4, vs4, d4, ds4, p4, q4, rfl, rfl, rfl, h4, r4⟩ := trodAll_cons r3
  obtain ⟨rfl, rfl, rfl⟩ := trodAll_nil r4
  obtain rfl : args = #[v0, v1, v2, v3, v4] := by cases args; simp_all
  obtain ⟨rfl, rfl⟩ := trodVars_none hV
  obtain ⟨a0, rfl, rfl, rfl, w0⟩ := open_int Tryd.underlying3 (hval 0 3 v0 rfl rfl) h0
  obtain ⟨a1, rfl, rfl, rfl, w1⟩ := open_int Tryd.underlying3 (hval 1 3 v1 rfl rfl) h1
  obtain ⟨cs2, rfl, sz2⟩ := okWide_struct Tryd.underlying24 (hval 2 24 v2 rfl rfl)
  have k2 := h2
  have lt2 : ∀ x ∈ p2, x.block < W.heap.size := by obtain ⟨m, hm⟩ := k2; exact DataW.trod_lt m _ _ _ hm
  obtain ⟨ma2, mb2, mc2, rfl, ha2, hb2, hc2⟩ : ∃ a b c, cs2 = #[.int .i64 a, .int .u64 b, .int .i64 c] ∧ (-9223372036854775808 ≤ a ∧ a ≤ 9223372036854775807) ∧ (0 ≤ b ∧ b ≤ 18446744073709551615) ∧ (-9223372036854775808 ≤ c ∧ c ≤ 9223372036854775807) := by
    obtain ⟨fuel, hf⟩ := h2
    exact marg_open sz2 hf
  obtain ⟨a3, rfl, rfl, rfl, w3⟩ := open_int Tryd.underlying3 (hval 3 3 v3 rfl rfl) h3
  obtain ⟨a4, rfl, rfl, rfl, w4⟩ := open_int Tryd.underlying5 (hval 4 5 v4 rfl rfl) h4
  clear hA0
  refine (walk a0 a1 ma2 mb2 mc2 a3 a4 W (glb_of hL) (bounds_i64 w0) (bounds_i64 w1) ha2 hb2 hc2 (bounds_i64 w3) (bounds_u8 w4)).mono fun e W' ⟨he, bel⟩ => ?_
  subst he
  exact ⟨_, rfl, _, _, _, [], _, [], hW', trodAll_mk1 (shut_bool Tryd.underlying4 _), (trodAll_cons_mk (shut_int Tryd.underlying3 w0) (trodAll_cons_mk (shut_int Tryd.underlying3 w1) (trodAll_cons_mk (Below.trod laidOut (by kernel_rfl) (of_decide_eq_true (by kernel_rfl)) k2 bel lt2) (trodAll_cons_mk (shut_int Tryd.underlying3 w3) (trodAll_cons_mk (shut_int Tryd.underlying5 w4) trodAll_mk0))))), rfl, bel.frame _, fun h => by cases h⟩

theorem reads (os : Os) {H : Type} (enc : TypeId × Value → H) : ∃ places, DataW.whole enc Tryd.prog ((laidWorld os).forCall (fun _ _ => 0) ⟨#[], #[.int .i64 0, .int .i64 0, .agg #[.int .i64 0, .int .u64 0, .int .i64 0], .int .i64 0, .int .u8 0], []⟩).memory Tryd.f5.params.toList Rows.headerBackSpec.vars false (#[.int .i64 0, .int .i64 0, .agg #[.int .i64 0, .int .u64 0, .int .i64 0], .int .i64 0, .int .u8 0] : Array Value).toList 8 = some ([.lit (.int .i64 0), .lit (.int .i64 0), .agg [.lit (.int .i64 0), .lit (.int .u64 0), .lit (.int .i64 0)], .lit (.int .i64 0), .lit (.int .u8 0)], [], places) :=
  ⟨[], by kernel_rfl⟩
set_option maxRecDepth 100000 in
theorem lifted (os : Os) (started : os.Started) (H : Type) (enc : TypeId × Value → H) (F : Stop.Interp) :
    ReturnsInHanded {} Tryd.checked os 5 .any ((OpenSpec.ofChange Rows.headerBackSpec).preRow enc Tryd.prog Tryd.f5 Rows.headerBackRow.domain false Rows.headerBackRow.laid) (((OpenSpec.ofChange Rows.headerBackSpec).at F).post enc Tryd.prog Tryd.f5 false true false false) := by
  obtain ⟨places, hx⟩ := reads os enc
  refine returnsInHanded_of_row (C := Tryd.checked) (s := OpenSpec.ofChange Rows.headerBackSpec) own started (by kernel_rfl) Tryd.func5
    (witness_row_at (enc := enc) (C := Tryd.checked) false (laidWorld os) #[.int .i64 0, .int .i64 0, .agg #[.int .i64 0, .int .u64 0, .int .i64 0], .int .i64 0, .int .u8 0] (laid_os os) (by kernel_rfl) (by kernel_rfl) (by kernel_rfl)
      (OpenSpec.preRow_of_cond 8 hx (by kernel_rfl) (fun k hk => by cases hk) (by kernel_rfl) (laid_met os _))) ?_
  intro W base args ds gs before hval hW _ _ hsz hL _ _
  exact contract H enc W base args ds gs before hval hW hL
theorem said : Rows.HeaderBackSaid :=
  OpenClaim.holds_of_cond 5 Tryd.f5 rfl rfl rfl rfl rfl rfl rfl ⟨rfl, rfl, rfl, rfl, rfl⟩ rfl rfl rfl rfl rfl (by kernel_rfl) Tryd.func5 (by kernel_rfl)
    (of_decide_eq_true (by kernel_rfl)) (by unfold Func.isWrapper; first | (rw [if_pos (by decide +kernel)]; kernel_rfl) | (rw [if_neg (by decide +kernel)]; exact ⟨rfl, rfl⟩))
    (fun os started H enc _ F => by rw [OpenClaim.pre_eq_preRow]; exact lifted os started H enc F)
set_option maxRecDepth 100000 in
theorem plain (f : FuncId) (fn : Func) (hf : Tryd.pinned.checked.prog.funcNamed "pumice/pumicelaw05.HeaderBack" = some f) (hfn : Tryd.pinned.checked.prog.funcs[f]? = some fn) :
    true = Tryd.pinned.checked.prog.looks [] ∧ ∀ (j : Nat) t, fn.params[j]? = some t → Tryd.pinned.checked.prog.wantsStandIn t = false := by
  obtain rfl : f = 5 := Option.some.inj ((show Tryd.prog.funcNamed "pumice/pumicelaw05.HeaderBack" = some 5 by kernel_rfl).symm.trans hf) |>.symm
  obtain rfl : fn = Tryd.f5 := (Option.some.inj (Tryd.func5.symm.trans hfn)).symm
  refine ⟨by kernel_rfl, fun j t ht => ?_⟩
  rw [Tryd.params5] at ht
  have hm : t = 3 ∨ t = 3 ∨ t = 24 ∨ t = 3 ∨ t = 5 := by simpa using Array.mem_of_getElem? ht
  rcases hm with rfl | rfl | rfl | rfl | rfl
  · exact (show Tryd.prog.wantsStandIn 3 = false by kernel_rfl)
  · exact (show Tryd.prog.wantsStandIn 3 = false by kernel_rfl)
  · exact (show Tryd.prog.wantsStandIn 24 = false by kernel_rfl)
  · exact (show Tryd.prog.wantsStandIn 3 = false by kernel_rfl)
  · exact (show Tryd.prog.wantsStandIn 5 = false by kernel_rfl)
theorem card : Rows.HeaderBackCardSaid :=
  Claim7.holds_tied_plain_at .later [] _ _ _ _ said (fun _ h => by cases h) (by kernel_rfl) (fun _ h => by cases h) headerBack_row_tie rfl ⟨rfl, rfl⟩ (by kernel_rfl) rfl plain (by kernel_rfl)
end Go.Proofs.YtdhbhjfpjmmonaaDoor.headerBack

namespace Go.Proofs.YtdhbhjfpjmmonaaDoor
theorem headerBack_holds : Rows.HeaderBackCardSaid := headerBack.card
#print axioms headerBack_holds
end Go.Proofs.YtdhbhjfpjmmonaaDoor
