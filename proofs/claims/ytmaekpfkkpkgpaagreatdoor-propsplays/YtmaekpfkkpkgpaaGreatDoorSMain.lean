/-
  symMerge, as it runs: any two sides.
-/
import Derived.Test.YtmaekpfkkpkgpaaGreatDoorSParts
namespace Go.Proofs.YtmaekpfkkpkgpaaGreatDoor
open Go.RowKit
set_option maxRecDepth 10000

/-- A merge of two sides, as it runs. -/
def SymOk (w : World) (g cap bb n : Nat) (T : Int → Int → Prop) (P X Y S : List Int) : Prop :=
  ∀ (W : World) (a m b : Nat), Dt w g (P ++ X ++ Y ++ S) W → a = P.length → m = P.length + X.length → b = P.length + X.length + Y.length →
    Calls Tryz.prog 75 #[.slice (some ⟨g, 0, none⟩) n cap, .int .i64 (a : Nat), .int .i64 (m : Nat), .int .i64 (b : Nat), cmpV bb] W fun e w' => e = .returned (.tuple #[]) ∧ ∃ Z, Mg T X Y Z ∧ Dt w g (P ++ Z ++ S) w'
theorem mg_e1 {T : Int → Int → Prop} {X Y : List Int} (hx : Sd T X) (hy : Sd T Y) (h : X.length = 0 ∨ Y.length = 0) : Mg T X Y (X ++ Y) := by
  rcases h with h | h
  · have e := List.eq_nil_of_length_eq_zero h
    subst e
    exact .right hy
  · have e := List.eq_nil_of_length_eq_zero h
    subst e
    rw [List.append_nil]
    exact .left hx
theorem no_rot {X Y : List Int} (h : X.length = 0 ∨ Y.length = 0) : X ++ Y = Y ++ X := by
  rcases h with h | h <;> (have e := List.eq_nil_of_length_eq_zero h; subst e; simp)
theorem Two.left {T lt : Int → Int → Prop} {U : List Int} {n : Nat} {P X1 X2 Y1 Y2 S : List Int} (h : Two T lt U n P (X1 ++ X2) (Y1 ++ Y2) S) (h1 : 1 ≤ X1.length) (h2 : 1 ≤ Y1.length) : Two T lt U n P X1 Y1 (X2 ++ Y2 ++ S) :=
  ⟨(sd_app.1 h.sx).1, (sd_app.1 h.sy).1, fun x hx y hy => h.cr x (by simp [hx]) y (by simp [hy]), fun u hu => h.iu u (by rcases List.mem_append.1 hu with q | q <;> simp [q]), by rw [← h.len]; simp; omega, h1, h2⟩
theorem Two.right {T lt : Int → Int → Prop} {U : List Int} {n : Nat} {P X1 X2 Y1 Y2 S Z1 : List Int} (h : Two T lt U n P (X1 ++ X2) (Y1 ++ Y2) S) (h1 : 1 ≤ X2.length) (h2 : 1 ≤ Y2.length) (hz : Z1.length = X1.length + Y1.length) : Two T lt U n (P ++ Z1) X2 Y2 S :=
  ⟨(sd_app.1 h.sx).2.1, (sd_app.1 h.sy).2.1, fun x hx y hy => h.cr x (by simp [hx]) y (by simp [hy]), fun u hu => h.iu u (by rcases List.mem_append.1 hu with q | q <;> simp [q]), by rw [← h.len]; simp; omega, h1, h2⟩
theorem Mg.len {T : Int → Int → Prop} {X Y Z : List Int} (h : Mg T X Y Z) : Z.length = X.length + Y.length := by
  rw [h.pm.length_eq]
  simp
set_option maxHeartbeats 16000000 in
theorem sym_main1 {w : World} {g cap bb n : Nat} {P X Y S : List Int} {T lt : Int → Int → Prop} {U : List Int} (hT : Ord T) (hc : Cmp w g U lt cmpF #[.pointer (some ⟨bb, 0, none⟩)]) (hn2 : n ≤ 256) (h2 : Two T lt U n P X Y S) (_hX : X.length ≠ 1) (hY : Y.length ≠ 1) (ih : ∀ P' X' Y' S', Two T lt U n P' X' Y' S' → X'.length + Y'.length < X.length + Y.length → SymOk w g cap bb n T P' X' Y' S') (W : World) (a m b : Nat) (h : Dt w g (P ++ X ++ Y ++ S) W) (ha : a = P.length) (hm : m = P.length + X.length) (hb : b = P.length + X.length + Y.length) (hgt : (a + b) / 2 < m) :
    Calls Tryz.prog 75 #[.slice (some ⟨g, 0, none⟩) n cap, .int .i64 (a : Nat), .int .i64 (m : Nat), .int .i64 (b : Nat), cmpV bb] W fun e w' => e = .returned (.tuple #[]) ∧ ∃ Z, Mg T X Y Z ∧ Dt w g (P ++ Z ++ S) w' := by
  have hlen := h2.len
  have hx1 := h2.x1
  have hy1 := h2.y1
  simp only [List.length_append] at hlen
  obtain ⟨d, hdd⟩ : ∃ d, d = P ++ X ++ Y ++ S := ⟨_, rfl⟩
  obtain ⟨mid, hmid⟩ : ∃ mid, mid = (a + b) / 2 := ⟨_, rfl⟩
  obtain ⟨lo, hlo⟩ : ∃ lo, lo = mid + m - b := ⟨_, rfl⟩
  obtain ⟨hi, hhi⟩ : ∃ hi, hi = mid := ⟨_, rfl⟩
  obtain ⟨nn, hnn⟩ : ∃ nn, nn = mid + m := ⟨_, rfl⟩
  obtain ⟨p, hp⟩ : ∃ p, p = mid + m - 1 := ⟨_, rfl⟩
  rw [← hmid] at hgt
  have e0 : ((m : Int) - (a : Int) == 1) = false := by simp; omega
  have e1 : ((b : Int) - (m : Int) == 1) = false := by simp; omega
  have i1 : ((a : Int) + (b : Int)) / 2 = (mid : Int) := by omega
  have i2 : (mid : Int) + (m : Int) = (nn : Int) := by omega
  have i3 : (nn : Int) - 1 = (p : Int) := by omega
  have i4 : (nn : Int) - (b : Int) = (lo : Int) := by omega
  have g0 : (mid : Int) < (m : Int) := by omega
  have hbi := h2.bi (mid := mid) (lo := lo) (hi := hi) ha hm hb (by omega) (by omega) (by omega) (by omega)
  rw [← hp, ← hdd] at hbi
  have hpa := fun s => h2.parts hT (mid := mid) (lo := lo) (hi := hi) (s := s) ha hm hb (by omega) (by omega) (by omega) (by omega) (by omega) (by omega)
  rw [← hp, ← hdd] at hpa
  rw [← hdd] at h
  have hab : a ≤ m := by omega
  have hbn : b ≤ n := by omega
  have hmb : m ≤ b := by omega
  have r1 : lo ≤ hi := by omega
  have r2 : hi ≤ m := by omega
  have r3 : hi ≤ mid := by omega
  have r4 : mid + m ≤ lo + b := by omega
  have r5 : mid ≤ b := by omega
  have r6 : a ≤ lo := by omega
  have hdl : d.length = n := by rw [hdd]; simp; omega
  have HDL := hidW hdl
  have HD := hidW h
  have HC := hidW hc
  have HT := hidW hT
  have HB := hidW hbi
  have HPA := hidW hpa
  have HI := hidW ih
  have H2 := hidW h2
  have HP := hidW (And.intro hdd (And.intro ha (And.intro hm hb)))
  have HG := hidW (And.intro hnn (And.intro hp (And.intro hlo hhi)))
  have HS0 := hidW (show Sr T d p lo hi lo hi from ⟨fun c x y q1 q2 => by omega, fun c x y q1 q2 => by omega⟩)
  clear h hdl hc hT hbi hpa ih h2 hdd ha hm hb hnn hp hlo hhi _hX hY hlen hx1 hy1 hmid hgt
  go_enter Tryz.func75, Tryz.ntmps75
  go_wp2_with fail
  go_loopw [20, 21] (fun s20 s21 wr => ∃ i j : Nat, s20 = .int .i64 (i : Int) ∧ s21 = .int .i64 (j : Int) ∧ lo ≤ i ∧ i ≤ j ∧ j ≤ hi ∧ Hid (Sr T d p lo hi i j) ∧ Hid (Dt w g d wr)) (fun s20 s21 _ => (intOf s21).toNat - (intOf s20).toNat)
  case atStart => exact ⟨lo, hi, by first | rfl | (have := HG.out; congr 2; omega), by first | rfl | (have := HG.out; congr 2; omega), Nat.le_refl _, r1, Nat.le_refl _, HS0, HD⟩
  case round =>
    obtain ⟨i, j, rfl, rfl, q0, q1, q2, HS1, HK⟩ := hrel
    by_cases hij : i < j
    · have hlt : (i : Int) < (j : Int) := by omega
      obtain ⟨z, hz⟩ : ∃ z, z = (i + j) / 2 := ⟨_, rfl⟩
      have hz1 : i ≤ z := by omega
      have hz2 : z < j := by omega
      obtain ⟨x, y, hx, hy, hxu, hyu, hlt2, hne, k1, k2, k3⟩ := HB.out.at_ z (by omega) (by omega)
      have hdl := HDL.out
      obtain ⟨t, ht⟩ : ∃ t, t = p - z := ⟨_, rfl⟩
      rw [← ht] at hy k3
      have hS := HK.out.two hx hy
      have HX1 := hidW hx
      have HY1 := hidW hy
      have HU1 := hidW (And.intro hyu hxu)
      have hh : ((i : Int) + (j : Int)) / 2 = (z : Int) := by omega
      have hh2 : (p : Int) - (z : Int) = (t : Int) := by omega
      have hw2 : IntKind.i64.wrap ((p : Int) - (z : Int)) = (t : Int) := by rw [IntKind.wrap_i64]; omega
      have hw3 : IntKind.i64.wrap (t : Int) = (t : Int) := by rw [IntKind.wrap_i64]; omega
      have hw4 : (0 : Int) ≤ (t : Int) := by omega
      have n1 : (z : Int) < (n : Int) := by omega
      have n2 : (t : Int) < (n : Int) := by omega
      have HQ := hidW (And.intro hz1 (And.intro hz2 (And.intro hlt2 (And.intro hne ht))))
      clear hij hz hz1 hz2 hx hy hxu hyu hlt2 hne k1 k2 k3 ht hdl
      go_wp2_with fail
      go_region_held3 (fun w' => Dt w g d w' ∧ w'.cell? ⟨g, z, none⟩ = some (.int .i64 x) ∧ w'.cell? ⟨g, t, none⟩ = some (.int .i64 y)) (first | assumption | exact Dt.two (Dt.later (And.left ‹Dt _ _ _ _ ∧ _›) (Below.refl _ _).drew) HX1.out HY1.out | exact Dt.two ‹Dt _ _ _ _› HX1.out HY1.out)
        (first
        | (go_at_call 51; refine (HC.out.at (And.left ‹Dt _ _ _ _ ∧ _›) HU1.out.1 HU1.out.2).mono ?_; rintro e w' ⟨c, rfl, hcl, hdt⟩))
      by_cases hc0 : c < 0
      · have HN := hidW (show Sr T d p lo hi i z from HS1.out.back HT.out HB.out (by have := HQ.out; omega) HX1.out (by rw [← HQ.out.2.2.2.2]; exact HY1.out) (HQ.out.2.2.1.1 (hcl.1 hc0)))
        go_wp2
        all_goals (try (exfalso; first | (have hq := ‹(!decide (c < 0)) = true›; simp [hc0] at hq; done) | (have hq := ‹(!decide (c < 0)) = false›; simp [hc0] at hq; done) | (have hq := ‹¬ (!decide (c < 0)) = true›; simp [hc0] at hq; done)))
        go_roundw
        case rel => exact ⟨i, z, by first | rfl | go_num, by first | rfl | go_num, q0, HQ.out.1, by have := HQ.out; omega, HN, hdt⟩
        case measure => have := HQ.out; simp [intOf]; omega
      · have HN := hidW (show Sr T d p lo hi (z + 1) j from HS1.out.go HT.out HB.out HQ.out.1 (by have := HQ.out; omega) HX1.out (by rw [← HQ.out.2.2.2.2]; exact HY1.out) (by
          rcases HT.out.tt y x HQ.out.2.2.2.1 with h2 | h2
          · exact absurd (hcl.2 (HQ.out.2.2.1.2 h2)) hc0
          · exact h2))
        go_wp2
        all_goals (try (exfalso; first | (have hq := ‹(!decide (c < 0)) = true›; simp [hc0] at hq; done) | (have hq := ‹(!decide (c < 0)) = false›; simp [hc0] at hq; done) | (have hq := ‹¬ (!decide (c < 0)) = true›; simp [hc0] at hq; done)))
        go_roundw
        case rel => exact ⟨z + 1, j, by first | rfl | go_num, by first | rfl | go_num, by have := HQ.out; omega, HQ.out.2.1, q2, HN, hdt⟩
        case measure => have := HQ.out; simp [intOf]; omega
    · have hlt : ¬ (i : Int) < (j : Int) := by omega
      have hji : j = i := by omega
      subst hji
      obtain ⟨X1, X2, Y1, Y2, rfl, rfl, l1, l2, hcross⟩ := HPA.out j HS1.out q0 q2
      obtain ⟨en, hen⟩ : ∃ en, en = nn - j := ⟨_, rfl⟩
      have hP := HP.out
      have hG := HG.out
      have h22 := H2.out
      simp only [List.length_append] at hP
      have i5 : (nn : Int) - (j : Int) = (en : Int) := by omega
      have hdE := HK.out
      rw [hP.1] at hdE
      have l3 : j + X2.length = m := by omega
      have l4 : m + Y1.length = en := by omega
      have l5 : en + Y2.length = b := by omega
      have HX := hidW (And.intro hcross (And.intro h22 (And.intro hP.2.1 (And.intro l1 (And.intro l2 (And.intro l3 (And.intro l4 l5)))))))
      have HE := hidW hdE
      have HSX := hidW (And.intro (sd_app.1 h22.sx) (sd_app.1 h22.sy))
      have HLN := hidW (show P.length + (X1.length + X2.length) + (Y1.length + Y2.length) + S.length = n by have := h22.len; simp only [List.length_append] at this; omega)
      have hx2 : 1 ≤ X1.length + X2.length := by have := h22.x1; simp only [List.length_append] at this; omega
      have hy2 : 1 ≤ Y1.length + Y2.length := by have := h22.y1; simp only [List.length_append] at this; omega
      clear hP hG h22 hdE hcross HP HG HPA HB HS0 HS1 HD HK hij hen H2
      by_cases bX1 : 1 ≤ X1.length
      · by_cases bX2 : 1 ≤ X2.length
        · by_cases bY1 : 1 ≤ Y1.length
          · by_cases bY2 : 1 ≤ Y2.length
            · have f1 : (a : Int) < (j : Int) := by omega
              have f2 : (j : Int) < (m : Int) := by omega
              have f3 : (mid : Int) < (en : Int) := by omega
              have f4 : (m : Int) < (en : Int) := by omega
              have f5 : (j : Int) < (mid : Int) := by omega
              have f6 : (en : Int) < (b : Int) := by omega
              have kR := rot_any (cap := cap) (P := P ++ X1) (X := X2) (Y := Y1) (S := Y2 ++ S) (w := w) (g := g) (W := wr) (by have := HE.out; simpa only [List.append_assoc] using this) (cmpV bb) (by have := HLN.out; simp; omega) (by omega) (by omega) n j m en (by have := HLN.out; simp; omega) (by have := HX.out.2.2.1; simp; omega) (by have := HX.out.2.2.1; simp; omega) (by have := HX.out.2.2.1; simp; omega)
              have MR : Hid True := trivial
              have HA := hidW (HI.out P X1 Y1 (X2 ++ Y2 ++ S) (HX.out.2.1.left (by omega) (by omega)) (by simp only [List.length_append]; omega))
              have MA : Hid True := trivial
              go_wp2_with (first
                  | (go_at_call 81; refine kR.mono ?_; rintro e v1 ⟨rfl, hd1⟩; have HD1 := hidW (show Dt w g (P ++ X1 ++ Y1 ++ (X2 ++ Y2 ++ S)) v1 by simpa only [List.append_assoc] using hd1); clear hd1)
                  | (clear MA; go_at_call 75; refine (HA.out _ a j mid HD1.out HX.out.2.2.1 (by have := HX.out; omega) (by have := HX.out; omega)).mono ?_; rintro e v2 ⟨rfl, Z1, hz1, hd2⟩; have HD2 := hidW (show Dt w g (P ++ Z1 ++ X2 ++ Y2 ++ S) v2 by simpa only [List.append_assoc] using hd2); have HZ1 := hidW hz1; clear hd2 hz1)
                  | (go_at_call 75; have kB := HI.out (P ++ Z1) X2 Y2 S (HX.out.2.1.right (by omega) (by omega) HZ1.out.len) (by simp only [List.length_append]; omega); refine (kB _ mid en b HD2.out (by have := HX.out; have := HZ1.out.len; simp only [List.length_append]; omega) (by have := HX.out; have := HZ1.out.len; simp only [List.length_append]; omega) (by have := HX.out; have := HZ1.out.len; simp only [List.length_append]; omega)).mono ?_; rintro e v3 ⟨rfl, Z2, hz2, hd3⟩; have HD3 := hidW (show Dt w g (P ++ (Z1 ++ Z2) ++ S) v3 by simpa only [List.append_assoc] using hd3); have HZ2 := hidW hz2; clear hd3 hz2 kB))
              all_goals go_end0
              all_goals exact ⟨rfl, Z1 ++ Z2, HZ1.out.two HZ2.out HX.out.1, HD3.out⟩
            · have f1 : (a : Int) < (j : Int) := by omega
              have f2 : (j : Int) < (m : Int) := by omega
              have f3 : (mid : Int) < (en : Int) := by omega
              have f4 : (m : Int) < (en : Int) := by omega
              have f5 : (j : Int) < (mid : Int) := by omega
              have f6 : ¬ (en : Int) < (b : Int) := by omega
              have kR := rot_any (cap := cap) (P := P ++ X1) (X := X2) (Y := Y1) (S := Y2 ++ S) (w := w) (g := g) (W := wr) (by have := HE.out; simpa only [List.append_assoc] using this) (cmpV bb) (by have := HLN.out; simp; omega) (by omega) (by omega) n j m en (by have := HLN.out; simp; omega) (by have := HX.out.2.2.1; simp; omega) (by have := HX.out.2.2.1; simp; omega) (by have := HX.out.2.2.1; simp; omega)
              have MR : Hid True := trivial
              have HA := hidW (HI.out P X1 Y1 (X2 ++ Y2 ++ S) (HX.out.2.1.left (by omega) (by omega)) (by simp only [List.length_append]; omega))
              have MA : Hid True := trivial
              go_wp2_with (first
                  | (go_at_call 81; refine kR.mono ?_; rintro e v1 ⟨rfl, hd1⟩; have HD1 := hidW (show Dt w g (P ++ X1 ++ Y1 ++ (X2 ++ Y2 ++ S)) v1 by simpa only [List.append_assoc] using hd1); clear hd1)
                  | (clear MA; go_at_call 75; refine (HA.out _ a j mid HD1.out HX.out.2.2.1 (by have := HX.out; omega) (by have := HX.out; omega)).mono ?_; rintro e v2 ⟨rfl, Z1, hz1, hd2⟩; have HD2 := hidW (show Dt w g (P ++ Z1 ++ X2 ++ Y2 ++ S) v2 by simpa only [List.append_assoc] using hd2); have HZ1 := hidW hz1; clear hd2 hz1))
              all_goals go_end0
              all_goals refine ⟨rfl, Z1 ++ (X2 ++ Y2), HZ1.out.two (mg_e1 HSX.out.1.2.1 HSX.out.2.2.1 (by omega)) HX.out.1, ?_⟩
              all_goals (have := HD2.out; simpa only [List.append_assoc] using this)
          · by_cases bY2 : 1 ≤ Y2.length
            · have f1 : (a : Int) < (j : Int) := by omega
              have f2 : (j : Int) < (m : Int) := by omega
              have f3 : (mid : Int) < (en : Int) := by omega
              have f4 : ¬ (m : Int) < (en : Int) := by omega
              have f5 : ¬ (j : Int) < (mid : Int) := by omega
              have f6 : (en : Int) < (b : Int) := by omega
              have HD1 := hidW (show Dt w g (P ++ X1 ++ Y1 ++ (X2 ++ Y2 ++ S)) wr by have := HE.out; have e := no_rot (X := X2) (Y := Y1) (by omega); rw [show P ++ (X1 ++ X2) ++ (Y1 ++ Y2) ++ S = P ++ X1 ++ (X2 ++ Y1) ++ Y2 ++ S by simp, e] at this; simpa only [List.append_assoc] using this)
              obtain ⟨Z1, hZ1⟩ : ∃ Z1, Z1 = X1 ++ Y1 := ⟨_, rfl⟩
              have HZ1 := hidW (show Mg T X1 Y1 Z1 by rw [hZ1]; exact mg_e1 HSX.out.1.1 HSX.out.2.1 (by omega))
              have HZZ := hidW (fun v (q : Dt w g (P ++ X1 ++ Y1 ++ (X2 ++ Y2 ++ S)) v) => show Dt w g (P ++ Z1 ++ X2 ++ Y2 ++ S) v by rw [hZ1]; simpa only [List.append_assoc] using q)
              clear hZ1
              go_wp2_with (first
                  | (go_at_call 75; have kB := HI.out (P ++ Z1) X2 Y2 S (HX.out.2.1.right (by omega) (by omega) HZ1.out.len) (by simp only [List.length_append]; omega); refine (kB _ mid en b (HZZ.out _ HD1.out) (by have := HX.out; have := HZ1.out.len; simp only [List.length_append]; omega) (by have := HX.out; have := HZ1.out.len; simp only [List.length_append]; omega) (by have := HX.out; have := HZ1.out.len; simp only [List.length_append]; omega)).mono ?_; rintro e v3 ⟨rfl, Z2, hz2, hd3⟩; have HD3 := hidW (show Dt w g (P ++ (Z1 ++ Z2) ++ S) v3 by simpa only [List.append_assoc] using hd3); have HZ2 := hidW hz2; clear hd3 hz2 kB))
              all_goals go_end0
              all_goals exact ⟨rfl, Z1 ++ Z2, HZ1.out.two HZ2.out HX.out.1, HD3.out⟩
            · exact absurd hy2 (by omega)
        · by_cases bY1 : 1 ≤ Y1.length
          · by_cases bY2 : 1 ≤ Y2.length
            · exfalso
              omega
            · exfalso
              omega
          · by_cases bY2 : 1 ≤ Y2.length
            · exfalso
              omega
            · exact absurd hy2 (by omega)
      · by_cases bX2 : 1 ≤ X2.length
        · by_cases bY1 : 1 ≤ Y1.length
          · by_cases bY2 : 1 ≤ Y2.length
            · exfalso
              omega
            · have f1 : ¬ (a : Int) < (j : Int) := by omega
              have f2 : (j : Int) < (m : Int) := by omega
              have f3 : (mid : Int) < (en : Int) := by omega
              have f4 : (m : Int) < (en : Int) := by omega
              have f5 : (j : Int) < (mid : Int) := by omega
              have f6 : ¬ (en : Int) < (b : Int) := by omega
              have kR := rot_any (cap := cap) (P := P ++ X1) (X := X2) (Y := Y1) (S := Y2 ++ S) (w := w) (g := g) (W := wr) (by have := HE.out; simpa only [List.append_assoc] using this) (cmpV bb) (by have := HLN.out; simp; omega) (by omega) (by omega) n j m en (by have := HLN.out; simp; omega) (by have := HX.out.2.2.1; simp; omega) (by have := HX.out.2.2.1; simp; omega) (by have := HX.out.2.2.1; simp; omega)
              have MR : Hid True := trivial
              obtain ⟨Z1, hZ1⟩ : ∃ Z1, Z1 = X1 ++ Y1 := ⟨_, rfl⟩
              have HZ1 := hidW (show Mg T X1 Y1 Z1 by rw [hZ1]; exact mg_e1 HSX.out.1.1 HSX.out.2.1 (by omega))
              have HZZ := hidW (fun v (q : Dt w g (P ++ X1 ++ Y1 ++ (X2 ++ Y2 ++ S)) v) => show Dt w g (P ++ Z1 ++ X2 ++ Y2 ++ S) v by rw [hZ1]; simpa only [List.append_assoc] using q)
              clear hZ1
              go_wp2_with (first
                  | (go_at_call 81; refine kR.mono ?_; rintro e v1 ⟨rfl, hd1⟩; have HD1 := hidW (show Dt w g (P ++ X1 ++ Y1 ++ (X2 ++ Y2 ++ S)) v1 by simpa only [List.append_assoc] using hd1); clear hd1))
              all_goals go_end0
              all_goals refine ⟨rfl, Z1 ++ (X2 ++ Y2), HZ1.out.two (mg_e1 HSX.out.1.2.1 HSX.out.2.2.1 (by omega)) HX.out.1, ?_⟩
              all_goals (have := (HZZ.out _ HD1.out); simpa only [List.append_assoc] using this)
          · by_cases bY2 : 1 ≤ Y2.length
            · exfalso
              omega
            · exact absurd hy2 (by omega)
        · by_cases bY1 : 1 ≤ Y1.length
          · by_cases bY2 : 1 ≤ Y2.length
            · exact absurd hx2 (by omega)
            · exact absurd hx2 (by omega)
          · by_cases bY2 : 1 ≤ Y2.length
            · exact absurd hx2 (by omega)
            · exact absurd hx2 (by omega)
end Go.Proofs.YtmaekpfkkpkgpaaGreatDoor
