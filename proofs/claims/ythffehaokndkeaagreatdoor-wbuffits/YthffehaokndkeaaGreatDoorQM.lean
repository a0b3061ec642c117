/-
  Fits: what it answers, the code's and the document's.
  Fits of the document.
-/
import Derived.Test.YthffehaokndkeaaGreatDoorQC
namespace Go.Proofs.YthffehaokndkeaaGreatDoor
open Go.RowKit
set_option maxRecDepth 10000

/-- A list of numbers, as it lies. -/
def NumsAt (w : World) (a : Option Addr) (l : List Int) : Prop :=
  l = [] ∨ ∃ b off, a = some ⟨b, off, none⟩ ∧ ∀ (i : Nat) (x : Int), l[i]? = some x → w.cell? ⟨b, off + i, none⟩ = some (.int .i64 x)
theorem NumsAt.later {w w' : World} {a : Option Addr} {l : List Int} (h : NumsAt w a l) (hb : Below w.heap.size w w') : NumsAt w' a l := by
  rcases h with h | ⟨b, off, e, hc⟩
  · exact .inl h
  · refine .inr ⟨b, off, e, fun i x hx => ?_⟩
    have := hc i x hx
    rw [hb.cell (p := ⟨b, off + i, none⟩) (World.block_lt_of_cell? w _ this)]
    exact this
/-- Frames from a place on. -/
def fitL (page tot : Nat) : Nat → List Int → Bool
  | _, [] => true
  | q, s :: r => if 1 ≤ s ∧ s ≤ 1024 ∧ 6 + s ≤ (tot : Int) - q then fitL page tot (bgn page (q + 6 + s.toNat)) r else false
theorem fitL_no {page tot q : Nat} {s : Int} {r : List Int} (h : ¬ (1 ≤ s ∧ s ≤ 1024 ∧ 6 + s ≤ (tot : Int) - q)) : fitL page tot q (s :: r) = false := by unfold fitL; rw [if_neg h]
theorem fitL_yes {page tot q : Nat} {s : Int} {r : List Int} (h : 1 ≤ s ∧ s ≤ 1024 ∧ 6 + s ≤ (tot : Int) - q) : fitL page tot q (s :: r) = fitL page tot (bgn page (q + 6 + s.toNat)) r := by rw [fitL, if_pos h]
def okFit (from_ page pages : Int) : Prop := 2 ≤ page ∧ 1 ≤ pages ∧ page * pages ≤ 1073741824 ∧ 0 ≤ from_ ∧ from_ ≤ page * pages
open Classical in
noncomputable def fitsB (sizes : List Int) (from_ page pages : Int) : Bool := if okFit from_ page pages then fitL page.toNat (page * pages).toNat (bgn page.toNat from_.toNat) sizes else false
theorem quo_gt {a b : Int} (hb : 1 ≤ b) : (1073741824 / b < a) ↔ 1073741824 < a * b := Int.ediv_lt_iff_lt_mul (by omega)
theorem mul_small {a b : Int} (ha : 1 ≤ a) (hb : 1 ≤ b) (h : a * b ≤ 1073741824) : a ≤ 1073741824 ∧ b ≤ 1073741824 := by
  constructor
  · exact Int.le_trans (by have := Int.mul_le_mul_of_nonneg_left hb (show 0 ≤ a by omega); omega) h
  · exact Int.le_trans (by have := Int.mul_le_mul_of_nonneg_right ha (show 0 ≤ b by omega); omega) h
set_option maxHeartbeats 1000000 in
theorem fits_no (a : Option Addr) (n cap : Nat) (from_ page pages : Int) (w : World) (b1 : -9223372036854775808 ≤ page ∧ page ≤ 9223372036854775807) (h : ¬ okFit from_ page pages) :
    Calls Tryz.prog 29 #[.slice a n cap, .int .i64 from_, .int .i64 page, .int .i64 pages] w fun e w' => e = .returned (.bool false) ∧ w = w' := by
  have H : Hid (¬ okFit from_ page pages) := h
  clear h
  by_cases c1 : page < 2
  · go_enter Tryz.func29, Tryz.ntmps29
    go_wp2
    go_ret
    exact ⟨rfl, rfl⟩
  · by_cases c2 : pages < 1
    · have c1' : 2 ≤ page := by omega
      go_enter Tryz.func29, Tryz.ntmps29
      go_wp2
      go_ret
      exact ⟨rfl, rfl⟩
    · have c1' : 2 ≤ page := by omega
      have c2' : 1 ≤ pages := by omega
      have c2n : ¬ pages = 0 := by omega
      by_cases c3 : 1073741824 / pages < page
      · clear c1 c2
        have d1 : 0 ≤ 1073741824 / pages := Int.ediv_nonneg (by decide) (by omega)
        have d2 : 1073741824 / pages ≤ 1073741824 := Int.ediv_le_self _ (by decide)
        go_enter Tryz.func29, Tryz.ntmps29
        go_wp2
        go_ret
        exact ⟨rfl, rfl⟩
      · have c4 : page * pages ≤ 1073741824 := by
          rw [quo_gt c2'] at c3
          omega
        have hm := mul_small (show 1 ≤ page by omega) c2' c4
        have h0 : 0 ≤ page * pages := Int.mul_nonneg (by omega) (by omega)
        have d1 : 0 ≤ 1073741824 / pages := Int.ediv_nonneg (by decide) (by omega)
        have d2 : 1073741824 / pages ≤ 1073741824 := Int.ediv_le_self _ (by decide)
        by_cases c5 : from_ < 0
        · clear c1 c2 H
          go_enter Tryz.func29, Tryz.ntmps29
          go_wp2
          go_ret
          exact ⟨rfl, rfl⟩
        · have c6 : page * pages < from_ := by
            by_cases c6 : page * pages < from_
            · exact c6
            · exact absurd ⟨c1', c2', c4, by omega, by omega⟩ H.out
          obtain ⟨T, hT⟩ : ∃ T, page * pages = T := ⟨_, rfl⟩
          rw [hT] at c6 c4 h0
          clear c1 c2 H
          go_enter Tryz.func29, Tryz.ntmps29
          go_wp2
          go_ret
          exact ⟨rfl, rfl⟩
set_option maxHeartbeats 1000000 in
theorem fits_yes (a : Option Addr) (cap : Nat) (l : List Int) (q page pages T : Nat) (w : World) (hl : l.length ≤ maxLen) (hr : NumsAt w a l) (h1 : 2 ≤ page) (h2 : 1 ≤ pages) (hT : page * pages = T) (h3 : T ≤ 1073741824) (h4 : q ≤ T) :
    Calls Tryz.prog 29 #[.slice a l.length cap, .int .i64 (q : Nat), .int .i64 (page : Nat), .int .i64 (pages : Nat)] w fun e w' => e = .returned (.bool (fitL page T (bgn page q) l)) ∧ w = w' := by
  unfold maxLen at hl
  have hT' : (page : Int) * (pages : Int) = (T : Int) := by rw [← hT]; simp
  have hm := mul_small (a := page) (b := pages) (by omega) (by omega) (by rw [hT']; omega)
  have c3 : ¬ (1073741824 : Int) / (pages : Int) < (page : Int) := by rw [quo_gt (by omega), hT']; omega
  have d1 : 0 ≤ (1073741824 : Int) / (pages : Int) := Int.ediv_nonneg (by decide) (by omega)
  have d2 : (1073741824 : Int) / (pages : Int) ≤ 1073741824 := Int.ediv_le_self _ (by decide)
  have p1 : (2 : Int) ≤ (page : Int) := by omega
  have p2 : (1 : Int) ≤ (pages : Int) := by omega
  have p3 : ¬ (pages : Int) = 0 := by omega
  have p4 : ¬ (q : Int) < 0 := by omega
  have p5 : ¬ (T : Int) < (q : Int) := by omega
  have p6 : (T : Int) ≤ 1073741824 := by omega
  have HB : Hid (∀ x w, x ≤ T + 2000 → Calls Tryz.prog 46 #[.int .i64 (x : Nat), .int .i64 (page : Nat)] w fun e w' => e = .returned (.int .i64 (bgn page x : Nat)) ∧ w = w') := fun x w hx => begin_any x page w (by omega) (by omega) (by omega)
  have HF : Hid (∀ x, x ≤ T → bgn page x ≤ T) := fun x hx => by rw [← hT]; exact bgn_fit h1 (by omega)
  have HQ : Hid (q ≤ T) := h4
  obtain ⟨n, hn⟩ : ∃ n, n = l.length := ⟨_, rfl⟩
  rw [← hn] at hl ⊢
  have HN : Hid (n = l.length) := hn
  have HR : Hid (NumsAt w a l) := hr
  obtain ⟨R, hR⟩ : ∃ R, R = fitL page T (bgn page q) l := ⟨_, rfl⟩
  rw [← hR]
  have HRR : Hid (R = fitL page T (bgn page q) l) := hR
  clear hn hr hR h1 h2 hT h3 h4
  go_enter Tryz.func29, Tryz.ntmps29
  go_wp2_with (go_at_call 46; refine (HB.out q _ (by have := HQ.out; omega)).mono ?_; rintro e w' ⟨rfl, rfl⟩)
  go_loop [9, 40] (fun s i => ∃ k x : Nat, k ≤ n ∧ i = .int .i64 (k : Nat) ∧ s = .int .i64 (x : Nat) ∧ x ≤ T ∧ R = fitL page T x (l.drop k)) (fun _ i => n - (intOf i).toNat)
  case atStart => exact ⟨0, bgn page q, by omega, rfl, rfl, HF.out q HQ.out, by rw [HRR.out]; rfl⟩
  case round =>
    obtain ⟨k, x, hk, rfl, rfl, hx, hd⟩ := hrel
    have HD : Hid (R = fitL page T x (l.drop k)) := hd
    clear hd
    by_cases hlt : k < n
    · have hkl : k < l.length := by have := HN.out; omega
      obtain ⟨s, hs⟩ : ∃ s, l[k]? = some s := ⟨_, List.getElem?_eq_getElem hkl⟩
      have hdr : l.drop k = s :: l.drop (k + 1) := by rw [List.drop_eq_getElem_cons hkl]; rw [List.getElem?_eq_getElem hkl] at hs; cases hs; rfl
      obtain ⟨b, off, rfl, hcs⟩ : ∃ b off, a = some ⟨b, off, none⟩ ∧ ∀ (i : Nat) (x : Int), l[i]? = some x → w.cell? ⟨b, off + i, none⟩ = some (.int .i64 x) := by
        rcases HR.out with h | h
        · rw [h] at hkl; simp at hkl
        · exact h
      have hcell := hcs k s hs
      have HS : Hid (l.drop k = s :: l.drop (k + 1)) := hdr
      have hxT : (x : Int) ≤ (T : Int) := by omega
      clear hcs hs hdr hkl
      by_cases g : 1 ≤ s ∧ s ≤ 1024 ∧ 6 + s ≤ (T : Int) - x
      · obtain ⟨g1, g2, g3⟩ := g
        obtain ⟨sn, rfl⟩ : ∃ sn : Nat, s = sn := ⟨s.toNat, by omega⟩
        have HY : Hid (R = fitL page T (bgn page (x + 6 + sn)) (l.drop (k + 1))) := by rw [HD.out, HS.out, fitL_yes ⟨g1, g2, g3⟩]; rfl
        have hfit := HF.out (x + 6 + sn) (by omega)
        have kb := fun w => HB.out (x + 6 + sn) w (by omega)
        have e6 : ((x + 6 + sn : Nat) : Int) = (x : Int) + 6 + (sn : Int) := by omega
        rw [e6] at kb
        have g4 : ¬ (T : Int) - (x : Int) < 6 + (sn : Int) := by omega
        have g5 : ¬ (1024 : Int) < (sn : Int) := by omega
        have g6 : ¬ (sn : Int) < 1 := by omega
        clear e6
        go_wp2_with (go_at_call 46; refine (kb _).mono ?_; rintro e w' ⟨rfl, rfl⟩)
        go_round
        case rel => exact ⟨k + 1, bgn page (x + 6 + sn), by omega, by go_num, rfl, hfit, HY.out⟩
        case measure => simp [intOf]; omega
      · have HN0 : Hid (R = false) := by rw [HD.out, HS.out]; exact fitL_no g
        by_cases g1 : s < 1
        · clear g
          go_wp2
          go_ret
          exact ⟨ret_bool HN0.out.symm, rfl⟩
        · by_cases g2 : 1024 < s
          · have g1' : 1 ≤ s := by omega
            clear g
            go_wp2
            go_ret
            exact ⟨ret_bool HN0.out.symm, rfl⟩
          · have g3 : (T : Int) - (x : Int) < 6 + s := by omega
            have g1' : 1 ≤ s := by omega
            have g2' : s ≤ 1024 := by omega
            clear g
            go_wp2
            go_ret
            exact ⟨ret_bool HN0.out.symm, rfl⟩
    · have hkn : k = l.length := by have := HN.out; omega
      have HT2 : Hid (R = true) := by rw [HD.out, hkn, List.drop_length]; rfl
      clear hkn
      go_wp2
      go_ret
      exact ⟨ret_bool HT2.out.symm, rfl⟩
end Go.Proofs.YthffehaokndkeaaGreatDoor
namespace Go.Proofs.YthffehaokndkeaaGreatDoor
open Go.RowKit
set_option maxRecDepth 10000

set_option maxHeartbeats 1000000 in
theorem rfits_no (a : Option Addr) (n cap : Nat) (from_ page pages : Int) (w : World) (h : ¬ okFit from_ page pages) :
    Calls Tryz.prog 30 #[.slice a n cap, .int .i64 from_, .int .i64 page, .int .i64 pages] w fun e w' => e = .returned (.bool false) ∧ w = w' := by
  have H : Hid (¬ okFit from_ page pages) := h
  clear h
  by_cases c5 : from_ < 0
  · go_enter Tryz.func30, Tryz.ntmps30
    go_wp2
    go_ret
    exact ⟨rfl, rfl⟩
  · have c5' : 0 ≤ from_ := by omega
    by_cases c1 : page < 2
    · clear c5
      go_enter Tryz.func30, Tryz.ntmps30
      go_wp2
      go_ret
      exact ⟨rfl, rfl⟩
    · have c1' : 2 ≤ page := by omega
      have c1n : ¬ page = 0 := by omega
      by_cases c2 : pages < 1
      · clear c5 c1
        go_enter Tryz.func30, Tryz.ntmps30
        go_wp2
        go_ret
        exact ⟨rfl, rfl⟩
      · have c2' : 1 ≤ pages := by omega
        have d1 : 0 ≤ 1073741824 / page := Int.ediv_nonneg (by decide) (by omega)
        have d2 : 1073741824 / page ≤ 1073741824 := Int.ediv_le_self _ (by decide)
        by_cases c3 : 1073741824 / page < pages
        · clear c5 c1 c2
          go_enter Tryz.func30, Tryz.ntmps30
          go_wp2
          go_ret
          exact ⟨rfl, rfl⟩
        · have c4 : page * pages ≤ 1073741824 := by
            rw [quo_gt (by omega), Int.mul_comm] at c3
            omega
          have hm := mul_small (show 1 ≤ page by omega) c2' c4
          have h0 : 0 ≤ page * pages := Int.mul_nonneg (by omega) (by omega)
          have c6 : page * pages < from_ := by
            by_cases c6 : page * pages < from_
            · exact c6
            · exact absurd ⟨c1', c2', c4, by omega, by omega⟩ H.out
          obtain ⟨T, hT⟩ : ∃ T, page * pages = T := ⟨_, rfl⟩
          rw [hT] at c6 c4 h0
          clear c5 c1 c2 H
          go_enter Tryz.func30, Tryz.ntmps30
          go_wp2
          go_ret
          exact ⟨rfl, rfl⟩
set_option maxHeartbeats 1000000 in
theorem rfits_yes (a : Option Addr) (cap : Nat) (l : List Int) (q page pages T : Nat) (w : World) (hl : l.length ≤ maxLen) (hr : NumsAt w a l) (h1 : 2 ≤ page) (h2 : 1 ≤ pages) (hT : page * pages = T) (h3 : T ≤ 1073741824) (h4 : q ≤ T) :
    Calls Tryz.prog 30 #[.slice a l.length cap, .int .i64 (q : Nat), .int .i64 (page : Nat), .int .i64 (pages : Nat)] w fun e w' => e = .returned (.bool (fitL page T (bgn page q) l)) ∧ w = w' := by
  unfold maxLen at hl
  have hT' : (page : Int) * (pages : Int) = (T : Int) := by rw [← hT]; simp
  have hm := mul_small (a := page) (b := pages) (by omega) (by omega) (by rw [hT']; omega)
  have c3 : ¬ (1073741824 : Int) / (page : Int) < (pages : Int) := by rw [quo_gt (by omega), Int.mul_comm, hT']; omega
  have d1 : 0 ≤ (1073741824 : Int) / (page : Int) := Int.ediv_nonneg (by decide) (by omega)
  have d2 : (1073741824 : Int) / (page : Int) ≤ 1073741824 := Int.ediv_le_self _ (by decide)
  have p1 : (2 : Int) ≤ (page : Int) := by omega
  have p2 : (1 : Int) ≤ (pages : Int) := by omega
  have p3 : ¬ (page : Int) = 0 := by omega
  have p4 : ¬ (q : Int) < 0 := by omega
  have p5 : ¬ (T : Int) < (q : Int) := by omega
  have p6 : (T : Int) ≤ 1073741824 := by omega
  have HB : Hid (∀ x w, x ≤ T + 2000 → Calls Tryz.prog 42 #[.int .i64 (x : Nat), .int .i64 (page : Nat)] w fun e w' => e = .returned (.int .i64 (bgn page x : Nat)) ∧ w = w') := fun x w hx => rbegin_any x page w (by omega) (by omega) (by omega)
  have HF : Hid (∀ x, x ≤ T → bgn page x ≤ T) := fun x hx => by rw [← hT]; exact bgn_fit h1 (by omega)
  have HQ : Hid (q ≤ T) := h4
  obtain ⟨n, hn⟩ : ∃ n, n = l.length := ⟨_, rfl⟩
  rw [← hn] at hl ⊢
  have HN : Hid (n = l.length) := hn
  have HR : Hid (NumsAt w a l) := hr
  obtain ⟨R, hR⟩ : ∃ R, R = fitL page T (bgn page q) l := ⟨_, rfl⟩
  rw [← hR]
  have HRR : Hid (R = fitL page T (bgn page q) l) := hR
  clear hn hr hR h1 h2 hT h3 h4
  go_enter Tryz.func30, Tryz.ntmps30
  go_wp2_with (go_at_call 42; refine (HB.out q _ (by have := HQ.out; omega)).mono ?_; rintro e w' ⟨rfl, rfl⟩)
  go_loop [9, 10] (fun s i => ∃ k x : Nat, k ≤ n ∧ i = .int .i64 (k : Nat) ∧ s = .int .i64 (x : Nat) ∧ x ≤ T ∧ R = fitL page T x (l.drop k)) (fun _ i => n - (intOf i).toNat)
  case atStart => exact ⟨0, bgn page q, by omega, rfl, rfl, HF.out q HQ.out, by rw [HRR.out]; rfl⟩
  case round =>
    obtain ⟨k, x, hk, rfl, rfl, hx, hd⟩ := hrel
    have HD : Hid (R = fitL page T x (l.drop k)) := hd
    clear hd
    by_cases hlt : k < n
    · have hkl : k < l.length := by have := HN.out; omega
      obtain ⟨s, hs⟩ : ∃ s, l[k]? = some s := ⟨_, List.getElem?_eq_getElem hkl⟩
      have hdr : l.drop k = s :: l.drop (k + 1) := by rw [List.drop_eq_getElem_cons hkl]; rw [List.getElem?_eq_getElem hkl] at hs; cases hs; rfl
      obtain ⟨b, off, rfl, hcs⟩ : ∃ b off, a = some ⟨b, off, none⟩ ∧ ∀ (i : Nat) (x : Int), l[i]? = some x → w.cell? ⟨b, off + i, none⟩ = some (.int .i64 x) := by
        rcases HR.out with h | h
        · rw [h] at hkl; simp at hkl
        · exact h
      have hcell := hcs k s hs
      have HS : Hid (l.drop k = s :: l.drop (k + 1)) := hdr
      have hxT : (x : Int) ≤ (T : Int) := by omega
      clear hcs hs hdr hkl
      by_cases g : 1 ≤ s ∧ s ≤ 1024 ∧ 6 + s ≤ (T : Int) - x
      · obtain ⟨g1, g2, g3⟩ := g
        obtain ⟨sn, rfl⟩ : ∃ sn : Nat, s = sn := ⟨s.toNat, by omega⟩
        have HY : Hid (R = fitL page T (bgn page (x + 6 + sn)) (l.drop (k + 1))) := by rw [HD.out, HS.out, fitL_yes ⟨g1, g2, g3⟩]; rfl
        have hfit := HF.out (x + 6 + sn) (by omega)
        have kb := fun w => HB.out (x + 6 + sn) w (by omega)
        have e6 : ((x + 6 + sn : Nat) : Int) = (x : Int) + (sn : Int) + 6 := by omega
        rw [e6] at kb
        have g4 : ¬ (T : Int) - (x : Int) < (sn : Int) + 6 := by omega
        have g5 : ¬ (1024 : Int) < (sn : Int) := by omega
        have g6 : ¬ (sn : Int) < 1 := by omega
        clear e6
        go_wp2_with (go_at_call 42; refine (kb _).mono ?_; rintro e w' ⟨rfl, rfl⟩)
        go_round
        case rel => exact ⟨k + 1, bgn page (x + 6 + sn), by omega, by go_num, rfl, hfit, HY.out⟩
        case measure => simp [intOf]; omega
      · have HN0 : Hid (R = false) := by rw [HD.out, HS.out]; exact fitL_no g
        by_cases g1 : s < 1
        · clear g
          go_wp2
          go_ret
          exact ⟨ret_bool HN0.out.symm, rfl⟩
        · by_cases g2 : 1024 < s
          · have g1' : 1 ≤ s := by omega
            clear g
            go_wp2
            go_ret
            exact ⟨ret_bool HN0.out.symm, rfl⟩
          · have g3 : (T : Int) - (x : Int) < s + 6 := by omega
            have g1' : 1 ≤ s := by omega
            have g2' : s ≤ 1024 := by omega
            clear g
            go_wp2
            go_ret
            exact ⟨ret_bool HN0.out.symm, rfl⟩
    · have hkn : k = l.length := by have := HN.out; omega
      have HT2 : Hid (R = true) := by rw [HD.out, hkn, List.drop_length]; rfl
      clear hkn
      go_wp2
      go_ret
      exact ⟨ret_bool HT2.out.symm, rfl⟩
end Go.Proofs.YthffehaokndkeaaGreatDoor
