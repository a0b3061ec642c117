/-
  A node's clone; a tree's Clone.
-/
import Derived.Test.YtlfgeanafidopaaRC
namespace Go.Proofs.Ytlfgeanafidopaa.Bt
open Go.RowKit
set_option maxRecDepth 10000

def Twn {n : Nat} (w : World) (t : En (n + 2)) (h' : Hd) (B k : Nat) (W : World) : Prop := ∃ ks : List (En (n + 1)), ks.length = k ∧ Par w [] W h' (n + 1) (ks.map (slE (n + 1)) ++ (t.l.drop k).map (slE (n + 1))) ks ∧ ks.map (abs (n + 1)) = (t.l.take k).map (abs (n + 1)) ∧ Whole W B ((t.l.map (slE (n + 1))).map kidP) 65
theorem Twn.below {n : Nat} {w : World} {t : En (n + 2)} {h' : Hd} {B k : Nat} {W : World} (h : Twn w t h' B k W) : Below w.heap.size w W := by
  obtain ⟨ks, _, p, _⟩ := h
  exact p.kept.below (Nat.le_refl _) (fun k hk => (by cases hk))
theorem Twn.step {n : Nat} {w : World} {t : En (n + 2)} {h' : Hd} {B k : Nat} {W X W3 : World} (h : Twn w t h' B k W) {g N cap : Nat} (hv : h'.v = .slice (some ⟨g, 0, none⟩) N cap) {c c' : En (n + 1)} (hc : t.l[k]? = some c) (hX : Below W.heap.size W X) (hT : Twin X c c' W3) : Twn w t h' B (k + 1) (W3.setCell ⟨g, k * 3 + 2, none⟩ (.pointer (some ⟨c'.h.p, 0, none⟩))) := by
  obtain ⟨ks, hk, p, ha, hw⟩ := h
  obtain ⟨hkl, hce⟩ := List.getElem?_eq_some_iff.1 hc
  have hdr : t.l.drop k = c :: t.l.drop (k + 1) := by rw [← hce, ← List.drop_eq_getElem_cons hkl]
  have hb := bafter hX hT.below
  have p2 := p.add hb hT.lies hT.nd (fun b hb' => Nat.le_trans hX.size (hT.new b hb'))
  have hs : (ks.map (slE (n + 1)) ++ (t.l.drop k).map (slE (n + 1)))[k]? = some (slE (n + 1) c) := by
    rw [List.getElem?_append_right (by rw [List.length_map]; omega), List.length_map, hk, Nat.sub_self, hdr]; rfl
  have p3 := p2.setKid hv hs (slE (n + 1) c') (by show ek (n + 1) _ = ek (n + 1) _; rw [hT.abs]) rfl
  refine ⟨ks ++ [c'], by simp [hk], ?_, ?_, ?_⟩
  · have e : (ks.map (slE (n + 1)) ++ (t.l.drop k).map (slE (n + 1))).set k (slE (n + 1) c') = (ks ++ [c']).map (slE (n + 1)) ++ (t.l.drop (k + 1)).map (slE (n + 1)) := by
      rw [hdr, List.set_append_right _ _ (by rw [List.length_map]; omega), List.length_map, hk, Nat.sub_self]
      simp
    rw [e] at p3
    exact p3
  · rw [List.map_append, ha, List.take_succ_eq_append_getElem hkl, hce, List.map_append]
    simp [hT.abs]
  · have hwX := hw.later hb
    refine hwX.same (Below.heap_setCell _ _ _ B (fun e => ?_))
    obtain ⟨_, cs, hw2⟩ := p2.at_.own.lt g (by rw [hv]; rfl)
    exact Row.ne hwX.row hw2.row (by decide) e
set_option maxHeartbeats 8000000 in
theorem clone_inner {F n : Nat} (hF2 : F ≤ 64) (ih : CloneAt F n) (t : En (n + 2)) (w : World) (h : Lies w (n + 2) t) (hk : ∀ e ∈ (abs (n + 2) t).l, Fill F (n + 1) e) (hl : t.l.length ≤ F) (h0 : 0 < t.l.length) (hF : 4 ≤ F) :
    Calls Try.prog 32 #[.pointer (some ⟨t.h.p, 0, none⟩)] w fun e w' => ∃ t' : En (n + 2), e = .returned (.pointer (some ⟨t'.h.p, 0, none⟩)) ∧ Twin w t t' w' := by
  have hAt := h.1
  have d0 : w.cell? ⟨t.h.p, 0, none⟩ = some (.int .i64 ((n + 1 : Nat) : Int)) := hAt.row.cell (i := 0) rfl
  have d1 : w.cell? ⟨t.h.p, 1, none⟩ = some t.h.v := hAt.row.cell (i := 1) rfl
  have d2 : w.cell? ⟨t.h.p, 2, none⟩ = some (.bool t.h.d) := hAt.row.cell (i := 2) rfl
  have HC : Hid (∀ X, Below w.heap.size w X → Calls Try.prog 56 #[t.h.v] X fun e w' => ∃ a' m' c', e = .returned (.slice a' m' c') ∧ Cloned X (t.l.map (slE (n + 1))) (.slice a' m' c') w') := fun X hX => clone_sl t.h.v _ X (hAt.own.later hX) (by rw [List.length_map]; omega)
  have HR : Hid (∀ X, Below w.heap.size w X → X.cell? ⟨t.h.p, 0, none⟩ = some (.int .i64 ((n + 1 : Nat) : Int)) ∧ X.cell? ⟨t.h.p, 1, none⟩ = some t.h.v ∧ X.cell? ⟨t.h.p, 2, none⟩ = some (.bool t.h.d)) := fun X hX => ⟨(hAt.later hX).row.cell (i := 0) rfl, (hAt.later hX).row.cell (i := 1) rfl, (hAt.later hX).row.cell (i := 2) rfl⟩
  obtain ⟨N, hN⟩ : ∃ N, N = t.l.length := ⟨_, rfl⟩
  have HK : Hid (∀ X, Below w.heap.size w X → Calls Try.prog 45 #[.pointer (some ⟨t.h.p, 0, none⟩)] X fun e w' => ∃ B, e = .returned (.slice (some ⟨B, 0, none⟩) N N) ∧ Below X.heap.size X w' ∧ X.heap.size ≤ B ∧ Whole w' B ((t.l.map (slE (n + 1))).map kidP) 65) := fun X hX => by
    have := kids_any t.h (n + 1) _ X (hAt.later hX) (by rw [List.length_map]; omega) (by rw [List.length_map]; exact h0) (by omega)
    rwa [List.length_map, ← hN] at this
  obtain ⟨a0, cap0, hv, _, _⟩ := hAt.own.slice
  rw [List.length_map] at hv
  rw [hv] at d1 HC HR
  have HP : Hid (∀ X W1 v', Below w.heap.size w X → Cloned X (t.l.map (slE (n + 1))) v' W1 → Par w [] (W1.alloc (.cells #[.int .i64 ((n + 1 : Nat) : Int), v', .bool t.h.d] 74)) ⟨W1.heap.size, v', t.h.d⟩ (n + 1) (t.l.map (slE (n + 1))) ([] : List (En (n + 1)))) := fun X W1 v' hX hC =>
    twin_start (m := n + 1) (⟨hC.1, fun g hg => Nat.le_trans hX.size (hC.2.1 g hg), bafter hX hC.2.2⟩ : Cloned w _ v' W1) (n + 1) t.h.d
  have HRd : Hid (∀ h' g cap B k W, Twn w t h' B k W → h'.v = .slice (some ⟨g, 0, none⟩) N cap → k < N → ∃ c u, t.l[k]? = some c ∧ ∀ X, Below W.heap.size W X → X.cell? ⟨B, k, none⟩ = some (.pointer (some ⟨c.h.p, 0, none⟩)) ∧ X.cell? ⟨h'.p, 1, none⟩ = some (.slice (some ⟨g, 0, none⟩) N cap) ∧ X.cell? ⟨g, k * 3 + 2, none⟩ = some u ∧ X.frozen? ⟨g, k * 3 + 2, none⟩ = false) := fun h' g cap B k W hS hv' hkN => by
    obtain ⟨ks, hkk, p, ha, hw⟩ := hS
    obtain ⟨c, hc⟩ : ∃ c, t.l[k]? = some c := ⟨_, List.getElem?_eq_getElem (by omega)⟩
    obtain ⟨hkl, hce⟩ := List.getElem?_eq_some_iff.1 hc
    have hdr : t.l.drop k = c :: t.l.drop (k + 1) := by rw [← hce, ← List.drop_eq_getElem_cons hkl]
    have hs : (ks.map (slE (n + 1)) ++ (t.l.drop k).map (slE (n + 1)))[k]? = some (slE (n + 1) c) := by
      rw [List.getElem?_append_right (by rw [List.length_map]; omega), List.length_map, hkk, Nat.sub_self, hdr]; rfl
    refine ⟨c, .pointer ((slE (n + 1) c).kid.map fun b => ⟨b, 0, none⟩), hc, fun X hX => ?_⟩
    obtain ⟨s1, s2, s3, s4, s5, s6⟩ := (p.later hX).slotsAt hv' hs
    refine ⟨?_, s1, s4, s5 _⟩
    rw [(hw.later hX).cell, List.getElem?_map, List.getElem?_map, hc]; rfl
  have HCl : Hid (∀ h' g cap B k W c X, Twn w t h' B k W → h'.v = .slice (some ⟨g, 0, none⟩) N cap → t.l[k]? = some c → Below W.heap.size W X → Calls Try.prog 32 #[.pointer (some ⟨c.h.p, 0, none⟩)] X fun e W3 => ∃ q, e = .returned (.pointer (some ⟨q, 0, none⟩)) ∧ Below W.heap.size W W3 ∧ Twn w t h' B (k + 1) (W3.setCell ⟨g, k * 3 + 2, none⟩ (.pointer (some ⟨q, 0, none⟩)))) := fun h' g cap B k W c X hS hv' hc hX => by
    have hcm : abs (n + 1) c ∈ (abs (n + 2) t).l := by rw [abs_l]; exact List.mem_map_of_mem (List.mem_of_getElem? hc)
    obtain ⟨f1, f2, f3⟩ := hk _ hcm
    rw [abs_l, List.length_map] at f1 f2
    refine (ih c X ((h.2 c (List.mem_of_getElem? hc)).later (bafter hS.below hX)) f3 f2 (fun _ => by omega)).mono ?_
    rintro e W3 ⟨c', rfl, hT⟩
    exact ⟨_, rfl, bafter hX hT.below, hS.step hv' hc hX hT⟩
  have HF : Hid (∀ p v d B W, d = t.h.d → Twn w t ⟨p, v, d⟩ B N W → ∃ t' : En (n + 2), t'.h.p = p ∧ Twin w t t' W) := fun p v d B W hd hS => by
    obtain ⟨ks, hkk, y, ha, hw⟩ := hS
    rw [List.drop_eq_nil_of_le (by omega), List.map_nil, List.append_nil] at y
    rw [List.take_of_length_le (by omega)] at ha
    exact ⟨_, rfl, Par.twin y hd ha⟩
  have hN0 : 0 < N := by omega
  have hN64 : N ≤ 64 := by omega
  have HNL : Hid (N = t.l.length) := hN
  rw [← hN] at d1 HC HR
  clear h hAt hl hv hk h0 hN ih
  generalize t.h.p = tp at *
  generalize t.h.d = td at *
  generalize ((n + 1 : Nat) : Int) = LV at *
  go_enter Try.func32, Try.ntmps32
  go_wp2
  refine cut_in (P := ∀ (W1 : World) (a1 : Option Addr) (m1 c1 : Nat), Hid (Par w [] (W1.alloc (.cells #[.int .i64 LV, .slice a1 m1 c1, .bool td] 74)) ⟨W1.heap.size, .slice a1 m1 c1, td⟩ (n + 1) (t.l.map (slE (n + 1))) ([] : List (En (n + 1)))) → (?keyAll : World → Option Addr → Nat → Nat → Prop) W1 a1 m1 c1) (fun key => ?main) ?rest
  case main =>
    go_region_with (go_at_call 56; refine (HC.out w.drew (below_drawn w 1)).mono ?_; rintro e W1 ⟨a1, m1, c1, rfl, hC⟩; have HT := HP.out w.drew _ _ (below_drawn w 1) hC; have HT2 : Hid (Par w [] (W1.alloc (.cells #[.int .i64 LV, .slice a1 m1 c1, .bool td] 74)) ⟨W1.heap.size, .slice a1 m1 c1, td⟩ (n + 1) (t.l.map (slE (n + 1))) ([] : List (En (n + 1)))) := HT; obtain ⟨r0, r1, r2⟩ := HR.out W1 (bafter (below_drawn w 1) hC.2.2); clear HT hC)
    all_goals exact key W1 a1 m1 c1 HT2
  intro W1 a1 m1 c1 HT2
  obtain ⟨s0, hs0⟩ : ∃ s, (t.l.map (slE (n + 1)))[0]? = some s := ⟨_, List.getElem?_eq_getElem (by rw [List.length_map, ← HNL.out]; exact hN0)⟩
  obtain ⟨g, cap, hv, _⟩ := HT2.out.at_.own.at hs0
  rw [List.length_map, ← HNL.out] at hv
  replace hv : Value.slice a1 m1 c1 = .slice (some ⟨g, 0, none⟩) N cap := hv
  obtain ⟨e1, e2, e3⟩ : some ⟨g, 0, none⟩ = a1 ∧ N = m1 ∧ cap = c1 := by cases hv; exact ⟨rfl, rfl, rfl⟩
  subst e1 e2 e3
  clear hv
  have HSt : Hid (∀ W2 B, Below (W1.alloc (.cells #[.int .i64 LV, .slice (some ⟨g, 0, none⟩) N cap, .bool td] 74)).heap.size (W1.alloc (.cells #[.int .i64 LV, .slice (some ⟨g, 0, none⟩) N cap, .bool td] 74)) W2 → Whole W2 B ((t.l.map (slE (n + 1))).map kidP) 65 → Twn w t ⟨W1.heap.size, .slice (some ⟨g, 0, none⟩) N cap, td⟩ B 0 W2) := fun W2 B hb hw => ⟨[], rfl, by rw [List.drop_zero]; exact HT2.out.later hb, rfl, hw⟩
  have HBl : Hid (Below w.heap.size w (W1.alloc (.cells #[.int .i64 LV, .slice (some ⟨g, 0, none⟩) N cap, .bool td] 74))) := HT2.out.kept.below (Nat.le_refl _) (fun k hk => (by cases hk))
  clear hs0 HT2 d0 d1 d2
  go_wp2_with (go_at_call 45; refine (HK.out _ HBl.out).mono ?_; rintro e W2 ⟨B, rfl, hb2, _, hw2⟩; have H2 : Hid (Twn w t ⟨W1.heap.size, .slice (some ⟨g, 0, none⟩) N cap, td⟩ B 0 W2) := HSt.out W2 B hb2 hw2; clear hb2 hw2)
  generalize W1.heap.size = np at *
  go_loopg [24] N (fun kx s wr => ∃ k : Nat, k + kx = N ∧ s = .int .i64 (k : Nat) ∧ Hid (Twn w t ⟨np, .slice (some ⟨g, 0, none⟩) N cap, td⟩ B k wr))
  case atStart => exact ⟨0, by omega, rfl, H2.out⟩
  case round =>
    obtain ⟨k, hk, rfl, I⟩ := hrel
    by_cases hlt : k < N
    · obtain ⟨c, u, hc, hcs⟩ := HRd.out _ g cap B k wr I.out rfl hlt
      obtain ⟨q1, q2, q3, q4⟩ := hcs wr (Below.refl _ _)
      have HQ : Hid (∀ X, Below wr.heap.size wr X → X.cell? ⟨B, k, none⟩ = some (.pointer (some ⟨c.h.p, 0, none⟩)) ∧ X.cell? ⟨np, 1, none⟩ = some (.slice (some ⟨g, 0, none⟩) N cap) ∧ X.cell? ⟨g, k * 3 + 2, none⟩ = some u ∧ X.frozen? ⟨g, k * 3 + 2, none⟩ = false) := hcs
      have kC := HCl.out _ g cap B k wr c wr.drew I.out rfl hc (below_drawn wr 1)
      have hi1 : (k : Int) < (N : Int) := by omega
      clear hc hcs
      go_wp2
      refine cut_in (P := ∀ (W3 : World) (q : Nat), Hid (Twn w t ⟨np, .slice (some ⟨g, 0, none⟩) N cap, td⟩ B (k + 1) (W3.setCell ⟨g, k * 3 + 2, none⟩ (.pointer (some ⟨q, 0, none⟩)))) → (?keyTwo : World → Nat → Prop) W3 q) (fun key => ?main2) ?rest2
      case main2 =>
        go_region_with (go_at_call 32; refine kC.mono ?_; rintro e W3 ⟨q, rfl, hb3, h3⟩; have H3 : Hid (Twn w t ⟨np, .slice (some ⟨g, 0, none⟩) N cap, td⟩ B (k + 1) (W3.setCell ⟨g, k * 3 + 2, none⟩ (.pointer (some ⟨q, 0, none⟩)))) := h3; obtain ⟨r1, r2, r3, r4⟩ := HQ.out W3 hb3; clear h3 hb3)
        all_goals exact key W3 q H3
      intro W3 q H3
      go_wp2
      go_roundg (N - (k + 1))
      case measure => omega
      case rel => exact ⟨k + 1, by omega, by go_num, H3.out⟩
    · have hkN : k = N := by omega
      subst hkN
      go_wp2
      go_ret
      obtain ⟨t', e1, e2⟩ := HF.out _ _ _ B wr rfl I.out
      exact ⟨t', by rw [e1]; rfl, e2⟩
theorem clone_at {F : Nat} (hF : 4 ≤ F) (hF2 : F ≤ 64) : ∀ n, CloneAt F n
  | 0, t, w, h, _, hl, _ => clone_leaf t w h (by omega)
  | n + 1, t, w, h, hk, hl, h0 => clone_inner hF2 (clone_at hF hF2 n) t w h hk hl (h0 (by omega)) hF
end Go.Proofs.Ytlfgeanafidopaa.Bt
