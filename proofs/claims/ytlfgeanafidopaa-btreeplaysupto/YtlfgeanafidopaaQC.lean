/-
  slices.Insert at slots: one slot ahead of others, where there is no room; all three in one; slices.Clone.
-/
import Derived.Test.YtlfgeanafidopaaQB
import Derived.Lib.SliceRun
namespace Go.Proofs.Ytlfgeanafidopaa.Bt
open Go.RowKit
set_option maxRecDepth 10000

set_option maxHeartbeats 4000000 in
theorem insert_grow (g cap i : Nat) (l : List Sl) (s : Sl) (vb vc : Nat) (cs : List Value) (w : World) (hw : Whole w g cs 77) (c1 : l.length ≤ cap) (c4 : cs.take (l.length * 3) = l.flatMap slv)
    (hi : i < l.length) (hl : l.length ≤ 1000) (hroom : cap < l.length + 1) (hV : Whole w vb (slv s) 77) :
    Calls Try.prog 68 #[.slice (some ⟨g, 0, none⟩) l.length cap, .int .i64 i, .slice (some ⟨vb, 0, none⟩) 1 vc] w fun e w' => ∃ v', e = .returned v' ∧ Inserted w (.slice (some ⟨g, 0, none⟩) l.length cap) (l.take i ++ s :: l.drop i) v' w' := by
  obtain ⟨n, hn⟩ : ∃ n, n = l.length := ⟨_, rfl⟩
  rw [← hn] at hi hl hroom c1 c4 ⊢
  obtain ⟨i0, hi0, hz0, hzs, hzb⟩ := info_parts infoS
  obtain ⟨olds, holds⟩ : ∃ olds, olds = (l.take i).flatMap slv := ⟨_, rfl⟩
  have hol : olds.length = i * 3 := by rw [holds, flat_len slv 3 slv_len, List.length_take]; omega
  obtain ⟨news, hnews⟩ : ∃ news, news = (l.drop i).flatMap slv := ⟨_, rfl⟩
  have hlen : news.length = (n - i) * 3 := by rw [hnews, flat_len slv 3 slv_len, List.length_drop, hn]
  have hget : ∀ t u, news[t]? = some u → cs[i * 3 + t]? = some u := by
    intro t u hu
    have ht := (List.getElem?_eq_some_iff.1 hu).1
    rw [hlen] at ht
    rw [hnews, ← flat_drop slv 3 slv_len, List.getElem?_drop, ← c4, List.getElem?_take, if_pos (by omega)] at hu
    exact hu
  have hold : (Builtin.firstCells i0.size i (.slice (some ⟨g, 0, none⟩) i cap)).run Try.prog w.drew = .ok olds.toArray w.drew := by
    rw [hzs]
    refine run_firstCells_some w.drew 3 i ⟨g, 0, none⟩ i cap olds hol (fun j v hj => ?_)
    have hj' := (List.getElem?_eq_some_iff.1 hj).1
    rw [Addr.add_lit, Nat.zero_add]
    refine hw.cell.trans ?_
    rw [holds, ← flat_take slv 3 slv_len, ← c4, List.take_take, Nat.min_eq_left (by omega), List.getElem?_take, if_pos (by omega)] at hj
    exact hj
  have hik : i + (n + 1 - i) = n + 1 := by omega
  obtain ⟨G, hG⟩ : ∃ G, G = grownCap w (n + 1) cap 77 := ⟨_, rfl⟩
  obtain ⟨ROW, hROW⟩ : ∃ ROW : List Value, ROW = olds ++ (Builtin.zeroCells zeroS.toArray (n + 1 - i)).toList ++ (Builtin.zeroCells zeroS.toArray (G - (n + 1))).toList := ⟨_, rfl⟩
  have hGn : n + 1 ≤ G := by rw [hG]; exact grownCap_ge w _ _ _
  have hGm : G ≤ maxLen := by rw [hG]; exact grownCap_le_maxLen w _ _ _ (by unfold maxLen; omega)
  have hRl : ROW.length = G * 3 := by rw [hROW]; simp only [List.length_append, zeros_len, hol]; omega
  obtain ⟨W1, hW1⟩ : ∃ W1, W1 = w.drew.alloc (.cells ROW.toArray 77) := ⟨_, rfl⟩
  have hrz : ∀ ty, (Builtin.append_ #[72, 3] ty #[.slice (some ⟨g, 0, none⟩) i cap, .int .i64 ((n : Int) + 1 - (i : Int))]).run Try.prog w = .ok (.slice (some ⟨w.heap.size, 0, none⟩) (n + 1) G) W1 := fun ty => by
    have h := Lib.run_append_grow_zeros w 72 3 ty 77 i0 _ .i64 .i64 Try.underlying72 Try.underlying3 hi0 hz0 (some ⟨g, 0, none⟩) i cap olds hold (n + 1 - i) (by omega) (by omega) (by omega) (by omega) (by rw [hzb]; omega) (by rw [hzb, hik]; exact growslice_fits hroom (by omega))
    rw [hik, ← hG] at h
    rw [show (n : Int) + 1 - (i : Int) = ((n + 1 - i : Nat) : Int) by omega, h, hW1, hROW]
    congr 3
    apply Array.toList_inj.1
    simp [Value.cells, zeroS]
  have hw1 : Whole W1 w.heap.size ROW 77 := by rw [hW1]; exact Whole.new w.drew ROW _
  have k1 : Below w.heap.size w W1 := by rw [hW1]; exact ((Below.refl _ w).drew).alloc (Nat.le_refl _) _
  have hV1 := hV.later k1
  have hg1 := hw.later k1
  have hcpA : ∀ (W : World), (∀ x, W.cell? x = W1.cell? x) → (∀ x, W.frozen? x = W1.frozen? x) → ∀ ty dc, (Builtin.copy_ #[72, 72] ty #[.slice (some ⟨w.heap.size, i * 3, none⟩) (n + 1 - i) dc, .slice (some ⟨vb, 0, none⟩) 1 vc]).run Try.prog W = .ok (goInt (1 : Nat)) (W.setCells w.heap.size (i * 3) (slv s)) := fun W hWc hWf ty dc =>
    run_copy_slots W ty w.heap.size (i * 3) _ dc ⟨vb, 0, none⟩ 1 vc 1 (slv s) (by simp only [Nat.min_def]; split <;> omega) rfl
      (fun j v hj => by rw [hWc, Addr.add_lit, Nat.zero_add, hV1.cell]; exact hj) (fun j hj => by rw [slv_len] at hj; rw [hWc, hw1.cell, List.getElem?_eq_getElem (by rw [hRl]; omega)]; rfl) (fun j => by rw [hWf]; exact hw1.frozen j) (fun v hv => slv_one [s] v (by simpa using hv))
  have hgN : g ≠ w.heap.size := by have := hw.lt; omega
  have hcpB : ∀ (W : World), (∀ x, W.cell? x = (W1.setCells w.heap.size (i * 3) (slv s)).cell? x) → (∀ x, W.frozen? x = (W1.setCells w.heap.size (i * 3) (slv s)).frozen? x) → ∀ ty dc sc, (Builtin.copy_ #[72, 72] ty #[.slice (some ⟨w.heap.size, (i + 1) * 3, none⟩) (n - i) dc, .slice (some ⟨g, i * 3, none⟩) (n - i) sc]).run Try.prog W = .ok (goInt (n - i : Nat)) (W.setCells w.heap.size ((i + 1) * 3) news) := fun W hWc hWf ty dc sc =>
    run_copy_slots W ty w.heap.size ((i + 1) * 3) _ dc ⟨g, i * 3, none⟩ _ sc (n - i) news (by simp only [Nat.min_def]; split <;> omega) hlen
      (fun j v hj => by
        rw [hWc, Addr.add_lit, World.cell?_setCells_out _ _ _ _ _ (fun h _ => absurd h hgN)]
        exact hg1.cell.trans (hget j v hj))
      (fun j hj => by
        have := Whole.setCells (slv s) (i * 3) W1 ROW hw1 (by rw [slv_len, hRl]; omega)
        rw [hWc, this.cell, List.getElem?_eq_getElem (by simp only [List.length_append, List.length_take, List.length_drop, slv_len, hRl]; omega)]; rfl)
      (fun j => by rw [hWf, World.frozen?_setCells]; exact hw1.frozen j) (fun v hv => slv_one _ v (by rw [← hnews]; exact hv))
  have fin : ∀ W W', W = W1 ∨ W = (w.alloc (.cells ROW.toArray 77)).drew → W' = (W.setCells w.heap.size (i * 3) (slv s)).drew.setCells w.heap.size ((i + 1) * 3) news → Inserted w (.slice (some ⟨g, 0, none⟩) n cap) (l.take i ++ s :: l.drop i) (.slice (some ⟨w.heap.size, 0, none⟩) (n + 1) G) W' := by
    rintro W W' hW rfl
    have hwW : Whole W w.heap.size ROW 77 := by
      rcases hW with rfl | rfl
      · exact hw1
      · exact Whole.new w ROW _
    have kW : Below w.heap.size w W := by
      rcases hW with rfl | rfl
      · exact k1
      · exact (below_new w _).drew
    have q1 := Whole.setCells (slv s) (i * 3) W ROW hwW (by rw [slv_len, hRl]; omega)
    have q2 := Whole.setCells news ((i + 1) * 3) (W.setCells w.heap.size (i * 3) (slv s)).drew _ q1 (by simp only [List.length_append, List.length_take, List.length_drop, slv_len, hRl]; omega)
    have hle : (l.take i ++ s :: l.drop i).length = n + 1 := by rw [List.length_append, List.length_take, List.length_cons, List.length_drop]; omega
    refine ⟨?_, ⟨w.heap.size, rfl, .inr (Nat.le_refl _)⟩, setCells_new (Nat.le_refl _) _ _ _ (setCells_new (Nat.le_refl _) _ _ _ (Kept.of_below kW)).drew⟩
    have sh := Slots.of (l := l.take i ++ s :: l.drop i) (cap := G) q2 (by omega) hGm (by simp only [List.length_append, List.length_take, List.length_drop, slv_len, hRl]; omega) ?_
    · rw [hle] at sh; exact sh
    · have e1 : ROW.take (i * 3) = olds := by rw [hROW, List.append_assoc, List.take_append_of_le_length (by omega), List.take_of_length_le (by omega)]
      have e2 : (ROW.take (i * 3) ++ slv s ++ ROW.drop (i * 3 + (slv s).length)).take ((i + 1) * 3) = olds ++ slv s := by
        rw [e1, List.take_append_of_le_length (by rw [List.length_append, slv_len]; omega), List.take_of_length_le (by rw [List.length_append, slv_len]; omega)]
      rw [hle, e2, List.take_append_of_le_length (by simp only [List.length_append, slv_len]; omega), List.take_of_length_le (by simp only [List.length_append, slv_len]; omega), holds, hnews]
      simp
  have HF : Hid (∀ W W', W = W1 ∨ W = (w.alloc (.cells ROW.toArray 77)).drew → W' = (W.setCells w.heap.size (i * 3) (slv s)).drew.setCells w.heap.size ((i + 1) * 3) news → Inserted w (.slice (some ⟨g, 0, none⟩) n cap) (l.take i ++ s :: l.drop i) (.slice (some ⟨w.heap.size, 0, none⟩) (n + 1) G) W') := fin
  subst hW1
  have hE1 : ∀ x, ((w.alloc (.cells ROW.toArray 77)).drew).cell? x = (w.drew.alloc (.cells ROW.toArray 77)).cell? x := fun x => rfl
  have hE2 : ∀ x, ((w.alloc (.cells ROW.toArray 77)).drew).frozen? x = (w.drew.alloc (.cells ROW.toArray 77)).frozen? x := fun x => rfl
  have hF1 : ∀ x, (((w.alloc (.cells ROW.toArray 77)).drew.setCells w.heap.size (i * 3) (slv s)).drew).cell? x = ((w.drew.alloc (.cells ROW.toArray 77)).setCells w.heap.size (i * 3) (slv s)).cell? x := fun x => rfl
  have hF2 : ∀ x, (((w.alloc (.cells ROW.toArray 77)).drew.setCells w.heap.size (i * 3) (slv s)).drew).frozen? x = ((w.drew.alloc (.cells ROW.toArray 77)).setCells w.heap.size (i * 3) (slv s)).frozen? x := fun x => rfl
  have hz2 : ¬ ((i : Int) = (n : Int)) := by omega
  have hz3 : (cap : Int) < (n : Int) + 1 := by omega
  have hin : i ≤ n := by omega
  have hic : (i : Int) ≤ (cap : Int) := by omega
  have hw1' : IntKind.i64.wrap ((i : Int) + 1) = (i : Int) + 1 := by rw [IntKind.wrap_i64]; omega
  have hb1 : (0 : Int) ≤ (i : Int) + 1 := by omega
  have htn : ((i : Int) + 1).toNat = i + 1 := by omega
  have hGi : ¬ (G = i) := by omega
  have hGim : ¬ (G = i + 1) := by omega
  have hci : ¬ (cap = i) := by omega
  have hb3 : (i : Int) ≤ (n : Int) := by omega
  have hb5 : (i : Int) + 1 ≤ (n : Int) + 1 := by omega
  have hb6 : (i : Int) ≤ (n : Int) + 1 := by omega
  unfold maxLen at hGm
  clear fin hw1 hw hget hnews hlen c4 hV hV1 hg1 k1 hn hik hold holds hol hROW hG hRl
  go_enter Try.func68, Try.ntmps68
  go_wp2_with (first
    | (at_builtin; refine Lib.wpList_append_run _ rfl _ _ _ _ rfl _ _ rfl rfl _ _ (hrz _) ?_)
    | (refine wpl_copy_run _ rfl _ _ 72 72 rfl _ _ rfl rfl (hcpA _ hE1 hE2 _ _) ?_))
  go_region_law (refine step_copy_run rfl _ _ 72 72 rfl (.slice (some ⟨w.heap.size, (i + 1) * 3, none⟩) (n - i) (G - (i + 1))) (.slice (some ⟨g, i * 3, none⟩) (n - i) (cap - i)) (by simp [Act.eval, Act.put]) (by simp [Act.eval, Act.put]) (hcpB _ hF1 hF2 3 (G - (i + 1)) (cap - i)) ?_)
  go_wp2
  go_ret
  exact ⟨_, rfl, HF.out _ _ (.inr rfl) rfl⟩
theorem insert_any (v : Value) (l : List Sl) (i : Nat) (s : Sl) (vb vc : Nat) (w : World) (h : Slots w v l) (hi : i ≤ l.length) (hl : l.length ≤ 1000) (hV : Whole w vb (slv s) 77) (hne : v.ownBlock ≠ some vb) :
    Calls Try.prog 68 #[v, .int .i64 i, .slice (some ⟨vb, 0, none⟩) 1 vc] w fun e w' => ∃ v', e = .returned v' ∧ Inserted w v (l.take i ++ s :: l.drop i) v' w' := by
  by_cases he : i = l.length
  · subst he
    have := insert_end v l s vb vc w h hl hV
    rw [List.take_of_length_le (Nat.le_refl _), List.drop_eq_nil_of_le (Nat.le_refl _)]
    exact this
  · rcases h.form with ⟨rfl, rfl⟩ | ⟨g, cap, cs, rfl, _, hw, c1, c2, c3, c4⟩
    · simp at hi he; omega
    · by_cases hr : l.length + 1 ≤ cap
      · exact insert_shift g cap i l s vb vc cs w hw c2 c3 c4 (by omega) hl hr hV (fun e => hne (by rw [e]; rfl))
      · exact insert_grow g cap i l s vb vc cs w hw c1 c4 (by omega) hl (by omega) hV
/-- slices.Clone of slots that lie in a row from a place on. -/
def Cloned (w : World) (l : List Sl) (v' : Value) (w' : World) : Prop := Slots w' v' l ∧ (∀ g, v'.ownBlock = some g → w.heap.size ≤ g) ∧ Below w.heap.size w w'
set_option maxHeartbeats 2000000 in
theorem clone_some (g o n c : Nat) (l : List Sl) (w : World) (hn : n = l.length) (hc : ∀ j u, (l.flatMap slv)[j]? = some u → w.cell? ⟨g, o + j, none⟩ = some u) (hl : l.length ≤ 1000) :
    Calls Try.prog 56 #[.slice (some ⟨g, o, none⟩) n c] w fun e w' => ∃ v', e = .returned v' ∧ Cloned w l v' w' := by
  obtain ⟨i0, hi0, hz0, hz1, hz2⟩ := info_parts infoS
  have A : Hid (∀ j u, (l.flatMap slv)[j]? = some u → w.cell? ⟨g, o + j, none⟩ = some u) := hc
  have hl2 : Hid ((l.flatMap slv).length = n * 3) := by show _ = _; rw [flat_len slv 3 slv_len, hn]
  have hn2 : n ≤ 1000 := by omega
  have q22 : ∀ (w : World) (a : Option Addr) (n c n' c' : Nat), (binOp .eql 72 (.slice a n c) (.slice none n' c')).run Try.prog w = .ok (.bool a.isNone) w := fun w a n c n' c' => Lib.run_eql_slice_nil w _ _ a n c n' c' Try.underlying72
  have HN : Hid (n = l.length) := hn
  clear hc hl hn
  go_enter Try.func56, Try.ntmps56
  go_wp2_with (at_builtin; refine wpList_append_own _ rfl _ _ 72 rfl w.heap.size 77 i0 _ 3 40 Try.underlying72 hi0 hz0 hz1 hz2 rfl (by decide) _ _ _ rfl (World.ownsRow_made w #[] 0 (Nat.le_refl _) (Nat.zero_le _) (by simp)) ⟨g, o, none⟩ n c (l.flatMap slv) rfl ?qc1 ?qc2 ?qc3 ?qc4 ?qc5 ?qc6 ?_)
  case qc1 => exact hl2.out
  case qc2 =>
    intro j u hj
    rw [Addr.add_lit]
    exact Lib.cell?_alloc_some _ (A.out j u hj)
  case qc3 => exact slv_one l
  case qc4 => unfold maxLen; omega
  case qc5 => omega
  case qc6 => simp
  intro v' w1 hown hgrow hnil
  go_wp2
  go_ret
  refine ⟨v', rfl, ?_, ?_, ?_⟩
  · unfold Slots
    rw [← HN.out]
    have := hown
    refine ⟨by simpa using this.1, ?_⟩
    rcases this.2 with q | ⟨g, cap, cur, rfl, _, r⟩
    · exact .inl q
    · exact .inr ⟨g, cap, cur, rfl, Nat.zero_le _, by simpa using r⟩
  · intro b hb
    rcases hown.2 with ⟨rfl, _⟩ | ⟨g, cap, cur, rfl, q, _⟩
    · cases hb
    · cases hb; exact q
  · exact (below_new w _).grown hgrow (by simp) (by intro k hk; simp [Value.ownBlock] at hk; omega)
set_option maxHeartbeats 1000000 in
theorem clone_nil (n c : Nat) (w : World) :
    Calls Try.prog 56 #[.slice none n c] w fun e w' => ∃ v', e = .returned v' ∧ Cloned w [] v' w' := by
  have q22 : ∀ (w : World) (a : Option Addr) (n c n' c' : Nat), (binOp .eql 72 (.slice a n c) (.slice none n' c')).run Try.prog w = .ok (.bool a.isNone) w := fun w a n c n' c' => Lib.run_eql_slice_nil w _ _ a n c n' c' Try.underlying72
  go_enter Try.func56, Try.ntmps56
  go_wp2
  go_ret
  exact ⟨.slice none 0 0, rfl, World.ownsRow_nil w 0 _ 3, fun g hg => (by cases hg), Below.refl _ _⟩
theorem clone_any (v : Value) (l : List Sl) (w : World) (h : Slots w v l) (hl : l.length ≤ 1000) :
    Calls Try.prog 56 #[v] w fun e w' => ∃ v', e = .returned v' ∧ Cloned w l v' w' := by
  rcases h.form with ⟨rfl, rfl⟩ | ⟨g, cap, cs, rfl, _, hw, c1, c2, c3, c4⟩
  · exact clone_nil 0 0 w
  · refine clone_some g 0 _ cap l w rfl (fun j u hj => ?_) hl
    have := (List.getElem?_eq_some_iff.1 hj).1
    rw [flat_len slv 3 slv_len] at this
    rw [Nat.zero_add]
    refine hw.cell.trans ?_
    rw [← c4, List.getElem?_take, if_pos (by omega)] at hj
    exact hj
end Go.Proofs.Ytlfgeanafidopaa.Bt
