/-
  A node's clean; a tree's Clean.
-/
import Derived.Test.YtpflacbinankmaaBKids
namespace Go.Proofs.Ytpflacbinankmaa.Bt
open Go.RowKit
set_option maxRecDepth 10000

def wipe : (n : Nat) → El n → El n
  | 0, e => e
  | n + 1, t => if t.d then .nd false (t.l.map (wipe n)) else t
def cnt : (n : Nat) → El n → Nat
  | 0, _ => 0
  | n + 1, t => if t.d then 1 + (t.l.map (cnt n)).sum else 0
theorem ek_wipe : (n : Nat) → (e : El n) → ek n (wipe n e) = ek n e
  | 0, _ => rfl
  | n + 1, t => by
    have e : ∀ T : El (n + 1), ek (n + 1) T = match T.l with | [] => ⟨#[]⟩ | e :: _ => ek n e := fun _ => rfl
    have ew : wipe (n + 1) t = if t.d then .nd false (t.l.map (wipe n)) else t := rfl
    rw [ew]
    split
    · rw [e, e, El.l_nd]
      cases t.l with
      | nil => rfl
      | cons a r => exact ek_wipe n a
    · rfl
theorem flat_wipe : (n : Nat) → (e : El n) → flat n (wipe n e) = flat n e
  | 0, _ => rfl
  | n + 1, t => by
    have ew : wipe (n + 1) t = if t.d then .nd false (t.l.map (wipe n)) else t := rfl
    rw [ew]
    split
    · rw [flat_succ, flat_succ, El.l_nd]
      unfold flats
      rw [List.flatMap_map]
      congr 1
      funext a
      exact flat_wipe n a
    · rfl
theorem fill_wipe {F : Nat} : (n : Nat) → (e : El n) → Fill F n e → Fill F n (wipe n e)
  | 0, _, h => h
  | n + 1, t, h => by
    have ew : wipe (n + 1) t = if t.d then .nd false (t.l.map (wipe n)) else t := rfl
    rw [ew]
    split
    · obtain ⟨h1, h2, h3⟩ := h
      refine ⟨by rw [El.l_nd, List.length_map]; exact h1, by rw [El.l_nd, List.length_map]; exact h2, fun e he => ?_⟩
      rw [El.l_nd] at he
      obtain ⟨y, hy, rfl⟩ := List.mem_map.1 he
      exact fill_wipe n y (h3 y hy)
    · exact h
theorem wipe_len {n : Nat} (t : El (n + 1)) : (wipe (n + 1) t).l.length = t.l.length := by
  have ew : wipe (n + 1) t = if t.d then .nd false (t.l.map (wipe n)) else t := rfl
  rw [ew]
  split
  · rw [El.l_nd, List.length_map]
  · rfl
theorem wipe_flats {n : Nat} (t : El (n + 1)) : flats (wipe (n + 1) t).l = flats t.l := by
  have := flat_wipe (n + 1) t
  rwa [flat_succ, flat_succ] at this
theorem inv_wipe {F n : Nat} {T : El (n + 1)} (h : Inv F n T) : Inv F n (wipe (n + 1) T) := by
  refine ⟨⟨fun e he => ?_, by rw [wipe_flats]; exact h.good.srt⟩, by rw [wipe_len]; exact h.le, fun hn => by rw [wipe_len]; exact h.two hn⟩
  have ew : wipe (n + 1) T = if T.d then .nd false (T.l.map (wipe n)) else T := rfl
  rw [ew] at he
  split at he
  · rw [El.l_nd] at he
    obtain ⟨y, hy, rfl⟩ := List.mem_map.1 he
    exact fill_wipe n y (h.good.kids y hy)
  · exact h.good.kids e he
theorem sum_le {α : Type} (f g : α → Nat) : ∀ (l : List α), (∀ x ∈ l, f x + 1 ≤ g x) → (l.map f).sum + l.length ≤ (l.map g).sum
  | [], _ => by simp
  | x :: l, h => by
    have := sum_le f g l (fun y hy => h y (by simp [hy]))
    have := h x (by simp)
    simp only [List.map_cons, List.sum_cons, List.length_cons]
    omega
theorem flats_sum {n : Nat} (l : List (El n)) : (flats l).length = (l.map fun e => (flat n e).length).sum := by
  unfold flats; rw [List.length_flatMap]
theorem cnt_le {F : Nat} (hF : 4 ≤ F) : ∀ (n : Nat) (e : El (n + 1)), Fill F (n + 1) e → cnt (n + 1) e + 1 ≤ (flat (n + 1) e).length
  | 0, t, h => by
    obtain ⟨h1, _, _⟩ := h
    have e0 : ∀ l : List (El 0), (l.map (cnt 0)).sum = 0 := fun l => by
      induction l with
      | nil => rfl
      | cons a l ih => rw [List.map_cons, List.sum_cons, ih]; rfl
    have ec : cnt 1 t = if t.d then 1 + (t.l.map (cnt 0)).sum else 0 := rfl
    rw [ec, e0, flat_succ, flats_zero, List.length_map]
    split <;> omega
  | n + 1, t, h => by
    obtain ⟨h1, _, h3⟩ := h
    have := sum_le (cnt (n + 1)) (fun e => (flat (n + 1) e).length) t.l (fun x hx => cnt_le hF n x (h3 x hx))
    have ec : cnt (n + 2) t = if t.d then 1 + (t.l.map (cnt (n + 1))).sum else 0 := rfl
    rw [ec, flat_succ, flats_sum]
    split <;> omega
theorem cnt_root {F : Nat} (hF : 4 ≤ F) {n : Nat} {T : El (n + 1)} (h : ∀ e ∈ T.l, Fill F n e) : (if T.d then 1 + (T.l.map (cnt n)).sum else 0) ≤ (flats T.l).length + 1 := by
  cases n with
  | zero =>
    have e0 : ∀ l : List (El 0), (l.map (cnt 0)).sum = 0 := fun l => by
      induction l with
      | nil => rfl
      | cons a l ih => rw [List.map_cons, List.sum_cons, ih]; rfl
    rw [e0]; split <;> omega
  | succ n =>
    have := sum_le (cnt (n + 1)) (fun e => (flat (n + 1) e).length) T.l (fun x hx => cnt_le hF n x (h x hx))
    rw [flats_sum]
    split <;> omega
theorem Par.markB {m : Nat} {w : World} {F0 : List Nat} {W : World} {h : Hd} {lv : Nat} {sl : List Sl} {ks : List (En m)} (x : Par w F0 W h lv sl ks) (hF : h.p ∈ F0 ∨ w.heap.size ≤ h.p) (d : Bool) : ∀ W', W' = W.setCell ⟨h.p, 2, none⟩ (.bool d) → Par w F0 W' (Hd.mk h.p h.v d) lv sl ks := by
  rintro W' rfl
  have hk : Kept (fun b => b = h.p) W (W.setCell ⟨h.p, 2, none⟩ (.bool d)) := (Kept.refl (fun b => b = h.p) W).setCell (p := ⟨h.p, 2, none⟩) rfl _
  have hnd := x.nd
  refine ⟨⟨by simpa using x.at_.row.set (i := 2) (.bool d) (by simp), x.at_.own.kept hk fun g hg => x.at_.ne g hg⟩, fun e he => (x.lies e he).kept hk fun b hb e2 => ?_, x.nd, x.sub, ?_⟩
  · obtain ⟨_, _, h3⟩ := List.nodup_append.1 hnd
    exact h3 h.p (by simp [Hd.blks]) b (mem_footL.2 ⟨e, he, hb⟩) e2.symm
  · exact x.kept.comp hk fun b e => by rw [e]; exact hF
/-- What clean asks and tells. -/
def CleanAt (F n : Nat) : Prop := ∀ (t : En (n + 1)) (w : World), Lies w (n + 1) t → (foot (n + 1) t).Nodup → (∀ e ∈ (abs (n + 1) t).l, Fill F n e) → t.l.length ≤ F → (0 < n → 0 < t.l.length) → (flats (abs (n + 1) t).l).length < 2305843009213693952 →
  Calls Try.prog 46 #[.pointer (some ⟨t.h.p, 0, none⟩)] w fun e w' => e = .returned (.int .i64 ((cnt (n + 1) (abs (n + 1) t) : Nat) : Int)) ∧ ∃ t', Went w t t' w' ∧ abs (n + 1) t' = wipe (n + 1) (abs (n + 1) t)
set_option maxHeartbeats 1000000 in
theorem clean_no {n : Nat} (t : En (n + 1)) (w : World) (h : Lies w (n + 1) t) (hn : (foot (n + 1) t).Nodup) (hd : t.h.d = false) :
    Calls Try.prog 46 #[.pointer (some ⟨t.h.p, 0, none⟩)] w fun e w' => e = .returned (.int .i64 0) ∧ ∃ t', Went w t t' w' ∧ abs (n + 1) t' = abs (n + 1) t := by
  have d2 : w.cell? ⟨t.h.p, 2, none⟩ = some (.bool false) := by rw [← hd]; exact h.1.row.cell (i := 2) rfl
  have HF : Hid (Went w t t w) := ⟨h, rfl, hn, fun _ q => .inl q, Kept.refl _ _⟩
  clear h hn hd
  go_enter Try.func46, Try.ntmps46
  go_wp2
  go_ret
  exact ⟨rfl, t, HF.out, rfl⟩
set_option maxHeartbeats 1000000 in
theorem clean_leaf (t : En 1) (w : World) (h : Lies w 1 t) (hn : (foot 1 t).Nodup) (hd : t.h.d = true) :
    Calls Try.prog 46 #[.pointer (some ⟨t.h.p, 0, none⟩)] w fun e w' => e = .returned (.int .i64 1) ∧ ∃ t', Went w t t' w' ∧ abs 1 t' = .nd false (abs 1 t).l := by
  have d2 : w.cell? ⟨t.h.p, 2, none⟩ = some (.bool true) := by rw [← hd]; exact h.1.row.cell (i := 2) rfl
  obtain ⟨W1, hW1⟩ : ∃ W1, W1 = w.setCell ⟨t.h.p, 2, none⟩ (.bool false) := ⟨_, rfl⟩
  have hP := (Par.start h hn).markB (.inl (by rw [foot_succ]; simp [Hd.blks])) false W1 hW1
  have kK := kids_leaf _ _ W1 hP.at_
  have HF : Hid (∃ t', Went w t t' W1 ∧ abs 1 t' = .nd false (abs 1 t).l) := ⟨_, Par.fin hP rfl, rfl⟩
  have hf := h.1.row.frozen 2
  have HW : Hid (W1 = w.setCell ⟨t.h.p, 2, none⟩ (.bool false)) := hW1
  clear h hn hd hP hW1
  go_enter Try.func46, Try.ntmps46
  go_wp2_with (go_at_call 45; rw [← HW.out]; refine kK.mono ?_; rintro e w' ⟨rfl, rfl⟩)
  go_loopg [3, 17] 0 (fun kx c s wr => kx = 0 ∧ c = .int .i64 1 ∧ s = .int .i64 0 ∧ wr = W1)
  case atStart => exact ⟨rfl, rfl, rfl, rfl⟩
  case round =>
    obtain ⟨_, rfl, rfl, rfl⟩ := hrel
    go_wp2
    go_ret
    exact ⟨rfl, HF.out⟩
theorem sum_take_succ {l : List Nat} {k x : Nat} (h : l[k]? = some x) : (l.take (k + 1)).sum = (l.take k).sum + x := by
  obtain ⟨h1, h2⟩ := List.getElem?_eq_some_iff.1 h
  rw [List.take_succ_eq_append_getElem h1, List.sum_append, h2]; simp
theorem sum_take_le (l : List Nat) (k : Nat) : (l.take k).sum ≤ l.sum := by
  have : (l.take k).sum + (l.drop k).sum = l.sum := by rw [← List.sum_append, List.take_append_drop]
  omega
/-- The kids whose first k are cleaned. -/
def Swept {n : Nat} (w : World) (t : En (n + 2)) (B : Nat) (k : Nat) (wr : World) : Prop :=
  ∃ done : List (En (n + 1)), done.length = k ∧ Par w (foot (n + 2) t) wr (Hd.mk t.h.p t.h.v false) (n + 1) (t.l.map (slE (n + 1))) (done ++ t.l.drop k) ∧ done.map (abs (n + 1)) = ((t.l.take k).map (abs (n + 1))).map (wipe (n + 1)) ∧ done.map (slE (n + 1)) = (t.l.take k).map (slE (n + 1)) ∧ Whole wr B ((t.l.map (slE (n + 1))).map kidP) 65
set_option maxHeartbeats 4000000 in
theorem clean_inner {F n : Nat} (hF : 4 ≤ F) (hF2 : F ≤ 64) (ih : CleanAt F n) (t : En (n + 2)) (w : World) (h : Lies w (n + 2) t) (hn : (foot (n + 2) t).Nodup) (hk : ∀ e ∈ (abs (n + 2) t).l, Fill F (n + 1) e) (hl : t.l.length ≤ F) (h0 : 0 < t.l.length) (hb : (flats (abs (n + 2) t).l).length < 2305843009213693952) (hd : t.h.d = true) :
    Calls Try.prog 46 #[.pointer (some ⟨t.h.p, 0, none⟩)] w fun e w' => e = .returned (.int .i64 ((1 + (((abs (n + 2) t).l.map (cnt (n + 1))).sum) : Nat) : Int)) ∧ ∃ t', Went w t t' w' ∧ abs (n + 2) t' = .nd false ((abs (n + 2) t).l.map (wipe (n + 1))) := by
  have d2 : w.cell? ⟨t.h.p, 2, none⟩ = some (.bool true) := by rw [← hd]; exact h.1.row.cell (i := 2) rfl
  obtain ⟨W1, hW1⟩ : ∃ W1, W1 = w.setCell ⟨t.h.p, 2, none⟩ (.bool false) := ⟨_, rfl⟩
  have hP := (Par.start h hn).markB (.inl (by rw [foot_succ]; simp [Hd.blks])) false W1 hW1
  have kK := kids_any (Hd.mk t.h.p t.h.v false) (n + 1) _ W1 hP.at_ (by rw [List.length_map]; omega) (by rw [List.length_map]; exact h0) (by omega)
  rw [List.length_map] at kK
  obtain ⟨N, hN⟩ : ∃ N, N = t.l.length := ⟨_, rfl⟩
  obtain ⟨cs, hcs⟩ : ∃ cs, cs = (abs (n + 2) t).l.map (cnt (n + 1)) := ⟨_, rfl⟩
  have hcl : cs.length = N := by rw [hcs, List.length_map, abs_l, List.length_map, hN]
  have hsum : cs.sum < 2305843009213693952 := by
    have := sum_le (cnt (n + 1)) (fun e => (flat (n + 1) e).length) (abs (n + 2) t).l (fun x hx => cnt_le hF n x (hk x hx))
    rw [← flats_sum, ← hcs] at this; omega
  have HSt : Hid (∀ W2 B, Below W1.heap.size W1 W2 → Whole W2 B ((t.l.map (slE (n + 1))).map kidP) 65 → Swept w t B 0 W2) := fun W2 B hb2 hw => ⟨[], rfl, by rw [List.drop_zero]; exact hP.later hb2, rfl, rfl, hw⟩
  have HRd : Hid (∀ W B k, Swept w t B k W → k < N → ∃ c x : _, t.l[k]? = some c ∧ cs[k]? = some x ∧ x = cnt (n + 1) (abs (n + 1) c) ∧ W.cell? ⟨B, k, none⟩ = some (.pointer (some ⟨c.h.p, 0, none⟩))) := fun W B k hS hkN => by
    obtain ⟨done, _, _, _, _, hw⟩ := hS
    obtain ⟨c, hc⟩ : ∃ c, t.l[k]? = some c := ⟨_, List.getElem?_eq_getElem (by omega)⟩
    refine ⟨c, _, hc, by rw [hcs, List.getElem?_map, abs_l, List.getElem?_map, hc]; rfl, rfl, ?_⟩
    rw [hw.cell, List.getElem?_map, List.getElem?_map, hc]; rfl
  have HCl : Hid (∀ W B k c, Swept w t B k W → t.l[k]? = some c → Calls Try.prog 46 #[.pointer (some ⟨c.h.p, 0, none⟩)] W fun e W' => e = .returned (.int .i64 ((cnt (n + 1) (abs (n + 1) c) : Nat) : Int)) ∧ Swept w t B (k + 1) W') := fun W B k c hS hc => by
    obtain ⟨done, hdl, y, ha, hs, hw⟩ := hS
    obtain ⟨hkl, hce⟩ := List.getElem?_eq_some_iff.1 hc
    have hdr : t.l.drop k = c :: t.l.drop (k + 1) := by rw [← hce, ← List.drop_eq_getElem_cons hkl]
    rw [hdr] at y
    have hcm : abs (n + 1) c ∈ (abs (n + 2) t).l := by rw [abs_l]; exact List.mem_map_of_mem (List.mem_of_getElem? hc)
    obtain ⟨f1, f2, f3⟩ := hk _ hcm
    rw [abs_l, List.length_map] at f1 f2
    have hfl : (flats (abs (n + 1) c).l).length ≤ (flats (abs (n + 2) t).l).length := by
      rw [split_at (show (abs (n + 2) t).l[k]? = some (abs (n + 1) c) by rw [abs_l, List.getElem?_map, hc]; rfl), flats_append, flats_cons, flat_succ, List.length_append, List.length_append]; omega
    refine (ih c W (y.lies c (by simp)) (Par.fstN y) f3 f2 (fun _ => by omega) (by omega)).mono ?_
    rintro e W' ⟨rfl, c', g, ea⟩
    refine ⟨rfl, done ++ [c'], by simp [hdl], ?_, ?_, ?_, ?_⟩
    · have := Par.kid y g
      rwa [show done ++ c' :: t.l.drop (k + 1) = (done ++ [c']) ++ t.l.drop (k + 1) by simp] at this
    · rw [List.map_append, ha, List.take_succ_eq_append_getElem hkl, hce, List.map_append, List.map_append]
      simp [ea]
    · have : slE (n + 1) c' = slE (n + 1) c := by
        show Sl.mk (ek (n + 1) (abs (n + 1) c')) _ (some c'.h.p) = Sl.mk (ek (n + 1) (abs (n + 1) c)) _ (some c.h.p)
        rw [ea, ek_wipe, g.p]
      rw [List.map_append, hs, List.take_succ_eq_append_getElem hkl, hce, List.map_append]
      simp [this]
    · exact hw.kept g.kept (fun e => hw.row.notFoot (by decide) (by decide) (y.lies c (by simp)) e)
  have HF : Hid (∀ W B, Swept w t B N W → ∃ t', Went w t t' W ∧ abs (n + 2) t' = .nd false ((abs (n + 2) t).l.map (wipe (n + 1)))) := fun W B hS => by
    obtain ⟨done, hdl, y, ha, hs, hw⟩ := hS
    rw [hN, List.drop_eq_nil_of_le (Nat.le_refl _), List.append_nil, List.take_of_length_le (Nat.le_refl _)] at *
    rw [← hs] at y
    exact ⟨_, Par.fin y rfl, by show El.nd false _ = _; rw [En.l_nd, ha, abs_l]⟩
  have hf := h.1.row.frozen 2
  have HW : Hid (W1 = w.setCell ⟨t.h.p, 2, none⟩ (.bool false)) := hW1
  have HS : Hid (cs.length = N) := hcl
  rw [← hcs]
  rw [← hN] at kK
  have hN0 : 0 < N := by omega
  have hN64 : N ≤ 64 := by omega
  clear h hn hd hP hW1 hN hcs hcl hk hl h0 hb ih
  go_enter Try.func46, Try.ntmps46
  go_wp2_with (go_at_call 45; rw [← HW.out]; refine kK.mono ?_; rintro e W2 ⟨B, rfl, hb2, _, hw2⟩; have H2 : Hid (Swept w t B 0 W2) := HSt.out W2 B hb2 hw2; clear hb2 hw2)
  go_loopg [3, 17] N (fun kx c s wr => ∃ k : Nat, k + kx = N ∧ c = .int .i64 ((1 + (cs.take k).sum : Nat) : Int) ∧ s = .int .i64 (k : Nat) ∧ Hid (Swept w t B k wr))
  case atStart => exact ⟨0, by omega, rfl, rfl, H2.out⟩
  case round =>
    obtain ⟨k, hk, rfl, rfl, I⟩ := hrel
    by_cases hlt : k < N
    · obtain ⟨c, x, hc, hx, hxe, q1⟩ := HRd.out wr B k I.out hlt
      have kC := HCl.out wr B k c I.out hc
      rw [← hxe] at kC
      have hs1 := sum_take_succ hx
      have hs2 := sum_take_le cs (k + 1)
      have HS1 : Hid ((cs.take (k + 1)).sum = (cs.take k).sum + x) := hs1
      have hi1 : (k : Int) < (N : Int) := by omega
      obtain ⟨A, hA⟩ : ∃ A, A = 1 + (cs.take k).sum := ⟨_, rfl⟩
      rw [← hA]
      have HA : Hid (A = 1 + (cs.take k).sum) := hA
      have hA2 : (A : Int) + (x : Int) < 4611686018427387904 := by omega
      have hA3 : (0 : Int) ≤ (A : Int) + (x : Int) := by omega
      clear hc hx hxe hs1 hs2 hA
      go_wp2_with (go_at_call 46; refine kC.mono ?_; rintro e W3 ⟨rfl, h3⟩; have H3 : Hid (Swept w t B (k + 1) W3) := h3; clear h3)
      go_roundg (N - (k + 1))
      case measure => omega
      case rel => exact ⟨k + 1, by omega, by rw [HS1.out, ← Nat.add_assoc, ← HA.out]; go_num, by go_num, H3.out⟩
    · have hkN : k = N := by omega
      subst hkN
      go_wp2
      go_ret
      exact ⟨ret_int (by rw [List.take_of_length_le (by rw [HS.out]; exact Nat.le_refl _)]), HF.out wr B I.out⟩
theorem clean_any {F : Nat} (hF : 4 ≤ F) (hF2 : F ≤ 64) : ∀ n, CleanAt F n
  | 0, t, w, h, hn, hk, hl, _, hb => by
    have ec : cnt 1 (abs 1 t) = if t.h.d then 1 + ((abs 1 t).l.map (cnt 0)).sum else 0 := rfl
    have ew : wipe 1 (abs 1 t) = if t.h.d then .nd false ((abs 1 t).l.map (wipe 0)) else abs 1 t := rfl
    cases hd : t.h.d with
    | false => rw [ec, ew, hd]; exact clean_no t w h hn hd
    | true =>
      rw [ec, ew, hd]
      have e0 : ((abs 1 t).l.map (cnt 0)).sum = 0 := by
        generalize (abs 1 t).l = l
        induction l with
        | nil => rfl
        | cons a l ih => rw [List.map_cons, List.sum_cons, ih]; rfl
      have e1 : (abs 1 t).l.map (wipe 0) = (abs 1 t).l := List.map_id _
      simp only [if_true, e0, e1]
      exact clean_leaf t w h hn hd
  | n + 1, t, w, h, hn, hk, hl, h0, hb => by
    have ec : cnt (n + 2) (abs (n + 2) t) = if t.h.d then 1 + ((abs (n + 2) t).l.map (cnt (n + 1))).sum else 0 := rfl
    have ew : wipe (n + 2) (abs (n + 2) t) = if t.h.d then .nd false ((abs (n + 2) t).l.map (wipe (n + 1))) else abs (n + 2) t := rfl
    cases hd : t.h.d with
    | false => rw [ec, ew, hd]; exact clean_no t w h hn hd
    | true => rw [ec, ew, hd]; exact clean_inner hF hF2 (clean_any hF hF2 n) t w h hn hk hl (h0 (by omega)) hb hd
def wipeT (x : Tre) : Tre := ⟨x.n, wipe (x.n + 1) x.T⟩
def cntT (x : Tre) : Nat := cnt (x.n + 1) x.T
set_option maxHeartbeats 1000000 in
theorem cleanT_any {w : World} {p F : Nat} {x : Tre} {fs : List Nat} (h : Live w p F x fs) (hlen : x.all.length < 2305843009213693952) :
    Calls Try.prog 22 #[.pointer (some ⟨p, 0, none⟩)] w fun e w' => e = .returned (.int .i64 ((cntT x : Nat) : Int)) ∧ Left w p F fs (wipeT x) w' := by
  obtain ⟨t, ht, hfs⟩ := h.tr
  obtain ⟨_, _, c2, _⟩ := ht.cells
  have hI : Inv F x.n x.T := h.inv
  have habs := ht.abs
  have hle : t.l.length = x.T.l.length := by rw [← habs, abs_l, List.length_map]
  have kC := clean_any h.lo h.hi x.n t w ht.lies ht.nd (by rw [habs]; exact hI.good.kids) (by rw [hle]; exact hI.le) (fun hn => by have := hI.two hn; omega) (by rw [habs]; exact hlen)
  rw [habs] at kC
  have HF : Hid (∀ W t', Went w t t' W → abs (x.n + 1) t' = wipe (x.n + 1) x.T → Left w p F fs (wipeT x) W) := fun W t' g ea => by
    have h3 := ht.root g _ ea
    have hall : (wipeT x).all = x.all := wipe_flats x.T
    refine ⟨⟨foot (x.n + 1) t', ⟨⟨t', ?_, rfl⟩, inv_wipe hI, h.lo, h.hi⟩, fun b hb => ?_⟩, g.kept.mono fun b hb => .inr (by rw [← hfs]; exact hb)⟩
    · rw [hall]; exact h3
    · rcases g.sub b hb with q | q
      · exact .inl (by rw [← hfs]; exact q)
      · exact .inr q
  generalize t.h.p = rp at *
  have kC : Calls Try.prog 46 #[.pointer (some ⟨rp, 0, none⟩)] w fun e w' => e = .returned (.int .i64 ((cntT x : Nat) : Int)) ∧ ∃ t', Went w t t' w' ∧ abs (x.n + 1) t' = wipe (x.n + 1) x.T := kC
  clear h ht hI habs hle
  generalize cntT x = C at *
  go_enter Try.func22, Try.ntmps22
  go_wp2_with (go_at_call 46; refine kC.mono ?_; rintro e W2 ⟨rfl, t', g, ea⟩; have HL : Hid (Left w p F fs (wipeT x) W2) := HF.out W2 t' g ea; clear g ea)
  go_ret
  exact ⟨rfl, HL.out⟩
end Go.Proofs.Ytpflacbinankmaa.Bt
