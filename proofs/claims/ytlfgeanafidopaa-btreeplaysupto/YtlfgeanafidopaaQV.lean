/-
  A node's clean; a tree's Clean.
  What comes in: lists of nodes, as the walks are told of them.
  Build.
-/
import Derived.Test.YtlfgeanafidopaaQR
import Derived.Test.YtlfgeanafidopaaQA
import Derived.ProofKit
import Derived.OpenShut
import Derived.ShutString
import Derived.ChangeOld
import Derived.SizedLaws
import Derived.Deep.Slices
import Derived.Deep.SlicePairs
namespace Go.Proofs.Ytlfgeanafidopaa.Bt
open Go.RowKit
set_option maxRecDepth 10000

def wipe : (n : Nat) → El n → El n
  | 0, e => e
  | n + 1, t => if t.d then .nd false (t.l.map (wipe n)) else t
def cnt : (n : Nat) → El n → Nat
  | 0, _ => 0
  | n + 1, t => if t.d then 1 + (t.l.map (cnt n)).sum else 0
theorem ek_wipe : (n : Nat) → (e : El n) → ek n (wipe n e) = ek n e
  | 0, _ => rfl
  | n + 1, t => by
    have e : ∀ T : El (n + 1), ek (n + 1) T = match T.l with | [] => ⟨#[]⟩ | e :: _ => ek n e := fun _ => rfl
    have ew : wipe (n + 1) t = if t.d then .nd false (t.l.map (wipe n)) else t := rfl
    rw [ew]
    split
    · rw [e, e, El.l_nd]
      cases t.l with
      | nil => rfl
      | cons a r => exact ek_wipe n a
    · rfl
theorem flat_wipe : (n : Nat) → (e : El n) → flat n (wipe n e) = flat n e
  | 0, _ => rfl
  | n + 1, t => by
    have ew : wipe (n + 1) t = if t.d then .nd false (t.l.map (wipe n)) else t := rfl
    rw [ew]
    split
    · rw [flat_succ, flat_succ, El.l_nd]
      unfold flats
      rw [List.flatMap_map]
      congr 1
      funext a
      exact flat_wipe n a
    · rfl
theorem fill_wipe {F : Nat} : (n : Nat) → (e : El n) → Fill F n e → Fill F n (wipe n e)
  | 0, _, h => h
  | n + 1, t, h => by
    have ew : wipe (n + 1) t = if t.d then .nd false (t.l.map (wipe n)) else t := rfl
    rw [ew]
    split
    · obtain ⟨h1, h2, h3⟩ := h
      refine ⟨by rw [El.l_nd, List.length_map]; exact h1, by rw [El.l_nd, List.length_map]; exact h2, fun e he => ?_⟩
      rw [El.l_nd] at he
      obtain ⟨y, hy, rfl⟩ := List.mem_map.1 he
      exact fill_wipe n y (h3 y hy)
    · exact h
theorem wipe_len {n : Nat} (t : El (n + 1)) : (wipe (n + 1) t).l.length = t.l.length := by
  have ew : wipe (n + 1) t = if t.d then .nd false (t.l.map (wipe n)) else t := rfl
  rw [ew]
  split
  · rw [El.l_nd, List.length_map]
  · rfl
theorem wipe_flats {n : Nat} (t : El (n + 1)) : flats (wipe (n + 1) t).l = flats t.l := by
  have := flat_wipe (n + 1) t
  rwa [flat_succ, flat_succ] at this
theorem inv_wipe {F n : Nat} {T : El (n + 1)} (h : Inv F n T) : Inv F n (wipe (n + 1) T) := by
  refine ⟨⟨fun e he => ?_, by rw [wipe_flats]; exact h.good.srt⟩, by rw [wipe_len]; exact h.le, fun hn => by rw [wipe_len]; exact h.two hn⟩
  have ew : wipe (n + 1) T = if T.d then .nd false (T.l.map (wipe n)) else T := rfl
  rw [ew] at he
  split at he
  · rw [El.l_nd] at he
    obtain ⟨y, hy, rfl⟩ := List.mem_map.1 he
    exact fill_wipe n y (h.good.kids y hy)
  · exact h.good.kids e he
theorem sum_le {α : Type} (f g : α → Nat) : ∀ (l : List α), (∀ x ∈ l, f x + 1 ≤ g x) → (l.map f).sum + l.length ≤ (l.map g).sum
  | [], _ => by simp
  | x :: l, h => by
    have := sum_le f g l (fun y hy => h y (by simp [hy]))
    have := h x (by simp)
    simp only [List.map_cons, List.sum_cons, List.length_cons]
    omega
theorem flats_sum {n : Nat} (l : List (El n)) : (flats l).length = (l.map fun e => (flat n e).length).sum := by
  unfold flats; rw [List.length_flatMap]
theorem cnt_le {F : Nat} (hF : 4 ≤ F) : ∀ (n : Nat) (e : El (n + 1)), Fill F (n + 1) e → cnt (n + 1) e + 1 ≤ (flat (n + 1) e).length
  | 0, t, h => by
    obtain ⟨h1, _, _⟩ := h
    have e0 : ∀ l : List (El 0), (l.map (cnt 0)).sum = 0 := fun l => by
      induction l with
      | nil => rfl
      | cons a l ih => rw [List.map_cons, List.sum_cons, ih]; rfl
    have ec : cnt 1 t = if t.d then 1 + (t.l.map (cnt 0)).sum else 0 := rfl
    rw [ec, e0, flat_succ, flats_zero, List.length_map]
    split <;> omega
  | n + 1, t, h => by
    obtain ⟨h1, _, h3⟩ := h
    have := sum_le (cnt (n + 1)) (fun e => (flat (n + 1) e).length) t.l (fun x hx => cnt_le hF n x (h3 x hx))
    have ec : cnt (n + 2) t = if t.d then 1 + (t.l.map (cnt (n + 1))).sum else 0 := rfl
    rw [ec, flat_succ, flats_sum]
    split <;> omega
theorem cnt_root {F : Nat} (hF : 4 ≤ F) {n : Nat} {T : El (n + 1)} (h : ∀ e ∈ T.l, Fill F n e) : (if T.d then 1 + (T.l.map (cnt n)).sum else 0) ≤ (flats T.l).length + 1 := by
  cases n with
  | zero =>
    have e0 : ∀ l : List (El 0), (l.map (cnt 0)).sum = 0 := fun l => by
      induction l with
      | nil => rfl
      | cons a l ih => rw [List.map_cons, List.sum_cons, ih]; rfl
    rw [e0]; split <;> omega
  | succ n =>
    have := sum_le (cnt (n + 1)) (fun e => (flat (n + 1) e).length) T.l (fun x hx => cnt_le hF n x (h x hx))
    rw [flats_sum]
    split <;> omega
theorem Par.markB {m : Nat} {w : World} {F0 : List Nat} {W : World} {h : Hd} {lv : Nat} {sl : List Sl} {ks : List (En m)} (x : Par w F0 W h lv sl ks) (hF : h.p ∈ F0 ∨ w.heap.size ≤ h.p) (d : Bool) : ∀ W', W' = W.setCell ⟨h.p, 2, none⟩ (.bool d) → Par w F0 W' (Hd.mk h.p h.v d) lv sl ks := by
  rintro W' rfl
  have hk : Kept (fun b => b = h.p) W (W.setCell ⟨h.p, 2, none⟩ (.bool d)) := (Kept.refl (fun b => b = h.p) W).setCell (p := ⟨h.p, 2, none⟩) rfl _
  have hnd := x.nd
  refine ⟨⟨by simpa using x.at_.row.set (i := 2) (.bool d) (by simp), x.at_.own.kept hk fun g hg => x.at_.ne g hg⟩, fun e he => (x.lies e he).kept hk fun b hb e2 => ?_, x.nd, x.sub, ?_⟩
  · obtain ⟨_, _, h3⟩ := List.nodup_append.1 hnd
    exact h3 h.p (by simp [Hd.blks]) b (mem_footL.2 ⟨e, he, hb⟩) e2.symm
  · exact x.kept.comp hk fun b e => by rw [e]; exact hF
/-- What clean asks and tells. -/
def CleanAt (F n : Nat) : Prop := ∀ (t : En (n + 1)) (w : World), Lies w (n + 1) t → (foot (n + 1) t).Nodup → (∀ e ∈ (abs (n + 1) t).l, Fill F n e) → t.l.length ≤ F → (0 < n → 0 < t.l.length) → (flats (abs (n + 1) t).l).length < 2305843009213693952 →
  Calls Try.prog 46 #[.pointer (some ⟨t.h.p, 0, none⟩)] w fun e w' => e = .returned (.int .i64 ((cnt (n + 1) (abs (n + 1) t) : Nat) : Int)) ∧ ∃ t', Went w t t' w' ∧ abs (n + 1) t' = wipe (n + 1) (abs (n + 1) t)
set_option maxHeartbeats 1000000 in
theorem clean_no {n : Nat} (t : En (n + 1)) (w : World) (h : Lies w (n + 1) t) (hn : (foot (n + 1) t).Nodup) (hd : t.h.d = false) :
    Calls Try.prog 46 #[.pointer (some ⟨t.h.p, 0, none⟩)] w fun e w' => e = .returned (.int .i64 0) ∧ ∃ t', Went w t t' w' ∧ abs (n + 1) t' = abs (n + 1) t := by
  have d2 : w.cell? ⟨t.h.p, 2, none⟩ = some (.bool false) := by rw [← hd]; exact h.1.row.cell (i := 2) rfl
  have HF : Hid (Went w t t w) := ⟨h, rfl, hn, fun _ q => .inl q, Kept.refl _ _⟩
  clear h hn hd
  go_enter Try.func46, Try.ntmps46
  go_wp2
  go_ret
  exact ⟨rfl, t, HF.out, rfl⟩
set_option maxHeartbeats 1000000 in
theorem clean_leaf (t : En 1) (w : World) (h : Lies w 1 t) (hn : (foot 1 t).Nodup) (hd : t.h.d = true) :
    Calls Try.prog 46 #[.pointer (some ⟨t.h.p, 0, none⟩)] w fun e w' => e = .returned (.int .i64 1) ∧ ∃ t', Went w t t' w' ∧ abs 1 t' = .nd false (abs 1 t).l := by
  have d2 : w.cell? ⟨t.h.p, 2, none⟩ = some (.bool true) := by rw [← hd]; exact h.1.row.cell (i := 2) rfl
  obtain ⟨W1, hW1⟩ : ∃ W1, W1 = w.setCell ⟨t.h.p, 2, none⟩ (.bool false) := ⟨_, rfl⟩
  have hP := (Par.start h hn).markB (.inl (by rw [foot_succ]; simp [Hd.blks])) false W1 hW1
  have kK := kids_leaf _ _ W1 hP.at_
  have HF : Hid (∃ t', Went w t t' W1 ∧ abs 1 t' = .nd false (abs 1 t).l) := ⟨_, Par.fin hP rfl, rfl⟩
  have hf := h.1.row.frozen 2
  have HW : Hid (W1 = w.setCell ⟨t.h.p, 2, none⟩ (.bool false)) := hW1
  clear h hn hd hP hW1
  go_enter Try.func46, Try.ntmps46
  go_wp2_with (go_at_call 45; rw [← HW.out]; refine kK.mono ?_; rintro e w' ⟨rfl, rfl⟩)
  go_loopg [3, 17] 0 (fun kx c s wr => kx = 0 ∧ c = .int .i64 1 ∧ s = .int .i64 0 ∧ wr = W1)
  case atStart => exact ⟨rfl, rfl, rfl, rfl⟩
  case round =>
    obtain ⟨_, rfl, rfl, rfl⟩ := hrel
    go_wp2
    go_ret
    exact ⟨rfl, HF.out⟩
theorem sum_take_succ {l : List Nat} {k x : Nat} (h : l[k]? = some x) : (l.take (k + 1)).sum = (l.take k).sum + x := by
  obtain ⟨h1, h2⟩ := List.getElem?_eq_some_iff.1 h
  rw [List.take_succ_eq_append_getElem h1, List.sum_append, h2]; simp
theorem sum_take_le (l : List Nat) (k : Nat) : (l.take k).sum ≤ l.sum := by
  have : (l.take k).sum + (l.drop k).sum = l.sum := by rw [← List.sum_append, List.take_append_drop]
  omega
/-- The kids whose first k are cleaned. -/
def Swept {n : Nat} (w : World) (t : En (n + 2)) (B : Nat) (k : Nat) (wr : World) : Prop :=
  ∃ done : List (En (n + 1)), done.length = k ∧ Par w (foot (n + 2) t) wr (Hd.mk t.h.p t.h.v false) (n + 1) (t.l.map (slE (n + 1))) (done ++ t.l.drop k) ∧ done.map (abs (n + 1)) = ((t.l.take k).map (abs (n + 1))).map (wipe (n + 1)) ∧ done.map (slE (n + 1)) = (t.l.take k).map (slE (n + 1)) ∧ Whole wr B ((t.l.map (slE (n + 1))).map kidP) 65
set_option maxHeartbeats 4000000 in
theorem clean_inner {F n : Nat} (hF : 4 ≤ F) (hF2 : F ≤ 64) (ih : CleanAt F n) (t : En (n + 2)) (w : World) (h : Lies w (n + 2) t) (hn : (foot (n + 2) t).Nodup) (hk : ∀ e ∈ (abs (n + 2) t).l, Fill F (n + 1) e) (hl : t.l.length ≤ F) (h0 : 0 < t.l.length) (hb : (flats (abs (n + 2) t).l).length < 2305843009213693952) (hd : t.h.d = true) :
    Calls Try.prog 46 #[.pointer (some ⟨t.h.p, 0, none⟩)] w fun e w' => e = .returned (.int .i64 ((1 + (((abs (n + 2) t).l.map (cnt (n + 1))).sum) : Nat) : Int)) ∧ ∃ t', Went w t t' w' ∧ abs (n + 2) t' = .nd false ((abs (n + 2) t).l.map (wipe (n + 1))) := by
  have d2 : w.cell? ⟨t.h.p, 2, none⟩ = some (.bool true) := by rw [← hd]; exact h.1.row.cell (i := 2) rfl
  obtain ⟨W1, hW1⟩ : ∃ W1, W1 = w.setCell ⟨t.h.p, 2, none⟩ (.bool false) := ⟨_, rfl⟩
  have hP := (Par.start h hn).markB (.inl (by rw [foot_succ]; simp [Hd.blks])) false W1 hW1
  have kK := kids_any (Hd.mk t.h.p t.h.v false) (n + 1) _ W1 hP.at_ (by rw [List.length_map]; omega) (by rw [List.length_map]; exact h0) (by omega)
  rw [List.length_map] at kK
  obtain ⟨N, hN⟩ : ∃ N, N = t.l.length := ⟨_, rfl⟩
  obtain ⟨cs, hcs⟩ : ∃ cs, cs = (abs (n + 2) t).l.map (cnt (n + 1)) := ⟨_, rfl⟩
  have hcl : cs.length = N := by rw [hcs, List.length_map, abs_l, List.length_map, hN]
  have hsum : cs.sum < 2305843009213693952 := by
    have := sum_le (cnt (n + 1)) (fun e => (flat (n + 1) e).length) (abs (n + 2) t).l (fun x hx => cnt_le hF n x (hk x hx))
    rw [← flats_sum, ← hcs] at this; omega
  have HSt : Hid (∀ W2 B, Below W1.heap.size W1 W2 → Whole W2 B ((t.l.map (slE (n + 1))).map kidP) 65 → Swept w t B 0 W2) := fun W2 B hb2 hw => ⟨[], rfl, by rw [List.drop_zero]; exact hP.later hb2, rfl, rfl, hw⟩
  have HRd : Hid (∀ W B k, Swept w t B k W → k < N → ∃ c x : _, t.l[k]? = some c ∧ cs[k]? = some x ∧ x = cnt (n + 1) (abs (n + 1) c) ∧ W.cell? ⟨B, k, none⟩ = some (.pointer (some ⟨c.h.p, 0, none⟩))) := fun W B k hS hkN => by
    obtain ⟨done, _, _, _, _, hw⟩ := hS
    obtain ⟨c, hc⟩ : ∃ c, t.l[k]? = some c := ⟨_, List.getElem?_eq_getElem (by omega)⟩
    refine ⟨c, _, hc, by rw [hcs, List.getElem?_map, abs_l, List.getElem?_map, hc]; rfl, rfl, ?_⟩
    rw [hw.cell, List.getElem?_map, List.getElem?_map, hc]; rfl
  have HCl : Hid (∀ W B k c, Swept w t B k W → t.l[k]? = some c → Calls Try.prog 46 #[.pointer (some ⟨c.h.p, 0, none⟩)] W fun e W' => e = .returned (.int .i64 ((cnt (n + 1) (abs (n + 1) c) : Nat) : Int)) ∧ Swept w t B (k + 1) W') := fun W B k c hS hc => by
    obtain ⟨done, hdl, y, ha, hs, hw⟩ := hS
    obtain ⟨hkl, hce⟩ := List.getElem?_eq_some_iff.1 hc
    have hdr : t.l.drop k = c :: t.l.drop (k + 1) := by rw [← hce, ← List.drop_eq_getElem_cons hkl]
    rw [hdr] at y
    have hcm : abs (n + 1) c ∈ (abs (n + 2) t).l := by rw [abs_l]; exact List.mem_map_of_mem (List.mem_of_getElem? hc)
    obtain ⟨f1, f2, f3⟩ := hk _ hcm
    rw [abs_l, List.length_map] at f1 f2
    have hfl : (flats (abs (n + 1) c).l).length ≤ (flats (abs (n + 2) t).l).length := by
      rw [split_at (show (abs (n + 2) t).l[k]? = some (abs (n + 1) c) by rw [abs_l, List.getElem?_map, hc]; rfl), flats_append, flats_cons, flat_succ, List.length_append, List.length_append]; omega
    refine (ih c W (y.lies c (by simp)) (Par.fstN y) f3 f2 (fun _ => by omega) (by omega)).mono ?_
    rintro e W' ⟨rfl, c', g, ea⟩
    refine ⟨rfl, done ++ [c'], by simp [hdl], ?_, ?_, ?_, ?_⟩
    · have := Par.kid y g
      rwa [show done ++ c' :: t.l.drop (k + 1) = (done ++ [c']) ++ t.l.drop (k + 1) by simp] at this
    · rw [List.map_append, ha, List.take_succ_eq_append_getElem hkl, hce, List.map_append, List.map_append]
      simp [ea]
    · have : slE (n + 1) c' = slE (n + 1) c := by
        show Sl.mk (ek (n + 1) (abs (n + 1) c')) _ (some c'.h.p) = Sl.mk (ek (n + 1) (abs (n + 1) c)) _ (some c.h.p)
        rw [ea, ek_wipe, g.p]
      rw [List.map_append, hs, List.take_succ_eq_append_getElem hkl, hce, List.map_append]
      simp [this]
    · exact hw.kept g.kept (fun e => hw.row.notFoot (by decide) (by decide) (y.lies c (by simp)) e)
  have HF : Hid (∀ W B, Swept w t B N W → ∃ t', Went w t t' W ∧ abs (n + 2) t' = .nd false ((abs (n + 2) t).l.map (wipe (n + 1)))) := fun W B hS => by
    obtain ⟨done, hdl, y, ha, hs, hw⟩ := hS
    rw [hN, List.drop_eq_nil_of_le (Nat.le_refl _), List.append_nil, List.take_of_length_le (Nat.le_refl _)] at *
    rw [← hs] at y
    exact ⟨_, Par.fin y rfl, by show El.nd false _ = _; rw [En.l_nd, ha, abs_l]⟩
  have hf := h.1.row.frozen 2
  have HW : Hid (W1 = w.setCell ⟨t.h.p, 2, none⟩ (.bool false)) := hW1
  have HS : Hid (cs.length = N) := hcl
  rw [← hcs]
  rw [← hN] at kK
  have hN0 : 0 < N := by omega
  have hN64 : N ≤ 64 := by omega
  clear h hn hd hP hW1 hN hcs hcl hk hl h0 hb ih
  go_enter Try.func46, Try.ntmps46
  go_wp2_with (go_at_call 45; rw [← HW.out]; refine kK.mono ?_; rintro e W2 ⟨B, rfl, hb2, _, hw2⟩; have H2 : Hid (Swept w t B 0 W2) := HSt.out W2 B hb2 hw2; clear hb2 hw2)
  go_loopg [3, 17] N (fun kx c s wr => ∃ k : Nat, k + kx = N ∧ c = .int .i64 ((1 + (cs.take k).sum : Nat) : Int) ∧ s = .int .i64 (k : Nat) ∧ Hid (Swept w t B k wr))
  case atStart => exact ⟨0, by omega, rfl, rfl, H2.out⟩
  case round =>
    obtain ⟨k, hk, rfl, rfl, I⟩ := hrel
    by_cases hlt : k < N
    · obtain ⟨c, x, hc, hx, hxe, q1⟩ := HRd.out wr B k I.out hlt
      have kC := HCl.out wr B k c I.out hc
      rw [← hxe] at kC
      have hs1 := sum_take_succ hx
      have hs2 := sum_take_le cs (k + 1)
      have HS1 : Hid ((cs.take (k + 1)).sum = (cs.take k).sum + x) := hs1
      have hi1 : (k : Int) < (N : Int) := by omega
      obtain ⟨A, hA⟩ : ∃ A, A = 1 + (cs.take k).sum := ⟨_, rfl⟩
      rw [← hA]
      have HA : Hid (A = 1 + (cs.take k).sum) := hA
      have hA2 : (A : Int) + (x : Int) < 4611686018427387904 := by omega
      have hA3 : (0 : Int) ≤ (A : Int) + (x : Int) := by omega
      clear hc hx hxe hs1 hs2 hA
      go_wp2_with (go_at_call 46; refine kC.mono ?_; rintro e W3 ⟨rfl, h3⟩; have H3 : Hid (Swept w t B (k + 1) W3) := h3; clear h3)
      go_roundg (N - (k + 1))
      case measure => omega
      case rel => exact ⟨k + 1, by omega, by rw [HS1.out, ← Nat.add_assoc, ← HA.out]; go_num, by go_num, H3.out⟩
    · have hkN : k = N := by omega
      subst hkN
      go_wp2
      go_ret
      exact ⟨ret_int (by rw [List.take_of_length_le (by rw [HS.out]; exact Nat.le_refl _)]), HF.out wr B I.out⟩
theorem clean_any {F : Nat} (hF : 4 ≤ F) (hF2 : F ≤ 64) : ∀ n, CleanAt F n
  | 0, t, w, h, hn, hk, hl, _, hb => by
    have ec : cnt 1 (abs 1 t) = if t.h.d then 1 + ((abs 1 t).l.map (cnt 0)).sum else 0 := rfl
    have ew : wipe 1 (abs 1 t) = if t.h.d then .nd false ((abs 1 t).l.map (wipe 0)) else abs 1 t := rfl
    cases hd : t.h.d with
    | false => rw [ec, ew, hd]; exact clean_no t w h hn hd
    | true =>
      rw [ec, ew, hd]
      have e0 : ((abs 1 t).l.map (cnt 0)).sum = 0 := by
        generalize (abs 1 t).l = l
        induction l with
        | nil => rfl
        | cons a l ih => rw [List.map_cons, List.sum_cons, ih]; rfl
      have e1 : (abs 1 t).l.map (wipe 0) = (abs 1 t).l := List.map_id _
      simp only [if_true, e0, e1]
      exact clean_leaf t w h hn hd
  | n + 1, t, w, h, hn, hk, hl, h0, hb => by
    have ec : cnt (n + 2) (abs (n + 2) t) = if t.h.d then 1 + ((abs (n + 2) t).l.map (cnt (n + 1))).sum else 0 := rfl
    have ew : wipe (n + 2) (abs (n + 2) t) = if t.h.d then .nd false ((abs (n + 2) t).l.map (wipe (n + 1))) else abs (n + 2) t := rfl
    cases hd : t.h.d with
    | false => rw [ec, ew, hd]; exact clean_no t w h hn hd
    | true => rw [ec, ew, hd]; exact clean_inner hF hF2 (clean_any hF hF2 n) t w h hn hk hl (h0 (by omega)) hb hd
def wipeT (x : Tre) : Tre := ⟨x.n, wipe (x.n + 1) x.T⟩
def cntT (x : Tre) : Nat := cnt (x.n + 1) x.T
set_option maxHeartbeats 1000000 in
theorem cleanT_any {w : World} {p F : Nat} {x : Tre} {fs : List Nat} (h : Live w p F x fs) (hlen : x.all.length < 2305843009213693952) :
    Calls Try.prog 22 #[.pointer (some ⟨p, 0, none⟩)] w fun e w' => e = .returned (.int .i64 ((cntT x : Nat) : Int)) ∧ Left w p F fs (wipeT x) w' := by
  obtain ⟨t, ht, hfs⟩ := h.tr
  obtain ⟨_, _, c2, _⟩ := ht.cells
  have hI : Inv F x.n x.T := h.inv
  have habs := ht.abs
  have hle : t.l.length = x.T.l.length := by rw [← habs, abs_l, List.length_map]
  have kC := clean_any h.lo h.hi x.n t w ht.lies ht.nd (by rw [habs]; exact hI.good.kids) (by rw [hle]; exact hI.le) (fun hn => by have := hI.two hn; omega) (by rw [habs]; exact hlen)
  rw [habs] at kC
  have HF : Hid (∀ W t', Went w t t' W → abs (x.n + 1) t' = wipe (x.n + 1) x.T → Left w p F fs (wipeT x) W) := fun W t' g ea => by
    have h3 := ht.root g _ ea
    have hall : (wipeT x).all = x.all := wipe_flats x.T
    refine ⟨⟨foot (x.n + 1) t', ⟨⟨t', ?_, rfl⟩, inv_wipe hI, h.lo, h.hi⟩, fun b hb => ?_⟩, g.kept.mono fun b hb => .inr (by rw [← hfs]; exact hb)⟩
    · rw [hall]; exact h3
    · rcases g.sub b hb with q | q
      · exact .inl (by rw [← hfs]; exact q)
      · exact .inr q
  generalize t.h.p = rp at *
  have kC : Calls Try.prog 46 #[.pointer (some ⟨rp, 0, none⟩)] w fun e w' => e = .returned (.int .i64 ((cntT x : Nat) : Int)) ∧ ∃ t', Went w t t' w' ∧ abs (x.n + 1) t' = wipe (x.n + 1) x.T := kC
  clear h ht hI habs hle
  generalize cntT x = C at *
  go_enter Try.func22, Try.ntmps22
  go_wp2_with (go_at_call 46; refine kC.mono ?_; rintro e W2 ⟨rfl, t', g, ea⟩; have HL : Hid (Left w p F fs (wipeT x) W2) := HF.out W2 t' g ea; clear g ea)
  go_ret
  exact ⟨rfl, HL.out⟩
end Go.Proofs.Ytlfgeanafidopaa.Bt
namespace Go.Proofs.Ytlfgeanafidopaa.Bt
open Go.ChangeShapes Go.WideShapes Go.ChangeAt Go.RowKit Go.Deep

theorem own : ownKnob Try.prog.godebug = none := by kernel_rfl
theorem laidOut : laidOutB Try.prog = true := by kernel_rfl
theorem bytesNd : Try.prog.bytesOf 54 = 40 := by kernel_rfl
theorem add_plain' (b off i : Nat) : (⟨b, off, none⟩ : Addr).add i = ⟨b, off + i, none⟩ := by unfold Addr.add; split <;> simp_all
/-- A node of a list: its key, its value, whether it is gone. -/
structure Nw where
  k : K
  v : K
  g : Bool
/-- The slice's elements are the nodes l. -/
def NRow (w : World) (a : Option Addr) (l : List Nw) : Prop :=
  l = [] ∨ ∃ b off, a = some ⟨b, off, none⟩ ∧ ∀ i y, l[i]? = some y → w.cell? ⟨b, off + i * 3, none⟩ = some (.string y.k) ∧ w.cell? ⟨b, off + i * 3 + 1, none⟩ = some (.string y.v) ∧ w.cell? ⟨b, off + i * 3 + 2, none⟩ = some (.bool y.g)
structure NArg (w : World) (a : Option Addr) (len cap : Nat) (l : List Nw) : Prop where
  len_eq : len = l.length
  le : len ≤ cap
  max : cap ≤ maxLen
  row : NRow w a l
theorem NRow.later {w w' : World} {a : Option Addr} {l : List Nw} (h : NRow w a l) (hb : Below w.heap.size w w') : NRow w' a l := by
  rcases h with h | ⟨b, off, ha, hc⟩
  · exact .inl h
  · refine .inr ⟨b, off, ha, fun i y hy => ?_⟩
    obtain ⟨q0, q1, q2⟩ := hc i y hy
    exact ⟨(hb.cell (p := ⟨b, off + i * 3, none⟩) (World.block_lt_of_cell? w _ q0)).trans q0, (hb.cell (p := ⟨b, off + i * 3 + 1, none⟩) (World.block_lt_of_cell? w _ q1)).trans q1, (hb.cell (p := ⟨b, off + i * 3 + 2, none⟩) (World.block_lt_of_cell? w _ q2)).trans q2⟩
set_option maxRecDepth 100000 in
theorem narg_open {H : Type} {enc : TypeId × Value → H} {w : World} {a : Option Addr} {len cap fuel : Nat} {d : DataW H} {p : List MemPlace}
    (hf : DataW.trod enc Try.prog w 0 (fun _ => true) true fuel 22 [.slice a len cap] = some (d, p)) : ∃ l, NArg w a len cap l ∧ (cap = 0 ∨ ∃ elems spare, d = .slice elems spare ∧ elems.length + spare.length = cap) := by
  rcases open_slice Try.underlying22 hf with ⟨hcs, _⟩ | ⟨ad, len', cap', m, n, D, Pl, hcs, _, hl, hm, hmm, hxx, hx⟩
  · simp at hcs
    obtain ⟨rfl, rfl, rfl⟩ := hcs
    exact ⟨[], ⟨rfl, Nat.le_refl _, by decide, .inl rfl⟩, .inl rfl⟩
  · simp at hcs
    obtain ⟨rfl, rfl, rfl⟩ := hcs
    have hmm' : m = cap := by simpa using hmm
    subst hmm'
    have each : ∀ i, ∃ y : Nw, i < len → w.cell? (ad.add (i * 3)) = some (.string y.k) ∧ w.cell? (ad.add (i * 3 + 1)) = some (.string y.v) ∧ w.cell? (ad.add (i * 3 + 2)) = some (.bool y.g) := by
      intro i
      by_cases hi : i < len
      · obtain ⟨cs', h1, h2⟩ := hx i (by omega)
        rw [show Try.prog.cellsOf 54 = 3 by kernel_rfl] at h1
        obtain ⟨_, hlen, hcell⟩ := World.cells?_some h1
        obtain ⟨xs, k, hk, hxy, _, hxl, hff⟩ := DataW.trod_struct Try.underlying54 h2
        match xs, hxl, cs', hlen with
        | [y0, y1, y2], _, [v0, v1, v2], _ =>
          have g0 := hff 0 _ rfl
          have g1 := hff 1 _ rfl
          have g2 := hff 2 _ rfl
          have ci : Try.prog.cellsOf 9 = 1 := by kernel_rfl
          have cj : Try.prog.cellsOf 4 = 1 := by kernel_rfl
          simp [ci, cj] at g0 g1 g2
          obtain ⟨z0, e0, _, _⟩ := DataW.trod_string Try.underlying9 g0
          obtain ⟨z1, e1, _, _⟩ := DataW.trod_string Try.underlying9 g1
          obtain ⟨z2, e2, _⟩ := DataW.trod_bool Try.underlying4 g2
          have c0 := hcell 0 (by omega)
          have c1 := hcell 1 (by omega)
          have c2 := hcell 2 (by omega)
          rw [add_add] at c0 c1 c2
          simp at e0 e1 e2
          subst e0 e1 e2
          exact ⟨⟨z0, z1, z2⟩, fun _ => ⟨by simpa using c0, by simpa using c1, by simpa using c2⟩⟩
      · exact ⟨⟨⟨#[]⟩, ⟨#[]⟩, false⟩, fun h => absurd h hi⟩
    obtain ⟨F, hF⟩ := Classical.axiomOfChoice each
    refine ⟨(List.range len).map F, ⟨by simp, hl, hm, ?_⟩, .inr ⟨_, _, congrArg Prod.fst hxx, by simp; omega⟩⟩
    by_cases h0 : len = 0
    · exact .inl (by simp [h0])
    · obtain ⟨b, off, spot⟩ := ad
      have hspot : spot = none := by
        have := World.cell?_spot (hF 0 (by omega)).1
        simpa [Addr.add] using this
      subst hspot
      refine .inr ⟨b, off, rfl, fun i f hf => ?_⟩
      have hil : i < len := by
        have := (List.getElem?_eq_some_iff.1 hf).1
        simpa using this
      have hfi : F i = f := by simpa [hil] using hf
      have := hF i hil
      rw [hfi, add_plain', add_plain', add_plain'] at this
      exact ⟨this.1, this.2.1, this.2.2⟩
end Go.Proofs.Ytlfgeanafidopaa.Bt
namespace Go.Proofs.Ytlfgeanafidopaa.Bt
open Go.RowKit
set_option maxRecDepth 10000

/-- A tree to which nodes are done, one by one, and the first error. -/
def bld (F : Nat) : List Nw → Tre → Tre × Int
  | [], x => (x, 0)
  | y :: l, x => if y.g then bld F l (delS F y.k x) else if putE y.k y.v = 0 then bld F l (putR F y.k y.v x) else (x, putE y.k y.v)
theorem ins_len_le (k v : K) {l : List KV} (h : Srt l) : (ins k v l).length ≤ l.length + 1 := by rw [ins_len k v l h]; split <;> omega
theorem putR_len {F : Nat} (hF : 4 ≤ F) (k v : K) {x : Tre} (h : InvT F x) : (putR F k v x).all.length ≤ x.all.length + 1 ∧ InvT F (putR F k v x) := by
  unfold putR
  split
  · unfold putS
    split
    · exact ⟨by omega, h⟩
    · obtain ⟨h1, h2⟩ := inv_put hF k v h
      exact ⟨by rw [h2]; exact ins_len_le k v h.good.srt, h1⟩
  · exact ⟨by omega, h⟩
theorem delS_len {F : Nat} (hF : 4 ≤ F) (k : K) {x : Tre} (h : InvT F x) : (delS F k x).all.length ≤ x.all.length ∧ InvT F (delS F k x) := by
  unfold delS
  split
  · rename_i hk
    have hm := (look_mem k _).1 (Option.isSome_iff_exists.1 hk)
    obtain ⟨h1, h2⟩ := inv_del hF k h hm
    exact ⟨by rw [h2]; exact List.length_filter_le _ _, h1⟩
  · exact ⟨by omega, h⟩
/-- The tree that is being built: all of it is new. -/
structure Blt (w : World) (p F : Nat) (x : Tre) (wr : World) : Prop where
  live : ∃ fs, Live wr p F x fs ∧ ∀ b ∈ fs, w.heap.size ≤ b
  p : w.heap.size ≤ p
  below : Below w.heap.size w wr
theorem Blt.step {w : World} {p F : Nat} {x' : Tre} {wr w' : World} {fs : List Nat} (hp : w.heap.size ≤ p) (hb : Below w.heap.size w wr) (hf : ∀ b ∈ fs, w.heap.size ≤ b) (h : Left wr p F fs x' w') : Blt w p F x' w' := by
  obtain ⟨fs', h1, h2⟩ := h.live
  refine ⟨⟨fs', h1, fun b hb' => ?_⟩, hp, ?_⟩
  · rcases h2 b hb' with q | q
    · exact hf b q
    · have := hb.size; omega
  · refine hb.trans ?_
    refine h.kept.below hb.size (fun b hb' => ?_)
    rcases hb' with q | q
    · omega
    · exact hf b q
theorem Blt.later {w : World} {p F : Nat} {x : Tre} {wr w' : World} (h : Blt w p F x wr) (hb : Below wr.heap.size wr w') : Blt w p F x w' := by
  obtain ⟨fs, h1, h2⟩ := h.live
  exact ⟨⟨fs, h1.later hb, h2⟩, h.p, bafter h.below hb⟩
/-- What Build answers. -/
def bltV (F : Nat) (l : List Nw) (p : Nat) : Value := if (bld F l tre0).2 = 0 then .tuple #[.pointer (some ⟨p, 0, none⟩), .int .i64 0] else .tuple #[.pointer none, .int .i64 (bld F l tre0).2]
def BltPost (F : Nat) (l : List Nw) (w : World) (e : Ending) (w' : World) : Prop := ∃ p, e = .returned (bltV F l p) ∧ Below w.heap.size w w' ∧ ((bld F l tre0).2 = 0 → Blt w p F (bld F l tre0).1 w')
set_option maxHeartbeats 8000000 in
theorem build_any (F : Nat) (h1 : 4 ≤ F) (h2 : F ≤ 64) (a : Option Addr) (len cap : Nat) (l : List Nw) (w : World) (hA : NArg w a len cap l) (hsz : len < 2305843009213693000) :
    Calls Try.prog 9 #[.int .i64 (F : Nat), .slice a len cap] w fun e w' => BltPost F l w e w' := by
  have kN := new_ok F w h1 h2
  have hln := hA.len_eq
  have HRow : Hid (NRow w a l) := hA.row
  have hcm := hA.max
  have hlc := hA.le
  obtain ⟨R, hR⟩ : ∃ R, R = bld F l tre0 := ⟨_, rfl⟩
  have HR : Hid (R = bld F l tre0) := hR
  have HL : Hid (len = l.length) := hln
  clear hA hln hR
  unfold maxLen at hcm
  go_enter Try.func9, Try.ntmps9
  go_wp2_with (go_at_call 28; refine kN.mono ?_; rintro e W1 ⟨p, fs, rfl, hb1, hl1, hp1, hf1⟩; have H1 : Hid (Blt w p F tre0 W1) := ⟨⟨fs, hl1, hf1⟩, hp1, hb1⟩; clear hb1 hl1 hp1 hf1)
  go_loopg [21] len (fun kx s wr => ∃ (k : Nat) (x : Tre), k + kx = len ∧ s = .int .i64 (k : Nat) ∧ Hid (Blt w p F x wr ∧ x.all.length ≤ k ∧ bld F (l.drop k) x = R))
  case atStart => exact ⟨0, tre0, by omega, rfl, (⟨H1.out, Nat.le_refl _, by rw [List.drop_zero]; exact HR.out.symm⟩ : Blt w p F tre0 W1 ∧ tre0.all.length ≤ 0 ∧ bld F (l.drop 0) tre0 = R)⟩
  case round =>
    obtain ⟨k, x, hk, rfl, I⟩ := hrel
    by_cases hlt : k < len
    · obtain ⟨y, hy⟩ : ∃ y, l[k]? = some y := ⟨_, List.getElem?_eq_getElem (by have := HL.out; omega)⟩
      obtain ⟨hyl, hye⟩ := List.getElem?_eq_some_iff.1 hy
      have hdr : l.drop k = y :: l.drop (k + 1) := by rw [← hye, ← List.drop_eq_getElem_cons hyl]
      rcases HRow.out.later I.out.1.below with e | ⟨b, off, rfl, hc⟩
      · rw [e] at hyl; simp at hyl
      obtain ⟨q0, q1, q2⟩ := hc k y hy
      have hi1 : (k : Int) < (len : Int) := by omega
      have hbw : b < wr.heap.size := World.block_lt_of_cell? wr _ q0
      obtain ⟨fs, hlv, hfs⟩ := I.out.1.live
      have HStep := I.out.2.2
      rw [hdr, bld] at HStep
      have hxl := I.out.2.1
      have hp0 := I.out.1.p
      have hbe := I.out.1.below
      cases hg : y.g with
      | true =>
        rw [hg] at q2 HStep
        rw [if_pos rfl] at HStep
        have HD : Hid (∀ X, Below wr.heap.size wr X → Calls Try.prog 25 #[.pointer (some ⟨p, 0, none⟩), .string y.k] X fun e w' => e = .returned (.bool (look y.k x.all).isSome) ∧ Blt w p F (delS F y.k x) w') := fun X hb => by
          refine (delT_any (hlv.later hb) y.k (by omega)).mono ?_
          rintro e w' ⟨rfl, hL⟩
          exact ⟨rfl, Blt.step hp0 (bafter hbe hb) hfs hL⟩
        have HS : Hid (bld F (l.drop (k + 1)) (delS F y.k x) = R ∧ (delS F y.k x).all.length ≤ k + 1) := ⟨HStep, by have := (delS_len h1 y.k hlv.inv).1; omega⟩
        clear hlv hfs HStep hxl hp0 hbe hy hye hdr hc hg
        go_wp2_with (go_at_call 25; refine (HD.out _ (below_new wr _)).mono ?_; rintro e W3 ⟨rfl, h3⟩; have H3 : Hid (Blt w p F (delS F y.k x) W3) := h3; clear h3)
        go_roundg (len - (k + 1))
        case measure => omega
        case rel => exact ⟨k + 1, delS F y.k x, by omega, by go_num, (⟨H3.out, HS.out.2, HS.out.1⟩ : Blt w p F (delS F y.k x) W3 ∧ (delS F y.k x).all.length ≤ k + 1 ∧ bld F (l.drop (k + 1)) (delS F y.k x) = R)⟩
      | false =>
        rw [hg] at q2 HStep
        rw [if_neg (by decide)] at HStep
        have HD : Hid (∀ X, Below wr.heap.size wr X → Calls Try.prog 26 #[.pointer (some ⟨p, 0, none⟩), .string y.k, .string y.v] X fun e w' => e = .returned (.int .i64 (putE y.k y.v)) ∧ Blt w p F (putR F y.k y.v x) w') := fun X hb => by
          refine (putT_any (hlv.later hb) y.k y.v (by omega)).mono ?_
          rintro e w' ⟨rfl, hL⟩
          exact ⟨rfl, Blt.step hp0 (bafter hbe hb) hfs hL⟩
        by_cases hE : putE y.k y.v = 0
        · rw [if_pos hE] at HStep
          have HS : Hid (bld F (l.drop (k + 1)) (putR F y.k y.v x) = R ∧ (putR F y.k y.v x).all.length ≤ k + 1) := ⟨HStep, by have := (putR_len h1 y.k y.v hlv.inv).1; omega⟩
          rw [hE] at HD
          clear hlv hfs HStep hxl hp0 hbe hy hye hdr hc hg hE
          go_wp2_with (go_at_call 26; refine (HD.out _ (below_new wr _)).mono ?_; rintro e W3 ⟨rfl, h3⟩; have H3 : Hid (Blt w p F (putR F y.k y.v x) W3) := h3; clear h3)
          go_roundg (len - (k + 1))
          case measure => omega
          case rel => exact ⟨k + 1, putR F y.k y.v x, by omega, by go_num, (⟨H3.out, HS.out.2, HS.out.1⟩ : Blt w p F (putR F y.k y.v x) W3 ∧ (putR F y.k y.v x).all.length ≤ k + 1 ∧ bld F (l.drop (k + 1)) (putR F y.k y.v x) = R)⟩
        · rw [if_neg hE] at HStep
          have HS : Hid ((x, putE y.k y.v) = R) := HStep
          have hne : (putE y.k y.v != 0) = true := by simpa using hE
          have HE : Hid (¬ putE y.k y.v = 0) := hE
          generalize putE y.k y.v = E at *
          clear hlv hfs HStep hxl hp0 hbe hy hye hdr hc hg hE
          go_wp2_with (go_at_call 26; refine (HD.out _ (below_new wr _)).mono ?_; rintro e W3 ⟨rfl, h3⟩; have H3 : Hid (Blt w p F (putR F y.k y.v x) W3) := h3; clear h3)
          go_ret2
          refine ⟨p, ?_, H3.out.below, fun h => ?_⟩
          · unfold bltV; rw [← HR.out, ← HS.out, if_neg HE.out]; rfl
          · rw [← HR.out, ← HS.out] at h; exact absurd h HE.out
    · have hkl : k = len := by omega
      subst hkl
      have hR2 := I.out.2.2
      rw [HL.out, List.drop_eq_nil_of_le (Nat.le_refl _), bld] at hR2
      have HR2 : Hid ((x, 0) = R) := hR2
      clear hR2
      go_wp2
      go_ret2
      refine ⟨p, ?_, I.out.1.below, fun _ => ?_⟩
      · unfold bltV; rw [← HR.out, ← HR2.out]; rfl
      · rw [← HR.out, ← HR2.out]; exact I.out.1
set_option maxHeartbeats 1000000 in
theorem build_bad (f : Int) (a : Option Addr) (len cap : Nat) (w : World) (h : okFan f = false) :
    Calls Try.prog 9 #[.int .i64 f, .slice a len cap] w fun e w' => e = .returned (.tuple #[.pointer none, .int .i64 22]) ∧ w = w' := by
  have kN := new_bad f w h
  clear h
  go_enter Try.func9, Try.ntmps9
  go_wp2_with (go_at_call 28; refine kN.mono ?_; rintro e w' ⟨rfl, rfl⟩)
  go_ret2
  exact ⟨rfl, rfl⟩
end Go.Proofs.Ytlfgeanafidopaa.Bt
