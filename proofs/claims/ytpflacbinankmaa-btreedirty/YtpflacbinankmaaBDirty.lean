/-
  dirty: how many nodes of each level are, as a list.
-/
import Derived.Test.YtpflacbinankmaaBShapes
import Derived.Test.YtpflacbinankmaaBDirtM
namespace Go.Proofs.Ytpflacbinankmaa.Bt
open Go.RowKit Go.Shelf
set_option maxRecDepth 10000

def dcount (S : List Shp) (j : Nat) : Nat := S.countP fun s => s.d && s.lv == j
theorem dcount_append (a b : List Shp) (j : Nat) : dcount (a ++ b) j = dcount a j + dcount b j := List.countP_append
theorem shps_lv : ∀ (n : Nat) (l : List (El (n + 1))), ∀ s ∈ shps n l, s.lv ≤ n
  | 0, l, s, hs => by
    obtain ⟨t, _, rfl⟩ := List.mem_map.1 hs
    exact Nat.le_refl _
  | n + 1, l, s, hs => by
    rcases List.mem_append.1 hs with h | h
    · obtain ⟨t, _, rfl⟩ := List.mem_map.1 h
      exact Nat.le_refl _
    · have := shps_lv n _ s h; omega
theorem dcount_row (n : Nat) (l : List (El (n + 1))) (j : Nat) : dcount (l.map (shp n)) j = if j = n then dirts l n else 0 := by
  induction l with
  | nil => split <;> rfl
  | cons a l ih =>
    rw [List.map_cons]
    have e : dcount (shp n a :: l.map (shp n)) j = dcount (l.map (shp n)) j + if (shp n a).d && (shp n a).lv == j then 1 else 0 := by
      unfold dcount
      rw [List.countP_cons]
    rw [e, ih, dirts_cons, dirt_succ, if_pos rfl]
    show _ + (if a.d && n == j then 1 else 0) = _
    by_cases hj : j = n
    · subst hj
      rw [if_pos rfl, if_pos rfl]
      cases a.d <;> simp; omega
    · rw [if_neg hj, if_neg hj]
      have : (n == j) = false := by simpa using fun e => hj e.symm
      rw [this]
      simp
theorem dirts_flat {n : Nat} (l : List (El (n + 2))) (j : Nat) (hj : j ≠ n + 1) : dirts l j = dirts (l.flatMap El.l) j := by
  induction l with
  | nil => rfl
  | cons a l ih => rw [dirts_cons, List.flatMap_cons, dirts_append, ih, dirt_succ, if_neg hj]
theorem dcount_shps : ∀ (n : Nat) (l : List (El (n + 1))) (j : Nat), dcount (shps n l) j = dirts l j
  | 0, l, j => by
    show dcount (l.map (shp 0)) j = _
    rw [dcount_row]
    split
    · rename_i h; rw [h]
    · rename_i h
      have : ∀ l : List (El 1), dirts l j = 0 := fun l => by
        induction l with
        | nil => rfl
        | cons a l ih => rw [dirts_cons, ih, dirt_high 1 a j (by omega)]
      rw [this]
  | n + 1, l, j => by
    show dcount (l.map (shp (n + 1)) ++ shps n (l.flatMap El.l)) j = _
    rw [dcount_append, dcount_row, dcount_shps n]
    by_cases hj : j = n + 1
    · subst hj
      rw [if_pos rfl]
      have : ∀ l : List (El (n + 1)), dirts l (n + 1) = 0 := fun l => by
        induction l with
        | nil => rfl
        | cons a l ih => rw [dirts_cons, ih, dirt_high (n + 1) a (n + 1) (Nat.le_refl _)]
      rw [this]; rfl
    · rw [if_neg hj, Nat.zero_add, dirts_flat l j hj]
theorem infoInt : (Try.prog.info? 3).map (fun i => (i.zero, i.size, i.bytes)) = some (some (.int .i64 0), 1, 8) := by kernel_rfl
theorem makeInt (N : Nat) (h : N ≤ 4000000000000) (W : World) : (Instr.makeSlice 59 (.int .i64 (N : Int)) (.int .i64 (N : Int))).run Try.prog W = .ok (.slice (some ⟨W.heap.size, 0, none⟩) N N) (W.alloc (.cells (List.replicate N (Value.int .i64 0)).toArray 3)) := by
  obtain ⟨i0, hi, hz0, hz1, hz2⟩ := info_parts infoInt
  have := run_make (P := Try.prog) W 59 3 i0 _ Try.underlying59 hi hz0 .i64 .i64 N N (by omega) (Int.le_refl _) (by rw [hz2]; omega) (by omega)
  rw [hz1] at this
  have e : (madeCells (Value.int .i64 0).cells ((N : Int).toNat * 1)) = (List.replicate N (Value.int .i64 0)).toArray := by
    apply Array.toList_inj.1
    rw [show (Value.int .i64 0).cells = #[Value.int .i64 0] from rfl, made_one]; simp
  rw [e] at this
  exact this
/-- So many of each level. -/
def dcV (H : Nat) (f : Nat → Nat) : List Value := (List.range H).map fun j => .int .i64 ((f j : Nat) : Int)
theorem dcV_set (H : Nat) (f g : Nat → Nat) (k : Nat) (hk : k < H) (h1 : g k = f k + 1) (h2 : ∀ j, j ≠ k → g j = f j) : (dcV H f).set k (.int .i64 ((f k + 1 : Nat) : Int)) = dcV H g := by
  apply List.ext_getElem?
  intro i
  unfold dcV
  rw [List.getElem?_set]
  by_cases hi : k = i
  · subst hi
    rw [if_pos rfl, List.length_map, List.length_range, if_pos hk, List.getElem?_map, List.getElem?_range hk]
    simp [h1]
  · rw [if_neg hi, List.getElem?_map, List.getElem?_map]
    by_cases hH : i < H
    · rw [List.getElem?_range hH]; simp [h2 i (fun e => hi e.symm)]
    · rw [List.getElem?_eq_none (by simpa using hH)]; rfl
theorem dcV_get (H : Nat) (f : Nat → Nat) (k : Nat) (hk : k < H) : (dcV H f)[k]? = some (.int .i64 ((f k : Nat) : Int)) := by
  unfold dcV; rw [List.getElem?_map, List.getElem?_range hk]; rfl
theorem dcV_zero (H : Nat) : dcV H (dcount []) = List.replicate H (.int .i64 0) := by
  apply List.ext_getElem?
  intro i
  unfold dcV
  rw [List.getElem?_map, List.getElem?_replicate]
  by_cases hH : i < H
  · rw [List.getElem?_range hH, if_pos hH]; rfl
  · rw [List.getElem?_eq_none (by simpa using hH), if_neg hH]; rfl
theorem ShRow.cells {w W : World} {v : Value} {S : List Shc} (h : ShRow w W v S) {i : Nat} {c : Shc} (hi : S[i]? = some c) : ∃ g cap, v = .slice (some ⟨g, 0, none⟩) S.length cap ∧ W.cell? ⟨g, i * 3, none⟩ = some (.int .i64 (c.s.lv : Int)) ∧ W.cell? ⟨g, i * 3 + 1, none⟩ = some (.slice (some ⟨c.B, 0, none⟩) c.s.ks.length c.s.ks.length) ∧ W.cell? ⟨g, i * 3 + 2, none⟩ = some (.bool c.s.d) := by
  have hil := (List.getElem?_eq_some_iff.1 hi).1
  rcases h.own.2 with ⟨_, h0⟩ | ⟨g, cap, cur, rfl, _, hgg, hnc, hcm, hcs, htake⟩
  · omega
  · have hw : Whole W g cur.toList 48 := by unfold Whole; simpa using hgg
    have hc : ∀ j, j < 3 → W.cell? ⟨g, i * 3 + j, none⟩ = (shcv c)[j]? := fun j hj => by
      rw [hw.cell, ← flat_get shcv 3 shcv_len j hj S i c hi, ← htake, List.getElem?_take, if_pos (by omega)]
    exact ⟨g, cap, rfl, hc 0 (by omega), hc 1 (by omega), hc 2 (by omega)⟩
set_option maxHeartbeats 4000000 in
theorem dirty_any {w : World} {p F : Nat} {x : Tre} {fs : List Nat} (h : Live w p F x fs) (hsz : (shps x.n [x.T]).length ≤ 3518437208880) (hlen : x.all.length ≤ 3518437208884) :
    Calls Try.prog 27 #[.pointer (some ⟨p, 0, none⟩)] w fun e w' => ∃ B, e = .returned (.slice (some ⟨B, 0, none⟩) (x.n + 1) (x.n + 1)) ∧ Below w.heap.size w w' ∧ Whole w' B (dcV (x.n + 1) (dirt (x.n + 1) x.T)) 3 := by
  have kS := shapes_any h hsz
  have HH : Hid (∀ W, Below w.heap.size w W → Calls Try.prog 21 #[.pointer (some ⟨p, 0, none⟩)] W fun e w' => e = .returned (.int .i64 ((x.n + 1 : Nat) : Int)) ∧ W = w') := fun W hb => height_any (h.later hb) (by omega)
  have hnl : x.n ≤ x.all.length := inv_level h.lo h.inv
  have HD : Hid (∀ j, dcount (shps x.n [x.T]) j = dirt (x.n + 1) x.T j) := fun j => by rw [dcount_shps, dirts_cons, dirts_nil, Nat.add_zero]
  have HLv : Hid (∀ s ∈ shps x.n [x.T], s.lv ≤ x.n) := shps_lv _ _
  have HSz : Hid ((shps x.n [x.T]).length ≤ 3518437208880) := hsz
  obtain ⟨tot, htot⟩ : ∃ tot, tot = shps x.n [x.T] := ⟨_, rfl⟩
  rw [← htot] at kS HD HLv HSz
  obtain ⟨DF, hDF⟩ : ∃ DF, DF = dirt (x.n + 1) x.T := ⟨_, rfl⟩
  rw [← hDF] at HD ⊢
  obtain ⟨H, hH⟩ : ∃ H, H = x.n + 1 := ⟨_, rfl⟩
  have HLv2 : Hid (∀ s ∈ tot, s.lv < H) := fun s hs => by have := HLv.out s hs; omega
  rw [← hH] at HH ⊢
  have hHb : H ≤ 4000000000000 := by omega
  have hmk := makeInt H hHb
  clear htot hDF hH hnl h hsz hlen HLv
  go_enter Try.func27, Try.ntmps27
  go_wp2_with (first
    | (go_at_call 20; refine kS.mono ?_; rintro e W1 ⟨a1, n1, c1, S, rfl, hR, hE, hb1⟩; have HR : Hid (ShRow w W1 (.slice a1 n1 c1) S) := hR; have HE : Hid (S.map Shc.s = tot) := hE; have Hb1 : Hid (Below w.heap.size w W1) := hb1; have hn1 : Hid (n1 = S.length) := (by rcases hR.own.2 with ⟨e, e0⟩ | ⟨g, cap, cur, e, _⟩ <;> cases e; exact e0.symm; rfl); clear hR hE hb1)
    | (go_at_call 21; refine (HH.out W1 Hb1.out).mono ?_; rintro e W2 ⟨rfl, rfl⟩))
  have hn1b : n1 ≤ 3518437208880 := by
    have q := congrArg List.length HE.out
    rw [List.length_map] at q
    have := HSz.out; have := hn1.out
    omega
  go_loopg [5] n1 (fun kx s wr => ∃ i : Nat, i + kx = n1 ∧ s = .int .i64 (i : Nat) ∧ Hid (Below W1.heap.size W1 wr ∧ Whole wr W1.heap.size (dcV H (dcount (tot.take i))) 3))
  case atStart =>
    refine ⟨0, by omega, rfl, (⟨below_new W1 _, ?_⟩ : Below W1.heap.size W1 _ ∧ Whole _ W1.heap.size _ _)⟩
    rw [List.take_zero, dcV_zero]
    exact Whole.new W1 _ _
  case round =>
    obtain ⟨i, hi, rfl, I⟩ := hrel
    by_cases hlt : i < n1
    · obtain ⟨c, hc⟩ : ∃ c, S[i]? = some c := ⟨_, List.getElem?_eq_getElem (by have := hn1.out; omega)⟩
      have hct : tot[i]? = some c.s := by rw [← HE.out, List.getElem?_map, hc]; rfl
      have hlv := HLv2.out c.s (List.mem_of_getElem? hct)
      obtain ⟨g, cap, hv, q0, q1, q2⟩ := (HR.out.later I.out.1).cells hc
      have ea : a1 = some ⟨g, 0, none⟩ := by cases hv; rfl
      subst ea
      have htk : tot.take (i + 1) = tot.take i ++ [c.s] := by rw [List.take_add_one, hct]; rfl
      have hi1 : (i : Int) < (n1 : Int) := by omega
      have hl0 : (0 : Int) ≤ (c.s.lv : Int) := by omega
      have hl1 : (c.s.lv : Int) < (H : Int) := by omega
      obtain ⟨lv, hlve⟩ : ∃ lv, lv = c.s.lv := ⟨_, rfl⟩
      rw [← hlve] at q0 hlv hl0 hl1
      have hcnt : dcount (tot.take i) lv ≤ 3518437208880 := by
        unfold dcount
        refine Nat.le_trans List.countP_le_length ?_
        rw [List.length_take]; omega
      have HC : Hid (∀ j, dcount (tot.take (i + 1)) j = dcount (tot.take i) j + if c.s.d && lv == j then 1 else 0) := fun j => by
        rw [htk, dcount_append]
        unfold dcount
        rw [List.countP_cons, List.countP_nil, ← hlve]
        simp
      have o1 : wr.cell? ⟨W1.heap.size, lv, none⟩ = some (.int .i64 ((dcount (tot.take i) lv : Nat) : Int)) := I.out.2.cell.trans (dcV_get H _ lv hlv)
      have o2 := I.out.2.frozen lv
      have HI := I
      obtain ⟨cc, hcc⟩ : ∃ cc, cc = dcount (tot.take i) lv := ⟨_, rfl⟩
      rw [← hcc] at o1 hcnt
      have HCC : Hid (cc = dcount (tot.take i) lv) := hcc
      have hlr : W1.heap.size < wr.heap.size := I.out.2.lt
      clear hv hct hlve htk hc I hcc
      cases hd : c.s.d with
      | true =>
        rw [hd] at q2
        have HF : Hid (Below W1.heap.size W1 (wr.setCell ⟨W1.heap.size, lv, none⟩ (.int .i64 ((cc : Int) + 1))) ∧ Whole (wr.setCell ⟨W1.heap.size, lv, none⟩ (.int .i64 ((cc : Int) + 1))) W1.heap.size (dcV H (dcount (tot.take (i + 1)))) 3) := by
          refine (⟨HI.out.1.setCell (p := ⟨W1.heap.size, lv, none⟩) (Nat.le_refl _) _, ?_⟩ : Below W1.heap.size W1 _ ∧ Whole _ W1.heap.size _ _)
          have := HI.out.2.set (i := lv) (.int .i64 ((cc + 1 : Nat) : Int))
          have hne : ∀ j, j ≠ lv → dcount (tot.take (i + 1)) j = dcount (tot.take i) j := fun j hj => by
            have hb : (lv == j) = false := by simpa using fun e => hj (Eq.symm e)
            rw [HC.out, hd, hb]
            simp
          rw [HCC.out, dcV_set H _ (dcount (tot.take (i + 1))) lv hlv (by rw [HC.out, hd]; simp) hne] at this
          rw [HCC.out]
          exact this
        clear HC hd HI
        go_wp2
        go_roundg (n1 - (i + 1))
        case measure => omega
        case rel =>
          refine ⟨i + 1, by omega, by go_num, ?_⟩
          exact HF.out
      | false =>
        rw [hd] at q2
        have HF : Hid (Below W1.heap.size W1 wr ∧ Whole wr W1.heap.size (dcV H (dcount (tot.take (i + 1)))) 3) := by
          refine (⟨HI.out.1, ?_⟩ : Below W1.heap.size W1 _ ∧ Whole _ W1.heap.size _ _)
          have e : dcV H (dcount (tot.take (i + 1))) = dcV H (dcount (tot.take i)) := by
            unfold dcV
            refine List.map_congr_left fun j _ => ?_
            rw [HC.out, hd]; simp
          rw [e]
          exact HI.out.2
        clear HC hd HI
        go_wp2
        go_roundg (n1 - (i + 1))
        case measure => omega
        case rel => exact ⟨i + 1, by omega, by go_num, HF.out⟩
    · have hin : i = n1 := by omega
      subst hin
      have HF : Hid (Below w.heap.size w wr ∧ Whole wr W1.heap.size (dcV H DF) 3) := by
        refine (⟨bafter Hb1.out I.out.1, ?_⟩ : Below w.heap.size w wr ∧ Whole wr W1.heap.size _ _)
        have := I.out.2
        have q := congrArg List.length HE.out
        rw [List.length_map] at q
        rw [List.take_of_length_le (by have := hn1.out; omega)] at this
        rw [show dcount tot = DF from funext HD.out] at this
        exact this
      go_wp2
      go_ret
      exact ⟨_, rfl, HF.out⟩
end Go.Proofs.Ytpflacbinankmaa.Bt
