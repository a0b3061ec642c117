/-
  How many bytes a whole index has: Bound of package image, and between which numbers it lies.
-/
import Derived.Test.YtfmgaahileknfaaIBnd
namespace Go.Proofs.Ytfmgaahileknfaa
open Go.RowKit M
set_option maxRecDepth 10000

/-- The slots of the level above; what the levels above have. -/
def ups (ls : List (List St)) : List St := (ls.map hk).map bst
theorem ups_len (ls : List (List St)) : (ups ls).length = ls.length := by simp [ups]
def more (ls : List (List St)) : Nat := if 1 < ls.length then tog (spl (ups ls)) + more (spl (ups ls)) else 0
termination_by ls.length
decreasing_by rw [spl_len, ups_len]; omega
theorem more_yes {ls : List (List St)} (h : 1 < ls.length) : more ls = tog (spl (ups ls)) + more (spl (ups ls)) := by rw [more, if_pos h]
theorem more_no {ls : List (List St)} (h : ls.length ≤ 1) : more ls = 0 := by rw [more, if_neg (by omega)]
/-- What a tree of these slots has. -/
def bndL (l : List St) : Nat := tog (spl l) + more (spl l)
def bnd (l : List K) : Nat := if riseK ⟨#[]⟩ l then bndL (l.map bst) else 0

structure Gd (ls : List (List St)) : Prop where
  one : ∀ y ∈ ls, 1 ≤ y.length
  key : ∀ y ∈ ls, ∀ s ∈ y, s.key.size ≤ 64
theorem spl_mem {l y : List St} (hy : y ∈ spl l) {s : St} (hs : s ∈ y) : s ∈ l := by
  rw [← spl_flat l]
  exact List.mem_flatten.2 ⟨y, hy, hs⟩
theorem gd_spl {l : List St} (h : ∀ s ∈ l, s.key.size ≤ 64) : Gd (spl l) :=
  ⟨fun y hy => by
    obtain ⟨i, hi⟩ := List.getElem?_of_mem hy
    exact (spl_sizes hi).1, fun y hy s hs => h s (spl_mem hy hs)⟩
theorem hk_mem {y : List St} (h : 1 ≤ y.length) : ∃ s ∈ y, hk y = s.key := by
  cases y with
  | nil => simp at h
  | cons s y => exact ⟨s, List.mem_cons_self .., rfl⟩
theorem Gd.hk {ls : List (List St)} (h : Gd ls) : ∀ k ∈ ls.map hk, k.size ≤ 64 := fun k hk' => by
  obtain ⟨y, hy, rfl⟩ := List.mem_map.1 hk'
  obtain ⟨s, hs, e⟩ := hk_mem (h.one y hy)
  rw [e]
  exact h.key y hy s hs
theorem Gd.ups {ls : List (List St)} (h : Gd ls) : ∀ s ∈ ups ls, s.key.size ≤ 64 := fun s hs => by
  obtain ⟨k, hk', rfl⟩ := List.mem_map.1 hs
  exact h.hk k hk'
theorem pkN_le' : ∀ {l : List St}, (∀ s ∈ l, s.key.size ≤ 64) → pkN l ≤ 72 * l.length
  | [], _ => by simp [pkN]
  | s :: l, h => by
    have := pkN_le' (l := l) (fun x hx => h x (List.mem_cons_of_mem _ hx))
    have := h s (List.mem_cons_self ..)
    simp only [pkN, bare1, List.length_cons]; omega
theorem tog_spl (l : List St) : tog (spl l) = 9 * ((l.length + 7) / 8) + pkN l := by rw [tog_eq, spl_len, spl_flat]
theorem bndL_most : ∀ (n : Nat) (l : List St), l.length = n → 1 ≤ n → (∀ s ∈ l, s.key.size ≤ 64) → bndL l ≤ 90 * n + 81 * lev n := by
  intro n
  induction n using Nat.strongRecOn with
  | ind n ih =>
    intro l hl h1 hs
    have hp := pkN_le' hs
    have ht := tog_spl l
    have hg := gd_spl hs
    have hn := spl_len l
    rw [hl] at hp ht hn
    unfold bndL
    by_cases h8 : n ≤ 8
    · rw [more_no (by omega), lev_le8 h8]
      omega
    · have := ih ((n + 7) / 8) (by omega) (ups (spl l)) (by rw [ups_len, hn]) (by omega) hg.ups
      unfold bndL at this
      rw [more_yes (by omega), lev_more (by omega), prt8]
      omega
theorem bndL_least (l : List St) : pkN l ≤ bndL l := by
  unfold bndL
  rw [tog_spl]
  omega
theorem bndL_nil : bndL [] = 0 := by
  unfold bndL
  rw [more_no (by rw [spl_len]; simp), tog_spl]
  rfl
theorem riseK_mem : ∀ {l : List K} {x : K}, riseK x l = true → ∀ s ∈ l, 1 ≤ s.size ∧ s.size ≤ 64
  | [], _, _, s, hs => by simp at hs
  | y :: l, x, h, s, hs => by
    simp only [riseK, fol, Bool.and_eq_true, decide_eq_true_eq] at h
    obtain ⟨⟨h1, h2⟩, h3⟩ := h
    rcases List.mem_cons.1 hs with rfl | hs
    · exact ⟨klt_pos h1, h2⟩
    · exact riseK_mem h3 s hs
/-- The bytes of all keys. -/
def szs : List K → Nat
  | [] => 0
  | k :: l => k.size + szs l
theorem pkN_bst (l : List K) : pkN (l.map bst) = 8 * l.length + szs l := by
  induction l with
  | nil => rfl
  | cons k l ih => simp only [List.map_cons, pkN, bare1, bst, List.length_cons, szs] at ih ⊢; omega
theorem bnd_least {l : List K} (h : riseK ⟨#[]⟩ l = true) : 8 * l.length + szs l ≤ bnd l := by
  unfold bnd
  rw [if_pos h, ← pkN_bst]
  exact bndL_least _
theorem bnd_most {l : List K} (h : riseK ⟨#[]⟩ l = true) : bnd l ≤ 90 * l.length + 81 * levZ l.length := by
  unfold bnd levZ
  rw [if_pos h]
  by_cases h0 : l.length = 0
  · have : l = [] := List.eq_nil_of_length_eq_zero h0
    subst this
    rw [List.map_nil, bndL_nil]
    omega
  · rw [if_neg (by omega), Int.toNat_natCast]
    exact bndL_most l.length _ (by simp) (by omega) (fun s hs => by
      obtain ⟨k, hk', rfl⟩ := List.mem_map.1 hs
      exact (riseK_mem h k hk').2)

theorem bare_arg (a : Option Addr) (len cap : Nat) (l : List K) (w : World) (h : SArg w a len cap l) (hl : len * 40 ≤ 140737488351232) :
    Calls Try.prog 17 #[.slice a len cap] w fun e w' => ∃ a1 c1, e = .returned (.slice a1 len c1) ∧ ZArg w' a1 len c1 (l.map bst) ∧ (a1 = none → c1 = 0) ∧ Below w.heap.size w w' := by
  refine (bare_any a len cap l w h hl).mono ?_
  rintro e w' ⟨a1, n1, c1, rfl, hn, hz⟩
  obtain rfl : n1 = len := by rw [hn, List.length_map, h.len_eq]
  refine ⟨a1, c1, rfl, hz.arg hn (fun s hs => ?_), ?_, hz.2⟩
  · obtain ⟨k, hk', rfl⟩ := List.mem_map.1 hs
    exact h.lt k hk'
  · have h1 := hz.1
    rw [← hn] at h1
    obtain ⟨a', c', e, _, q, _⟩ := zown_row hn h1
    cases e
    exact fun e => (q e).2
set_option maxHeartbeats 4000000 in
theorem bound_any (a : Option Addr) (len cap : Nat) (l : List K) (w : World) (h : SArg w a len cap l) (hl : len * 40 ≤ 140737488351232) :
    Calls Try.prog 11 #[.slice a len cap] w fun e w' => e = .returned (.int .i64 (bnd l : Nat)) ∧ Below w.heap.size w w' := by
  have k1 := fun W (hb : Below w.heap.size w W) => rise_any a len cap l W (h.later hb)
  cases hr : riseK ⟨#[]⟩ l with
  | false =>
    have hb0 : bnd l = 0 := by unfold bnd; rw [hr]; rfl
    rw [hb0]
    rw [hr] at k1
    clear h hr hb0
    go_enter Try.func11, Try.ntmps11
    go_wp2_with (go_at_call 16; refine (k1 _ (Below.refl _ _)).mono ?_; rintro e w1 ⟨rfl, rfl⟩)
    go_ret
    exact ⟨rfl, Below.refl _ _⟩
  | true =>
    have HT : Hid (bnd l = tog (spl (l.map bst)) + more (spl (l.map bst))) := by show _ = _; unfold bnd; rw [if_pos hr]; rfl
    have hmost := bnd_most hr
    have hlv : levZ (l.length : Nat) ≤ l.length := by
      unfold levZ
      split
      · omega
      · rw [Int.toNat_natCast]; exact lev_le _ (by omega)
    have HG : Hid (Gd (spl (l.map bst))) := gd_spl (fun s hs => by
      obtain ⟨k, hk', rfl⟩ := List.mem_map.1 hs
      exact (riseK_mem hr k hk').2)
    rw [← h.len_eq] at hmost hlv
    have hlen : (spl (l.map bst)).length ≤ len := by rw [spl_len, List.length_map, ← h.len_eq]; omega
    have HLs : Hid ((spl (l.map bst)).length ≤ len) := hlen
    rw [hr] at k1
    have k2 := fun W (hb : Below w.heap.size w W) => bare_arg a len cap l W (h.later hb) hl
    have k3 : ∀ W a1 c1, ZArg W a1 len c1 (l.map bst) → (a1 = none → c1 = 0) → Calls Try.prog 5 #[.slice a1 len c1] W fun e w' => ∃ la n c, e = .returned (.slice la n c) ∧ LArg w' la n c (spl (l.map bst)) ∧ Below W.heap.size W w' := fun W a1 c1 h1 h2 => split_any a1 len c1 _ W h1 (by omega) h2
    obtain ⟨ls0, hls0⟩ : ∃ ls0, ls0 = spl (l.map bst) := ⟨_, rfl⟩
    rw [← hls0] at HT HG HLs k3
    obtain ⟨T, hTT⟩ : ∃ T, T = bnd l := ⟨_, rfl⟩
    rw [← hTT] at HT hmost
    rw [← hTT]
    have hTb : T ≤ 171 * len := by omega
    have k4 : ∀ W la n c, LArg W la n c ls0 → Calls Try.prog 18 #[.slice la n c] W fun e w' => e = .returned (.int .i64 (tog ls0 : Nat)) ∧ Below W.heap.size W w' := fun W la n c h1 => together_any la n c ls0 W h1 (fun y hy s hs => Nat.le_trans (HG.out.key y hy s hs) (by decide)) (by have := HT.out; omega)
    have HTB : Hid (T ≤ 171 * len ∧ len * 40 ≤ 140737488351232) := ⟨hTb, hl⟩
    have M1 : Hid True := trivial
    clear h hr hmost hlv hls0 hTT hlen hTb
    go_enter Try.func11, Try.ntmps11
    go_wp2_with (first
      | (go_at_call 16; refine (k1 _ (Below.refl _ _)).mono ?_; rintro e w1 ⟨rfl, rfl⟩)
      | (go_at_call 17; refine (k2 _ (Below.refl _ _)).mono ?_; rintro e w1 ⟨a1, c1, rfl, hz1, hn1, hb1⟩; have HB1 : Hid (Below w.heap.size w w1) := hb1; have HZ1 : Hid (ZArg w1 a1 len c1 (l.map bst) ∧ (a1 = none → c1 = 0)) := ⟨hz1, hn1⟩; clear hz1 hn1 hb1)
      | (go_at_call 5; refine (k3 _ _ _ HZ1.out.1 HZ1.out.2).mono ?_; rintro e w2 ⟨la, m, lc, rfl, hL, hb2⟩; have HB2 : Hid (Below w.heap.size w w2) := bafter HB1.out hb2; have HL2 : Hid (LArg w2 la m lc ls0) := hL; clear hL hb2)
      | (go_at_call 18; refine (k4 _ _ _ _ HL2.out).mono ?_; rintro e w3 ⟨rfl, hb3⟩; have HB3 : Hid (Below w.heap.size w w3) := bafter HB2.out hb3; have HL3 : Hid (LArg w3 la m lc ls0) := HL2.out.later hb3; clear hb3))
    clear k1 k2 k3 k4 HB1 HZ1 HL2 HB2 M1
    go_loopg [3, 4] m (fun kx s3 s4 wr => ∃ (n c s : Nat) (pa : Option Addr) (ls : List (List St)), n = kx ∧ s3 = .slice pa n c ∧ s4 = .int .i64 (s : Nat) ∧ Hid (LArg wr pa n c ls ∧ Gd ls ∧ s + more ls = T ∧ ls.length ≤ len ∧ Below w.heap.size w wr))
    case atStart => exact ⟨m, lc, _, la, ls0, rfl, rfl, rfl, (⟨HL3.out, HG.out, HT.out.symm, HLs.out, HB3.out⟩ : _ ∧ _)⟩
    case round =>
      obtain ⟨n, c, s, pa, ls, rfl, rfl, rfl, I⟩ := hrel
      obtain ⟨i1, i2, i3, i4, i5⟩ := I.out
      have hnl := i1.len_eq
      by_cases hlt : 1 < n
      · have hmo := more_yes (ls := ls) (by omega)
        obtain ⟨ls2, hls2⟩ : ∃ ls2, ls2 = spl (ups ls) := ⟨_, rfl⟩
        have hG2 : Gd ls2 := by rw [hls2]; exact gd_spl i2.ups
        have hn2 : ls2.length = (n + 7) / 8 := by rw [hls2, spl_len, ups_len, ← hnl]
        have kf : Calls Try.prog 19 #[.slice pa n c] wr fun e w' => ∃ a c, e = .returned (.slice a n c) ∧ SArg w' a n c (ls.map hk) ∧ Below wr.heap.size wr w' := by
          refine (firsts_any pa n c ls wr i1 (by have := HTB.out; omega) i2.one).mono ?_
          rintro e w' ⟨fa, fc, rfl, r1, r2, r3, r4⟩
          have e1 : (ls.map hk).length = n := by rw [List.length_map, hnl]
          exact ⟨fa, fc, by rw [e1], ⟨e1.symm, by rw [← e1]; exact r2, r3, fun x hx => Nat.le_trans (i2.hk x hx) (by decide), r1⟩, r4⟩
        have kb : ∀ W a c, SArg W a n c (ls.map hk) → Calls Try.prog 17 #[.slice a n c] W fun e w' => ∃ a1 c1, e = .returned (.slice a1 n c1) ∧ ZArg w' a1 n c1 (ups ls) ∧ (a1 = none → c1 = 0) ∧ Below W.heap.size W w' := fun W a c h => bare_arg a n c _ W h (by have := HTB.out; omega)
        have ks : ∀ W a1 c1, ZArg W a1 n c1 (ups ls) → (a1 = none → c1 = 0) → Calls Try.prog 5 #[.slice a1 n c1] W fun e w' => ∃ la m c, e = .returned (.slice la m c) ∧ LArg w' la m c ls2 ∧ Below W.heap.size W w' := fun W a1 c1 h1 h2 => by rw [hls2]; exact split_any a1 n c1 _ W h1 (by have := HTB.out; omega) h2
        rw [← hls2] at hmo
        have kt : ∀ W la m c, LArg W la m c ls2 → Calls Try.prog 18 #[.slice la m c] W fun e w' => e = .returned (.int .i64 (tog ls2 : Nat)) ∧ Below W.heap.size W w' := fun W la n c h1 => together_any la n c ls2 W h1 (fun y hy s hs => Nat.le_trans (hG2.key y hy s hs) (by decide)) (by have := HTB.out; omega)
        have hsum : s + tog ls2 < 9223372036854775808 := by have := HTB.out; omega
        have HS : Hid (s + tog ls2 + more ls2 = T) := by show _ = _; omega
        have HG2 : Hid (Gd ls2 ∧ ls2.length < n ∧ ls2.length ≤ len) := ⟨hG2, by omega, by omega⟩
        have HBr : Hid (Below w.heap.size w wr) := i5
        obtain ⟨t2, ht2⟩ : ∃ t2, t2 = tog ls2 := ⟨_, rfl⟩
        rw [← ht2] at kt hsum HS
        have hn63 : n ≤ 9223372036854775807 := by have := HTB.out; omega
        have hgt : (1 : Int) < (n : Int) := by omega
        clear ht2 hmo hls2 hG2 hn2 i1 i2 i3 i4 i5 I hnl
        go_wp2_with (first
          | (go_at_call 19; refine kf.mono ?_; rintro e w4 ⟨fa, fc, rfl, hS4, hb4⟩; have HB4 : Hid (Below w.heap.size w w4) := bafter HBr.out hb4; have HS4 : Hid (SArg w4 fa n fc (ls.map hk)) := hS4; clear hS4 hb4)
          | (go_at_call 17; refine (kb _ _ _ HS4.out).mono ?_; rintro e w5 ⟨a1, c1, rfl, hz1, hn1, hb1⟩; have HB5 : Hid (Below w.heap.size w w5) := bafter HB4.out hb1; have HZ5 : Hid (ZArg w5 a1 n c1 (ups ls) ∧ (a1 = none → c1 = 0)) := ⟨hz1, hn1⟩; clear hz1 hn1 hb1)
          | (go_at_call 5; refine (ks _ _ _ HZ5.out.1 HZ5.out.2).mono ?_; rintro e w6 ⟨la6, m6, lc6, rfl, hL6, hb6⟩; have HB6 : Hid (Below w.heap.size w w6) := bafter HB5.out hb6; have HL6 : Hid (LArg w6 la6 m6 lc6 ls2) := hL6; clear hL6 hb6)
          | (go_at_call 18; refine (kt _ _ _ _ HL6.out).mono ?_; rintro e w7 ⟨rfl, hb7⟩; have HB7 : Hid (Below w.heap.size w w7) := bafter HB6.out hb7; have HL7 : Hid (LArg w7 la6 m6 lc6 ls2) := HL6.out.later hb7; clear hb7))
        go_roundg m6
        case measure => (have := HL7.out.len_eq; have := HG2.out; omega)
        case rel => exact ⟨m6, lc6, s + t2, la6, ls2, rfl, rfl, by go_num, (⟨HL7.out, HG2.out.1, HS.out, HG2.out.2.2, HB7.out⟩ : _ ∧ _)⟩
      · have HS : Hid (s = T) := by show _ = _; rw [more_no (by omega)] at i3; omega
        have HBr : Hid (Below w.heap.size w wr) := i5
        have hn63 : n ≤ 9223372036854775807 := by omega
        clear i1 i2 i3 i4 i5 I hnl
        go_wp2
        go_ret
        exact ⟨ret_int (by rw [HS.out]), HBr.out⟩
end Go.Proofs.Ytfmgaahileknfaa
