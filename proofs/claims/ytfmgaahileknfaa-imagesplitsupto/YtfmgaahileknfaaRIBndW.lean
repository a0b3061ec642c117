/-
  What the document's Bound answers.
-/
import Derived.Test.YtfmgaahileknfaaRIBnd
namespace Go.Proofs.Ytfmgaahileknfaa
open Go.RowKit M
set_option maxRecDepth 10000

/-- The key ahead of the place i. -/
def PreK (l : List K) (i : Nat) (x : K) : Prop := (i = 0 ∧ x = ⟨#[]⟩) ∨ ∃ j, i = j + 1 ∧ l[j]? = some x
set_option maxHeartbeats 16000000 in
theorem rbound_any (a : Option Addr) (len cap : Nat) (l : List K) (w : World) (h : SArg w a len cap l) (hl : len * 40 ≤ 140737488351232) :
    Calls Try.prog 12 #[.slice a len cap] w fun e w' => e = .returned (.int .i64 (bnd l : Nat)) ∧ Below w.heap.size w w' := by
  have hlc := h.le
  have hcm := h.max
  unfold maxLen at hcm
  have HL : Hid (len = l.length) := h.len_eq
  have HZ : Hid (SRow w a l) := h.row
  have HK : Hid (∀ y ∈ l, y.size ≤ maxLen) := h.lt
  obtain ⟨R, hR⟩ : ∃ R, R = riseK ⟨#[]⟩ l := ⟨_, rfl⟩
  obtain ⟨T, hT⟩ : ∃ T, T = bnd l := ⟨_, rfl⟩
  have HR : Hid (R = riseK ⟨#[]⟩ l) := hR
  have HB0 : Hid (R = false → T = 0) := fun e => by rw [hT]; unfold bnd; rw [← hR, e]; rfl
  have HB1 : Hid (R = true → T = bndL (l.map bst) ∧ rises ⟨#[]⟩ (l.map bst) = true) := fun e => by
    rw [hR] at e
    refine ⟨?_, rises_bst e⟩
    rw [hT]; unfold bnd; rw [if_pos e]
  have HTB : Hid (T ≤ 171 * len) := by
    have hlv : levZ (len : Nat) ≤ len := by
      unfold levZ
      split
      · omega
      · rw [Int.toNat_natCast]; exact lev_le _ (by omega)
    show _ ≤ _
    cases hq : R with
    | false => rw [HB0.out hq]; omega
    | true =>
      rw [hR] at hq
      have := bnd_most hq
      rw [← h.len_eq, ← hT] at this
      omega
  rw [← hT]
  clear hR hT h
  go_enter Try.func12, Try.ntmps12
  go_wp2
  go_loopg [3] len (fun kx s3 wr => ∃ (i : Nat) (x : K), i + kx = len ∧ s3 = .int .i64 (i : Nat) ∧ Hid (PreK l i x ∧ riseK x (l.drop i) = R ∧ Below w.heap.size w wr))
  case atStart => exact ⟨0, ⟨#[]⟩, by omega, rfl, (⟨.inl ⟨rfl, rfl⟩, by rw [List.drop_zero]; exact HR.out.symm, Below.refl _ _⟩ : _ ∧ _)⟩
  case round =>
    obtain ⟨i, x, hi, rfl, I⟩ := hrel
    obtain ⟨i2, i3, i4⟩ := I.out
    by_cases hlt : i < len
    · obtain ⟨b, off, y, rfl, hy, hd, _, q0⟩ := srow_at (HZ.out.later i4) (k := i) (by have := HL.out; omega)
      have kK := HK.out y (List.mem_of_getElem? hy)
      have hi1 : (i : Int) < (len : Int) := by omega
      have HBr : Hid (Below w.heap.size w wr) := i4
      have HC : Hid (∀ (j : Nat) (s : K), l[j]? = some s → ∀ p : Wd wr, p.v.cell? ⟨b, off + j, none⟩ = some (.string s)) := fun j s hs p => by
        rcases (HZ.out.later i4).later p.h with e | ⟨b', o', e, hc⟩
        · rw [e] at hs; simp at hs
        · cases e; exact hc j s hs
      have HRi : Hid ((fol x y && riseK y (l.drop (i + 1))) = R) := by rw [hd] at i3; exact i3
      have HN : Hid (PreK l (i + 1) y) := .inr ⟨i, rfl, hy⟩
      have HY : Hid (l[i]? = some y) := hy
      have HKy : Hid (∀ p : Wd wr, Calls Try.prog 20 #[.string y] p.v fun e w'' => e = .returned (.bool (rk y)) ∧ ∃ q : Wd wr, w'' = q.v) := fun p => quiet_call p ((rkey_any y kK p.v).mono (by rintro e w' ⟨rfl, rfl⟩; exact ⟨rfl, Below.refl _ _⟩))
      cases hrk : rk y with
      | false =>
        rw [hrk] at HKy
        have hRF : R = false := by
          have := HRi.out
          rw [show fol x y = false by rw [fol_next, hrk]; rfl] at this
          exact this.symm
        have hT0 := HB0.out hRF
        subst hT0
        clear i2 i3 i4 I hy hd q0 HRi HN HB1 HB0 HR
        go_wp2
        have z0 := HC.out i y HY.out
        have ne := Wd.non wr
        refine quiet_below (by kernel_rfl) ?_
        repeat (first | go_big_quiet_skip | go_big_quiet_step (first | (go_at_call 20; exact HKy.out _)))
        refine wpQuiet_nil ?_
        rintro _ ⟨p7, rfl⟩
        have HB7 : Hid (Below w.heap.size w p7.v) := bafter HBr.out p7.h
        clear z0 ne
        go_wp2
        go_ret
        exact ⟨rfl, HB7.out⟩
      | true =>
        rw [hrk] at HKy
        rcases i2 with ⟨rfl, rfl⟩ | ⟨j, rfl, hj⟩
        · have HF : Hid (riseK y (l.drop 1) = R) := by have := HRi.out; rw [fol_first, hrk] at this; exact this
          clear i3 i4 I hy hd q0 HRi
          go_wp2
          have z0 := HC.out 0 y HY.out
          have ne := Wd.non wr
          rw [Nat.add_zero] at z0
          have h00 : ¬ (0 : Int) < (0 : Int) := by omega
          have h01 : (0 : Int) < (len : Int) := by omega
          refine quiet_below (by kernel_rfl) ?_
          repeat (first | go_big_quiet_skip | go_big_quiet_step (first | (go_at_call 20; exact HKy.out _)))
          refine wpQuiet_nil ?_
          rintro _ ⟨p7, rfl⟩
          have HB7 : Hid (Below w.heap.size w p7.v) := bafter HBr.out p7.h
          clear z0 ne
          go_wp2
          go_roundg (len - 1)
          case measure => omega
          case rel => exact ⟨1, y, by omega, rfl, (⟨HN.out, HF.out, HB7.out⟩ : _ ∧ _)⟩
        · have HLs : Hid (∀ p : Wd wr, Calls Try.prog 21 #[.string x, .string y] p.v fun e w'' => e = .returned (.bool (klt x y)) ∧ ∃ q : Wd wr, w'' = q.v) := fun p => quiet_call p ((less_any (HK.out x (List.mem_of_getElem? hj)) kK p.v).mono (by rintro e w' ⟨rfl, q, rfl⟩; exact ⟨rfl, below_drawn _ _⟩))
          have HPv : Hid (l[j]? = some x) := hj
          have hfx : fol x y = klt x y := by rw [fol_next, hrk, Bool.true_and]
          cases hkl : klt x y with
          | false =>
            rw [hkl] at HLs
            have hRF : R = false := by have := HRi.out; rw [hfx, hkl] at this; exact this.symm
            have hT0 := HB0.out hRF
            subst hT0
            clear i3 i4 I hy hd q0 HRi HN HB1 HB0 HR hj hfx
            go_wp2
            have z0 := HC.out (j + 1) y HY.out
            have z4 := HC.out j x HPv.out
            have ne := Wd.non wr
            have hj0 : (0 : Int) < (j : Int) + 1 := by omega
            have hj1 : (j : Int) + 1 < (len : Int) := by omega
            have hj2 : (j : Int) < (len : Int) := by omega
            have hj3 : IntKind.i64.wrap ((j : Int) + 1 - 1) = (j : Int) := by rw [IntKind.wrap_i64]; omega
            refine quiet_below (by kernel_rfl) ?_
            repeat (first | go_big_quiet_skip | go_big_quiet_step (first | (go_at_call 20; exact HKy.out _) | (go_at_call 21; exact HLs.out _)))
            refine wpQuiet_nil ?_
            rintro _ ⟨p7, rfl⟩
            have HB7 : Hid (Below w.heap.size w p7.v) := bafter HBr.out p7.h
            clear z0 z4 ne
            go_wp2
            go_ret
            exact ⟨rfl, HB7.out⟩
          | true =>
            rw [hkl] at HLs
            have HF : Hid (riseK y (l.drop (j + 1 + 1)) = R) := by have := HRi.out; rw [hfx, hkl] at this; exact this
            clear i3 i4 I hy hd q0 HRi hj hfx
            go_wp2
            have z0 := HC.out (j + 1) y HY.out
            have z4 := HC.out j x HPv.out
            have ne := Wd.non wr
            have hj0 : (0 : Int) < (j : Int) + 1 := by omega
            have hj1 : (j : Int) + 1 < (len : Int) := by omega
            have hj2 : (j : Int) < (len : Int) := by omega
            have hj3 : IntKind.i64.wrap ((j : Int) + 1 - 1) = (j : Int) := by rw [IntKind.wrap_i64]; omega
            refine quiet_below (by kernel_rfl) ?_
            repeat (first | go_big_quiet_skip | go_big_quiet_step (first | (go_at_call 20; exact HKy.out _) | (go_at_call 21; exact HLs.out _)))
            refine wpQuiet_nil ?_
            rintro _ ⟨p7, rfl⟩
            have HB7 : Hid (Below w.heap.size w p7.v) := bafter HBr.out p7.h
            clear z0 z4 ne
            go_wp2
            go_roundg (len - (j + 2))
            case measure => omega
            case rel => exact ⟨j + 2, y, by omega, by go_num, (⟨HN.out, HF.out, HB7.out⟩ : _ ∧ _)⟩
    · have hil : i = len := by omega
      subst hil
      have hRT : R = true := by rw [HL.out, List.drop_eq_nil_of_le (Nat.le_refl _)] at i3; exact i3.symm
      obtain ⟨b1, b2⟩ := HB1.out hRT
      have HBd : Hid (T = bndL (l.map bst)) := b1
      have HRs : Hid (rises ⟨#[]⟩ (l.map bst) = true) := b2
      have HBw : Hid (Below w.heap.size w wr) := i4
      clear i2 i3 i4 I HB0 HB1 HR b1 b2 hRT
      go_wp2
      go_loopg [4, 5] i (fun kx s4 s5 wr => ∃ (j : Nat) (v : Value), j + kx = i ∧ v = s4 ∧ s5 = .int .i64 (j : Nat) ∧ Hid (wr.ownsRow w.heap.size 44 4 v j (((l.take j).map bst).flatMap stv) ∧ Below w.heap.size w wr))
      case atStart => exact ⟨0, _, by omega, rfl, rfl, (⟨World.ownsRow_nil _ _ _ 4, HBw.out⟩ : _ ∧ _)⟩
      case round =>
        obtain ⟨j, v, hj, rfl, rfl, I⟩ := hrel
        by_cases hlt2 : j < i
        · obtain ⟨b, off, y, rfl, hy, _, ht, q0⟩ := srow_at (HZ.out.later I.out.2) (k := j) (by have := HL.out; omega)
          have hi1 : (j : Int) < (i : Int) := by omega
          have HO : Hid (wr.ownsRow w.heap.size 44 4 v j (((l.take j).map bst).flatMap stv)) := I.out.1
          have HB : Hid (Below w.heap.size w wr) := I.out.2
          have HT : Hid ((l.take (j + 1)).map bst = (l.take j).map bst ++ [bst y]) := by show _ = _; rw [ht]; simp
          have HQ : Hid (j + 1 ≤ maxLen ∧ (j + 1) * 40 ≤ 140737488355328) := ⟨by unfold maxLen; omega, by omega⟩
          have HX : Hid (ZRow (wr.alloc (.cells (stv (bst y)).toArray 44)) (some ⟨wr.heap.size, 0, none⟩) [bst y]) := rbox_one wr (bst y)
          have hbw : b < wr.heap.size := World.block_lt_of_cell? wr _ q0
          clear ht hy I
          go_wp2_with (at_builtin; refine wpList_append_rst rfl (.tmp 45) (.tmp 51) rfl w.heap.size v j _ rfl (owns_later HO.out (below_new wr _)) ⟨wr.heap.size, 0, none⟩ 1 (bst y) rfl HX.out HQ.out.1 HQ.out.2 (bafter HB.out (below_new wr _)).size ?_; intro v5 w5 ho5 hg5; have H5 : Hid (w5.ownsRow w.heap.size 44 4 v5 (j + 1) (((l.take (j + 1)).map bst).flatMap stv) ∧ Below w.heap.size w w5) := (⟨by rw [HT.out]; exact ho5, grown_own (bafter HB.out (below_new wr _)) hg5 (bafter HB.out (below_new wr _)).size (owns_later HO.out (below_new wr _))⟩ : _ ∧ _); clear ho5 hg5)
          go_roundg (i - (j + 1))
          case measure => omega
          case rel => exact ⟨j + 1, v5, by omega, rfl, by go_num, H5.out⟩
        · have hkl : j = i := by omega
          subst hkl
          obtain ⟨la, lc, rfl, hZA⟩ : ∃ la lc, v = .slice la j lc ∧ ZArg wr la j lc (l.map bst) := by
            have h1 := I.out.1
            have h2 := HL.out
            refine rzown_row (base := w.heap.size) (by rw [List.length_map]; exact h2) ?_ ?_
            · rw [h2, List.take_length] at h1
              rw [h2]; exact h1
            · intro s hs
              obtain ⟨k, hk', rfl⟩ := List.mem_map.1 hs
              exact HK.out k hk'
          have HZA : Hid (ZArg wr la j lc (l.map bst)) := hZA
          have HBr : Hid (Below w.heap.size w wr) := I.out.2
          have HSm : Hid (∀ s ∈ l.map bst, s.key.size ≤ 64) := fun s hs => by
            exact (rises_mem HRs.out s hs).key2
          have HLB : Hid (T ≤ 171 * j ∧ j * 40 ≤ 140737488351232) := ⟨HTB.out, hl⟩
          clear hZA I HZ HK HTB
          go_wp2
          go_loopg [4, 6] j (fun kx s4 s6 wr => ∃ (n c s : Nat) (pa : Option Addr) (sl : List St), n = kx ∧ s4 = .slice pa n c ∧ s6 = .int .i64 (s : Nat) ∧ Hid (ZArg wr pa n c sl ∧ rises ⟨#[]⟩ sl = true ∧ s + bndL sl = T ∧ n ≤ j ∧ Below w.heap.size w wr))
          case atStart => exact ⟨j, lc, 0, la, _, rfl, rfl, rfl, (⟨HZA.out, HRs.out, by rw [HBd.out]; omega, Nat.le_refl _, HBr.out⟩ : _ ∧ _)⟩
          case round =>
            obtain ⟨n, c, s, pa, sl, rfl, rfl, rfl, I⟩ := hrel
            obtain ⟨i1, i2, i3, i4, i5⟩ := I.out
            have hnl := i1.len_eq
            by_cases hlt3 : 0 < n
            · have hgt : (0 : Int) < (n : Int) := by omega
              obtain ⟨ls, hls⟩ : ∃ ls, ls = spl sl := ⟨_, rfl⟩
              have hbl : bndL sl = tog ls + more ls := by rw [hls]; rfl
              have hG : Gd ls := by rw [hls]; exact gd_spl (fun s hs => (rises_mem i2 s hs).key2)
              have hlen : ls.length = (n + 7) / 8 := by rw [hls, spl_len, ← hnl]
              have hru : rises ⟨#[]⟩ (ups ls) = true := rises_ups hG.one (by rw [hls, spl_flat]; exact i2)
              have ks : ∀ W, Below wr.heap.size wr W → Calls Try.prog 7 #[.slice pa n c] W fun e w' => ∃ la m c, e = .returned (.slice la m c) ∧ LArg w' la m c ls ∧ Below W.heap.size W w' := fun W hb => by rw [hls]; exact rsplit_any pa n c sl W (i1.later hb) (by have := HLB.out; omega)
              have HSz : Hid (∀ i y, ls[i]? = some y → sizeN 0 y = 9 + pkN y) := fun i y hy => by rw [hls] at hy; exact size_part i2 hy
              have HG : Hid (Gd ls) := hG
              have HRu : Hid (rises ⟨#[]⟩ (ups ls) = true) := hru
              have HSum : Hid (s + tog ls + more ls = T) := by show _ = _; omega
              have HLn : Hid (ls.length = (n + 7) / 8) := hlen
              have HNj : Hid (n ≤ j) := i4
              have HBw2 : Hid (Below w.heap.size w wr) := i5
              have hn63 : n ≤ 9223372036854775807 := by have := HLB.out; omega
              clear hls hbl hG hlen hru i1 i2 i3 i4 i5 I hnl
              go_wp2_with (go_at_call 7; refine (ks _ (Below.refl _ _)).mono ?_; rintro e w6 ⟨la6, m6, lc6, rfl, hL6, hb6⟩; have HB6 : Hid (Below w.heap.size w w6) := bafter HBw2.out hb6; have HL6 : Hid (LArg w6 la6 m6 lc6 ls) := hL6; clear hL6 hb6)
              have hm6 : m6 = ls.length := HL6.out.len_eq
              have HM6 : Hid (m6 = ls.length) := hm6
              have hm6n : m6 = (n + 7) / 8 := hm6.trans HLn.out
              have hm63 : m6 ≤ 9223372036854775807 := by omega
              have hlc6 := HL6.out.le
              have HMN : Hid (m6 = (n + 7) / 8) := hm6n
              clear hm6 ks hm6n
              go_loopg [6, 8, 9] m6 (fun kx s6 s8 s9 wr => ∃ (k q : Nat) (v : Value), k + kx = m6 ∧ s6 = .int .i64 (q : Nat) ∧ v = s8 ∧ s9 = .int .i64 (k : Nat) ∧ Hid (q = s + tog (ls.take k) ∧ wr.ownsRow w6.heap.size 44 4 v k ((ups (ls.take k)).flatMap stv) ∧ Below w6.heap.size w6 wr))
              case atStart => exact ⟨0, s, _, by omega, rfl, rfl, rfl, (⟨rfl, World.ownsRow_nil _ _ _ 4, Below.refl _ _⟩ : _ ∧ _)⟩
              case round =>
                obtain ⟨k, q, v, hkx, rfl, rfl, rfl, I⟩ := hrel
                obtain ⟨i1, i2, i3⟩ := I.out
                by_cases hlt4 : k < m6
                · obtain ⟨b, off, y, ya, yc, rfl, hy, hta, q0, q1, q2, q3⟩ := lrow_at (HL6.out.row.later i3) (i := k) (by have := HM6.out; omega)
                  have hn1 := HG.out.one y (List.mem_of_getElem? hy)
                  have hsz := HSz.out k y hy
                  have hkk := HG.out.key y (List.mem_of_getElem? hy)
                  obtain ⟨b2, off2, s2, rfl, hs2, _, c0, _⟩ := zrow_at q1 (k := 0) (by omega)
                  rw [Nat.zero_mul, Nat.add_zero] at c0
                  have hkey : hk y = s2.key := by
                    cases y with
                    | nil => simp at hs2
                    | cons s' y => simp at hs2; rw [hs2]; rfl
                  have hi1 : (k : Int) < (m6 : Int) := by omega
                  have HO : Hid (wr.ownsRow w6.heap.size 44 4 v k ((ups (ls.take k)).flatMap stv)) := i2
                  have HB : Hid (Below w6.heap.size w6 wr) := i3
                  have HT : Hid (ups (ls.take (k + 1)) = ups (ls.take k) ++ [bst s2.key]) := by show _ = _; rw [hta]; simp [ups, hkey]
                  have HTg : Hid (q + (9 + pkN y) = s + tog (ls.take (k + 1))) := by show _ = _; rw [hta, tog_app, i1]; show _ = _ + (_ + (9 + pkN y + 0)); omega
                  have hle : q + (9 + pkN y) < 9223372036854775808 := by have := HTg.out; have := tog_take_le ls (k + 1); have := HSum.out; have := HLB.out; omega
                  have HQ : Hid (k + 1 ≤ maxLen ∧ (k + 1) * 40 ≤ 140737488355328) := by have := HLB.out; have := HMN.out; have := HNj.out; exact ⟨by unfold maxLen; omega, by omega⟩
                  have kz : ∀ W, Below wr.heap.size wr W → Calls Try.prog 22 #[.agg #[.int .i64 0, .slice (some ⟨b2, off2, none⟩) y.length yc]] W fun e w' => e = .returned (.int .i64 ((9 + pkN y : Nat) : Int)) ∧ Below W.heap.size W w' := fun W hb => by
                    have := rsize_any 0 (some ⟨b2, off2, none⟩) y.length yc y W ⟨rfl, q2, q3, fun s hs => Nat.le_trans (hkk s hs) (by decide), q1.later hb⟩
                    rw [hsz] at this
                    exact this
                  obtain ⟨P, hP⟩ : ∃ P, P = 9 + pkN y := ⟨_, rfl⟩
                  rw [← hP] at kz hle HTg
                  obtain ⟨X, hX⟩ : ∃ X, X = y.length := ⟨_, rfl⟩
                  rw [← hX] at q0 q2 hn1 kz
                  obtain ⟨kk, hkk2⟩ : ∃ kk, kk = s2.key := ⟨_, rfl⟩
                  rw [← hkk2] at c0 HT
                  unfold maxLen at q3
                  have hx0 : (0 : Int) < (X : Int) := by omega
                  have HC1 : Hid (∀ W, Below wr.heap.size wr W → W.cell? ⟨b, off + k, none⟩ = some (.slice (some ⟨b2, off2, none⟩) X yc) ∧ W.cell? ⟨b2, off2, none⟩ = some (.string kk)) := fun W hb => ⟨(hb.cell (p := ⟨b, off + k, none⟩) (World.block_lt_of_cell? wr _ q0)).trans q0, (hb.cell (p := ⟨b2, off2, none⟩) (World.block_lt_of_cell? wr _ c0)).trans c0⟩
                  have HX2 : Hid (∀ W : World, ZRow (W.alloc (.cells (stv (bst kk)).toArray 44)) (some ⟨W.heap.size, 0, none⟩) [bst kk]) := fun W => rbox_one W (bst kk)
                  clear hta hy I hs2 hkey q1 hX hkk2 hP hsz hkk i1 i2 i3
                  go_wp2_with (first
                    | (go_at_call 22; refine (kz _ (Below.refl _ _)).mono ?_; rintro e w7 ⟨rfl, hb7⟩; obtain ⟨d0, d1⟩ := HC1.out w7 hb7; have HB7 : Hid (Below wr.heap.size wr w7) := hb7; have hbw7 := World.block_lt_of_cell? w7 _ d0; have hbw8 := World.block_lt_of_cell? w7 _ d1; clear hb7 q0 c0)
                    | (at_builtin; refine wpList_append_rst rfl (.tmp 72) (.tmp 81) rfl w6.heap.size v k _ rfl (owns_later HO.out (bafter HB7.out (below_new w7 _))) ⟨w7.heap.size, 0, none⟩ 1 (bst kk) rfl (HX2.out w7) HQ.out.1 HQ.out.2 (bafter HB.out (bafter HB7.out (below_new w7 _))).size ?_; intro v5 w8 ho5 hg5; have H5 : Hid (w8.ownsRow w6.heap.size 44 4 v5 (k + 1) ((ups (ls.take (k + 1))).flatMap stv) ∧ Below w6.heap.size w6 w8) := (⟨by rw [HT.out]; exact ho5, grown_own (bafter HB.out (bafter HB7.out (below_new w7 _))) hg5 (bafter HB.out (bafter HB7.out (below_new w7 _))).size (owns_later HO.out (bafter HB7.out (below_new w7 _)))⟩ : _ ∧ _); clear ho5 hg5))
                  go_roundg (m6 - (k + 1))
                  case measure => omega
                  case rel => exact ⟨k + 1, q + P, v5, by omega, by go_num, rfl, by go_num, (⟨HTg.out, H5.out⟩ : _ ∧ _)⟩
                · have hkm : k = m6 := by omega
                  subst hkm
                  have htk : ls.take k = ls := List.take_of_length_le (by have := HM6.out; omega)
                  rw [htk] at i1 i2
                  obtain ⟨ua, uc, rfl, hUA⟩ : ∃ ua uc, v = .slice ua k uc ∧ ZArg wr ua k uc (ups ls) := rzown_row (by rw [ups_len]; exact HM6.out) i2 (fun s hs => Nat.le_trans (HG.out.ups s hs) (by decide))
                  have HUA : Hid (ZArg wr ua k uc (ups ls)) := hUA
                  have HB9 : Hid (Below w.heap.size w wr) := bafter HB6.out i3
                  have hq : q + more ls = T := by have := HSum.out; omega
                  by_cases h1 : k = 1
                  · have HE : Hid (q = T) := by rw [more_no (by have := HM6.out; omega)] at hq; exact hq
                    subst h1
                    clear hUA i1 i2 i3 I htk hq
                    go_wp2
                    go_ret
                    exact ⟨ret_int (by rw [HE.out]), HB9.out⟩
                  · have HE : Hid (q + bndL (ups ls) = T) := by
                      have hm := HM6.out
                      have := HMN.out
                      rw [more_yes (by omega)] at hq
                      exact hq
                    have h1I : ¬ (k : Int) = 1 := by omega
                    have HMe : Hid (k < n ∧ k ≤ j) := by have := HMN.out; have := HNj.out; exact ⟨by omega, by omega⟩
                    clear hUA i1 i2 i3 I htk hq
                    go_wp2
                    go_roundg k
                    case measure => exact HMe.out.1
                    case rel => exact ⟨k, uc, q, ua, _, rfl, rfl, rfl, (⟨HUA.out, HRu.out, HE.out, HMe.out.2, HB9.out⟩ : _ ∧ _)⟩
            · have hn0 : n = 0 := by omega
              subst hn0
              have hsl : sl = [] := List.eq_nil_of_length_eq_zero hnl.symm
              have HE : Hid (s = T) := by rw [hsl, bndL_nil] at i3; exact i3
              have HB9 : Hid (Below w.heap.size w wr) := i5
              clear i1 i2 i3 i4 i5 I hnl hsl
              go_wp2
              go_ret
              exact ⟨ret_int (by rw [HE.out]), HB9.out⟩
end Go.Proofs.Ytfmgaahileknfaa
