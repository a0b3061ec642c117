/-
  The document's costs.
-/
import Derived.Test.YtplhlbajgijohaaPW
namespace Go.Proofs.Ytplhlbajgijohaa
open Go.RowKit M
set_option maxRecDepth 10000

theorem two_any (n : Int) (w : World) :
    Calls Try.prog 46 #[.int .i64 n] w fun e w' => e = .returned (.string (bs (hi2 n))) ∧ Below w.heap.size w w' := by
  obtain ⟨a, ha⟩ : ∃ a : Nat, (n / 256 % 256) = (a : Int) := ⟨_, (Int.toNat_of_nonneg (by omega)).symm⟩
  obtain ⟨b, hb⟩ : ∃ b : Nat, (n % 256) = (b : Int) := ⟨_, (Int.toNat_of_nonneg (by omega)).symm⟩
  have HR : Hid (hi2 n = u8s [a, b]) := by show _ = _; unfold hi2; rw [ha, hb]; rfl
  have hcv := fun W => conv_new2 a b W
  go_enter Try.func46, Try.ntmps46
  go_wp2
  go_ret
  exact ⟨by rw [HR.out]; rfl, below_new _ _⟩

theorem rinodeKey_any (n : Int) (w : World) :
    Calls Try.prog 36 #[.int .i64 n] w fun e w' => e = .returned (.string (bs (pre3 n 1))) ∧ Below w.heap.size w w' := by
  have hp := fun W => two_any n W
  have HR : Hid (bs (hi2 n) ++ ⟨#[1]⟩ = bs (pre3 n 1)) := bs_app _ [1]
  have z1 : (bs (hi2 n)).size = 2 := rfl
  obtain ⟨H, hH⟩ : ∃ H, H = bs (hi2 n) := ⟨_, rfl⟩
  rw [← hH] at hp HR z1
  clear hH
  have sa := fun W => str_add H ⟨#[1]⟩ 2 1 z1 rfl (by omega) W
  go_enter Try.func36, Try.ntmps36
  go_wp2_with (go_at_call 46; refine (hp _).mono ?_; rintro e w1 ⟨rfl, hb⟩)
  go_ret
  exact ⟨by rw [← HR.out]; rfl, hb⟩
theorem rentryKey_any (n : Int) (l : List UInt8) (hl : l.length ≤ 140737488351232) (w : World) :
    Calls Try.prog 37 #[.int .i64 n, .string (bs l)] w fun e w' => e = .returned (.string (bs (pre3 n 2 ++ l))) ∧ Below w.heap.size w w' := by
  have hp := fun W => two_any n W
  have HR : Hid (bs (hi2 n) ++ ⟨#[2]⟩ ++ bs l = bs (pre3 n 2 ++ l)) := by
    show _ = _
    rw [show bs (hi2 n) ++ (⟨#[2]⟩ : ByteArray) = bs (pre3 n 2) from bs_app _ [2], bs_app]
  have z1 : (bs (hi2 n)).size = 2 := rfl
  have z2 : (bs l).size ≤ 140737488351232 := by rw [bs_size]; exact hl
  obtain ⟨H, hH⟩ : ∃ H, H = bs (hi2 n) := ⟨_, rfl⟩
  obtain ⟨L, hL⟩ : ∃ L, L = bs l := ⟨_, rfl⟩
  rw [← hH] at hp HR z1
  rw [← hL] at HR z2 ⊢
  clear hH hL
  have sa := fun W => str_add H ⟨#[2]⟩ 2 1 z1 rfl (by omega) W
  have y1 := size_add H ⟨#[2]⟩ 2 1 z1 rfl
  have sb : ∀ W : World, (Op.stringOp .add (H ++ ⟨#[2]⟩) L).run Try.prog W = .ok (.string (H ++ ⟨#[2]⟩ ++ L)) W := fun W => run_string_add_sum W _ L (by omega)
  go_enter Try.func37, Try.ntmps37
  go_wp2_with (go_at_call 46; refine (hp _).mono ?_; rintro e w1 ⟨rfl, hb⟩)
  go_ret
  exact ⟨by rw [← HR.out]; rfl, hb⟩
theorem rblockKey_any (n m : Int) (w : World) :
    Calls Try.prog 38 #[.int .i64 n, .int .i64 m] w fun e w' => e = .returned (.string (bs (pre3 n 3 ++ hi2 m))) ∧ Below w.heap.size w w' := by
  have hp := fun W => two_any n W
  have hq := fun W => two_any m W
  have HR : Hid (bs (hi2 n) ++ ⟨#[3]⟩ ++ bs (hi2 m) = bs (pre3 n 3 ++ hi2 m)) := by
    show _ = _
    rw [show bs (hi2 n) ++ (⟨#[3]⟩ : ByteArray) = bs (pre3 n 3) from bs_app _ [3], bs_app]
  have z1 : (bs (hi2 n)).size = 2 := rfl
  have z2 : (bs (hi2 m)).size = 2 := rfl
  obtain ⟨H, hH⟩ : ∃ H, H = bs (hi2 n) := ⟨_, rfl⟩
  obtain ⟨L, hL⟩ : ∃ L, L = bs (hi2 m) := ⟨_, rfl⟩
  rw [← hH] at hp HR z1
  rw [← hL] at hq HR z2
  clear hH hL
  have sa := fun W => str_add H ⟨#[3]⟩ 2 1 z1 rfl (by omega) W
  have y1 := size_add H ⟨#[3]⟩ 2 1 z1 rfl
  have sb := fun W => str_add (H ++ ⟨#[3]⟩) L (2 + 1) 2 y1 z2 (by omega) W
  have M1 : Hid True := trivial
  go_enter Try.func38, Try.ntmps38
  go_wp2_with (first
    | (go_at_call 46; clear M1; refine (hp _).mono ?_; rintro e w1 ⟨rfl, hb⟩)
    | (go_at_call 46; refine (hq _).mono ?_; rintro e w2 ⟨rfl, hb2⟩))
  go_ret
  exact ⟨by rw [← HR.out]; rfl, Below.after hb hb2⟩
theorem rnode_any (k v : KK) (hk : k.size ≤ 140737488355328) (hv : v.size ≤ 140737488355328) (w : World) :
    Calls Try.prog 19 #[.string k, .string v] w fun e w' => e = .returned (.int .i64 ((cst k v : Nat) : Int)) ∧ w = w' := by
  have HV : Hid (((cst k v : Nat) : Int) = 64 + 2 * (k.size : Int) + (v.size : Int)) := by show _ = _; unfold cst; omega
  have b1 : (2 : Int) * (k.size : Int) ≤ 9223372036854775807 := by omega
  have b2 : (0 : Int) ≤ 2 * (k.size : Int) := by omega
  have b3 : (64 : Int) + 2 * (k.size : Int) ≤ 9223372036854775807 := by omega
  have b4 : (0 : Int) ≤ 64 + 2 * (k.size : Int) := by omega
  have b5 : (64 : Int) + 2 * (k.size : Int) + (v.size : Int) ≤ 9223372036854775807 := by omega
  have b6 : (0 : Int) ≤ 64 + 2 * (k.size : Int) + (v.size : Int) := by omega
  go_enter Try.func19, Try.ntmps19
  go_wp2
  go_ret
  exact ⟨ret_int HV.out.symm, rfl⟩
theorem nodes_top {l : List Nw} {i : Nat} (h : nodesF (l.take i) = top) : nodesF l = top := by
  have e := allC_app (l.take i) (l.drop i)
  rw [List.take_append_drop] at e
  unfold nodesF at h ⊢
  omega
set_option maxHeartbeats 4000000 in
theorem rnodes_any (a : Option Addr) (len cap : Nat) (l : List Nw) (w : World) (h : NArg w a len cap l) :
    Calls Try.prog 21 #[.slice a len cap] w fun e w' => e = .returned (.int .i64 ((nodesF l : Nat) : Int)) ∧ Below w.heap.size w w' := by
  have HZ : Hid (NRow w a l) := h.row
  have HL : Hid (len = l.length) := h.len_eq
  have HK : Hid ((∀ y ∈ l, y.k.size ≤ 140737488355328) ∧ ∀ y ∈ l, y.v.size ≤ 140737488355328) := ⟨h.keys, h.vals⟩
  have hcm := h.max
  have hlc := h.le
  unfold maxLen at hcm
  clear h
  obtain ⟨R, eR⟩ : ∃ R, R = nodesF l := ⟨_, rfl⟩
  have HR : Hid (R = nodesF l) := eR
  rw [← eR]
  clear eR
  go_enter Try.func21, Try.ntmps21
  go_wp2
  go_loopg [3, 4] len (fun kx s3 s4 wr => ∃ (i t : Nat), i + kx = len ∧ s3 = .int .i64 (t : Nat) ∧ s4 = .int .i64 (i : Nat) ∧ Hid (t = nodesF (l.take i)) ∧ Hid (Below w.heap.size w wr))
  case atStart => exact ⟨0, 0, by omega, rfl, rfl, (by show 0 = _; simp [nodesF, allC]), Below.refl _ _⟩
  case round =>
    obtain ⟨i, t, hi, rfl, rfl, HT, I⟩ := hrel
    by_cases hlt : i < len
    · have HN := HZ.out.later I.out
      obtain ⟨b, off, y, rfl, hy, hym, hta, _, q0, q1, q2⟩ := nrow_at HN (i := i) (by have := HL.out; omega)
      have hi0 : (0 : Int) ≤ (i : Int) := by omega
      have hi1 : (i : Int) < (len : Int) := by omega
      have hbw : b < wr.heap.size := World.block_lt_of_cell? wr _ q0
      have hky := HK.out.1 y hym
      have hvy := HK.out.2 y hym
      have HS : Hid (nodesF (l.take (i + 1)) = if y.g then t else min top (t + y.c)) := by
        show _ = _
        have e := HT.out
        unfold nodesF at e ⊢
        rw [hta, allC_snoc, e]
        split
        · rw [Nat.add_zero]
        · rw [min_min]
      have htt : t ≤ 4611686018427387904 := by rw [HT.out]; exact nodesF_le _
      have HC : Hid (∀ q : Wd wr, q.v.cell? ⟨b, off + i * 3, none⟩ = some (.string y.k) ∧ q.v.cell? ⟨b, off + i * 3 + 1, none⟩ = some (.string y.v)) := fun q => ⟨(q.h.cell (p := ⟨b, off + i * 3, none⟩) hbw).trans q0, (q.h.cell (p := ⟨b, off + i * 3 + 1, none⟩) hbw).trans q1⟩
      obtain ⟨k, v, g⟩ := y
      dsimp only at q0 q1 q2 hky hvy HC
      clear hta hy hym HN
      cases g with
      | true =>
        have HS2 : Hid (t = nodesF (l.take (i + 1))) := HS.out.symm
        clear HS
        go_wp2
        go_roundg (len - (i + 1))
        case measure => omega
        case rel => exact ⟨i + 1, t, by omega, rfl, by go_num, HS2.out, I.out⟩
      | false =>
        obtain ⟨C, eC⟩ : ∃ C, C = cst k v := ⟨_, rfl⟩
        have HS2 : Hid (nodesF (l.take (i + 1)) = min top (t + C)) := by rw [eC]; exact HS.out
        have hcl : C < 9223372036854775808 := by rw [eC]; exact cst_lt hky hvy
        have HN : Hid (∀ q : Wd wr, Calls Try.prog 19 #[.string k, .string v] q.v fun e w'' => e = .returned (.int .i64 (C : Int)) ∧ ∃ q : Wd wr, w'' = q.v) := fun q => by
          rw [eC]
          refine (rnode_any k v hky hvy q.v).mono ?_
          rintro e w' ⟨rfl, rfl⟩
          exact ⟨rfl, q, rfl⟩
        clear HS eC
        go_wp2_with fail
        have z0 := fun q => (HC.out q).1
        have z1 := fun q => (HC.out q).2
        have ne := Wd.non wr
        refine quiet_below (by kernel_rfl) ?_
        repeat (first | go_big_quiet_skip | go_big_quiet_step (first | (go_at_call 19; exact HN.out _)))
        refine wpQuiet_nil ?_
        rintro _ ⟨p7, rfl⟩
        have HB7 : Hid (Below w.heap.size w p7.v) := Below.after I.out p7.h
        clear z0 z1 ne q0 q1 q2 hbw
        have b1 : (0 : Int) ≤ 4611686018427387904 - (t : Int) := by omega
        have b2 : (4611686018427387904 : Int) - (t : Int) ≤ 9223372036854775807 := by omega
        by_cases hgt : 4611686018427387904 - t < C
        · have hg : (4611686018427387904 : Int) - (t : Int) < (C : Int) := by omega
          have HR2 : Hid (R = 4611686018427387904) := by
            show _ = _
            rw [HR.out]
            refine nodes_top (i := i + 1) ?_
            rw [HS2.out]
            unfold top
            omega
          go_wp2
          go_ret
          exact ⟨ret_int (by rw [HR2.out]; rfl), HB7.out⟩
        · have hg : ¬ (4611686018427387904 : Int) - (t : Int) < (C : Int) := by omega
          have HS3 : Hid (t + C = nodesF (l.take (i + 1))) := by
            show _ = _
            rw [HS2.out]
            unfold top
            omega
          have hn1 : (t : Int) + (C : Int) ≤ 9223372036854775807 := by omega
          go_wp2
          go_roundg (len - (i + 1))
          case measure => omega
          case rel => exact ⟨i + 1, t + C, by omega, by go_num, by go_num, HS3.out, HB7.out⟩
    · have hkl : i = len := by omega
      subst hkl
      have HT2 : Hid (t = R) := by have := HT.out; rw [HL.out, List.take_length] at this; rw [HR.out]; exact this
      go_wp2
      go_ret
      exact ⟨ret_int (by rw [HT2.out]), I.out⟩

theorem rinodeC_any (w : World) : Calls Try.prog 23 #[] w fun e w' => e = .returned (.int .i64 83) ∧ Below w.heap.size w w' := by
  have k0 := fun W => rinodeKey_any 1 W
  have k1 : ∀ W, Calls Try.prog 19 #[.string (bs (pre3 1 1)), .string ⟨#[49, 50, 51, 52, 53, 54, 55, 56, 57, 48, 49, 50, 51]⟩] W fun e w' => e = .returned (.int .i64 83) ∧ W = w' := fun W => rnode_any _ _ (by decide) (by decide) W
  generalize bs (pre3 1 1) = K at *
  go_enter Try.func23, Try.ntmps23
  go_wp2_with (first
    | (go_at_call 36; refine (k0 _).mono ?_; rintro e w1 ⟨rfl, hb⟩)
    | (go_at_call 19; refine (k1 _).mono ?_; rintro e w2 ⟨rfl, rfl⟩))
  go_ret
  exact ⟨rfl, hb⟩
theorem rentryC_any (s : KK) (hs : s.size ≤ 140737488351232) (w : World) : Calls Try.prog 25 #[.string s] w fun e w' => e = .returned (.int .i64 ((73 + s.size + s.size : Nat) : Int)) ∧ Below w.heap.size w w' := by
  have k0 : ∀ W, Calls Try.prog 37 #[.int .i64 1, .string s] W fun e w' => e = .returned (.string (bs (pre3 1 2 ++ s.data.toList))) ∧ Below W.heap.size W w' := fun W => by
    have h := rentryKey_any 1 s.data.toList (by rw [Array.length_toList]; exact hs) W
    rw [bs_of] at h
    exact h
  have hz : (bs (pre3 1 2 ++ s.data.toList)).size = 3 + s.size := by
    rw [bs_size, List.length_append, pre3_len, Array.length_toList]; rfl
  have k1 : ∀ W, Calls Try.prog 19 #[.string (bs (pre3 1 2 ++ s.data.toList)), .string ⟨#[49, 50, 51]⟩] W fun e w' => e = .returned (.int .i64 ((73 + s.size + s.size : Nat) : Int)) ∧ W = w' := fun W => by
    have h := rnode_any (bs (pre3 1 2 ++ s.data.toList)) ⟨#[49, 50, 51]⟩ (by omega) (by decide) W
    have e : cst (bs (pre3 1 2 ++ s.data.toList)) ⟨#[49, 50, 51]⟩ = 73 + s.size + s.size := by
      unfold cst
      rw [hz, show (⟨#[49, 50, 51]⟩ : ByteArray).size = 3 from rfl]
      omega
    rw [e] at h
    exact h
  clear hz
  generalize bs (pre3 1 2 ++ s.data.toList) = K at *
  go_enter Try.func25, Try.ntmps25
  go_wp2_with (first
    | (go_at_call 37; refine (k0 _).mono ?_; rintro e w1 ⟨rfl, hb⟩)
    | (go_at_call 19; refine (k1 _).mono ?_; rintro e w2 ⟨rfl, rfl⟩))
  go_ret
  exact ⟨rfl, hb⟩
theorem fil_big {s : Nat} (h : 128 < s) : filF s = 202 + filF (s - 128) := by
  unfold filF
  have e1 : s / 128 = (s - 128) / 128 + 1 := by omega
  have e2 : s % 128 = (s - 128) % 128 := by omega
  rw [e1, e2, Nat.succ_mul]
  omega
theorem fil_small {s : Nat} (h0 : 0 < s) (h : ¬ 128 < s) : filF s = 74 + s := by
  unfold filF
  by_cases e : s = 128
  · subst e; rfl
  · have e1 : s / 128 = 0 := by omega
    have e2 : s % 128 = s := by omega
    rw [e1, e2, if_pos h0]
    omega
theorem fil_le {s : Nat} (h : s ≤ 16384) : filF s ≤ 100000 := by
  unfold filF
  have : s / 128 ≤ 128 := by omega
  split <;> omega
set_option maxHeartbeats 4000000 in
theorem rfileC_any (n : Int) (w : World) : Calls Try.prog 27 #[.int .i64 n] w fun e w' => e = .returned (.int .i64 ((filF (clampF n) : Nat) : Int)) ∧ Below w.heap.size w w' := by
  obtain ⟨R, eR⟩ : ∃ R, R = filF (clampF n) := ⟨_, rfl⟩
  have HR : Hid (R = filF (clampF n)) := eR
  have hR : R ≤ 100000 := by rw [eR]; exact fil_le (clamp_le n)
  rw [← eR]
  clear eR
  have k0 : ∀ W, Calls Try.prog 38 #[.int .i64 1, .int .i64 0] W fun e w' => e = .returned (.string (bs (pre3 1 3 ++ hi2 0))) ∧ Below W.heap.size W w' := fun W => rblockKey_any 1 0 W
  have k1 : ∀ W, Calls Try.prog 19 #[.string (bs (pre3 1 3 ++ hi2 0)), .string ⟨#[]⟩] W fun e w' => e = .returned (.int .i64 74) ∧ W = w' := fun W => rnode_any _ _ (by decide) (by decide) W
  generalize bs (pre3 1 3 ++ hi2 0) = K at *
  obtain ⟨x, hx, HX⟩ : ∃ x : Int, (if 16384 < n then (16384 : Int) else n) = x ∧ Hid (x ≤ 16384 ∧ clampF n = x.toNat) := by
    refine ⟨_, rfl, ?_⟩
    show _ ∧ _
    unfold clampF
    split
    · exact ⟨by omega, by split; omega; rfl⟩
    · exact ⟨by omega, by split; omega; rfl⟩
  by_cases hn : 16384 < n
  · rw [if_pos hn] at hx
    subst hx
    go_enter Try.func27, Try.ntmps27
    go_wp2
    go_loopg [0, 3] (16384 : Int).toNat (fun kx s0 s3 wr => ∃ (x : Int) (t : Nat), kx = x.toNat ∧ x ≤ 16384 ∧ s0 = .int .i64 x ∧ s3 = .int .i64 (t : Nat) ∧ Hid (t + filF x.toNat = R) ∧ Hid (Below w.heap.size w wr))
    case atStart => exact ⟨_, 0, rfl, HX.out.1, rfl, rfl, (by show _ = _; rw [Nat.zero_add, ← HX.out.2, HR.out]), Below.refl _ _⟩
    case round =>
      obtain ⟨x, t, hkx, hx, rfl, rfl, HT, I⟩ := hrel
      by_cases h0 : 0 < x
      · by_cases h1 : 128 < x
        · have HT2 : Hid (t + 202 + filF (x - 128).toNat = R) := by
            have e := HT.out
            rw [fil_big (show 128 < x.toNat by omega)] at e
            show _ = _
            rw [show (x - 128).toNat = x.toNat - 128 by omega]
            omega
          have ht : (t : Int) ≤ 100000 := by have := HT2.out; omega
          clear HT
          go_wp2_with (first
            | (go_at_call 38; refine (k0 _).mono ?_; rintro e w1 ⟨rfl, hb⟩; have HB1 : Hid (Below w.heap.size w w1) := Below.after I.out hb; clear hb)
            | (go_at_call 19; refine (k1 _).mono ?_; rintro e w2 ⟨rfl, rfl⟩))
          go_roundg (x - 128).toNat
          case measure => omega
          case rel => exact ⟨x - 128, t + 202, rfl, by omega, by go_num, by go_num, HT2.out, HB1.out⟩
        · obtain ⟨s, rfl⟩ : ∃ s : Nat, x = (s : Int) := ⟨x.toNat, by omega⟩
          have HT2 : Hid (t + (74 + s) + filF (0 : Int).toNat = R) := by
            have e := HT.out
            rw [Int.toNat_natCast, fil_small (by omega) (by omega)] at e
            exact e
          have ht : (t : Int) ≤ 100000 := by have := HT2.out; omega
          clear HT
          go_wp2_with (first
            | (go_at_call 38; refine (k0 _).mono ?_; rintro e w1 ⟨rfl, hb⟩; have HB1 : Hid (Below w.heap.size w w1) := Below.after I.out hb; clear hb)
            | (go_at_call 19; refine (k1 _).mono ?_; rintro e w2 ⟨rfl, rfl⟩))
          go_roundg 0
          case measure => omega
          case rel => exact ⟨0, t + (74 + s), rfl, by omega, by go_num, by go_num, HT2.out, HB1.out⟩
      · have HT2 : Hid (t = R) := by
          have e := HT.out
          rw [show x.toNat = 0 by omega] at e
          exact e
        clear HT
        go_wp2
        go_ret
        exact ⟨ret_int (by rw [HT2.out]), I.out⟩
  · rw [if_neg hn] at hx
    subst hx
    go_enter Try.func27, Try.ntmps27
    go_wp2
    go_loopg [0, 3] n.toNat (fun kx s0 s3 wr => ∃ (x : Int) (t : Nat), kx = x.toNat ∧ x ≤ 16384 ∧ s0 = .int .i64 x ∧ s3 = .int .i64 (t : Nat) ∧ Hid (t + filF x.toNat = R) ∧ Hid (Below w.heap.size w wr))
    case atStart => exact ⟨_, 0, rfl, HX.out.1, rfl, rfl, (by show _ = _; rw [Nat.zero_add, ← HX.out.2, HR.out]), Below.refl _ _⟩
    case round =>
      obtain ⟨x, t, hkx, hx, rfl, rfl, HT, I⟩ := hrel
      by_cases h0 : 0 < x
      · by_cases h1 : 128 < x
        · have HT2 : Hid (t + 202 + filF (x - 128).toNat = R) := by
            have e := HT.out
            rw [fil_big (show 128 < x.toNat by omega)] at e
            show _ = _
            rw [show (x - 128).toNat = x.toNat - 128 by omega]
            omega
          have ht : (t : Int) ≤ 100000 := by have := HT2.out; omega
          clear HT
          go_wp2_with (first
            | (go_at_call 38; refine (k0 _).mono ?_; rintro e w1 ⟨rfl, hb⟩; have HB1 : Hid (Below w.heap.size w w1) := Below.after I.out hb; clear hb)
            | (go_at_call 19; refine (k1 _).mono ?_; rintro e w2 ⟨rfl, rfl⟩))
          go_roundg (x - 128).toNat
          case measure => omega
          case rel => exact ⟨x - 128, t + 202, rfl, by omega, by go_num, by go_num, HT2.out, HB1.out⟩
        · obtain ⟨s, rfl⟩ : ∃ s : Nat, x = (s : Int) := ⟨x.toNat, by omega⟩
          have HT2 : Hid (t + (74 + s) + filF (0 : Int).toNat = R) := by
            have e := HT.out
            rw [Int.toNat_natCast, fil_small (by omega) (by omega)] at e
            exact e
          have ht : (t : Int) ≤ 100000 := by have := HT2.out; omega
          clear HT
          go_wp2_with (first
            | (go_at_call 38; refine (k0 _).mono ?_; rintro e w1 ⟨rfl, hb⟩; have HB1 : Hid (Below w.heap.size w w1) := Below.after I.out hb; clear hb)
            | (go_at_call 19; refine (k1 _).mono ?_; rintro e w2 ⟨rfl, rfl⟩))
          go_roundg 0
          case measure => omega
          case rel => exact ⟨0, t + (74 + s), rfl, by omega, by go_num, by go_num, HT2.out, HB1.out⟩
      · have HT2 : Hid (t = R) := by
          have e := HT.out
          rw [show x.toNat = 0 by omega] at e
          exact e
        clear HT
        go_wp2
        go_ret
        exact ⟨ret_int (by rw [HT2.out]), I.out⟩
end Go.Proofs.Ytplhlbajgijohaa
