/-
  The document's Pack and Size.
-/
import Derived.Test.YtfmgaahileknfaaRIRight
import Derived.Test.YtfmgaahileknfaaRPut
import Derived.Test.YtfmgaahileknfaaISzN
namespace Go.Proofs.Ytfmgaahileknfaa
open Go.RowKit M
set_option maxRecDepth 10000

set_option maxHeartbeats 2000000 in
theorem rright_any (level : Int) (a : Option Addr) (len cap : Nat) (l : List St) (w : World) (h : ZArg w a len cap l) :
    Calls Try.prog 30 #[.agg #[.int .i64 level, .slice a len cap]] w fun e w' => e = .returned (.bool (imgOk level l)) ∧ Below w.heap.size w w' := by
  have hln := h.len_eq
  have hcm := h.max
  have hlc := h.le
  unfold maxLen at hcm
  by_cases h1 : level < 0
  · rw [show imgOk level l = false by unfold imgOk inB; rw [decide_eq_false (by omega)]; rfl]
    clear h
    go_enter Try.func30, Try.ntmps30
    go_wp2
    go_ret
    exact ⟨rfl, below_new _ _⟩
  by_cases h2 : 15 < level
  · rw [show imgOk level l = false by unfold imgOk inB; rw [decide_eq_false (by omega)]; rfl]
    clear h
    go_enter Try.func30, Try.ntmps30
    go_wp2
    go_ret
    exact ⟨rfl, below_new _ _⟩
  by_cases h3 : len < 1
  · rw [show imgOk level l = false by unfold imgOk inB; rw [show decide ((1 : Int) ≤ ((l.length : Nat) : Int) ∧ ((l.length : Nat) : Int) ≤ 8) = false from decide_eq_false (by omega)]; simp]
    have i3 : (len : Int) < 1 := by omega
    clear h hln
    go_enter Try.func30, Try.ntmps30
    go_wp2
    go_ret
    exact ⟨rfl, below_new _ _⟩
  by_cases h4 : 8 < len
  · rw [show imgOk level l = false by unfold imgOk inB; rw [show decide ((1 : Int) ≤ ((l.length : Nat) : Int) ∧ ((l.length : Nat) : Int) ≤ 8) = false from decide_eq_false (by omega)]; simp]
    have i3 : ¬ (len : Int) < 1 := by omega
    have i4 : (8 : Int) < (len : Int) := by omega
    clear h hln
    go_enter Try.func30, Try.ntmps30
    go_wp2
    go_ret
    exact ⟨rfl, below_new _ _⟩
  rw [show imgOk level l = rises ⟨#[]⟩ l by unfold imgOk inB; rw [decide_eq_true (by omega), decide_eq_true (by omega)]; rfl]
  exact rright_in level a len cap l w h h1 h2 (by omega) (by omega)
set_option maxHeartbeats 1000000 in
theorem rpack_no (level : Int) (a : Option Addr) (len cap : Nat) (l : List St) (w : World) (h : ZArg w a len cap l) (hi : imgOk level l = false) :
    Calls Try.prog 26 #[.agg #[.int .i64 level, .slice a len cap]] w fun e w' => e = .returned (.tuple #[.slice none 0 0, .int .i64 22]) ∧ Below w.heap.size w w' := by
  have hr := fun W (hb : Below w.heap.size w W) => rright_any level a len cap l W (h.later hb)
  rw [hi] at hr
  clear hi h
  go_enter Try.func26, Try.ntmps26
  go_wp2_with (go_at_call 30; refine (hr _ (below_new _ _)).mono ?_; rintro e w1 ⟨rfl, hb⟩; have HB1 : Hid (Below w.heap.size w w1) := bafter (below_new _ _) hb; clear hb)
  go_ret2
  exact ⟨rfl, HB1.out⟩
/-- What is gathered, and two boxes beside it. -/
structure Pk2 (w W : World) (B : Nat) (cs : List Value) (t : TypeId) (C : Nat) (ds : List Value) (u : TypeId) (v : Value) (m : Nat) (L : List Nat) : Prop where
  pk : Pk w W B cs t v m L
  box2 : Row W C ds u
theorem Pk2.later {w W W' : World} {B : Nat} {cs : List Value} {t : TypeId} {C : Nat} {ds : List Value} {u : TypeId} {v : Value} {m : Nat} {L : List Nat} (h : Pk2 w W B cs t C ds u v m L) (hb : Below W.heap.size W W') : Pk2 w W' B cs t C ds u v m L := ⟨h.pk.later hb, h.box2.later hb⟩
theorem Pk2.app {w W W' : World} {B : Nat} {cs : List Value} {t : TypeId} {C : Nat} {ds : List Value} {u : TypeId} {v v' : Value} {m k : Nat} {L M : List Nat} (h : Pk2 w W B cs t C ds u v m L) (ht : t ≠ 5) (hu : u ≠ 5) (hM : k = M.length) (ho : W'.ownsRow w.heap.size 5 1 v' (m + k) (L.map u8v ++ M.map u8v)) (hg : W.grownBy W' v.ownBlock) : Pk2 w W' B cs t C ds u v' (m + k) (L ++ M) :=
  ⟨h.pk.app ht hM ho hg, h.box2.grown h.pk.acc.own hg hu⟩
theorem put1 {n : Nat} (h : n < 256) : putL 1 n = [n] := by
  show [n % 256] = [n]
  rw [Nat.mod_eq_of_lt h]
theorem lit3 (w W : World) (hb : w.heap.size ≤ W.heap.size) (x y : Nat) : (W.alloc (.cells #[.int .u8 84, .int .u8 (x : Int), .int .u8 (y : Int)] 5)).ownsRow w.heap.size 5 1 (.slice (some ⟨W.heap.size, 0, none⟩) 3 3) 3 ([84, x, y].map u8v) :=
  ⟨rfl, .inr ⟨W.heap.size, 3, _, rfl, hb, heap_new W _, Nat.le_refl _, by decide, rfl, rfl⟩⟩
set_option maxHeartbeats 8000000 in
theorem rpack_yes (level : Int) (a : Option Addr) (len cap : Nat) (l : List St) (w : World) (h : ZArg w a len cap l) (hi : imgOk level l = true) :
    Calls Try.prog 26 #[.agg #[.int .i64 level, .slice a len cap]] w fun e w' => ∃ v, e = .returned (.tuple #[v, .int .i64 0]) ∧ Own w w' v (imgL level l) := by
  obtain ⟨i1, ⟨i2, i3⟩, i4⟩ := imgOk_iff hi
  have hok := rises_mem i4
  have hpk := pkN_le hok
  have hr := fun W (hb : Below w.heap.size w W) => rright_any level a len cap l W (h.later hb)
  rw [hi] at hr
  obtain ⟨lv, rfl⟩ : ∃ lv : Nat, level = (lv : Int) := ⟨level.toNat, by omega⟩
  have hln := h.len_eq
  have HZ : Hid (ZRow w a l) := h.row
  have HOK : Hid (∀ s ∈ l, s.Ok) := hok
  have hcm := h.max
  have hlc := h.le
  unfold maxLen at hcm
  have hl8 : len ≤ 8 := by omega
  have HL : Hid (len = l.length) := hln
  have HE : Hid (imgL (lv : Int) l = [84, lv, len] ++ l.flatMap stL) := by
    show _ = _
    unfold imgL
    rw [show ((lv : Int)).toNat = lv from rfl, put1 (by omega), ← hln, put1 (by omega)]
    rfl
  obtain ⟨R, eR⟩ : ∃ R, R = imgL (lv : Int) l := ⟨_, rfl⟩
  rw [← eR] at HE ⊢
  have HPN : Hid (∀ k, ((l.take k).flatMap stL).length ≤ 576) := fun k => by
    rw [flat_stL_len]; have := pkN_take_le l k; omega
  have n0 : (0 : Int) ≤ (lv : Int) := by omega
  have n1 : (lv : Int) < 256 := by omega
  have n2 : (0 : Int) ≤ (len : Int) := by omega
  have n3 : (len : Int) < 256 := by omega
  clear h hln hok hpk eR i1 i2 i3 i4 hi
  go_enter Try.func26, Try.ntmps26
  go_wp2_with (go_at_call 30; refine (hr _ (below_new _ _)).mono ?_; rintro e w1 ⟨rfl, hb⟩; have HX1 : Hid (Row w1 w.heap.size [.int .i64 (lv : Int), .slice a len cap] 52) := (Row.new w [.int .i64 (lv : Int), .slice a len cap] 52).later hb; have HB1 : Hid (Below w.heap.size w w1) := bafter (below_new _ _) hb; have x0 : w1.cell? ⟨w.heap.size, 0, none⟩ = _ := HX1.out.cell (i := 0) rfl; have x1 : w1.cell? ⟨w.heap.size, 1, none⟩ = _ := HX1.out.cell (i := 1) rfl; clear hb)
  have G1 : Hid (Pk w (w1.alloc (.cells #[.int .u8 84, .int .u8 (lv : Int), .int .u8 (len : Int)] 5)) w.heap.size [.int .i64 (lv : Int), .slice a len cap] 52 (.slice (some ⟨w1.heap.size, 0, none⟩) 3 3) 3 ([84, lv, len] ++ ([] : List Nat))) :=
    ⟨⟨by rw [List.append_nil]; exact lit3 w w1 HB1.out.size lv len, rfl, bafter HB1.out (below_new _ _)⟩, HX1.out.alloc _⟩
  clear hr HX1 HB1 n0 n1 n2 n3 x0 x1
  go_loopg [4, 5] len (fun kx s4 s5 wr => ∃ (k m : Nat) (v : Value), k + kx = len ∧ s5 = .int .i64 (k : Nat) ∧ v = s4 ∧ Hid (Pk w wr w.heap.size [.int .i64 (lv : Int), .slice a len cap] 52 v m ([84, lv, len] ++ (l.take k).flatMap stL)))
  case atStart => exact ⟨0, 3, _, by omega, rfl, rfl, by show Pk _ _ _ _ _ _ _ _; simpa using G1.out⟩
  case round =>
    obtain ⟨k, m, v, hk, rfl, rfl, I⟩ := hrel
    obtain ⟨x0, x1⟩ := I.out.seen2
    by_cases hlt : k < len
    · obtain ⟨b, off, y, rfl, hy, hd, q0, q1, q2, q3⟩ := zrow_at (HZ.out.later I.out.acc.bel) (k := k) (by have := HL.out; omega)
      have hi1 : (k : Int) < (len : Int) := by omega
      have hbw : b < wr.heap.size := World.block_lt_of_cell? wr _ q0
      have HS : Hid ([84, lv, len] ++ (l.take (k + 1)).flatMap stL = [84, lv, len] ++ (l.take k).flatMap stL ++ stL y) := by show _ = _; rw [flat_take_succ hy, List.append_assoc]
      have ok := HOK.out y (List.mem_of_getElem? hy)
      obtain ⟨K, leb, pos, size⟩ := y
      obtain ⟨o1, o2, o3, o4, o5⟩ := ok
      dsimp only at o1 o2 o3 o4 o5 q0 q1 q2 q3
      obtain ⟨n1, rfl⟩ : ∃ n : Nat, leb = (n : Int) := ⟨leb.toNat, by omega⟩
      obtain ⟨n2, rfl⟩ : ∃ n : Nat, pos = (n : Int) := ⟨pos.toNat, by omega⟩
      obtain ⟨n3, rfl⟩ : ∃ n : Nat, size = (n : Int) := ⟨size.toNat, by omega⟩
      have HSY : Hid (stL ⟨K, (n1 : Int), (n2 : Int), (n3 : Int)⟩ = [K.size] ++ nats (kb K) ++ putL 2 n1 ++ putL 3 n2 ++ putL 2 n3) := by rw [← put1 (show K.size < 256 by omega)]; exact rfl
      obtain ⟨SY, eSY⟩ : ∃ SY, SY = stL ⟨K, (n1 : Int), (n2 : Int), (n3 : Int)⟩ := ⟨_, rfl⟩
      rw [← eSY] at HS HSY
      have hm : m ≤ 579 := by have := I.out.acc.len; rw [List.length_append, show ([84, lv, len] : List Nat).length = 3 from rfl] at this; have := HPN.out k; omega
      obtain ⟨L, hL⟩ : ∃ L, L = [84, lv, len] ++ (l.take k).flatMap stL := ⟨_, rfl⟩
      rw [← hL] at HS I
      obtain ⟨kn, ekn⟩ : ∃ kn, kn = K.size := ⟨_, rfl⟩
      have z1 : K.size = kn := ekn.symm
      have hcv : ∀ W : World, (convert 9 53 (.string K)).run Try.prog W = .ok (.slice (some ⟨W.heap.size, 0, none⟩) kn (grownCap W kn 0 5)) (Lib.bytesWorld W 5 K) := fun W => by
        have := to_bytes (kb K) W
        rw [show bs (kb K) = K from bs_of K, kb_len, ← ekn] at this
        exact this
      have HRow : Hid (∀ W : World, BRow (Lib.bytesWorld W 5 K) (some ⟨W.heap.size, 0, none⟩) (nats (kb K)) ∧ Below W.heap.size W (Lib.bytesWorld W 5 K)) := fun W => by
        have h1 := bytes_row (kb K) W
        have h2 := bytes_below (kb K) W
        rw [show bs (kb K) = K from bs_of K] at h1 h2
        exact ⟨h1, h2⟩
      rw [← ekn] at HSY o1 o2
      obtain ⟨KL, eKL⟩ : ∃ KL, KL = nats (kb K) := ⟨_, rfl⟩
      have HKL : Hid (kn = KL.length) := by rw [eKL, ekn]; show _ = _; rw [nats_length, kb_len]
      rw [← eKL] at HSY HRow
      have G0 : Hid (Pk2 w (wr.alloc (.cells #[.string K, .int .i64 (n1 : Int), .int .i64 (n2 : Int), .int .i64 (n3 : Int)] 44)) wr.heap.size [.string K, .int .i64 (n1 : Int), .int .i64 (n2 : Int), .int .i64 (n3 : Int)] 44 w.heap.size [.int .i64 (lv : Int), .slice (some ⟨b, off, none⟩) len cap] 52 v m L) := ⟨⟨I.out.acc.later (below_new _ _), Row.new wr _ _⟩, I.out.box.alloc _⟩
      have p2 := fun W => ref_put n1 (by omega) 2 2 rfl W
      have p3 := fun W => ref_put n2 (by omega) 3 3 rfl W
      have p4 := fun W => ref_put n3 (by omega) 2 2 rfl W
      have u0 : (0 : Int) ≤ (kn : Int) ∧ (kn : Int) < 256 := by omega
      have u1 : (0 : Int) ≤ (n1 : Int) ∧ (n1 : Int) < 18446744073709551616 := by omega
      have u2 : (0 : Int) ≤ (n2 : Int) ∧ (n2 : Int) < 18446744073709551616 := by omega
      have u3 : (0 : Int) ≤ (n3 : Int) ∧ (n3 : Int) < 18446744073709551616 := by omega
      obtain ⟨u00, u01⟩ := u0
      obtain ⟨u10, u11⟩ := u1
      obtain ⟨u20, u21⟩ := u2
      obtain ⟨u30, u31⟩ := u3
      have HQ : Hid (m ≤ 579 ∧ kn ≤ 64) := ⟨hm, o2⟩
      clear hd hy eSY hL ekn eKL I o1 o2 o3 o4 o5 hm
      have M2 : Hid True := trivial
      have M3 : Hid True := trivial
      have A1 : Hid True := trivial
      have A2 : Hid True := trivial
      have A3 : Hid True := trivial
      have A4 : Hid True := trivial
      go_wp2_with (first
        | (at_builtin; clear A1; have g1 := G0.out.later (below_new _ (.cells #[.int .u8 (kn : Int)] 5)); refine wpList_append_bytes rfl (.tmp 30) (.tmp 35) rfl w.heap.size v m _ rfl g1.pk.acc.own (some ⟨wr.heap.size + 1, 0, none⟩) 1 1 [kn] rfl rfl (by have := brow_new1 (wr.alloc (.cells #[.string K, .int .i64 (n1 : Int), .int .i64 (n2 : Int), .int .i64 (n3 : Int)] 44)) kn; rwa [size_new1] at this) (fun h => by cases h) (by have := HQ.out; unfold maxLen; omega) (by have := HQ.out; omega) g1.pk.acc.bel.size ?_; intro v2 w2 ho hg; have G2 : Hid (Pk2 w w2 wr.heap.size [.string K, .int .i64 (n1 : Int), .int .i64 (n2 : Int), .int .i64 (n3 : Int)] 44 w.heap.size [.int .i64 (lv : Int), .slice (some ⟨b, off, none⟩) len cap] 52 v2 (m + 1) (L ++ [kn])) := g1.app (by decide) (by decide) rfl ho hg; obtain ⟨y0, y1, y2, y3⟩ := G2.out.pk.seen4; clear ho hg g1)
        | (at_builtin; clear A2; have g3 := G2.out.later (HRow.out w2).2; refine wpList_append_bytes rfl (.tmp 37) (.tmp 40) rfl w.heap.size v2 (m + 1) _ rfl g3.pk.acc.own (some ⟨w2.heap.size, 0, none⟩) kn _ KL rfl HKL.out (HRow.out w2).1 (fun h => by cases h) (by have := HQ.out; unfold maxLen; omega) (by have := HQ.out; omega) g3.pk.acc.bel.size ?_; intro v3 w3 ho hg; have G3 : Hid (Pk2 w w3 wr.heap.size [.string K, .int .i64 (n1 : Int), .int .i64 (n2 : Int), .int .i64 (n3 : Int)] 44 w.heap.size [.int .i64 (lv : Int), .slice (some ⟨b, off, none⟩) len cap] 52 v3 (m + 1 + kn) (L ++ [kn] ++ KL)) := g3.app (by decide) (by decide) HKL.out ho hg; clear ho hg y0 y1 y2 y3 g3; obtain ⟨y0, y1, y2, y3⟩ := G3.out.pk.seen4)
        | (go_at_call 31; clear M2; refine (p2 _).mono ?_; rintro e w4 ⟨vvw4, rfl, ho⟩; obtain ⟨vaw4, vcw4, rfl, hr, hn, _, _⟩ := own_shape (n := 2) (putL_length 2 n1).symm ho.1; have G4 : Hid (Pk2 w w4 wr.heap.size [.string K, .int .i64 (n1 : Int), .int .i64 (n2 : Int), .int .i64 (n3 : Int)] 44 w.heap.size [.int .i64 (lv : Int), .slice (some ⟨b, off, none⟩) len cap] 52 v3 (m + 1 + kn) (L ++ [kn] ++ KL)) := G3.out.later ho.2; have HOw4 : Hid (BRow w4 vaw4 (putL 2 n1) ∧ (vaw4 = none → 2 = 0 ∧ vcw4 = 0)) := ⟨hr, hn⟩; clear ho hr hn y0 y1 y2 y3)
        | (at_builtin; clear A3; refine wpList_append_bytes rfl (.tmp 42) (.tmp 47) rfl w.heap.size v3 (m + 1 + kn) _ rfl G4.out.pk.acc.own vaw4 2 vcw4 (putL 2 n1) rfl (putL_length _ _).symm HOw4.out.1 HOw4.out.2 (by have := HQ.out; unfold maxLen; omega) (by have := HQ.out; omega) G4.out.pk.acc.bel.size ?_; intro v5 w5 ho hg; have G5 : Hid (Pk2 w w5 wr.heap.size [.string K, .int .i64 (n1 : Int), .int .i64 (n2 : Int), .int .i64 (n3 : Int)] 44 w.heap.size [.int .i64 (lv : Int), .slice (some ⟨b, off, none⟩) len cap] 52 v5 (m + 1 + kn + 2) (L ++ [kn] ++ KL ++ putL 2 n1)) := G4.out.app (by decide) (by decide) (putL_length _ _).symm ho hg; obtain ⟨y0, y1, y2, y3⟩ := G5.out.pk.seen4; clear ho hg)
        | (go_at_call 31; clear M3; refine (p3 _).mono ?_; rintro e w6 ⟨vvw6, rfl, ho⟩; obtain ⟨vaw6, vcw6, rfl, hr, hn, _, _⟩ := own_shape (n := 3) (putL_length 3 n2).symm ho.1; have G6 : Hid (Pk2 w w6 wr.heap.size [.string K, .int .i64 (n1 : Int), .int .i64 (n2 : Int), .int .i64 (n3 : Int)] 44 w.heap.size [.int .i64 (lv : Int), .slice (some ⟨b, off, none⟩) len cap] 52 v5 (m + 1 + kn + 2) (L ++ [kn] ++ KL ++ putL 2 n1)) := G5.out.later ho.2; have HOw6 : Hid (BRow w6 vaw6 (putL 3 n2) ∧ (vaw6 = none → 3 = 0 ∧ vcw6 = 0)) := ⟨hr, hn⟩; clear ho hr hn y0 y1 y2 y3)
        | (at_builtin; clear A4; refine wpList_append_bytes rfl (.tmp 49) (.tmp 54) rfl w.heap.size v5 (m + 1 + kn + 2) _ rfl G6.out.pk.acc.own vaw6 3 vcw6 (putL 3 n2) rfl (putL_length _ _).symm HOw6.out.1 HOw6.out.2 (by have := HQ.out; unfold maxLen; omega) (by have := HQ.out; omega) G6.out.pk.acc.bel.size ?_; intro v7 w7 ho hg; have G7 : Hid (Pk2 w w7 wr.heap.size [.string K, .int .i64 (n1 : Int), .int .i64 (n2 : Int), .int .i64 (n3 : Int)] 44 w.heap.size [.int .i64 (lv : Int), .slice (some ⟨b, off, none⟩) len cap] 52 v7 (m + 1 + kn + 2 + 3) (L ++ [kn] ++ KL ++ putL 2 n1 ++ putL 3 n2)) := G6.out.app (by decide) (by decide) (putL_length _ _).symm ho hg; obtain ⟨y0, y1, y2, y3⟩ := G7.out.pk.seen4; clear ho hg)
        | (go_at_call 31; refine (p4 _).mono ?_; rintro e w8 ⟨vvw8, rfl, ho⟩; obtain ⟨vaw8, vcw8, rfl, hr, hn, _, _⟩ := own_shape (n := 2) (putL_length 2 n3).symm ho.1; have G8 : Hid (Pk2 w w8 wr.heap.size [.string K, .int .i64 (n1 : Int), .int .i64 (n2 : Int), .int .i64 (n3 : Int)] 44 w.heap.size [.int .i64 (lv : Int), .slice (some ⟨b, off, none⟩) len cap] 52 v7 (m + 1 + kn + 2 + 3) (L ++ [kn] ++ KL ++ putL 2 n1 ++ putL 3 n2)) := G7.out.later ho.2; have HOw8 : Hid (BRow w8 vaw8 (putL 2 n3) ∧ (vaw8 = none → 2 = 0 ∧ vcw8 = 0)) := ⟨hr, hn⟩; clear ho hr hn y0 y1 y2 y3)
        | (at_builtin; refine wpList_append_bytes rfl (.tmp 56) (.tmp 61) rfl w.heap.size v7 (m + 1 + kn + 2 + 3) _ rfl G8.out.pk.acc.own vaw8 2 vcw8 (putL 2 n3) rfl (putL_length _ _).symm HOw8.out.1 HOw8.out.2 (by have := HQ.out; unfold maxLen; omega) (by have := HQ.out; omega) G8.out.pk.acc.bel.size ?_; intro v9 w9 ho hg; have G9 : Hid (Pk2 w w9 wr.heap.size [.string K, .int .i64 (n1 : Int), .int .i64 (n2 : Int), .int .i64 (n3 : Int)] 44 w.heap.size [.int .i64 (lv : Int), .slice (some ⟨b, off, none⟩) len cap] 52 v9 (m + 1 + kn + 2 + 3 + 2) (L ++ [kn] ++ KL ++ putL 2 n1 ++ putL 3 n2 ++ putL 2 n3)) := G8.out.app (by decide) (by decide) (putL_length _ _).symm ho hg; clear ho hg))
      go_roundg (len - (k + 1))
      case measure => omega
      case rel => exact ⟨k + 1, _, _, by omega, by go_num, rfl, by show Pk _ _ _ _ _ _ _ _; rw [HS.out, HSY.out]; have := (⟨G9.out.pk.acc, G9.out.box2⟩ : Pk _ _ _ _ _ _ _ _); simp only [List.append_assoc] at this ⊢; exact this⟩
    · have hkl : k = len := by omega
      subst hkl
      have HR2 : Hid (l.take k = l) := by show _ = _; rw [HL.out, List.take_length]
      go_wp2
      go_ret2
      refine ⟨_, rfl, ?_⟩
      have := I.out.acc
      rw [HR2.out, ← HE.out] at this
      exact this.end

set_option maxHeartbeats 1000000 in
theorem rsize_any (level : Int) (a : Option Addr) (len cap : Nat) (l : List St) (w : World) (h : ZArg w a len cap l) :
    Calls Try.prog 22 #[.agg #[.int .i64 level, .slice a len cap]] w fun e w' => e = .returned (.int .i64 (sizeN level l : Nat)) ∧ Below w.heap.size w w' := by
  unfold sizeN
  cases hi : imgOk level l with
  | false =>
    have hr := rpack_no level a len cap l (w.alloc (.cells #[.int .i64 level, .slice a len cap] 52)) (h.later (below_new _ _)) hi
    clear h hi
    go_enter Try.func22, Try.ntmps22
    go_wp2_with (go_at_call 26; refine hr.mono ?_; rintro e w1 ⟨rfl, hb⟩; have HB1 : Hid (Below w.heap.size w w1) := bafter (below_new _ _) hb; clear hb)
    go_ret
    exact ⟨rfl, HB1.out⟩
  | true =>
    obtain ⟨_, ⟨_, i3⟩, i4⟩ := imgOk_iff hi
    have hpk := pkN_le (rises_mem i4)
    obtain ⟨NA, hNA⟩ : ∃ NA, NA = (imgL level l).length := ⟨_, rfl⟩
    have hNA2 : NA = 3 + pkN l := by rw [hNA, imgL_len]
    have hr : Calls Try.prog 26 #[.agg #[.int .i64 level, .slice a len cap]] (w.alloc (.cells #[.int .i64 level, .slice a len cap] 52)) fun e w' => ∃ aa ca, e = .returned (.tuple #[.slice aa NA ca, .int .i64 0]) ∧ Below w.heap.size w w' := by
      refine (rpack_yes level a len cap l _ (h.later (below_new _ _)) hi).mono ?_
      rintro e w' ⟨v, rfl, ho⟩
      obtain ⟨aa, ca, rfl, _⟩ := ho.row
      exact ⟨aa, ca, by rw [hNA], bafter (below_new _ _) ho.2⟩
    rw [if_pos rfl, show ((9 + pkN l : Nat) : Int) = 6 + (NA : Int) by omega]
    have hN : NA ≤ 600 := by omega
    clear h hi hNA hNA2 hpk i3 i4
    go_enter Try.func22, Try.ntmps22
    go_wp2_with (go_at_call 26; refine hr.mono ?_; rintro e w1 ⟨aa, ca, rfl, hb⟩; have HB1 : Hid (Below w.heap.size w w1) := hb; clear hb)
    go_ret
    exact ⟨rfl, HB1.out⟩
end Go.Proofs.Ytfmgaahileknfaa
