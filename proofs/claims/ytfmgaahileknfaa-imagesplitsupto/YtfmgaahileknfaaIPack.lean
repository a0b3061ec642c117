/-
  What Pack and Size of package image answer.
-/
import Derived.Test.YtfmgaahileknfaaIApp
namespace Go.Proofs.Ytfmgaahileknfaa
open Go.RowKit M
set_option maxRecDepth 10000

/-- A key's bytes. -/
def kb (k : K) : List UInt8 := k.data.toList
theorem kb_len (k : K) : (kb k).length = k.size := Array.length_toList
/-- A slot as bytes; an image as bytes. -/
def stL (s : St) : List Nat := putL 1 s.key.size ++ nats (kb s.key) ++ putL 2 s.leb.toNat ++ putL 3 s.pos.toNat ++ putL 2 s.size.toNat
def imgL (level : Int) (l : List St) : List Nat := [84] ++ putL 1 level.toNat ++ putL 1 l.length ++ l.flatMap stL
theorem stL_len (s : St) : (stL s).length = 8 + s.key.size := by
  simp [stL, putL_length, nats_length, kb_len]; omega
theorem flat_stL_len : ∀ l : List St, (l.flatMap stL).length = pkN l
  | [] => rfl
  | s :: l => by rw [List.flatMap_cons, List.length_append, stL_len, flat_stL_len l]; rfl
theorem imgL_len (level : Int) (l : List St) : (imgL level l).length = 3 + pkN l := by
  unfold imgL
  rw [List.length_append, flat_stL_len]
  simp [putL_length]
/-- What is true of each slot of an image. -/
structure St.Ok (s : St) : Prop where
  key1 : 1 ≤ s.key.size
  key2 : s.key.size ≤ 64
  leb : 0 ≤ s.leb ∧ s.leb ≤ 255
  pos : 0 ≤ s.pos ∧ s.pos ≤ 16777215
  size : 0 ≤ s.size ∧ s.size ≤ 65535
theorem klt_pos {x k : K} (h : klt x k = true) : 1 ≤ k.size := by
  rcases Nat.eq_zero_or_pos k.size with e | e
  · exfalso
    have : k.toList = [] := by
      rw [ByteArray.toList_eq]
      exact List.eq_nil_of_length_eq_zero (by rw [Array.length_toList]; exact e)
    unfold klt at h
    rw [this] at h
    cases x.toList <;> simp [Op.bytesLess] at h
  · exact e
theorem rises_mem : ∀ {l : List St} {x : K}, rises x l = true → ∀ s ∈ l, s.Ok
  | [], _, _, s, hs => by simp at hs
  | y :: l, x, h, s, hs => by
    simp only [rises, fol, St.at, inB, Bool.and_eq_true, decide_eq_true_eq] at h
    obtain ⟨⟨⟨h1, h2⟩, ⟨h3, h4⟩, h5⟩, h6⟩ := h
    rcases List.mem_cons.1 hs with rfl | hs
    · exact ⟨klt_pos h1, h2, h3, h4, h5⟩
    · exact rises_mem h6 s hs
theorem imgOk_iff {level : Int} {l : List St} (h : imgOk level l = true) : (0 ≤ level ∧ level ≤ 15) ∧ (1 ≤ l.length ∧ l.length ≤ 8) ∧ rises ⟨#[]⟩ l = true := by
  simp only [imgOk, inB, Bool.and_eq_true, decide_eq_true_eq] at h
  obtain ⟨⟨h1, h2⟩, h3⟩ := h
  exact ⟨h1, ⟨by omega, by omega⟩, h3⟩
theorem pkN_le : ∀ {l : List St}, (∀ s ∈ l, s.Ok) → pkN l ≤ 72 * l.length
  | [], _ => by simp [pkN]
  | s :: l, h => by
    have := pkN_le (l := l) (fun x hx => h x (List.mem_cons_of_mem _ hx))
    have := (h s (List.mem_cons_self ..)).key2
    simp only [pkN, bare1, List.length_cons]; omega

set_option maxHeartbeats 1000000 in
theorem pack_no (level : Int) (a : Option Addr) (len cap : Nat) (l : List St) (w : World) (h : ZArg w a len cap l) (hi : imgOk level l = false) :
    Calls Try.prog 23 #[.agg #[.int .i64 level, .slice a len cap]] w fun e w' => e = .returned (.tuple #[.slice none 0 0, .int .i64 22]) ∧ Below w.heap.size w w' := by
  have hr := fun W (hb : Below w.heap.size w W) => right_any level a len cap l W (h.later hb)
  rw [hi] at hr
  clear hi h
  go_enter Try.func23, Try.ntmps23
  go_wp2_with (go_at_call 27; refine (hr _ (below_new _ _)).mono ?_; rintro e w1 ⟨rfl, hb⟩; have HB1 : Hid (Below w.heap.size w w1) := bafter (below_new _ _) hb; clear hb)
  go_ret2
  exact ⟨rfl, HB1.out⟩

theorem size_new1 (w : World) (o : Obj) : (w.alloc o).heap.size = w.heap.size + 1 := by simp
theorem flat_take_succ {l : List St} {k : Nat} {y : St} (h : l[k]? = some y) : (l.take (k + 1)).flatMap stL = (l.take k).flatMap stL ++ stL y := by
  obtain ⟨hk, he⟩ := List.getElem?_eq_some_iff.1 h
  rw [List.take_succ_eq_append_getElem hk, List.flatMap_append, he]
  simp
set_option maxHeartbeats 8000000 in
theorem pack_yes (level : Int) (a : Option Addr) (len cap : Nat) (l : List St) (w : World) (h : ZArg w a len cap l) (hi : imgOk level l = true) :
    Calls Try.prog 23 #[.agg #[.int .i64 level, .slice a len cap]] w fun e w' => ∃ v, e = .returned (.tuple #[v, .int .i64 0]) ∧ Own w w' v (imgL level l) := by
  obtain ⟨i1, ⟨i2, i3⟩, i4⟩ := imgOk_iff hi
  have hok := rises_mem i4
  have hpk := pkN_le hok
  have hr := fun W (hb : Below w.heap.size w W) => right_any level a len cap l W (h.later hb)
  have hpp := fun W (hb : Below w.heap.size w W) => packed_any a len cap l W (h.later hb) (by omega)
  rw [hi] at hr
  obtain ⟨lv, rfl⟩ : ∃ lv : Nat, level = (lv : Int) := ⟨level.toNat, by omega⟩
  have hln := h.len_eq
  have HZ : Hid (ZRow w a l) := h.row
  have HOK : Hid (∀ s ∈ l, s.Ok) := hok
  have hcm := h.max
  have hlc := h.le
  unfold maxLen at hcm
  have hl8 : len ≤ 8 := by omega
  have HL : Hid (len = l.length) := hln
  have HE : Hid (imgL (lv : Int) l = [] ++ [84] ++ putL 1 lv ++ putL 1 len ++ l.flatMap stL) := by rw [hln]; exact rfl
  obtain ⟨R, eR⟩ : ∃ R, R = imgL (lv : Int) l := ⟨_, rfl⟩
  rw [← eR] at HE ⊢
  obtain ⟨cn, ecn⟩ : ∃ c, c = 3 + pkN l := ⟨_, rfl⟩
  rw [← ecn] at hpp
  have hcn : cn ≤ 600 := by omega
  have HPN : Hid (∀ k, ((l.take k).flatMap stL).length ≤ 576) := fun k => by
    rw [flat_stL_len]; have := pkN_take_le l k; omega
  have p1 := fun W => put_any lv (by omega) 1 1 rfl W
  have p2 := fun W => put_any len (by omega) 1 1 rfl W
  obtain ⟨i0, hi, hz0, hz1, hz2⟩ := info_parts info8
  have HM : Hid (i0.bytes * cn ≤ 281474976710656 ∧ cn ≤ maxLen) := ⟨by rw [hz2]; omega, by unfold maxLen; omega⟩
  have n0 : (0 : Int) ≤ (lv : Int) := by omega
  have n1 : (lv : Int) < 18446744073709551616 := by omega
  have n2 : (0 : Int) ≤ (len : Int) := by omega
  have n3 : (len : Int) < 18446744073709551616 := by omega
  clear h hln hok hpk eR ecn i1 i2 i3 i4
  have M1 : Hid True := trivial
  have A1 : Hid True := trivial
  have A2 : Hid True := trivial
  go_enter Try.func23, Try.ntmps23
  go_wp2_with (first
    | (go_at_call 27; refine (hr _ (below_new _ _)).mono ?_; rintro e w1 ⟨rfl, hb⟩; have HX1 : Hid (Row w1 w.heap.size [.int .i64 (lv : Int), .slice a len cap] 58) := (Row.new w [.int .i64 (lv : Int), .slice a len cap] 58).later hb; have HB1 : Hid (Below w.heap.size w w1) := bafter (below_new _ _) hb; have x0 : w1.cell? ⟨w.heap.size, 0, none⟩ = _ := HX1.out.cell (i := 0) rfl; have x1 : w1.cell? ⟨w.heap.size, 1, none⟩ = _ := HX1.out.cell (i := 1) rfl; clear hb)
    | (go_at_call 28; refine (hpp _ HB1.out).mono ?_; rintro e w2 ⟨rfl, hb⟩; have HB2 : Hid (Below w.heap.size w w2) := bafter HB1.out hb; have HX2 : Hid (Row w2 w.heap.size [.int .i64 (lv : Int), .slice a len cap] 58) := HX1.out.later hb; clear hb x0 x1)
    | (at_make; refine wpList_make_own _ rfl _ _ 53 rfl w.heap.size 5 i0 (.int .u8 0) 1 Try.underlying53 hi hz0 hz1 _ _ _ cn rfl rfl rfl HM.out.1 HM.out.2 HB2.out.size ?_; intro w3 hown hgrow; have G3 : Hid (Pk w w3 w.heap.size [.int .i64 (lv : Int), .slice a len cap] 58 _ 0 []) := make_pk HB2.out HX2.out hown hgrow; clear hown hgrow)
    | (at_builtin; clear A1; have g4 := G3.out.later (below_new w3 (.cells #[.int .u8 84] 5)); refine wpList_append_bytes rfl (.tmp 14) (.tmp 15) rfl w.heap.size _ 0 _ rfl g4.acc.own (some ⟨w3.heap.size, 0, none⟩) 1 1 [84] rfl rfl (brow_new1 w3 84) (fun h => by cases h) (by decide) (by decide) g4.acc.bel.size ?_; intro v4 w4 ho hg; have G4 : Hid (Pk w w4 w.heap.size [.int .i64 (lv : Int), .slice a len cap] 58 v4 (0 + 1) ([] ++ [84])) := g4.app (by decide) rfl ho hg; obtain ⟨x0, x1⟩ := G4.out.seen2; clear ho hg g4)
    | (go_at_call 29; clear M1; refine (p1 _).mono ?_; rintro e w5 ⟨rfl, ho⟩; have G5 : Hid (Pk w w5 w.heap.size [.int .i64 (lv : Int), .slice a len cap] 58 v4 (0 + 1) ([] ++ [84])) := G4.out.later ho.2; have HO5 : Hid (BRow w5 _ (putL 1 lv)) := own_brow (putL_length _ _) ho; clear ho x0 x1)
    | (at_builtin; clear A2; refine wpList_append_bytes rfl (.tmp 17) (.tmp 21) rfl w.heap.size v4 (0 + 1) _ rfl G5.out.acc.own _ 1 1 (putL 1 lv) rfl (putL_length _ _).symm HO5.out (fun h => by cases h) (by decide) (by decide) G5.out.acc.bel.size ?_; intro v6 w6 ho hg; have G6 : Hid (Pk w w6 w.heap.size [.int .i64 (lv : Int), .slice a len cap] 58 v6 (0 + 1 + 1) ([] ++ [84] ++ putL 1 lv)) := G5.out.app (by decide) (putL_length _ _).symm ho hg; obtain ⟨x0, x1⟩ := G6.out.seen2; clear ho hg)
    | (go_at_call 29; refine (p2 _).mono ?_; rintro e w7 ⟨rfl, ho⟩; have G7 : Hid (Pk w w7 w.heap.size [.int .i64 (lv : Int), .slice a len cap] 58 v6 (0 + 1 + 1) ([] ++ [84] ++ putL 1 lv)) := G6.out.later ho.2; have HO7 : Hid (BRow w7 _ (putL 1 len)) := own_brow (putL_length _ _) ho; clear ho x0 x1)
    | (at_builtin; refine wpList_append_bytes rfl (.tmp 23) (.tmp 28) rfl w.heap.size v6 (0 + 1 + 1) _ rfl G7.out.acc.own _ 1 1 (putL 1 len) rfl (putL_length _ _).symm HO7.out (fun h => by cases h) (by decide) (by decide) G7.out.acc.bel.size ?_; intro v8 w8 ho hg; have G8 : Hid (Pk w w8 w.heap.size [.int .i64 (lv : Int), .slice a len cap] 58 v8 (0 + 1 + 1 + 1) ([] ++ [84] ++ putL 1 lv ++ putL 1 len)) := G7.out.app (by decide) (putL_length _ _).symm ho hg; obtain ⟨x0, x1⟩ := G8.out.seen2; clear ho hg))
  obtain ⟨H, hH⟩ : ∃ H, H = [] ++ [84] ++ putL 1 lv ++ putL 1 len := ⟨_, rfl⟩
  have HH : Hid (H.length = 3) := by show _ = _; rw [hH]; simp [putL_length]
  rw [← hH] at HE
  have G8' : Hid (Acc w w8 v8 3 H) := by rw [hH]; exact G8.out.acc
  clear hH hr hpp p1 p2 HM hi hz0 hz1 hz2 HX1 HX2 HB1 HB2 G3 G4 G5 G6 G7 G8 HO5 HO7 n0 n1 n2 n3
  go_loopg [4, 33] len (fun kx s4 s33 wr => ∃ (k m : Nat) (v : Value), k + kx = len ∧ s33 = .int .i64 (k : Nat) ∧ v = s4 ∧ Hid (Acc w wr v m (H ++ (l.take k).flatMap stL)))
  case atStart => exact ⟨0, 3, _, by omega, rfl, rfl, by show Acc _ _ _ _ _; simpa using G8'.out⟩
  case round =>
    obtain ⟨k, m, v, hk, rfl, rfl, I⟩ := hrel
    by_cases hlt : k < len
    · obtain ⟨b, off, y, rfl, hy, hd, q0, q1, q2, q3⟩ := zrow_at (HZ.out.later I.out.bel) (k := k) (by have := HL.out; omega)
      have hi1 : (k : Int) < (len : Int) := by omega
      have hbw : b < wr.heap.size := World.block_lt_of_cell? wr _ q0
      have HS : Hid (H ++ (l.take (k + 1)).flatMap stL = H ++ (l.take k).flatMap stL ++ stL y) := by show _ = _; rw [flat_take_succ hy, List.append_assoc]
      have ok := HOK.out y (List.mem_of_getElem? hy)
      obtain ⟨K, leb, pos, size⟩ := y
      obtain ⟨o1, o2, o3, o4, o5⟩ := ok
      dsimp only at o1 o2 o3 o4 o5 q0 q1 q2 q3
      obtain ⟨n1, rfl⟩ : ∃ n : Nat, leb = (n : Int) := ⟨leb.toNat, by omega⟩
      obtain ⟨n2, rfl⟩ : ∃ n : Nat, pos = (n : Int) := ⟨pos.toNat, by omega⟩
      obtain ⟨n3, rfl⟩ : ∃ n : Nat, size = (n : Int) := ⟨size.toNat, by omega⟩
      have HSY : Hid (stL ⟨K, (n1 : Int), (n2 : Int), (n3 : Int)⟩ = putL 1 K.size ++ nats (kb K) ++ putL 2 n1 ++ putL 3 n2 ++ putL 2 n3) := rfl
      obtain ⟨SY, eSY⟩ : ∃ SY, SY = stL ⟨K, (n1 : Int), (n2 : Int), (n3 : Int)⟩ := ⟨_, rfl⟩
      rw [← eSY] at HS HSY
      have hm : m ≤ 579 := by have := I.out.len; rw [List.length_append, HH.out] at this; have := HPN.out k; omega
      obtain ⟨L, hL⟩ : ∃ L, L = H ++ (l.take k).flatMap stL := ⟨_, rfl⟩
      rw [← hL] at HS I
      obtain ⟨kn, ekn⟩ : ∃ kn, kn = K.size := ⟨_, rfl⟩
      have z1 : K.size = kn := ekn.symm
      rw [← ekn] at HSY o1 o2
      obtain ⟨KL, eKL⟩ : ∃ KL, KL = nats (kb K) := ⟨_, rfl⟩
      have HKL : Hid (kn = KL.length) := by rw [eKL, ekn]; show _ = _; rw [nats_length, kb_len]
      have HK : Hid (Lib.strCells K = KL.map u8v) := by
        have := strCells_nats (kb K)
        rw [eKL, ← this, show bs (kb K) = K from bs_of K]; exact rfl
      rw [← eKL] at HSY
      have G0 : Hid (Pk w (wr.alloc (.cells #[.string K, .int .i64 (n1 : Int), .int .i64 (n2 : Int), .int .i64 (n3 : Int)] 41)) wr.heap.size [.string K, .int .i64 (n1 : Int), .int .i64 (n2 : Int), .int .i64 (n3 : Int)] 41 v m L) := ⟨I.out.later (below_new _ _), Row.new wr _ _⟩
      have p1 := fun W => put_any kn (by omega) 1 1 rfl W
      have p2 := fun W => put_any n1 (by omega) 2 2 rfl W
      have p3 := fun W => put_any n2 (by omega) 3 3 rfl W
      have p4 := fun W => put_any n3 (by omega) 2 2 rfl W
      have u0 : (0 : Int) ≤ (kn : Int) ∧ (kn : Int) < 18446744073709551616 := by omega
      have u1 : (0 : Int) ≤ (n1 : Int) ∧ (n1 : Int) < 18446744073709551616 := by omega
      have u2 : (0 : Int) ≤ (n2 : Int) ∧ (n2 : Int) < 18446744073709551616 := by omega
      have u3 : (0 : Int) ≤ (n3 : Int) ∧ (n3 : Int) < 18446744073709551616 := by omega
      obtain ⟨u00, u01⟩ := u0
      obtain ⟨u10, u11⟩ := u1
      obtain ⟨u20, u21⟩ := u2
      obtain ⟨u30, u31⟩ := u3
      have HQ : Hid (m ≤ 579 ∧ kn ≤ 64) := ⟨hm, o2⟩
      clear hd hy eSY hL ekn eKL I o1 o2 o3 o4 o5 hm
      have M1 : Hid True := trivial
      have M2 : Hid True := trivial
      have M3 : Hid True := trivial
      have A1 : Hid True := trivial
      have A2 : Hid True := trivial
      have A3 : Hid True := trivial
      have A4 : Hid True := trivial
      go_wp2_with (first
        | (go_at_call 29; clear M1; refine (p1 _).mono ?_; rintro e w1 ⟨rfl, ho⟩; have G1 : Hid (Pk w w1 wr.heap.size [.string K, .int .i64 (n1 : Int), .int .i64 (n2 : Int), .int .i64 (n3 : Int)] 41 v m L) := G0.out.later ho.2; have ho1 := own_brow (putL_length _ _) ho; rw [size_new1] at ho1; have HO1 : Hid (BRow w1 (some ⟨wr.heap.size + 1, 0, none⟩) (putL 1 kn)) := ho1; clear ho ho1)
        | (at_builtin; clear A1; refine wpList_append_bytes rfl (.tmp 37) (.tmp 42) rfl w.heap.size v m _ rfl G1.out.acc.own _ 1 1 (putL 1 kn) rfl (putL_length _ _).symm HO1.out (fun h => by cases h) (by have := HQ.out; unfold maxLen; omega) (by have := HQ.out; omega) G1.out.acc.bel.size ?_; intro v2 w2 ho hg; have G2 : Hid (Pk w w2 wr.heap.size [.string K, .int .i64 (n1 : Int), .int .i64 (n2 : Int), .int .i64 (n3 : Int)] 41 v2 (m + 1) (L ++ putL 1 kn)) := G1.out.app (by decide) (putL_length _ _).symm ho hg; obtain ⟨x0, x1, x2, x3⟩ := G2.out.seen4; clear ho hg)
        | (at_builtin; clear A2; refine wpList_append_txt rfl (.tmp 44) (.tmp 46) rfl w.heap.size v2 (m + 1) _ rfl G2.out.acc.own K kn KL rfl z1 HK.out (by have := HQ.out; unfold maxLen; omega) (by have := HQ.out; omega) G2.out.acc.bel.size ?_; intro v3 w3 ho hg; have G3 : Hid (Pk w w3 wr.heap.size [.string K, .int .i64 (n1 : Int), .int .i64 (n2 : Int), .int .i64 (n3 : Int)] 41 v3 (m + 1 + kn) (L ++ putL 1 kn ++ KL)) := G2.out.app (by decide) HKL.out ho hg; clear ho hg x0 x1 x2 x3; obtain ⟨x0, x1, x2, x3⟩ := G3.out.seen4)
        | (go_at_call 29; clear M2; refine (p2 _).mono ?_; rintro e w4 ⟨rfl, ho⟩; have G4 : Hid (Pk w w4 wr.heap.size [.string K, .int .i64 (n1 : Int), .int .i64 (n2 : Int), .int .i64 (n3 : Int)] 41 v3 (m + 1 + kn) (L ++ putL 1 kn ++ KL)) := G3.out.later ho.2; have HO4 : Hid (BRow w4 _ (putL 2 n1)) := own_brow (putL_length _ _) ho; clear ho x0 x1 x2 x3)
        | (at_builtin; clear A3; refine wpList_append_bytes rfl (.tmp 48) (.tmp 53) rfl w.heap.size v3 (m + 1 + kn) _ rfl G4.out.acc.own _ 2 2 (putL 2 n1) rfl (putL_length _ _).symm HO4.out (fun h => by cases h) (by have := HQ.out; unfold maxLen; omega) (by have := HQ.out; omega) G4.out.acc.bel.size ?_; intro v5 w5 ho hg; have G5 : Hid (Pk w w5 wr.heap.size [.string K, .int .i64 (n1 : Int), .int .i64 (n2 : Int), .int .i64 (n3 : Int)] 41 v5 (m + 1 + kn + 2) (L ++ putL 1 kn ++ KL ++ putL 2 n1)) := G4.out.app (by decide) (putL_length _ _).symm ho hg; obtain ⟨x0, x1, x2, x3⟩ := G5.out.seen4; clear ho hg)
        | (go_at_call 29; clear M3; refine (p3 _).mono ?_; rintro e w6 ⟨rfl, ho⟩; have G6 : Hid (Pk w w6 wr.heap.size [.string K, .int .i64 (n1 : Int), .int .i64 (n2 : Int), .int .i64 (n3 : Int)] 41 v5 (m + 1 + kn + 2) (L ++ putL 1 kn ++ KL ++ putL 2 n1)) := G5.out.later ho.2; have HO6 : Hid (BRow w6 _ (putL 3 n2)) := own_brow (putL_length _ _) ho; clear ho x0 x1 x2 x3)
        | (at_builtin; clear A4; refine wpList_append_bytes rfl (.tmp 55) (.tmp 60) rfl w.heap.size v5 (m + 1 + kn + 2) _ rfl G6.out.acc.own _ 3 3 (putL 3 n2) rfl (putL_length _ _).symm HO6.out (fun h => by cases h) (by have := HQ.out; unfold maxLen; omega) (by have := HQ.out; omega) G6.out.acc.bel.size ?_; intro v7 w7 ho hg; have G7 : Hid (Pk w w7 wr.heap.size [.string K, .int .i64 (n1 : Int), .int .i64 (n2 : Int), .int .i64 (n3 : Int)] 41 v7 (m + 1 + kn + 2 + 3) (L ++ putL 1 kn ++ KL ++ putL 2 n1 ++ putL 3 n2)) := G6.out.app (by decide) (putL_length _ _).symm ho hg; obtain ⟨x0, x1, x2, x3⟩ := G7.out.seen4; clear ho hg)
        | (go_at_call 29; refine (p4 _).mono ?_; rintro e w8 ⟨rfl, ho⟩; have G8 : Hid (Pk w w8 wr.heap.size [.string K, .int .i64 (n1 : Int), .int .i64 (n2 : Int), .int .i64 (n3 : Int)] 41 v7 (m + 1 + kn + 2 + 3) (L ++ putL 1 kn ++ KL ++ putL 2 n1 ++ putL 3 n2)) := G7.out.later ho.2; have HO8 : Hid (BRow w8 _ (putL 2 n3)) := own_brow (putL_length _ _) ho; clear ho x0 x1 x2 x3)
        | (at_builtin; refine wpList_append_bytes rfl (.tmp 62) (.tmp 67) rfl w.heap.size v7 (m + 1 + kn + 2 + 3) _ rfl G8.out.acc.own _ 2 2 (putL 2 n3) rfl (putL_length _ _).symm HO8.out (fun h => by cases h) (by have := HQ.out; unfold maxLen; omega) (by have := HQ.out; omega) G8.out.acc.bel.size ?_; intro v9 w9 ho hg; have G9 : Hid (Pk w w9 wr.heap.size [.string K, .int .i64 (n1 : Int), .int .i64 (n2 : Int), .int .i64 (n3 : Int)] 41 v9 (m + 1 + kn + 2 + 3 + 2) (L ++ putL 1 kn ++ KL ++ putL 2 n1 ++ putL 3 n2 ++ putL 2 n3)) := G8.out.app (by decide) (putL_length _ _).symm ho hg; clear ho hg))
      go_roundg (len - (k + 1))
      case measure => omega
      case rel => exact ⟨k + 1, _, _, by omega, by go_num, rfl, by show Acc _ _ _ _ _; rw [HS.out, HSY.out]; have := G9.out.acc; simp only [List.append_assoc] at this ⊢; exact this⟩
    · have hkl : k = len := by omega
      subst hkl
      have HR2 : Hid (l.take k = l) := by show _ = _; rw [HL.out, List.take_length]
      go_wp2
      go_ret2
      refine ⟨_, rfl, ?_⟩
      have := I.out
      rw [HR2.out, ← HE.out] at this
      exact this.end
end Go.Proofs.Ytfmgaahileknfaa
