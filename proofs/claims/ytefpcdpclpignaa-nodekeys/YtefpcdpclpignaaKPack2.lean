/-
  What Pack and Mark of package node answer.
-/
import Derived.Test.YtefpcdpclpignaaKPack
namespace Go.Proofs.Ytefpcdpclpignaa
open Go.RowKit M

theorem make_gat {w W w1 : World} {cs : List Value} {t : TypeId} {c : Nat} (hb : Below w.heap.size w W) (hr : Row W w.heap.size cs t)
    (hown : w1.ownsRow w.heap.size 5 1 (.slice (some ⟨W.heap.size, 0, none⟩) 0 c) 0 []) (hgrow : W.grownBy w1 none) : Gat w w1 cs t (.slice (some ⟨W.heap.size, 0, none⟩) 0 c) 0 [] := by
  have hb1 : Below W.heap.size W w1 := (Below.refl _ _).grown hgrow (Nat.le_refl _) (fun k hk => by cases hk)
  exact ⟨hown, rfl, Below.after hb hb1, hr.later hb1⟩
theorem Gat.seen {w W : World} {x y z : Value} {t : TypeId} {v : Value} {m : Nat} {L : List Nat} (h : Gat w W [x, y, z] t v m L) :
    W.cell? ⟨w.heap.size, 0, none⟩ = some x ∧ W.cell? ⟨w.heap.size, 1, none⟩ = some y ∧ W.cell? ⟨w.heap.size, 2, none⟩ = some z :=
  ⟨h.box.cell (i := 0) rfl, h.box.cell (i := 1) rfl, h.box.cell (i := 2) rfl⟩
theorem brow_new1 (W : World) (a : Nat) : BRow (W.alloc (.cells #[.int .u8 (a : Int)] 5)) (some ⟨W.heap.size, 0, none⟩) [a] := by
  refine .inr ⟨_, 0, rfl, fun i hi => ?_⟩
  have hi' : i < 1 := by simpa using hi
  obtain rfl : i = 0 := by omega
  simp
theorem own_brow {W w' : World} {g m c : Nat} {l : List Nat} (_hm : l.length = m) (h : Own W w' (.slice (some ⟨g, 0, none⟩) m c) l) : BRow w' (some ⟨g, 0, none⟩) l := by
  obtain ⟨a', cap, hv, hr, _, _⟩ := h.row
  obtain ⟨rfl, _, rfl⟩ : some ⟨g, 0, none⟩ = a' ∧ m = l.length ∧ c = cap := by simpa using hv
  exact hr

set_option maxRecDepth 10000 in
set_option maxHeartbeats 1000000 in
theorem pack_no (n : Nd) (hk : n.key.length ≤ maxLen) (hv : n.val.length ≤ maxLen) (hi : n.ok = false) (w : World) :
    Calls Try.prog 34 #[n.v] w fun e w' => e = .returned (.tuple #[.slice none 0 0, .int .i64 22]) ∧ Below w.heap.size w w' := by
  have hr := fun W => nright_any n hk hv W
  rw [hi] at hr
  obtain ⟨key, val, gone⟩ := n
  clear hi hk hv
  unfold Nd.v Nd.cells at hr ⊢
  dsimp only at hr ⊢
  go_enter Try.func34, Try.ntmps34
  go_wp2_with (go_at_call 38; refine (hr _).mono ?_; rintro e w1 ⟨rfl, hb⟩; have HB1 : Hid (Below w.heap.size w w1) := Below.after (below_new _ _) hb; clear hb)
  go_ret2
  exact ⟨rfl, HB1.out⟩

theorem Nd.ok_le {n : Nd} (h : n.ok = true) : 1 ≤ n.key.length ∧ n.key.length ≤ 64 ∧ n.val.length ≤ 256 ∧ (n.gone = true → n.val = []) := by
  simp only [Nd.ok, inB, Bool.and_eq_true, decide_eq_true_eq, Bool.not_eq_true', Bool.and_eq_false_iff, Bool.not_eq_false', List.isEmpty_iff] at h
  obtain ⟨⟨h1, h2⟩, h3⟩ := h
  refine ⟨by omega, by omega, h3, fun hg => ?_⟩
  rcases h1 with h1 | h1
  · rw [hg] at h1; cases h1
  · exact h1

set_option maxRecDepth 10000 in
set_option maxHeartbeats 4000000 in
theorem pack_yes (n : Nd) (hi : n.ok = true) (w : World) :
    Calls Try.prog 34 #[n.v] w fun e w' => ∃ v, e = .returned (.tuple #[v, .int .i64 0]) ∧ Own w w' v n.bytes := by
  obtain ⟨q1, q2, q3, _⟩ := Nd.ok_le hi
  have hr := fun W => nright_any n (by unfold maxLen; omega) (by unfold maxLen; omega) W
  have hp := fun W => packed_any n q2 q3 W
  have ht := fun W => tagOf_any n W
  rw [hi] at hr
  obtain ⟨key, val, gone⟩ := n
  obtain ⟨tg, etg⟩ : ∃ tg, tg = Nd.tag ⟨key, val, gone⟩ := ⟨_, rfl⟩
  have HE : Hid (Nd.bytes ⟨key, val, gone⟩ = [] ++ [tg] ++ putL 1 key.length ++ nats key ++ putL 2 val.length ++ nats val) := by rw [etg]; exact rfl
  rw [← etg] at ht
  clear etg
  obtain ⟨R, eR⟩ : ∃ R, R = Nd.bytes ⟨key, val, gone⟩ := ⟨_, rfl⟩
  rw [← eR] at HE ⊢
  clear eR hi
  dsimp only at q1 q2 q3 hp
  unfold Nd.v Nd.cells at hr hp ht
  show Calls Try.prog 34 #[.agg #[.string (bs key), .string (bs val), .bool gone]] w fun e w' => ∃ v, e = .returned (.tuple #[v, .int .i64 0]) ∧ Own w w' v R
  dsimp only at hr hp ht
  obtain ⟨kn, ekn⟩ : ∃ k, k = key.length := ⟨_, rfl⟩
  obtain ⟨vn, evn⟩ : ∃ k, k = val.length := ⟨_, rfl⟩
  have z1 : (bs key).size = kn := by rw [ekn]; exact bs_size key
  have z2 : (bs val).size = vn := by rw [evn]; exact bs_size val
  have HK : Hid (Lib.strCells (bs key) = (nats key).map u8v) := strCells_nats key
  have HV : Hid (Lib.strCells (bs val) = (nats val).map u8v) := strCells_nats val
  have HKL : Hid (kn = (nats key).length) := by rw [nats_length]; exact ekn
  have HVL : Hid (vn = (nats val).length) := by rw [nats_length]; exact evn
  rw [← ekn] at hp q1 q2 HE
  rw [← evn] at hp q3 HE
  obtain ⟨KL, eKL⟩ : ∃ L, L = nats key := ⟨_, rfl⟩
  obtain ⟨VL, eVL⟩ : ∃ L, L = nats val := ⟨_, rfl⟩
  rw [← eKL] at HK HKL HE
  rw [← eVL] at HV HVL HE
  obtain ⟨K, eK⟩ : ∃ K, K = bs key := ⟨_, rfl⟩
  obtain ⟨V, eV⟩ : ∃ V, V = bs val := ⟨_, rfl⟩
  rw [← eK] at z1 HK hr hp ht ⊢
  rw [← eV] at z2 HV hr hp ht ⊢
  obtain ⟨cn, ecn⟩ : ∃ c, c = 4 + kn + vn := ⟨_, rfl⟩
  rw [← ecn] at hp
  have hcn : cn ≤ 324 := by omega
  have hp1 := fun W => put_any kn (by omega) 1 1 rfl W
  have hp2 := fun W => put_any vn (by omega) 2 2 rfl W
  clear ekn evn eK eV eKL eVL ecn
  obtain ⟨i0, hi, hz0, hz1, hz2⟩ := info_parts info8
  have HM : Hid (i0.bytes * cn ≤ 281474976710656 ∧ cn ≤ maxLen) := ⟨by rw [hz2]; omega, by unfold maxLen; omega⟩
  have HQ : Hid (kn ≤ 64 ∧ vn ≤ 256) := ⟨q2, q3⟩
  have n0 : (0 : Int) ≤ (kn : Int) := by omega
  have n1 : (kn : Int) < 18446744073709551616 := by omega
  have n2 : (0 : Int) ≤ (vn : Int) := by omega
  have n3 : (vn : Int) < 18446744073709551616 := by omega
  have M1 : Hid True := trivial
  have M2 : Hid True := trivial
  have M3 : Hid True := trivial
  have M4 : Hid True := trivial
  have M5 : Hid True := trivial
  go_enter Try.func34, Try.ntmps34
  go_wp2_with (first
    | (go_at_call 38; refine (hr _).mono ?_; rintro e w1 ⟨rfl, hb⟩; have hbx := (Row.new w [.string K, .string V, .bool gone] 34).later hb; obtain ⟨x0, x1, x2, _, _, _⟩ := hbx.seen3; have HB1 : Hid (Below w.heap.size w w1) := Below.after (below_new _ _) hb; have HX1 : Hid (Row w1 w.heap.size [.string K, .string V, .bool gone] 34) := hbx; clear hb hbx)
    | (go_at_call 69; refine (hp _).mono ?_; rintro e w2 ⟨rfl, hb⟩; have HB2 : Hid (Below w.heap.size w w2) := Below.after HB1.out hb; have HX2 : Hid (Row w2 w.heap.size [.string K, .string V, .bool gone] 34) := HX1.out.later hb; clear hb x0 x1 x2)
    | (at_make; refine wpList_make_own _ rfl _ _ 43 rfl w.heap.size 5 i0 (.int .u8 0) 1 Try.underlying43 hi hz0 hz1 _ _ _ cn rfl rfl rfl HM.out.1 HM.out.2 HB2.out.size ?_; intro w3 hown hgrow; have G3 : Hid (Gat w w3 [.string K, .string V, .bool gone] 34 _ 0 []) := make_gat HB2.out HX2.out hown hgrow; obtain ⟨x0, x1, x2⟩ := G3.out.seen; clear hown hgrow)
    | (go_at_call 70; refine (ht _).mono ?_; rintro e w4 ⟨rfl, hb⟩; have G4 : Hid (Gat w w4 [.string K, .string V, .bool gone] 34 _ 0 []) := G3.out.later hb; clear hb x0 x1 x2)
    | (at_builtin; clear M1; have g5 := G4.out.later (below_new w4 (.cells #[.int .u8 (tg : Int)] 5)); refine wpList_append_bytes rfl (.tmp 11) (.tmp 14) rfl w.heap.size _ 0 _ rfl g5.own (some ⟨w4.heap.size, 0, none⟩) 1 1 [tg] rfl rfl (brow_new1 w4 tg) (fun h => by cases h) (by decide) (by decide) g5.bel.size ?_; intro v5 w5 ho hg; have G5 : Hid (Gat w w5 [.string K, .string V, .bool gone] 34 v5 (0 + 1) ([] ++ [tg])) := g5.app (by decide) rfl ho hg; obtain ⟨x0, x1, x2⟩ := G5.out.seen; clear ho hg g5)
    | (go_at_call 71; clear M2; refine (hp1 _).mono ?_; rintro e w6 ⟨rfl, ho⟩; have G6 : Hid (Gat w w6 [.string K, .string V, .bool gone] 34 v5 (0 + 1) ([] ++ [tg])) := G5.out.later ho.2; have HO6 : Hid (BRow w6 _ (putL 1 kn)) := own_brow (putL_length _ _) ho; clear ho x0 x1 x2)
    | (at_builtin; clear M3; refine wpList_append_bytes rfl (.tmp 16) (.tmp 21) rfl w.heap.size v5 (0 + 1) _ rfl G6.out.own _ 1 1 (putL 1 kn) rfl (putL_length _ _).symm HO6.out (fun h => by cases h) (by decide) (by decide) G6.out.bel.size ?_; intro v7 w7 ho hg; have G7 : Hid (Gat w w7 [.string K, .string V, .bool gone] 34 v7 (0 + 1 + 1) ([] ++ [tg] ++ putL 1 kn)) := G6.out.app (by decide) (putL_length _ _).symm ho hg; obtain ⟨x0, x1, x2⟩ := G7.out.seen; clear ho hg)
    | (at_builtin; clear M4; refine wpList_append_txt rfl (.tmp 23) (.tmp 25) rfl w.heap.size v7 (0 + 1 + 1) _ rfl G7.out.own K kn KL rfl z1 HK.out (by have := HQ.out; unfold maxLen; omega) (by have := HQ.out; omega) G7.out.bel.size ?_; intro v8 w8 ho hg; have G8 : Hid (Gat w w8 [.string K, .string V, .bool gone] 34 v8 (0 + 1 + 1 + kn) ([] ++ [tg] ++ putL 1 kn ++ KL)) := G7.out.app (by decide) HKL.out ho hg; clear ho hg x0 x1 x2; obtain ⟨x0, x1, x2⟩ := G8.out.seen)
    | (go_at_call 71; refine (hp2 _).mono ?_; rintro e w9 ⟨rfl, ho⟩; have G9 : Hid (Gat w w9 [.string K, .string V, .bool gone] 34 v8 (0 + 1 + 1 + kn) ([] ++ [tg] ++ putL 1 kn ++ KL)) := G8.out.later ho.2; have HO9 : Hid (BRow w9 _ (putL 2 vn)) := own_brow (putL_length _ _) ho; clear ho x0 x1 x2)
    | (at_builtin; clear M5; refine wpList_append_bytes rfl (.tmp 27) (.tmp 32) rfl w.heap.size v8 (0 + 1 + 1 + kn) _ rfl G9.out.own _ 2 2 (putL 2 vn) rfl (putL_length _ _).symm HO9.out (fun h => by cases h) (by have := HQ.out; unfold maxLen; omega) (by have := HQ.out; omega) G9.out.bel.size ?_; intro v10 w10 ho hg; have G10 : Hid (Gat w w10 [.string K, .string V, .bool gone] 34 v10 (0 + 1 + 1 + kn + 2) ([] ++ [tg] ++ putL 1 kn ++ KL ++ putL 2 vn)) := G9.out.app (by decide) (putL_length _ _).symm ho hg; obtain ⟨x0, x1, x2⟩ := G10.out.seen; clear ho hg)
    | (at_builtin; refine wpList_append_txt rfl (.tmp 34) (.tmp 36) rfl w.heap.size v10 (0 + 1 + 1 + kn + 2) _ rfl G10.out.own V vn VL rfl z2 HV.out (by have := HQ.out; unfold maxLen; omega) (by have := HQ.out; omega) G10.out.bel.size ?_; intro v11 w11 ho hg; have G11 : Hid (Gat w w11 [.string K, .string V, .bool gone] 34 v11 (0 + 1 + 1 + kn + 2 + vn) ([] ++ [tg] ++ putL 1 kn ++ KL ++ putL 2 vn ++ VL)) := G10.out.app (by decide) HVL.out ho hg; clear ho hg x0 x1 x2))
  go_ret2
  refine ⟨_, rfl, ?_, G11.out.bel⟩
  have h := G11.out.own
  rw [G11.out.len, ← HE.out] at h
  exact h

/-- What a call has gathered: the bytes L, at v. -/
structure Acc (w W : World) (v : Value) (m : Nat) (L : List Nat) : Prop where
  own : W.ownsRow w.heap.size 5 1 v m (L.map u8v)
  len : m = L.length
  bel : Below w.heap.size w W
theorem Acc.later {w W W' : World} {v : Value} {m : Nat} {L : List Nat} (h : Acc w W v m L) (hb : Below W.heap.size W W') : Acc w W' v m L :=
  ⟨owns_later h.own hb, h.len, Below.after h.bel hb⟩
theorem Acc.app {w W W' : World} {v v' : Value} {m k : Nat} {L M : List Nat} (h : Acc w W v m L) (hM : k = M.length) (ho : W'.ownsRow w.heap.size 5 1 v' (m + k) (L.map u8v ++ M.map u8v)) (hg : W.grownBy W' v.ownBlock) : Acc w W' v' (m + k) (L ++ M) :=
  ⟨by rw [List.map_append]; exact ho, by rw [List.length_append, h.len, hM], grown_own h.bel hg h.bel.size h.own⟩
theorem Acc.end {w W : World} {v : Value} {m : Nat} {L : List Nat} (h : Acc w W v m L) : Own w W v L := by
  have h1 := h.own
  rw [h.len] at h1
  exact ⟨h1, h.bel⟩
theorem make_acc {w w1 : World} {c : Nat} (hown : w1.ownsRow w.heap.size 5 1 (.slice (some ⟨w.heap.size, 0, none⟩) 0 c) 0 []) (hgrow : w.grownBy w1 none) : Acc w w1 (.slice (some ⟨w.heap.size, 0, none⟩) 0 c) 0 [] :=
  ⟨hown, rfl, (Below.refl _ _).grown hgrow (Nat.le_refl _) (fun k hk => by cases hk)⟩

/-- A mark as bytes. -/
def markL (g k : Nat) : List Nat := [] ++ [3] ++ putL 8 g ++ putL 1 k
theorem mark_no (g : Nat) (k : Int) (h : inB k 1 16 = false) (w : World) :
    Calls Try.prog 36 #[.int .u64 (g : Int), .int .i64 k] w fun e w' => e = .returned (.tuple #[.slice none 0 0, .int .i64 22]) ∧ w = w' := by
  have hc := fun W => isCount_any k W
  rw [h] at hc
  go_enter Try.func36, Try.ntmps36
  go_wp2_with (go_at_call 72; refine (hc _).mono ?_; rintro e w1 ⟨rfl, rfl⟩)
  go_ret2
  exact ⟨rfl, rfl⟩

set_option maxRecDepth 10000 in
set_option maxHeartbeats 4000000 in
theorem mark_yes (g : Nat) (hg : g < 18446744073709551616) (k : Nat) (h1 : 1 ≤ k) (h2 : k ≤ 16) (w : World) :
    Calls Try.prog 36 #[.int .u64 (g : Int), .int .i64 (k : Int)] w fun e w' => ∃ v, e = .returned (.tuple #[v, .int .i64 0]) ∧ Own w w' v (markL g k) := by
  have hc := fun W => isCount_any k W
  rw [show inB k 1 16 = true from decide_eq_true (by omega)] at hc
  have hp1 := fun W => put_any g hg 8 8 rfl W
  have hp2 := fun W => put_any k (by omega) 1 1 rfl W
  obtain ⟨i0, hi, hz0, hz1, hz2⟩ := info_parts info8
  have HM : Hid (i0.bytes * 10 ≤ 281474976710656 ∧ 10 ≤ maxLen) := ⟨by rw [hz2]; omega, by unfold maxLen; omega⟩
  have M1 : Hid True := trivial
  have M2 : Hid True := trivial
  have M3 : Hid True := trivial
  have n0 : (0 : Int) ≤ (k : Int) := by omega
  have n1 : (k : Int) < 18446744073709551616 := by omega
  go_enter Try.func36, Try.ntmps36
  go_wp2_with (first
    | (go_at_call 72; refine (hc _).mono ?_; rintro e w1 ⟨rfl, rfl⟩)
    | (at_make; refine wpList_make_own _ rfl _ _ 43 rfl w.heap.size 5 i0 (.int .u8 0) 1 Try.underlying43 hi hz0 hz1 _ _ _ 10 rfl rfl rfl HM.out.1 HM.out.2 (Nat.le_refl _) ?_; intro w3 hown hgrow; have G3 : Hid (Acc w w3 _ 0 []) := make_acc hown hgrow; clear hown hgrow)
    | (at_builtin; clear M1; have g5 := G3.out.later (below_new w3 (.cells #[.int .u8 3] 5)); refine wpList_append_bytes rfl (.tmp 11) (.tmp 12) rfl w.heap.size _ 0 _ rfl g5.own (some ⟨w3.heap.size, 0, none⟩) 1 1 [3] rfl rfl (brow_new1 w3 3) (fun h => by cases h) (by decide) (by decide) g5.bel.size ?_; intro v5 w5 ho hg; have G5 : Hid (Acc w w5 v5 (0 + 1) ([] ++ [3])) := g5.app rfl ho hg; clear ho hg g5)
    | (go_at_call 71; clear M2; refine (hp1 _).mono ?_; rintro e w6 ⟨rfl, ho⟩; have G6 : Hid (Acc w w6 v5 (0 + 1) ([] ++ [3])) := G5.out.later ho.2; have HO6 : Hid (BRow w6 _ (putL 8 g)) := own_brow (putL_length _ _) ho; clear ho)
    | (at_builtin; clear M3; refine wpList_append_bytes rfl (.tmp 14) (.tmp 16) rfl w.heap.size v5 (0 + 1) _ rfl G6.out.own _ 8 8 (putL 8 g) rfl (putL_length _ _).symm HO6.out (fun h => by cases h) (by decide) (by decide) G6.out.bel.size ?_; intro v7 w7 ho hg; have G7 : Hid (Acc w w7 v7 (0 + 1 + 8) ([] ++ [3] ++ putL 8 g)) := G6.out.app (putL_length _ _).symm ho hg; clear ho hg)
    | (go_at_call 71; refine (hp2 _).mono ?_; rintro e w9 ⟨rfl, ho⟩; have G9 : Hid (Acc w w9 v7 (0 + 1 + 8) ([] ++ [3] ++ putL 8 g)) := G7.out.later ho.2; have HO9 : Hid (BRow w9 _ (putL 1 k)) := own_brow (putL_length _ _) ho; clear ho)
    | (at_builtin; refine wpList_append_bytes rfl (.tmp 18) (.tmp 21) rfl w.heap.size v7 (0 + 1 + 8) _ rfl G9.out.own _ 1 1 (putL 1 k) rfl (putL_length _ _).symm HO9.out (fun h => by cases h) (by decide) (by decide) G9.out.bel.size ?_; intro v10 w10 ho hg; have G10 : Hid (Acc w w10 v10 (0 + 1 + 8 + 1) ([] ++ [3] ++ putL 8 g ++ putL 1 k)) := G9.out.app (putL_length _ _).symm ho hg; clear ho hg))
  go_ret2
  exact ⟨_, rfl, G10.out.end⟩
end Go.Proofs.Ytefpcdpclpignaa
