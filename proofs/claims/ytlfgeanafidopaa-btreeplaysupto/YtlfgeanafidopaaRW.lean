/-
  One operation on both trees.
-/
import Derived.Test.YtlfgeanafidopaaRT
import Derived.Test.YtlfgeanafidopaaRV
import Derived.Test.YtlfgeanafidopaaRM
namespace Go.Proofs.Ytlfgeanafidopaa.Bt
open Go.RowKit
set_option maxRecDepth 10000

/-- Both trees in one memory, telling one list. -/
structure Both (W : World) (p F r : Nat) (x : Tre) (fs : List Nat) : Prop where
  live : Live W p F x fs
  at_ : RAt W r x.all
  rl : RL x.all
  up : UpT x
/-- What an operation on both leaves. -/
def Bth (W : World) (p F r : Nat) (fs : List Nat) (x : Tre) (w' : World) : Prop := ∃ x' fs', Both w' p F r x' fs' ∧ (∀ b ∈ fs', b ∈ fs ∨ W.heap.size ≤ b) ∧ Kept (fun b => b = p ∨ b ∈ fs ∨ b = r) W w' ∧ x'.all.length ≤ x.all.length + 1
theorem Both.later {W W' : World} {p F r : Nat} {x : Tre} {fs : List Nat} (h : Both W p F r x fs) (hb : Below W.heap.size W W') : Both W' p F r x fs := ⟨h.live.later hb, h.at_.later hb, h.rl, h.up⟩
theorem Bth.of_below {W w' : World} {p F r : Nat} {x : Tre} {fs : List Nat} (h : Both W p F r x fs) (hb : Below W.heap.size W w') : Bth W p F r fs x w' := ⟨x, fs, h.later hb, fun b hb => .inl hb, Kept.of_below hb, by omega⟩
theorem both_fin {W X w1 w2 : World} {p F r : Nat} {x x' : Tre} {fs : List Nat} {L : List KV} (hb : Below W.heap.size W X) (hL : Left X p F fs x' w1) (hR : RAt w1 r L) (hK : Kept (fun b => b = r) w1 w2) (hR2 : RAt w2 r x'.all) (hl : RL x'.all) (hn : x'.all.length ≤ x.all.length + 1) (hu : UpT x') : Bth W p F r fs x w2 := by
  obtain ⟨⟨fs', h1, h2⟩, h3⟩ := hL
  obtain ⟨v, hv, _⟩ := hR
  refine ⟨x', fs', ⟨h1.keptS hv hK, hR2, hl, hu⟩, fun b hb' => ?_, ?_, hn⟩
  · rcases h2 b hb' with q | q
    · exact .inl q
    · exact .inr (Nat.le_trans hb.size q)
  · refine ((Kept.of_below hb).trans (h3.mono ?_)).trans (hK.mono ?_)
    · rintro k (e | e)
      · exact .inl e
      · exact .inr (.inl e)
    · intro k e; exact .inr (.inr e)
theorem rput_at {W : World} {r : Nat} {L : List KV} (h : RAt W r L) (hrl : RL L) (k v : K) (hl : L.length ≤ 1000000000) :
    Calls Try.prog 31 #[.pointer (some ⟨r, 0, none⟩), .string k, .string v] W fun e w' => e = .returned (.int .i64 (putE k v)) ∧ RAt w' r (if putE k v = 0 then ins k v L else L) ∧ RL (if putE k v = 0 then ins k v L else L) ∧ Kept (fun b => b = r) W w' := by
  by_cases hE : putE k v = 0
  · have hs := putE_zero hE
    refine (rput_ok h hrl.srt hrl.size k v (by have := hs.2.2; unfold maxLen; omega) hl hE).mono ?_
    rintro e w' ⟨rfl, h1, h2⟩
    rw [if_pos hE]
    exact ⟨by rw [hE], h1, hrl.ins hs.2.2, h2⟩
  · refine (rput_bad r k v W hE).mono ?_
    rintro e w' ⟨rfl, rfl⟩
    rw [if_neg hE]
    refine ⟨?_, h, hrl, Kept.refl _ _⟩
    rcases putE_or k v with q | q
    · exact absurd q hE
    · rw [q]
theorem putR_all {F : Nat} (hF : 4 ≤ F) {k v : K} {x : Tre} (h : InvT F x) : (putR F k v x).all = if putE k v = 0 then ins k v x.all else x.all := by
  split
  · rename_i hE; exact put_all hF h hE
  · rename_i hE; rw [put_no hE]
theorem op_boxR {X w' : World} {r : Nat} {cs : List Value} {B : Nat} {L : List KV} (h : RAt X r L) (hr : Row X B cs 33) (hK : Kept (fun b => b = r) X w') : Row w' B cs 33 := by
  obtain ⟨v, hv, _⟩ := h
  exact hr.kept hK (fun e => Row.ne hr hv.row (by decide) e)
set_option maxHeartbeats 4000000 in
theorem one1_both {W : World} {p F r : Nat} {x : Tre} {fs : List Nat} (h : Both W p F r x fs) (key val to : K) (n : Int) (hlen : x.all.length ≤ 100000000) :
    Calls Try.prog 13 #[.pointer (some ⟨p, 0, none⟩), .pointer (some ⟨r, 0, none⟩), .agg #[.int .i64 1, .string key, .string val, .string to, .int .i64 n]] W fun e w' => e = .returned (.bool true) ∧ Bth W p F r fs x w' := by
  have hb0 := below_new W (.cells #[.int .i64 1, .string key, .string val, .string to, .int .i64 n] 33)
  obtain ⟨W0, hW0⟩ : ∃ W0, W0 = W.alloc (.cells #[.int .i64 1, .string key, .string val, .string to, .int .i64 n] 33) := ⟨_, rfl⟩
  have hr : Row W0 W.heap.size [.int .i64 1, .string key, .string val, .string to, .int .i64 n] 33 := by rw [hW0]; exact Row.new W _ _
  rw [← hW0] at hb0
  have h0 := h.later hb0
  have HP : Hid (Calls Try.prog 26 #[.pointer (some ⟨p, 0, none⟩), .string key, .string val] W0.drew fun e w' => e = .returned (.int .i64 (putE key val)) ∧ (w'.cell? ⟨W.heap.size, 1, none⟩ = some (.string key) ∧ w'.cell? ⟨W.heap.size, 2, none⟩ = some (.string val)) ∧ Calls Try.prog 31 #[.pointer (some ⟨r, 0, none⟩), .string key, .string val] w' fun e2 w2 => e2 = .returned (.int .i64 (putE key val)) ∧ (w2.cell? ⟨W.heap.size, 1, none⟩ = some (.string key) ∧ w2.cell? ⟨W.heap.size, 2, none⟩ = some (.string val)) ∧ Bth W p F r fs x w2) := by
    have hb := bafter hb0 (below_drawn W0 1)
    have hd := h0.later (below_drawn W0 1)
    refine (putT_any hd.live key val (by omega)).mono ?_
    rintro e w' ⟨rfl, hL⟩
    have hr2 := op_box hd.live (hr.later (below_drawn W0 1)) hL
    have hR := hd.at_.left hd.live hL
    refine ⟨rfl, ⟨hr2.cell (i := 1) rfl, hr2.cell (i := 2) rfl⟩, ?_⟩
    refine (rput_at hR hd.rl key val (by omega)).mono ?_
    rintro e2 w2 ⟨rfl, g1, g2, g3⟩
    have hr3 := op_boxR hR hr2 g3
    rw [← putR_all h.live.lo h.live.inv] at g1 g2
    exact ⟨rfl, ⟨hr3.cell (i := 1) rfl, hr3.cell (i := 2) rfl⟩, both_fin hb hL hR g3 g1 g2 (putR_len h.live.lo key val h.live.inv).1 (up_putR F key val h.up)⟩
  have c0 := hr.cell (i := 0) rfl
  have c1 := hr.cell (i := 1) rfl
  have c2 := hr.cell (i := 2) rfl
  have c3 := hr.cell (i := 3) rfl
  have c4 := hr.cell (i := 4) rfl
  have HW : Hid (W0 = W.alloc (.cells #[.int .i64 1, .string key, .string val, .string to, .int .i64 n] 33)) := hW0
  generalize putE key val = E at *
  clear h hr hb0 hW0 h0
  go_enter Try.func13, Try.ntmps13
  go_wp2
  rw [← HW.out]
  go_wp2
  go_region_held3 (fun w' => w'.cell? ⟨W.heap.size, 1, none⟩ = some (.string key) ∧ w'.cell? ⟨W.heap.size, 2, none⟩ = some (.string val)) (first | assumption | go_keep) (first
    | (go_at_call 26; refine HP.out.mono ?_; rintro e W1 ⟨rfl, k1, hC⟩; have HC : Hid (Calls Try.prog 31 #[.pointer (some ⟨r, 0, none⟩), .string key, .string val] W1 fun e2 w2 => e2 = .returned (.int .i64 E) ∧ (w2.cell? ⟨W.heap.size, 1, none⟩ = some (.string key) ∧ w2.cell? ⟨W.heap.size, 2, none⟩ = some (.string val)) ∧ Bth W p F r fs x w2) := hC; clear hC)
    | (go_at_call 31; refine HC.out.mono ?_; rintro e W2 ⟨rfl, k2, hB⟩; have HB : Hid (Bth W p F r fs x W2) := hB; clear hB))
  go_wp2
  go_ret
  exact ⟨ret_bool (by simp), HB.out⟩
set_option maxHeartbeats 4000000 in
theorem one2_both {W : World} {p F r : Nat} {x : Tre} {fs : List Nat} (h : Both W p F r x fs) (key val to : K) (n : Int) (hlen : x.all.length ≤ 100000000) :
    Calls Try.prog 13 #[.pointer (some ⟨p, 0, none⟩), .pointer (some ⟨r, 0, none⟩), .agg #[.int .i64 2, .string key, .string val, .string to, .int .i64 n]] W fun e w' => e = .returned (.bool true) ∧ Bth W p F r fs x w' := by
  have hb0 := below_new W (.cells #[.int .i64 2, .string key, .string val, .string to, .int .i64 n] 33)
  obtain ⟨W0, hW0⟩ : ∃ W0, W0 = W.alloc (.cells #[.int .i64 2, .string key, .string val, .string to, .int .i64 n] 33) := ⟨_, rfl⟩
  have hr : Row W0 W.heap.size [.int .i64 2, .string key, .string val, .string to, .int .i64 n] 33 := by rw [hW0]; exact Row.new W _ _
  rw [← hW0] at hb0
  have h0 := h.later hb0
  have HP : Hid (Calls Try.prog 25 #[.pointer (some ⟨p, 0, none⟩), .string key] W0.drew fun e w' => e = .returned (.bool (look key x.all).isSome) ∧ w'.cell? ⟨W.heap.size, 1, none⟩ = some (.string key) ∧ Calls Try.prog 30 #[.pointer (some ⟨r, 0, none⟩), .string key] w' fun e2 w2 => e2 = .returned (.bool (look key x.all).isSome) ∧ w2.cell? ⟨W.heap.size, 1, none⟩ = some (.string key) ∧ Bth W p F r fs x w2) := by
    have hb := bafter hb0 (below_drawn W0 1)
    have hd := h0.later (below_drawn W0 1)
    refine (delT_any hd.live key (by omega)).mono ?_
    rintro e w' ⟨rfl, hL⟩
    have hr2 := op_box hd.live (hr.later (below_drawn W0 1)) hL
    have hR := hd.at_.left hd.live hL
    refine ⟨rfl, hr2.cell (i := 1) rfl, ?_⟩
    refine (rdel_any hR key (by omega)).mono ?_
    rintro e2 w2 ⟨rfl, g1, g3⟩
    have hr3 := op_boxR hR hr2 g3
    have g1 : RAt w2 r (rdl key x.all) := g1
    have g2 := hd.rl.rdl key
    rw [← del_all h.live.lo h.live.inv] at g1 g2
    exact ⟨rfl, hr3.cell (i := 1) rfl, both_fin hb hL hR g3 g1 g2 (by have := (delS_len h.live.lo key h.live.inv).1; omega) (up_delS F key h.up)⟩
  have c0 := hr.cell (i := 0) rfl
  have c1 := hr.cell (i := 1) rfl
  have c2 := hr.cell (i := 2) rfl
  have c3 := hr.cell (i := 3) rfl
  have c4 := hr.cell (i := 4) rfl
  have HW : Hid (W0 = W.alloc (.cells #[.int .i64 2, .string key, .string val, .string to, .int .i64 n] 33)) := hW0
  generalize (look key x.all).isSome = E at *
  clear h hr hb0 hW0 h0
  go_enter Try.func13, Try.ntmps13
  go_wp2
  rw [← HW.out]
  go_wp2
  go_region_held3 (fun w' => w'.cell? ⟨W.heap.size, 1, none⟩ = some (.string key)) (first | assumption | go_keep) (first
    | (go_at_call 25; refine HP.out.mono ?_; rintro e W1 ⟨rfl, k1, hC⟩; have HC : Hid (Calls Try.prog 30 #[.pointer (some ⟨r, 0, none⟩), .string key] W1 fun e2 w2 => e2 = .returned (.bool E) ∧ w2.cell? ⟨W.heap.size, 1, none⟩ = some (.string key) ∧ Bth W p F r fs x w2) := hC; clear hC)
    | (go_at_call 30; refine HC.out.mono ?_; rintro e W2 ⟨rfl, k2, hB⟩; have HB : Hid (Bth W p F r fs x W2) := hB; clear hB))
  go_wp2
  go_ret
  exact ⟨ret_bool (by simp), HB.out⟩
set_option maxHeartbeats 4000000 in
theorem one3_both {W : World} {p F r : Nat} {x : Tre} {fs : List Nat} (h : Both W p F r x fs) (key val to : K) (n : Int) (hlen : x.all.length ≤ 100000000) :
    Calls Try.prog 13 #[.pointer (some ⟨p, 0, none⟩), .pointer (some ⟨r, 0, none⟩), .agg #[.int .i64 3, .string key, .string val, .string to, .int .i64 n]] W fun e w' => e = .returned (.bool true) ∧ Bth W p F r fs x w' := by
  have hb0 := below_new W (.cells #[.int .i64 3, .string key, .string val, .string to, .int .i64 n] 33)
  obtain ⟨W0, hW0⟩ : ∃ W0, W0 = W.alloc (.cells #[.int .i64 3, .string key, .string val, .string to, .int .i64 n] 33) := ⟨_, rfl⟩
  have hr : Row W0 W.heap.size [.int .i64 3, .string key, .string val, .string to, .int .i64 n] 33 := by rw [hW0]; exact Row.new W _ _
  rw [← hW0] at hb0
  have h0 := h.later hb0
  have HP : Hid (Calls Try.prog 23 #[.pointer (some ⟨p, 0, none⟩), .string key] W0 fun e w' => ∃ s b, e = .returned (.tuple #[.string s, .bool b]) ∧ w'.cell? ⟨W.heap.size, 1, none⟩ = some (.string key) ∧ Calls Try.prog 33 #[.pointer (some ⟨r, 0, none⟩), .string key] w' fun e2 w2 => e2 = .returned (.tuple #[.string s, .bool b]) ∧ Bth W p F r fs x w2) := by
    refine (h0.live.get key).mono ?_
    rintro e w' ⟨rfl, hb⟩
    refine ⟨_, _, rfl, (hr.later hb).cell (i := 1) rfl, ?_⟩
    refine (rget_any (h0.at_.later hb) key (by omega)).mono ?_
    rintro e2 w2 ⟨rfl, rfl⟩
    exact ⟨rfl, .of_below h (bafter hb0 hb)⟩
  have c0 := hr.cell (i := 0) rfl
  have c1 := hr.cell (i := 1) rfl
  have c2 := hr.cell (i := 2) rfl
  have c3 := hr.cell (i := 3) rfl
  have c4 := hr.cell (i := 4) rfl
  have HW : Hid (W0 = W.alloc (.cells #[.int .i64 3, .string key, .string val, .string to, .int .i64 n] 33)) := hW0
  clear h hr hb0 hW0 h0
  go_enter Try.func13, Try.ntmps13
  go_wp2_with (first
    | (go_at_call 23; rw [← HW.out]; refine HP.out.mono ?_; rintro e W1 ⟨s1, b1, rfl, k1, hC⟩; have HC : Hid (Calls Try.prog 33 #[.pointer (some ⟨r, 0, none⟩), .string key] W1 fun e2 w2 => e2 = .returned (.tuple #[.string s1, .bool b1]) ∧ Bth W p F r fs x w2) := hC; clear hC)
    | (go_at_call 33; refine HC.out.mono ?_; rintro e W2 ⟨rfl, hB⟩; have HB : Hid (Bth W p F r fs x W2) := hB; clear hB))
  go_ret
  exact ⟨ret_bool (by simp), HB.out⟩
set_option maxHeartbeats 4000000 in
theorem one4_both {W : World} {p F r : Nat} {x : Tre} {fs : List Nat} (h : Both W p F r x fs) (key val to : K) (n : Int) (hlen : x.all.length ≤ 100000000) (hk : key.size ≤ maxLen) (hto : to.size ≤ maxLen) (hn : n < 9223372036854775808) :
    Calls Try.prog 13 #[.pointer (some ⟨p, 0, none⟩), .pointer (some ⟨r, 0, none⟩), .agg #[.int .i64 4, .string key, .string val, .string to, .int .i64 n]] W fun e w' => e = .returned (.bool true) ∧ Bth W p F r fs x w' := by
  have hb0 := below_new W (.cells #[.int .i64 4, .string key, .string val, .string to, .int .i64 n] 33)
  obtain ⟨W0, hW0⟩ : ∃ W0, W0 = W.alloc (.cells #[.int .i64 4, .string key, .string val, .string to, .int .i64 n] 33) := ⟨_, rfl⟩
  have hr : Row W0 W.heap.size [.int .i64 4, .string key, .string val, .string to, .int .i64 n] 33 := by rw [hW0]; exact Row.new W _ _
  rw [← hW0] at hb0
  have h0 := h.later hb0
  have HP : Hid (Calls Try.prog 17 #[.pointer (some ⟨p, 0, none⟩), .string key, .string to, .int .i64 n] W0.drew fun e w' => ∃ a1 n1 c1, e = .returned (.slice a1 n1 c1) ∧ (w'.cell? ⟨W.heap.size, 1, none⟩ = some (.string key) ∧ w'.cell? ⟨W.heap.size, 3, none⟩ = some (.string to) ∧ w'.cell? ⟨W.heap.size, 4, none⟩ = some (.int .i64 n)) ∧ Calls Try.prog 34 #[.pointer (some ⟨r, 0, none⟩), .string key, .string to, .int .i64 n] w' fun e2 w2 => ∃ a2 n2 c2, e2 = .returned (.slice a2 n2 c2) ∧ (w2.cell? ⟨W.heap.size, 1, none⟩ = some (.string key) ∧ w2.cell? ⟨W.heap.size, 3, none⟩ = some (.string to) ∧ w2.cell? ⟨W.heap.size, 4, none⟩ = some (.int .i64 n)) ∧ Calls Try.prog 16 #[.slice a1 n1 c1, .slice a2 n2 c2] w2 fun e3 w3 => e3 = .returned (.bool true) ∧ (w3.cell? ⟨W.heap.size, 1, none⟩ = some (.string key) ∧ w3.cell? ⟨W.heap.size, 3, none⟩ = some (.string to) ∧ w3.cell? ⟨W.heap.size, 4, none⟩ = some (.int .i64 n)) ∧ Bth W p F r fs x w3) := by
    have hb := bafter hb0 (below_drawn W0 1)
    have hd := h0.later (below_drawn W0 1)
    have hrd := hr.later (below_drawn W0 1)
    refine (range_all hd.live key to n hn (by omega)).mono ?_
    rintro e w' ⟨v, rfl, hv, hb2⟩
    obtain ⟨a1, c1, e1⟩ := own_slice hv.own
    subst e1
    have hr2 := hrd.later hb2
    refine ⟨_, _, _, rfl, ⟨hr2.cell (i := 1) rfl, hr2.cell (i := 3) rfl, hr2.cell (i := 4) rfl⟩, ?_⟩
    refine (rrange_any (hd.at_.later hb2) hd.rl.size key to hk hto n (by omega)).mono ?_
    rintro e2 w2 ⟨v2, rfl, hv2, hb3⟩
    obtain ⟨a2, c2, e2⟩ := own_slice hv2.own
    subst e2
    have hr3 := hr2.later hb3
    refine ⟨_, _, _, rfl, ⟨hr3.cell (i := 1) rfl, hr3.cell (i := 3) rfl, hr3.cell (i := 4) rfl⟩, ?_⟩
    rw [← rng_take hd.rl.srt] at hv2
    have hll : (rng key to n.toNat x.all).length ≤ 4611686018427387904 := by
      rw [rng_take hd.rl.srt]
      refine Nat.le_trans (List.length_take_le' _ _) (Nat.le_trans (List.length_filter_le _ _) (by omega))
    have hlen2 : ((x.all.filter (qR key to)).take n.toNat).length = (rng key to n.toNat x.all).length := by rw [rng_take hd.rl.srt]
    rw [hlen2]
    refine (same_yes _ _ _ w2 (hv.later hb3) hv2 hll).mono ?_
    rintro e3 w3 ⟨rfl, hb4⟩
    have hr4 := hr3.later hb4
    exact ⟨rfl, ⟨hr4.cell (i := 1) rfl, hr4.cell (i := 3) rfl, hr4.cell (i := 4) rfl⟩, .of_below h (bafter (bafter (bafter hb hb2) hb3) hb4)⟩
  have c0 := hr.cell (i := 0) rfl
  have c1 := hr.cell (i := 1) rfl
  have c2 := hr.cell (i := 2) rfl
  have c3 := hr.cell (i := 3) rfl
  have c4 := hr.cell (i := 4) rfl
  have HW : Hid (W0 = W.alloc (.cells #[.int .i64 4, .string key, .string val, .string to, .int .i64 n] 33)) := hW0
  clear h hr hb0 hW0 h0
  go_enter Try.func13, Try.ntmps13
  go_wp2
  rw [← HW.out]
  go_wp2
  go_region_held3 (fun w' => w'.cell? ⟨W.heap.size, 1, none⟩ = some (.string key) ∧ w'.cell? ⟨W.heap.size, 3, none⟩ = some (.string to) ∧ w'.cell? ⟨W.heap.size, 4, none⟩ = some (.int .i64 n)) (first | assumption | go_keep) (first
    | (go_at_call 17; refine HP.out.mono ?_; rintro e W1 ⟨a1, n1, c1, rfl, k1, hC⟩; have HC : Hid (Calls Try.prog 34 #[.pointer (some ⟨r, 0, none⟩), .string key, .string to, .int .i64 n] W1 fun e2 w2 => ∃ a2 n2 c2, e2 = .returned (.slice a2 n2 c2) ∧ (w2.cell? ⟨W.heap.size, 1, none⟩ = some (.string key) ∧ w2.cell? ⟨W.heap.size, 3, none⟩ = some (.string to) ∧ w2.cell? ⟨W.heap.size, 4, none⟩ = some (.int .i64 n)) ∧ Calls Try.prog 16 #[.slice a1 n1 c1, .slice a2 n2 c2] w2 fun e3 w3 => e3 = .returned (.bool true) ∧ (w3.cell? ⟨W.heap.size, 1, none⟩ = some (.string key) ∧ w3.cell? ⟨W.heap.size, 3, none⟩ = some (.string to) ∧ w3.cell? ⟨W.heap.size, 4, none⟩ = some (.int .i64 n)) ∧ Bth W p F r fs x w3) := hC; clear hC)
    | (go_at_call 34; refine HC.out.mono ?_; rintro e W2 ⟨a2, n2, c2, rfl, k2, hD⟩; have HD : Hid (Calls Try.prog 16 #[.slice a1 n1 c1, .slice a2 n2 c2] W2 fun e3 w3 => e3 = .returned (.bool true) ∧ (w3.cell? ⟨W.heap.size, 1, none⟩ = some (.string key) ∧ w3.cell? ⟨W.heap.size, 3, none⟩ = some (.string to) ∧ w3.cell? ⟨W.heap.size, 4, none⟩ = some (.int .i64 n)) ∧ Bth W p F r fs x w3) := hD; clear hD)
    | (go_at_call 16; refine HD.out.mono ?_; rintro e W3 ⟨rfl, k3, hB⟩; have HB : Hid (Bth W p F r fs x W3) := hB; clear hB))
  go_wp2
  go_ret
  exact ⟨rfl, HB.out⟩
set_option maxHeartbeats 4000000 in
theorem one5_both {W : World} {p F r : Nat} {x : Tre} {fs : List Nat} (h : Both W p F r x fs) (key val to : K) (n : Int) (hlen : x.all.length ≤ 100000000) (hk : key.size ≤ maxLen) :
    Calls Try.prog 13 #[.pointer (some ⟨p, 0, none⟩), .pointer (some ⟨r, 0, none⟩), .agg #[.int .i64 5, .string key, .string val, .string to, .int .i64 n]] W fun e w' => e = .returned (.bool true) ∧ Bth W p F r fs x w' := by
  have hb0 := below_new W (.cells #[.int .i64 5, .string key, .string val, .string to, .int .i64 n] 33)
  obtain ⟨W0, hW0⟩ : ∃ W0, W0 = W.alloc (.cells #[.int .i64 5, .string key, .string val, .string to, .int .i64 n] 33) := ⟨_, rfl⟩
  have hr : Row W0 W.heap.size [.int .i64 5, .string key, .string val, .string to, .int .i64 n] 33 := by rw [hW0]; exact Row.new W _ _
  rw [← hW0] at hb0
  have h0 := h.later hb0
  have HP : Hid (Calls Try.prog 24 #[.pointer (some ⟨p, 0, none⟩), .string key] W0 fun e w' => ∃ s1 s2 b1 b2, e = .returned (.tuple #[.agg #[.string s1, .string s2, .bool b1], .bool b2]) ∧ w'.cell? ⟨W.heap.size, 1, none⟩ = some (.string key) ∧ ∀ X, Below w'.heap.size w' X → Calls Try.prog 35 #[.pointer (some ⟨r, 0, none⟩), .string key] X fun e2 w2 => e2 = .returned (.tuple #[.agg #[.string s1, .string s2, .bool b1], .bool b2]) ∧ Below X.heap.size X w2 ∧ Below W.heap.size W w2) := by
    refine (h0.live.next key).mono ?_
    rintro e w' ⟨rfl, hb⟩
    refine ⟨(nxt key x.all).elim ⟨#[]⟩ Prod.fst, (nxt key x.all).elim ⟨#[]⟩ Prod.snd, false, (nxt key x.all).isSome, ?_, (hr.later hb).cell (i := 1) rfl, fun X hX => ?_⟩
    · cases nxt key x.all <;> rfl
    · refine (rnext_any ((h0.at_.later hb).later hX) h0.rl.size key hk (by omega)).mono ?_
      rintro e2 w2 ⟨rfl, hb2⟩
      refine ⟨?_, hb2, bafter (bafter (bafter hb0 hb) hX) hb2⟩
      cases nxt key x.all <;> rfl
  have HLf : Hid (∀ X, Below W.heap.size W X → Bth W p F r fs x X) := fun X hX => .of_below h hX
  have c0 := hr.cell (i := 0) rfl
  have c1 := hr.cell (i := 1) rfl
  have c2 := hr.cell (i := 2) rfl
  have c3 := hr.cell (i := 3) rfl
  have c4 := hr.cell (i := 4) rfl
  have HW : Hid (W0 = W.alloc (.cells #[.int .i64 5, .string key, .string val, .string to, .int .i64 n] 33)) := hW0
  clear h hr hb0 hW0 h0
  go_enter Try.func13, Try.ntmps13
  go_wp2_with (first
    | (go_at_call 24; rw [← HW.out]; refine HP.out.mono ?_; rintro e W1 ⟨s1, s2, b1, b2, rfl, k1, hC⟩; have HC : Hid (∀ X, Below W1.heap.size W1 X → Calls Try.prog 35 #[.pointer (some ⟨r, 0, none⟩), .string key] X fun e2 w2 => e2 = .returned (.tuple #[.agg #[.string s1, .string s2, .bool b1], .bool b2]) ∧ Below X.heap.size X w2 ∧ Below W.heap.size W w2) := hC; have l1 := World.block_lt_of_cell? W1 _ k1; clear hC)
    | (go_at_call 35; refine (HC.out (W1.alloc (.cells #[.string s1, .string s2, .bool b1] 54)) (below_new W1 _)).mono ?_; rintro e W2 ⟨rfl, hb2, hbw⟩; have HL : Hid (Below W.heap.size W W2) := hbw; have hrw := (Row.new W1 [.string s1, .string s2, .bool b1] 54).later hb2; have z0 := hrw.cell (i := 0) rfl; have z1 := hrw.cell (i := 1) rfl; have z2 := hrw.cell (i := 2) rfl; have l2 := hrw.lt; clear hrw hb2 hbw))
  go_ret
  exact ⟨ret_bool (by simp), HLf.out _ (bafter HL.out (below_new W2 _))⟩
set_option maxHeartbeats 4000000 in
theorem one6_both {W : World} {p F r : Nat} {x : Tre} {fs : List Nat} (h : Both W p F r x fs) (key val to : K) (n : Int) (hlen : x.all.length ≤ 100000000) :
    Calls Try.prog 13 #[.pointer (some ⟨p, 0, none⟩), .pointer (some ⟨r, 0, none⟩), .agg #[.int .i64 6, .string key, .string val, .string to, .int .i64 n]] W fun e w' => e = .returned (.bool true) ∧ Bth W p F r fs x w' := by
  have hb0 := below_new W (.cells #[.int .i64 6, .string key, .string val, .string to, .int .i64 n] 33)
  obtain ⟨W0, hW0⟩ : ∃ W0, W0 = W.alloc (.cells #[.int .i64 6, .string key, .string val, .string to, .int .i64 n] 33) := ⟨_, rfl⟩
  have hr : Row W0 W.heap.size [.int .i64 6, .string key, .string val, .string to, .int .i64 n] 33 := by rw [hW0]; exact Row.new W _ _
  rw [← hW0] at hb0
  have h0 := h.later hb0
  have HP : Hid (Calls Try.prog 22 #[.pointer (some ⟨p, 0, none⟩)] W0 fun e w' => ∃ c, e = .returned (.int .i64 c) ∧ Bth W p F r fs x w') := by
    refine (cleanT_any h0.live (by omega)).mono ?_
    rintro e w' ⟨rfl, hL⟩
    have hR := h0.at_.left h0.live hL
    have e1 : (wipeT x).all = x.all := wipe_flats x.T
    exact ⟨_, rfl, both_fin hb0 hL hR (Kept.refl _ _) (by rw [e1]; exact hR) (by rw [e1]; exact h0.rl) (by rw [e1]; omega) (cl_up _ _ (cl_wipeT h.up))⟩
  have c0 := hr.cell (i := 0) rfl
  have c1 := hr.cell (i := 1) rfl
  have c2 := hr.cell (i := 2) rfl
  have c3 := hr.cell (i := 3) rfl
  have c4 := hr.cell (i := 4) rfl
  have HW : Hid (W0 = W.alloc (.cells #[.int .i64 6, .string key, .string val, .string to, .int .i64 n] 33)) := hW0
  clear h hr hb0 hW0 h0
  go_enter Try.func13, Try.ntmps13
  go_wp2_with (go_at_call 22; rw [← HW.out]; refine HP.out.mono ?_; rintro e W1 ⟨c, rfl, hL⟩; have HL : Hid (Bth W p F r fs x W1) := hL; clear hL)
  go_ret
  exact ⟨rfl, HL.out⟩
set_option maxHeartbeats 4000000 in
theorem one7_both {W : World} {p F r : Nat} {x : Tre} {fs : List Nat} (h : Both W p F r x fs) (key val to : K) (n : Int) (_ : x.all.length ≤ 100000000) (k : Int) (h1 : ¬ k = 1) (h2 : ¬ k = 2) (h3 : ¬ k = 3) (h4 : ¬ k = 4) (h5 : ¬ k = 5) (h6 : ¬ k = 6) :
    Calls Try.prog 13 #[.pointer (some ⟨p, 0, none⟩), .pointer (some ⟨r, 0, none⟩), .agg #[.int .i64 k, .string key, .string val, .string to, .int .i64 n]] W fun e w' => e = .returned (.bool true) ∧ Bth W p F r fs x w' := by
  have hb0 := below_new W (.cells #[.int .i64 k, .string key, .string val, .string to, .int .i64 n] 33)
  obtain ⟨W0, hW0⟩ : ∃ W0, W0 = W.alloc (.cells #[.int .i64 k, .string key, .string val, .string to, .int .i64 n] 33) := ⟨_, rfl⟩
  have hr : Row W0 W.heap.size [.int .i64 k, .string key, .string val, .string to, .int .i64 n] 33 := by rw [hW0]; exact Row.new W _ _
  rw [← hW0] at hb0
  have h0 := h.later hb0
  have HL : Hid (Bth W p F r fs x W0) := .of_below h hb0
  rw [hW0] at HL
  have c0 := hr.cell (i := 0) rfl
  have c1 := hr.cell (i := 1) rfl
  have c2 := hr.cell (i := 2) rfl
  have c3 := hr.cell (i := 3) rfl
  have c4 := hr.cell (i := 4) rfl
  have HW : Hid (W0 = W.alloc (.cells #[.int .i64 k, .string key, .string val, .string to, .int .i64 n] 33)) := hW0
  have e1 : (k == 1) = false := by simpa using h1
  have e2 : (k == 2) = false := by simpa using h2
  have e3 : (k == 3) = false := by simpa using h3
  have e4 : (k == 4) = false := by simpa using h4
  have e5 : (k == 5) = false := by simpa using h5
  have e6 : (k == 6) = false := by simpa using h6
  clear h hr hb0 hW0 h0
  go_enter Try.func13, Try.ntmps13
  go_wp2
  go_ret
  exact ⟨rfl, HL.out⟩
end Go.Proofs.Ytlfgeanafidopaa.Bt
