/-
  A tree's Delete, Len, Height; New.
-/
import Derived.Test.YtpflacbinankmaaBOps
namespace Go.Proofs.Ytpflacbinankmaa.Bt
open Go.RowKit
set_option maxRecDepth 10000

theorem inv_delS {F : Nat} (hF : 4 ≤ F) (k : K) {x : Tre} (h : InvT F x) : InvT F (delS F k x) := by
  unfold delS
  split
  · rename_i hk
    exact (inv_del hF k h ((look_mem k _).1 (Option.isSome_iff_exists.1 hk))).1
  · exact h
set_option maxHeartbeats 4000000 in
theorem del_no {w : World} {p F : Nat} {x : Tre} {fs : List Nat} (h : Live w p F x fs) (k : K) (hl : look k x.all = none) :
    Calls Try.prog 25 #[.pointer (some ⟨p, 0, none⟩), .string k] w fun e w' => e = .returned (.bool false) ∧ Below w.heap.size w w' := by
  have kG := h.get k
  rw [hl] at kG
  replace kG : Calls Try.prog 23 #[.pointer (some ⟨p, 0, none⟩), .string k] w fun e w' => e = .returned (.tuple #[.string ⟨#[]⟩, .bool false]) ∧ Below w.heap.size w w' := kG
  clear h hl
  go_enter Try.func25, Try.ntmps25
  go_wp2_with (go_at_call 23; refine kG.mono ?_; rintro e W1 ⟨rfl, hb⟩)
  go_ret
  exact ⟨rfl, hb⟩
set_option maxHeartbeats 4000000 in
theorem del_yes {w : World} {p F : Nat} {x : Tre} {fs : List Nat} (h : Live w p F x fs) (k v0 : K) (hl : look k x.all = some v0) (hlen : x.all.length < 2305843009213693952) :
    Calls Try.prog 25 #[.pointer (some ⟨p, 0, none⟩), .string k] w fun e w' => e = .returned (.bool true) ∧ Left w p F fs (delT F k x) w' := by
  have kG := h.get k
  rw [hl] at kG
  replace kG : Calls Try.prog 23 #[.pointer (some ⟨p, 0, none⟩), .string k] w fun e w' => e = .returned (.tuple #[.string v0, .bool true]) ∧ Below w.heap.size w w' := kG
  obtain ⟨t, ht, hfs⟩ := h.tr
  have hkm : k ∈ x.all.map Prod.fst := (look_mem k _).1 ⟨v0, hl⟩
  have hdl := del_len k h.srt hkm
  obtain ⟨N, hN⟩ : ∃ N, N = x.all.length := ⟨_, rfl⟩
  have hid := inv_del h.lo k h.inv hkm
  have hsz : (N : Int) - 1 = (((delT F k x).all.length : Nat) : Int) := by rw [hid.2]; omega
  have HW : Hid (∀ W, Below w.heap.size w W → DelW F k w p ((N : Int) - 1) x fs (W.setCell ⟨p, 1, none⟩ (.int .i64 ((N : Int) - 1))) t.h.p) := fun W hb => by
    have hk : Kept (fun b => b = p ∨ b ∈ foot (x.n + 1) t) w (W.setCell ⟨p, 1, none⟩ (.int .i64 ((N : Int) - 1))) := Kept.setCell (S := fun b => b = p ∨ b ∈ foot (x.n + 1) t) (p := ⟨p, 1, none⟩) (Kept.of_below hb) (.inl rfl) _
    have := delW h.lo h.hi k h.inv ((ht.later hb).size ((N : Int) - 1)) (w := w) hk hkm
    rwa [hfs] at this
  have HC : Hid (∀ W, Below w.heap.size w W → W.cell? ⟨p, 1, none⟩ = some (.int .i64 (N : Int)) ∧ W.frozen? ⟨p, 1, none⟩ = false) := fun W hb => by
    obtain ⟨_, q1, _, q2, _⟩ := (ht.later hb).cells
    rw [← hN] at q1
    exact ⟨q1, q2 1⟩
  have HF : Hid (∀ W4, Chg w p F fs ((N : Int) - 1) (delT F k x) W4 → Left w p F fs (delT F k x) W4) := fun W4 c => by
    obtain ⟨⟨fs', h1, h2⟩, h3⟩ := c
    rw [hsz] at h1
    exact ⟨⟨fs', ⟨h1, hid.1, h.lo, h.hi⟩, h2⟩, h3⟩
  have hN2 : (N : Int) < 2305843009213693952 := by omega
  have hN3 : (1 : Int) ≤ (N : Int) := by omega
  generalize t.h.p = rp at *
  clear h hl ht hfs hsz hN hlen hid hdl hkm
  go_enter Try.func25, Try.ntmps25
  go_wp2_with (go_at_call 23; refine kG.mono ?_; rintro e W1 ⟨rfl, hb⟩; obtain ⟨c1, f1⟩ := HC.out W1 hb; have HB1 : Hid (Below w.heap.size w W1) := hb; clear hb)
  refine wp_at (W1.setCell ⟨p, 1, none⟩ (.int .i64 ((N : Int) - 1))) rfl ?_
  have HP : Hid (DelW F k w p ((N : Int) - 1) x fs (W1.setCell ⟨p, 1, none⟩ (.int .i64 ((N : Int) - 1))) rp) := HW.out W1 HB1.out
  obtain ⟨c0, c2⟩ := HP.out.cells
  generalize W1.setCell ⟨p, 1, none⟩ (.int .i64 ((N : Int) - 1)) = W2 at *
  clear c1 f1
  go_region_held3 (fun w' => w'.cell? ⟨p, 0, none⟩ = some (.int .i64 (F : Nat)) ∧ w'.cell? ⟨p, 2, none⟩ = some (.pointer (some ⟨rp, 0, none⟩))) (first | assumption | go_keep)
    (first
    | (go_at_call 49; refine (HP.out.rem _ (below_drawn W2 1)).mono ?_; rintro e W3 ⟨rfl, ⟨d0, r, d2, hr⟩, kGr⟩; clear hr))
  all_goals go_wp2_with (go_at_call 50; refine kGr.mono ?_; rintro e W4 ⟨rfl, hc⟩)
  all_goals go_ret
  all_goals exact ⟨rfl, HF.out _ hc⟩
theorem delT_any {w : World} {p F : Nat} {x : Tre} {fs : List Nat} (h : Live w p F x fs) (k : K) (hlen : x.all.length < 2305843009213693952) :
    Calls Try.prog 25 #[.pointer (some ⟨p, 0, none⟩), .string k] w fun e w' => e = .returned (.bool (look k x.all).isSome) ∧ Left w p F fs (delS F k x) w' := by
  unfold delS
  cases hl : look k x.all with
  | none =>
    refine (del_no h k hl).mono ?_
    rintro e w' ⟨rfl, hb⟩
    exact ⟨rfl, by simpa using h.left hb⟩
  | some v0 => exact del_yes h k v0 hl hlen
set_option maxHeartbeats 1000000 in
theorem len_any {w : World} {p F : Nat} {x : Tre} {fs : List Nat} (h : Live w p F x fs) :
    Calls Try.prog 14 #[.pointer (some ⟨p, 0, none⟩)] w fun e w' => e = .returned (.int .i64 ((x.all.length : Nat) : Int)) ∧ w = w' := by
  obtain ⟨t, ht, _⟩ := h.tr
  obtain ⟨_, c1, _⟩ := ht.cells
  clear h ht
  go_enter Try.func14, Try.ntmps14
  go_wp2
  go_ret
  exact ⟨rfl, rfl⟩
set_option maxHeartbeats 1000000 in
theorem height_any {w : World} {p F : Nat} {x : Tre} {fs : List Nat} (h : Live w p F x fs) (hlen : x.all.length < 2305843009213693952) :
    Calls Try.prog 21 #[.pointer (some ⟨p, 0, none⟩)] w fun e w' => e = .returned (.int .i64 ((x.n : Int) + 1)) ∧ w = w' := by
  obtain ⟨t, ht, _⟩ := h.tr
  obtain ⟨_, _, c2, _, c4, _⟩ := ht.cells
  have hlv := inv_level h.lo h.inv
  have hn : (x.n : Int) < 2305843009213693952 := by have hl : x.n ≤ x.all.length := hlv; omega
  have hn2 : (0 : Int) ≤ (x.n : Int) := by omega
  clear h ht hlv
  generalize t.h.p = rp at *
  go_enter Try.func21, Try.ntmps21
  go_wp2
  go_ret
  exact ⟨rfl, rfl⟩
def tre0 : Tre := ⟨0, .nd true []⟩
theorem inv0 {F : Nat} : InvT F tre0 := ⟨⟨fun e he => (by cases he), List.Pairwise.nil⟩, Nat.zero_le _, fun h => (by have h : 0 < 0 := h; omega)⟩
set_option maxHeartbeats 1000000 in
theorem new_bad (f : Int) (w : World) (h : okFan f = false) :
    Calls Try.prog 28 #[.int .i64 f] w fun e w' => e = .returned (.tuple #[.pointer none, .int .i64 22]) ∧ w = w' := by
  have kF := (rightFan_any f w).mono (fun _ _ ⟨a, b⟩ => (⟨a, b.symm⟩ : _ ∧ w = _))
  rw [h] at kF
  clear h
  go_enter Try.func28, Try.ntmps28
  go_wp2_with (go_at_call 55; refine kF.mono ?_; rintro e w' ⟨rfl, rfl⟩)
  go_ret2
  exact ⟨rfl, rfl⟩
set_option maxHeartbeats 1000000 in
theorem new_ok (F : Nat) (w : World) (h1 : 4 ≤ F) (h2 : F ≤ 64) :
    Calls Try.prog 28 #[.int .i64 (F : Nat)] w fun e w' => ∃ p fs, e = .returned (.tuple #[.pointer (some ⟨p, 0, none⟩), .int .i64 0]) ∧ Below w.heap.size w w' ∧ Live w' p F tre0 fs ∧ w.heap.size ≤ p ∧ ∀ b ∈ fs, w.heap.size ≤ b := by
  have kF := (rightFan_any (F : Nat) w).mono (fun _ _ ⟨a, b⟩ => (⟨a, b.symm⟩ : _ ∧ w = _))
  rw [show okFan ((F : Nat) : Int) = true by unfold okFan; simp; omega] at kF
  have fin : ∀ W, W = (w.alloc (.cells #[.int .i64 0, .slice none 0 0, .bool true] 74)).alloc (.cells #[.int .i64 (F : Nat), .int .i64 0, .pointer (some ⟨w.heap.size, 0, none⟩)] 67) → Below w.heap.size w W ∧ Live W (w.heap.size + 1) F tre0 [w.heap.size] := by
    rintro W rfl
    obtain ⟨W1, hW1⟩ : ∃ W1, W1 = w.alloc (.cells #[.int .i64 0, .slice none 0 0, .bool true] 74) := ⟨_, rfl⟩
    rw [← hW1]
    have hz : W1.heap.size = w.heap.size + 1 := by rw [hW1]; simp
    have hr : Row W1 w.heap.size [.int .i64 0, .slice none 0 0, .bool true] 74 := by rw [hW1]; exact Row.new w _ _
    refine ⟨bafter (by rw [hW1]; exact below_new w _) (below_new W1 _), ⟨⟨En.nd (n := 0) ⟨w.heap.size, .slice none 0 0, true⟩ [], ⟨?_, ⟨⟨hr.later (below_new W1 _), World.ownsRow_nil _ 0 _ 3⟩, fun e he => (by cases he)⟩, (by show [w.heap.size].Nodup; simp), rfl⟩, rfl⟩, inv0, h1, h2⟩⟩
    have := Row.new W1 [.int .i64 (F : Nat), .int .i64 0, .pointer (some ⟨w.heap.size, 0, none⟩)] 67
    rw [hz] at this
    exact this
  have HF : Hid (∀ W, W = (w.alloc (.cells #[.int .i64 0, .slice none 0 0, .bool true] 74)).alloc (.cells #[.int .i64 (F : Nat), .int .i64 0, .pointer (some ⟨w.heap.size, 0, none⟩)] 67) → Below w.heap.size w W ∧ Live W (w.heap.size + 1) F tre0 [w.heap.size]) := fin
  clear fin
  go_enter Try.func28, Try.ntmps28
  go_wp2_with (go_at_call 55; refine kF.mono ?_; rintro e w' ⟨rfl, rfl⟩)
  go_ret2
  exact ⟨w.heap.size + 1, [w.heap.size], rfl, (HF.out _ rfl).1, (HF.out _ rfl).2, by omega, fun b hb => by simp at hb; omega⟩
end Go.Proofs.Ytpflacbinankmaa.Bt
