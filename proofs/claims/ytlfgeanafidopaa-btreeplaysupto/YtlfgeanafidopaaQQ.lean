/-
  A tree's Put, Delete, Len, Height; New.
  A tree's Delete, Len, Height; New.
-/
import Derived.Test.YtlfgeanafidopaaQP
namespace Go.Proofs.Ytlfgeanafidopaa.Bt
open Go.RowKit
set_option maxRecDepth 10000

/-- A tree as it lies, sound, with its own size. -/
structure Live (w : World) (p F : Nat) (x : Tre) (fs : List Nat) : Prop where
  tr : Tr w p F ((x.all.length : Nat) : Int) x fs
  inv : InvT F x
  lo : 4 ≤ F
  hi : F ≤ 64
theorem rKey (k : K) (w : World) : Calls Try.prog 51 #[.string k] w fun e w' => e = .returned (.bool (okKey k)) ∧ w = w' := (rightKey_any k w).mono fun _ _ ⟨a, b⟩ => ⟨a, b.symm⟩
theorem rVal (v : K) (w : World) : Calls Try.prog 52 #[.string v] w fun e w' => e = .returned (.bool (okVal v)) ∧ w = w' := (rightValue_any v w).mono fun _ _ ⟨a, b⟩ => ⟨a, b.symm⟩
theorem Live.srt {w : World} {p F : Nat} {x : Tre} {fs : List Nat} (h : Live w p F x fs) : Srt x.all := h.inv.good.srt
theorem Live.later {w w' : World} {p F : Nat} {x : Tre} {fs : List Nat} (h : Live w p F x fs) (hb : Below w.heap.size w w') : Live w' p F x fs := ⟨h.tr.later hb, h.inv, h.lo, h.hi⟩
/-- What a call leaves of a tree that it may have changed. -/
structure Left (w : World) (p F : Nat) (fs : List Nat) (x' : Tre) (w' : World) : Prop where
  live : ∃ fs', Live w' p F x' fs' ∧ ∀ b ∈ fs', b ∈ fs ∨ w.heap.size ≤ b
  kept : Kept (fun b => b = p ∨ b ∈ fs) w w'
theorem Live.left {w w' : World} {p F : Nat} {x : Tre} {fs : List Nat} (h : Live w p F x fs) (hb : Below w.heap.size w w') : Left w p F fs x w' := ⟨⟨fs, h.later hb, fun _ q => .inl q⟩, Kept.of_below hb⟩
theorem Live.get {w : World} {p F : Nat} {x : Tre} {fs : List Nat} (h : Live w p F x fs) (k : K) : Calls Try.prog 23 #[.pointer (some ⟨p, 0, none⟩), .string k] w fun e w' => e = .returned (gotV (look k x.all)) ∧ Below w.heap.size w w' := by
  obtain ⟨t, h1, _⟩ := h.tr
  have := get_any h.lo h.hi k p x.n t w h1.tree (h.inv.of h1)
  rwa [show flats (abs (x.n + 1) t).l = x.all by rw [h1.abs]; rfl] at this
theorem inv_putS {F : Nat} (hF : 4 ≤ F) (k v : K) {x : Tre} (h : InvT F x) : InvT F (putS F k v x) := by
  unfold putS
  split
  · exact h
  · exact (inv_put hF k v h).1
set_option maxHeartbeats 4000000 in
theorem put_bad (w : World) (p : Nat) (k v : K) (hk : (okKey k && okVal v) = false) :
    Calls Try.prog 26 #[.pointer (some ⟨p, 0, none⟩), .string k, .string v] w fun e w' => e = .returned (.int .i64 22) ∧ Below w.heap.size w w' := by
  have kK := rKey k w
  have kV := rVal v w
  cases h1 : okKey k with
  | false =>
    rw [h1] at kK
    clear hk h1
    go_enter Try.func26, Try.ntmps26
    go_wp2_with (go_at_call 51; refine kK.mono ?_; rintro e w' ⟨rfl, rfl⟩)
    go_ret
    exact ⟨rfl, Below.refl _ _⟩
  | true =>
    rw [h1, Bool.true_and] at hk
    rw [h1] at kK
    rw [hk] at kV
    clear hk h1
    go_enter Try.func26, Try.ntmps26
    go_wp2_with (first
      | (go_at_call 51; refine kK.mono ?_; rintro e w' ⟨rfl, rfl⟩)
      | (go_at_call 52; refine kV.mono ?_; rintro e w' ⟨rfl, rfl⟩))
    go_ret
    exact ⟨rfl, Below.refl _ _⟩
set_option maxHeartbeats 4000000 in
theorem put_same {w : World} {p F : Nat} {x : Tre} {fs : List Nat} (h : Live w p F x fs) (k v : K) (hk : okKey k = true) (hv : okVal v = true) (hl : look k x.all = some v) :
    Calls Try.prog 26 #[.pointer (some ⟨p, 0, none⟩), .string k, .string v] w fun e w' => e = .returned (.int .i64 0) ∧ Below w.heap.size w w' := by
  have kK := rKey k w
  have kV := rVal v w
  have kG := h.get k
  rw [hk] at kK
  rw [hv] at kV
  rw [hl] at kG
  have kG : Calls Try.prog 23 #[.pointer (some ⟨p, 0, none⟩), .string k] w fun e w' => e = .returned (.tuple #[.string v, .bool true]) ∧ Below w.heap.size w w' := kG
  clear h hk hv hl
  go_enter Try.func26, Try.ntmps26
  go_wp2_with (first
    | (go_at_call 51; refine kK.mono ?_; rintro e w' ⟨rfl, rfl⟩)
    | (go_at_call 52; refine kV.mono ?_; rintro e w' ⟨rfl, rfl⟩)
    | (go_at_call 23; refine kG.mono ?_; rintro e W1 ⟨rfl, hb⟩))
  go_ret
  exact ⟨rfl, hb⟩
/-- The tree behind a put that changes it. -/
theorem put_fin {F : Nat} {w : World} {p : Nat} {x : Tre} {fs : List Nat} (h : Live w p F x fs) (k v : K) (sz : Int) (hsz : sz = (((putT F k v x).all.length : Nat) : Int)) {W4 : World} (c : Chg w p F fs sz (putT F k v x) W4) : Left w p F fs (putT F k v x) W4 := by
  obtain ⟨⟨fs', h1, h2⟩, h3⟩ := c
  rw [hsz] at h1
  exact ⟨⟨fs', ⟨h1, (inv_put h.lo k v h.inv).1, h.lo, h.hi⟩, h2⟩, h3⟩
set_option maxHeartbeats 4000000 in
theorem put_over {w : World} {p F : Nat} {x : Tre} {fs : List Nat} (h : Live w p F x fs) (k v v0 : K) (hk : okKey k = true) (hv : okVal v = true) (hl : look k x.all = some v0) (hne : v0 ≠ v) (hlen : x.all.length < 2305843009213693952) :
    Calls Try.prog 26 #[.pointer (some ⟨p, 0, none⟩), .string k, .string v] w fun e w' => e = .returned (.int .i64 0) ∧ Left w p F fs (putT F k v x) w' := by
  have kK := rKey k w
  have kV := rVal v w
  have kG := h.get k
  rw [hk] at kK
  rw [hv] at kV
  rw [hl] at kG
  replace kG : Calls Try.prog 23 #[.pointer (some ⟨p, 0, none⟩), .string k] w fun e w' => e = .returned (.tuple #[.string v0, .bool true]) ∧ Below w.heap.size w w' := kG
  obtain ⟨t, ht, hfs⟩ := h.tr
  have hsz : ((x.all.length : Nat) : Int) = (((putT F k v x).all.length : Nat) : Int) := by rw [(inv_put h.lo k v h.inv).2, ins_len k v _ h.srt, hl]; rfl
  have HW : Hid (∀ W, Below w.heap.size w W → PutW F k v w p ((x.all.length : Nat) : Int) x fs W t.h.p) := fun W hb => by
    have := putW h.lo h.hi k v h.inv (ht.later hb) (w := w) (Kept.of_below hb) hlen
    rwa [hfs] at this
  have HF : Hid (∀ W4, Chg w p F fs ((x.all.length : Nat) : Int) (putT F k v x) W4 → Left w p F fs (putT F k v x) W4) := fun W4 c => put_fin h k v _ hsz c
  have e1 : (v0.toList == v.toList) = false := by rw [keq]; simp [hne]
  generalize t.h.p = rp at *
  clear h hk hv hl ht hfs hsz hne
  go_enter Try.func26, Try.ntmps26
  go_wp2_with (first
    | (go_at_call 51; refine kK.mono ?_; rintro e w' ⟨rfl, rfl⟩)
    | (go_at_call 52; refine kV.mono ?_; rintro e w' ⟨rfl, rfl⟩)
    | (go_at_call 23; refine kG.mono ?_; rintro e W1 ⟨rfl, hb⟩; obtain ⟨c0, c2⟩ := (HW.out W1 hb).cells; have HP : Hid (PutW _ _ _ _ _ _ _ _ W1 _) := HW.out W1 hb; clear hb))
  go_region_held3 (fun w' => w'.cell? ⟨p, 0, none⟩ = some (.int .i64 (F : Nat)) ∧ w'.cell? ⟨p, 2, none⟩ = some (.pointer (some ⟨rp, 0, none⟩))) (first | assumption | go_keep)
    (first
    | (go_at_call 53; refine (HP.out.put _ (below_drawn W1 1)).mono ?_; rintro e W3 ⟨rfl, ⟨d0, r, d2, hr⟩, kGr⟩; clear hr))
  all_goals go_wp2_with (go_at_call 54; refine kGr.mono ?_; rintro e W4 ⟨rfl, hc⟩)
  all_goals go_ret
  all_goals exact ⟨rfl, HF.out _ hc⟩
set_option maxHeartbeats 4000000 in
theorem put_new {w : World} {p F : Nat} {x : Tre} {fs : List Nat} (h : Live w p F x fs) (k v : K) (hk : okKey k = true) (hv : okVal v = true) (hl : look k x.all = none) (hlen : x.all.length < 2305843009213693952) :
    Calls Try.prog 26 #[.pointer (some ⟨p, 0, none⟩), .string k, .string v] w fun e w' => e = .returned (.int .i64 0) ∧ Left w p F fs (putT F k v x) w' := by
  have kK := rKey k w
  have kV := rVal v w
  have kG := h.get k
  rw [hk] at kK
  rw [hv] at kV
  rw [hl] at kG
  replace kG : Calls Try.prog 23 #[.pointer (some ⟨p, 0, none⟩), .string k] w fun e w' => e = .returned (.tuple #[.string ⟨#[]⟩, .bool false]) ∧ Below w.heap.size w w' := kG
  obtain ⟨t, ht, hfs⟩ := h.tr
  have hsz : ((x.all.length : Nat) : Int) + 1 = (((putT F k v x).all.length : Nat) : Int) := by rw [(inv_put h.lo k v h.inv).2, ins_len k v _ h.srt, hl]; simp
  obtain ⟨N, hN⟩ : ∃ N, N = x.all.length := ⟨_, rfl⟩
  rw [← hN] at hsz
  have HW : Hid (∀ W, Below w.heap.size w W → PutW F k v w p ((N : Int) + 1) x fs (W.setCell ⟨p, 1, none⟩ (.int .i64 ((N : Int) + 1))) t.h.p) := fun W hb => by
    have hk : Kept (fun b => b = p ∨ b ∈ foot (x.n + 1) t) w (W.setCell ⟨p, 1, none⟩ (.int .i64 ((N : Int) + 1))) := Kept.setCell (S := fun b => b = p ∨ b ∈ foot (x.n + 1) t) (p := ⟨p, 1, none⟩) (Kept.of_below hb) (.inl rfl) _
    have := putW h.lo h.hi k v h.inv ((ht.later hb).size ((N : Int) + 1)) (w := w) hk hlen
    rwa [hfs] at this
  have HC : Hid (∀ W, Below w.heap.size w W → W.cell? ⟨p, 1, none⟩ = some (.int .i64 (N : Int)) ∧ W.frozen? ⟨p, 1, none⟩ = false) := fun W hb => by
    obtain ⟨_, q1, _, q2, _⟩ := (ht.later hb).cells
    rw [← hN] at q1
    exact ⟨q1, q2 1⟩
  have HF : Hid (∀ W4, Chg w p F fs ((N : Int) + 1) (putT F k v x) W4 → Left w p F fs (putT F k v x) W4) := fun W4 c => put_fin h k v _ hsz c
  have hN2 : (N : Int) < 2305843009213693952 := by omega
  have hN3 : (0 : Int) ≤ (N : Int) := by omega
  generalize t.h.p = rp at *
  clear h hk hv hl ht hfs hsz hN hlen
  go_enter Try.func26, Try.ntmps26
  go_wp2_with (first
    | (go_at_call 51; refine kK.mono ?_; rintro e w' ⟨rfl, rfl⟩)
    | (go_at_call 52; refine kV.mono ?_; rintro e w' ⟨rfl, rfl⟩)
    | (go_at_call 23; refine kG.mono ?_; rintro e W1 ⟨rfl, hb⟩; obtain ⟨c1, f1⟩ := HC.out W1 hb; have HB1 : Hid (Below w.heap.size w W1) := hb; clear hb))
  refine wp_at (W1.setCell ⟨p, 1, none⟩ (.int .i64 ((N : Int) + 1))) rfl ?_
  have HP : Hid (PutW F k v w p ((N : Int) + 1) x fs (W1.setCell ⟨p, 1, none⟩ (.int .i64 ((N : Int) + 1))) rp) := HW.out W1 HB1.out
  obtain ⟨c0, c2⟩ := HP.out.cells
  generalize W1.setCell ⟨p, 1, none⟩ (.int .i64 ((N : Int) + 1)) = W2 at *
  clear c1 f1
  go_region_held3 (fun w' => w'.cell? ⟨p, 0, none⟩ = some (.int .i64 (F : Nat)) ∧ w'.cell? ⟨p, 2, none⟩ = some (.pointer (some ⟨rp, 0, none⟩))) (first | assumption | go_keep)
    (first
    | (go_at_call 53; refine (HP.out.put _ (below_drawn W2 1)).mono ?_; rintro e W3 ⟨rfl, ⟨d0, r, d2, hr⟩, kGr⟩; clear hr))
  all_goals go_wp2_with (go_at_call 54; refine kGr.mono ?_; rintro e W4 ⟨rfl, hc⟩)
  all_goals go_ret
  all_goals exact ⟨rfl, HF.out _ hc⟩
theorem putT_any {w : World} {p F : Nat} {x : Tre} {fs : List Nat} (h : Live w p F x fs) (k v : K) (hlen : x.all.length < 2305843009213693952) :
    Calls Try.prog 26 #[.pointer (some ⟨p, 0, none⟩), .string k, .string v] w fun e w' => e = .returned (.int .i64 (putE k v)) ∧ Left w p F fs (putR F k v x) w' := by
  unfold putE putR
  cases hk : okKey k with
  | false =>
    simp only [Bool.false_and, Bool.false_eq_true, if_false]
    refine (put_bad w p k v (by rw [hk]; rfl)).mono ?_
    rintro e w' ⟨rfl, hb⟩
    exact ⟨rfl, h.left hb⟩
  | true =>
    cases hv : okVal v with
    | false =>
      simp only [Bool.and_false, Bool.false_eq_true, if_false]
      refine (put_bad w p k v (by rw [hv]; simp)).mono ?_
      rintro e w' ⟨rfl, hb⟩
      exact ⟨rfl, h.left hb⟩
    | true =>
      simp only [Bool.and_self, if_true]
      unfold putS
      cases hl : look k x.all with
      | none => rw [if_neg (by simp)]; exact put_new h k v hk hv hl hlen
      | some v0 =>
        by_cases hne : v0 = v
        · subst hne
          rw [if_pos rfl]
          refine (put_same h k v0 hk hv hl).mono ?_
          rintro e w' ⟨rfl, hb⟩
          exact ⟨rfl, h.left hb⟩
        · rw [if_neg (by simpa using hne)]
          exact put_over h k v v0 hk hv hl hne hlen
end Go.Proofs.Ytlfgeanafidopaa.Bt
namespace Go.Proofs.Ytlfgeanafidopaa.Bt
open Go.RowKit
set_option maxRecDepth 10000

theorem inv_delS {F : Nat} (hF : 4 ≤ F) (k : K) {x : Tre} (h : InvT F x) : InvT F (delS F k x) := by
  unfold delS
  split
  · rename_i hk
    exact (inv_del hF k h ((look_mem k _).1 (Option.isSome_iff_exists.1 hk))).1
  · exact h
set_option maxHeartbeats 4000000 in
theorem del_no {w : World} {p F : Nat} {x : Tre} {fs : List Nat} (h : Live w p F x fs) (k : K) (hl : look k x.all = none) :
    Calls Try.prog 25 #[.pointer (some ⟨p, 0, none⟩), .string k] w fun e w' => e = .returned (.bool false) ∧ Below w.heap.size w w' := by
  have kG := h.get k
  rw [hl] at kG
  replace kG : Calls Try.prog 23 #[.pointer (some ⟨p, 0, none⟩), .string k] w fun e w' => e = .returned (.tuple #[.string ⟨#[]⟩, .bool false]) ∧ Below w.heap.size w w' := kG
  clear h hl
  go_enter Try.func25, Try.ntmps25
  go_wp2_with (go_at_call 23; refine kG.mono ?_; rintro e W1 ⟨rfl, hb⟩)
  go_ret
  exact ⟨rfl, hb⟩
set_option maxHeartbeats 4000000 in
theorem del_yes {w : World} {p F : Nat} {x : Tre} {fs : List Nat} (h : Live w p F x fs) (k v0 : K) (hl : look k x.all = some v0) (hlen : x.all.length < 2305843009213693952) :
    Calls Try.prog 25 #[.pointer (some ⟨p, 0, none⟩), .string k] w fun e w' => e = .returned (.bool true) ∧ Left w p F fs (delT F k x) w' := by
  have kG := h.get k
  rw [hl] at kG
  replace kG : Calls Try.prog 23 #[.pointer (some ⟨p, 0, none⟩), .string k] w fun e w' => e = .returned (.tuple #[.string v0, .bool true]) ∧ Below w.heap.size w w' := kG
  obtain ⟨t, ht, hfs⟩ := h.tr
  have hkm : k ∈ x.all.map Prod.fst := (look_mem k _).1 ⟨v0, hl⟩
  have hdl := del_len k h.srt hkm
  obtain ⟨N, hN⟩ : ∃ N, N = x.all.length := ⟨_, rfl⟩
  have hid := inv_del h.lo k h.inv hkm
  have hsz : (N : Int) - 1 = (((delT F k x).all.length : Nat) : Int) := by rw [hid.2]; omega
  have HW : Hid (∀ W, Below w.heap.size w W → DelW F k w p ((N : Int) - 1) x fs (W.setCell ⟨p, 1, none⟩ (.int .i64 ((N : Int) - 1))) t.h.p) := fun W hb => by
    have hk : Kept (fun b => b = p ∨ b ∈ foot (x.n + 1) t) w (W.setCell ⟨p, 1, none⟩ (.int .i64 ((N : Int) - 1))) := Kept.setCell (S := fun b => b = p ∨ b ∈ foot (x.n + 1) t) (p := ⟨p, 1, none⟩) (Kept.of_below hb) (.inl rfl) _
    have := delW h.lo h.hi k h.inv ((ht.later hb).size ((N : Int) - 1)) (w := w) hk hkm
    rwa [hfs] at this
  have HC : Hid (∀ W, Below w.heap.size w W → W.cell? ⟨p, 1, none⟩ = some (.int .i64 (N : Int)) ∧ W.frozen? ⟨p, 1, none⟩ = false) := fun W hb => by
    obtain ⟨_, q1, _, q2, _⟩ := (ht.later hb).cells
    rw [← hN] at q1
    exact ⟨q1, q2 1⟩
  have HF : Hid (∀ W4, Chg w p F fs ((N : Int) - 1) (delT F k x) W4 → Left w p F fs (delT F k x) W4) := fun W4 c => by
    obtain ⟨⟨fs', h1, h2⟩, h3⟩ := c
    rw [hsz] at h1
    exact ⟨⟨fs', ⟨h1, hid.1, h.lo, h.hi⟩, h2⟩, h3⟩
  have hN2 : (N : Int) < 2305843009213693952 := by omega
  have hN3 : (1 : Int) ≤ (N : Int) := by omega
  generalize t.h.p = rp at *
  clear h hl ht hfs hsz hN hlen hid hdl hkm
  go_enter Try.func25, Try.ntmps25
  go_wp2_with (go_at_call 23; refine kG.mono ?_; rintro e W1 ⟨rfl, hb⟩; obtain ⟨c1, f1⟩ := HC.out W1 hb; have HB1 : Hid (Below w.heap.size w W1) := hb; clear hb)
  refine wp_at (W1.setCell ⟨p, 1, none⟩ (.int .i64 ((N : Int) - 1))) rfl ?_
  have HP : Hid (DelW F k w p ((N : Int) - 1) x fs (W1.setCell ⟨p, 1, none⟩ (.int .i64 ((N : Int) - 1))) rp) := HW.out W1 HB1.out
  obtain ⟨c0, c2⟩ := HP.out.cells
  generalize W1.setCell ⟨p, 1, none⟩ (.int .i64 ((N : Int) - 1)) = W2 at *
  clear c1 f1
  go_region_held3 (fun w' => w'.cell? ⟨p, 0, none⟩ = some (.int .i64 (F : Nat)) ∧ w'.cell? ⟨p, 2, none⟩ = some (.pointer (some ⟨rp, 0, none⟩))) (first | assumption | go_keep)
    (first
    | (go_at_call 49; refine (HP.out.rem _ (below_drawn W2 1)).mono ?_; rintro e W3 ⟨rfl, ⟨d0, r, d2, hr⟩, kGr⟩; clear hr))
  all_goals go_wp2_with (go_at_call 50; refine kGr.mono ?_; rintro e W4 ⟨rfl, hc⟩)
  all_goals go_ret
  all_goals exact ⟨rfl, HF.out _ hc⟩
theorem delT_any {w : World} {p F : Nat} {x : Tre} {fs : List Nat} (h : Live w p F x fs) (k : K) (hlen : x.all.length < 2305843009213693952) :
    Calls Try.prog 25 #[.pointer (some ⟨p, 0, none⟩), .string k] w fun e w' => e = .returned (.bool (look k x.all).isSome) ∧ Left w p F fs (delS F k x) w' := by
  unfold delS
  cases hl : look k x.all with
  | none =>
    refine (del_no h k hl).mono ?_
    rintro e w' ⟨rfl, hb⟩
    exact ⟨rfl, by simpa using h.left hb⟩
  | some v0 => exact del_yes h k v0 hl hlen
set_option maxHeartbeats 1000000 in
theorem len_any {w : World} {p F : Nat} {x : Tre} {fs : List Nat} (h : Live w p F x fs) :
    Calls Try.prog 14 #[.pointer (some ⟨p, 0, none⟩)] w fun e w' => e = .returned (.int .i64 ((x.all.length : Nat) : Int)) ∧ w = w' := by
  obtain ⟨t, ht, _⟩ := h.tr
  obtain ⟨_, c1, _⟩ := ht.cells
  clear h ht
  go_enter Try.func14, Try.ntmps14
  go_wp2
  go_ret
  exact ⟨rfl, rfl⟩
set_option maxHeartbeats 1000000 in
theorem height_any {w : World} {p F : Nat} {x : Tre} {fs : List Nat} (h : Live w p F x fs) (hlen : x.all.length < 2305843009213693952) :
    Calls Try.prog 21 #[.pointer (some ⟨p, 0, none⟩)] w fun e w' => e = .returned (.int .i64 ((x.n : Int) + 1)) ∧ w = w' := by
  obtain ⟨t, ht, _⟩ := h.tr
  obtain ⟨_, _, c2, _, c4, _⟩ := ht.cells
  have hlv := inv_level h.lo h.inv
  have hn : (x.n : Int) < 2305843009213693952 := by have hl : x.n ≤ x.all.length := hlv; omega
  have hn2 : (0 : Int) ≤ (x.n : Int) := by omega
  clear h ht hlv
  generalize t.h.p = rp at *
  go_enter Try.func21, Try.ntmps21
  go_wp2
  go_ret
  exact ⟨rfl, rfl⟩
def tre0 : Tre := ⟨0, .nd true []⟩
theorem inv0 {F : Nat} : InvT F tre0 := ⟨⟨fun e he => (by cases he), List.Pairwise.nil⟩, Nat.zero_le _, fun h => (by have h : 0 < 0 := h; omega)⟩
set_option maxHeartbeats 1000000 in
theorem new_bad (f : Int) (w : World) (h : okFan f = false) :
    Calls Try.prog 28 #[.int .i64 f] w fun e w' => e = .returned (.tuple #[.pointer none, .int .i64 22]) ∧ w = w' := by
  have kF := (rightFan_any f w).mono (fun _ _ ⟨a, b⟩ => (⟨a, b.symm⟩ : _ ∧ w = _))
  rw [h] at kF
  clear h
  go_enter Try.func28, Try.ntmps28
  go_wp2_with (go_at_call 55; refine kF.mono ?_; rintro e w' ⟨rfl, rfl⟩)
  go_ret2
  exact ⟨rfl, rfl⟩
set_option maxHeartbeats 1000000 in
theorem new_ok (F : Nat) (w : World) (h1 : 4 ≤ F) (h2 : F ≤ 64) :
    Calls Try.prog 28 #[.int .i64 (F : Nat)] w fun e w' => ∃ p fs, e = .returned (.tuple #[.pointer (some ⟨p, 0, none⟩), .int .i64 0]) ∧ Below w.heap.size w w' ∧ Live w' p F tre0 fs ∧ w.heap.size ≤ p ∧ ∀ b ∈ fs, w.heap.size ≤ b := by
  have kF := (rightFan_any (F : Nat) w).mono (fun _ _ ⟨a, b⟩ => (⟨a, b.symm⟩ : _ ∧ w = _))
  rw [show okFan ((F : Nat) : Int) = true by unfold okFan; simp; omega] at kF
  have fin : ∀ W, W = (w.alloc (.cells #[.int .i64 0, .slice none 0 0, .bool true] 74)).alloc (.cells #[.int .i64 (F : Nat), .int .i64 0, .pointer (some ⟨w.heap.size, 0, none⟩)] 67) → Below w.heap.size w W ∧ Live W (w.heap.size + 1) F tre0 [w.heap.size] := by
    rintro W rfl
    obtain ⟨W1, hW1⟩ : ∃ W1, W1 = w.alloc (.cells #[.int .i64 0, .slice none 0 0, .bool true] 74) := ⟨_, rfl⟩
    rw [← hW1]
    have hz : W1.heap.size = w.heap.size + 1 := by rw [hW1]; simp
    have hr : Row W1 w.heap.size [.int .i64 0, .slice none 0 0, .bool true] 74 := by rw [hW1]; exact Row.new w _ _
    refine ⟨bafter (by rw [hW1]; exact below_new w _) (below_new W1 _), ⟨⟨En.nd (n := 0) ⟨w.heap.size, .slice none 0 0, true⟩ [], ⟨?_, ⟨⟨hr.later (below_new W1 _), World.ownsRow_nil _ 0 _ 3⟩, fun e he => (by cases he)⟩, (by show [w.heap.size].Nodup; simp), rfl⟩, rfl⟩, inv0, h1, h2⟩⟩
    have := Row.new W1 [.int .i64 (F : Nat), .int .i64 0, .pointer (some ⟨w.heap.size, 0, none⟩)] 67
    rw [hz] at this
    exact this
  have HF : Hid (∀ W, W = (w.alloc (.cells #[.int .i64 0, .slice none 0 0, .bool true] 74)).alloc (.cells #[.int .i64 (F : Nat), .int .i64 0, .pointer (some ⟨w.heap.size, 0, none⟩)] 67) → Below w.heap.size w W ∧ Live W (w.heap.size + 1) F tre0 [w.heap.size]) := fin
  clear fin
  go_enter Try.func28, Try.ntmps28
  go_wp2_with (go_at_call 55; refine kF.mono ?_; rintro e w' ⟨rfl, rfl⟩)
  go_ret2
  exact ⟨w.heap.size + 1, [w.heap.size], rfl, (HF.out _ rfl).1, (HF.out _ rfl).2, by omega, fun b hb => by simp at hb; omega⟩
end Go.Proofs.Ytlfgeanafidopaa.Bt
