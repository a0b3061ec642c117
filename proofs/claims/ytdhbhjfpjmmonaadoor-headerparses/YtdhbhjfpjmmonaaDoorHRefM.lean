/-
  What the document's Count and Mapping answer: the same images, or EINVAL.
-/
import Derived.Test.YtdhbhjfpjmmonaaDoorHEq
namespace Go.Proofs.YtdhbhjfpjmmonaaDoor
open Go.RowKit Go.Extern.Stop Go.Stop Go.Extern M

/-- Bytes in new memory. -/
def SlPost (w : World) (l : List Nat) (n : Nat) (e : Ending) (w' : World) : Prop := ∃ a c, e = .returned (.slice a n c) ∧ BRow w' a l ∧ n ≤ c ∧ c ≤ maxLen ∧ (a = none → n = 0 ∧ c = 0) ∧ Below w.heap.size w w'
theorem sl_of_own {w w' : World} {v : Value} {l : List Nat} {n : Nat} (hn : n = l.length) (h : Own w w' v l) : SlPost w l n (.returned v) w' := by
  obtain ⟨a, c, rfl, hr, hnil, h1, h2⟩ := own_shape hn h.1
  exact ⟨a, c, rfl, hr, h1, h2, hnil, h.2⟩
theorem rput_sl (n : Nat) (hn : n < 18446744073709551616) (k : Nat) (hk : k ≤ 8) (w : World) : Calls Tryd.prog 24 #[.int .u64 n, .int .i64 k] w (SlPost w (putL k n) k) := by
  refine (ref_put n hn k k (by unfold putN; omega) w).mono ?_
  rintro e w' ⟨v, rfl, ho⟩
  exact sl_of_own (putL_length _ _).symm ho
def RfPost (w : World) (l : List Nat) (n : Nat) (e : Ending) (w' : World) : Prop := ∃ a c, e = .returned (.tuple #[.slice a n c, .int .i64 0]) ∧ BRow w' a l ∧ n ≤ c ∧ c ≤ maxLen ∧ Below w.heap.size w w'
theorem rframe_sl (a : Option Addr) (cap n : Nat) (l : List Nat) (w : World) (hn : n = l.length) (h1 : 1 ≤ n) (h2 : n ≤ 1024) (hb : ∀ x ∈ l, x < 256) (hr : BRow w a l) (hnil : a = none → n = 0 ∧ cap = 0) :
    Calls Tryd.prog 36 #[.slice a n cap] w (RfPost w (frameL l) (6 + n)) := by
  refine (rframe_yes a cap n l w hn h1 h2 hb hr hnil).mono ?_
  rintro e w' ⟨v, rfl, ho⟩
  obtain ⟨a', c', rfl, hr', _, g1, g2⟩ := own_shape (n := 6 + n) (by rw [frameL_length, hn]; omega) ho.1
  exact ⟨a', c', rfl, hr', g1, g2, ho.2⟩
theorem rfill_sl (a : Option Addr) (cap n page : Nat) (l : List Nat) (w : World) (hn : n = l.length) (hp : page ≤ 1048576) (hl : l.length ≤ maxLen) (hr : BRow w a l) :
    Calls Tryd.prog 37 #[.slice a n cap, .int .i64 page] w (SlPost w (fillL l page) page) := by
  subst hn
  refine (ref_fill a cap l page hp w hl hr).mono ?_
  rintro e w' ⟨v, rfl, ho⟩
  exact sl_of_own (fillL_length _ _).symm ho

set_option maxRecDepth 10000 in
set_option maxHeartbeats 4000000 in
theorem rimage_any (a : Option Addr) (cap n page : Nat) (p : List Nat) (w : World) (hn : n = p.length) (h1 : 1 ≤ n) (h2 : n ≤ 1024) (hb : ∀ x ∈ p, x < 256) (hp : page ≤ 1048576) (hr : BRow w a p) (hnil : a = none → n = 0 ∧ cap = 0) :
    Calls Tryd.prog 23 #[.slice a n cap, .int .i64 page] w (SlPost w (imgL p page) page) := by
  have hf := rframe_sl a cap n p w hn h1 h2 hb hr hnil
  have HFL : Hid (6 + n = (frameL p).length) := by show _ = _; rw [frameL_length, hn]; omega
  have HFM : Hid ((frameL p).length ≤ maxLen) := by show _ ≤ _; rw [frameL_length]; unfold maxLen; omega
  have HP : Hid (page ≤ 1048576) := hp
  clear hn hb hr hp hnil
  go_enter Tryd.func23, Tryd.ntmps23
  go_wp2_with (first
    | (go_at_call 36; refine hf.mono ?_; rintro e w1 ⟨a1, c1, rfl, hr1, _, _, hb1⟩; have HR1 : Hid (BRow _ _ _) := hr1; have HB1 : Hid (Below _ _ _) := hb1; clear hr1 hb1 hf)
    | (go_at_call 37; refine (rfill_sl _ _ _ page (frameL p) w1 HFL.out HP.out HFM.out HR1.out).mono ?_; rintro e w2 ⟨a2, c2, rfl, hr2, g1, g2, g3, hb2⟩; have HR2 : Hid (BRow w2 _ _ ∧ page ≤ c2 ∧ c2 ≤ maxLen ∧ (a2 = none → page = 0 ∧ c2 = 0)) := ⟨hr2, g1, g2, g3⟩; have HB2 : Hid (Below w.heap.size w w2) := Below.after HB1.out hb2; clear hr2 g1 g2 g3 hb2))
  go_ret
  exact ⟨a2, c2, rfl, HR2.out.1, HR2.out.2.1, HR2.out.2.2.1, HR2.out.2.2.2, HB2.out⟩

/-- A page's image, and OK. -/
def RcPost (w : World) (l : List Nat) (n : Nat) (e : Ending) (w' : World) : Prop := ∃ a c, e = .returned (.tuple #[.slice a n c, .int .i64 0]) ∧ BRow w' a l ∧ n ≤ c ∧ c ≤ maxLen ∧ Below w.heap.size w w'
set_option maxRecDepth 10000 in
set_option maxHeartbeats 4000000 in
theorem rcount_yes (n page : Nat) (w : World) (h1 : n ≤ 2147483647) (h2 : 64 ≤ page) (h3 : page ≤ 512) :
    Calls Tryd.prog 8 #[.int .i64 n, .int .i64 page] w (RcPost w (imgL (countL n) page) page) := by
  have HN : Hid (n < 18446744073709551616) := by show _ < _; omega
  have HP : Hid (page ≤ 1048576) := by show _ ≤ _; omega
  have HBN : Hid (1 + 4 ≤ maxLen ∧ (1 + 4) * 1 ≤ 140737488355328) := ⟨by decide, by decide⟩
  have HBB : Hid (Below w.heap.size w (w.alloc (.cells #[.int .u8 69] 5))) := below_new _ _
  have HOWN : Hid ((w.alloc (.cells #[.int .u8 69] 5)).ownsRow w.heap.size 5 1 (.slice (some ⟨w.heap.size, 0, none⟩) 1 1) 1 [.int .u8 69]) := own_one w w 69 (Nat.le_refl _)
  have i1 : ¬ (page : Int) < 64 := by omega
  have i2 : ¬ (512 : Int) < (page : Int) := by omega
  have i3 : ¬ (n : Int) < 0 := by omega
  have i4 : ¬ (2147483647 : Int) < (n : Int) := by omega
  go_enter Tryd.func8, Tryd.ntmps8
  go_wp2_with (first
    | (go_at_call 24; refine (rput_sl n HN.out 4 (by decide) _).mono ?_; rintro e w1 ⟨a1, c1, rfl, hr1, _, _, hn1, hb1⟩; have hown1 := owns_later HOWN.out hb1; have hb01 := Below.after HBB.out hb1; clear hb1)
    | (at_builtin; go_must (refine wpList_append_bytes rfl _ _ rfl w.heap.size _ 1 _ rfl hown1 _ 4 _ (putL 4 n) rfl (putL_length _ _).symm hr1 hn1 HBN.out.1 HBN.out.2 hb01.size ?_); intro v2 w2 hown2 hgrow; have hb2 := grown_own hb01 hgrow hb01.size hown1; obtain ⟨a2, c2, rfl, hr2, hn2, _⟩ := own_shape (countL_length n).symm (count_row hown2); clear hgrow hown1 hr1 hn1 hb01 hown2)
    | (go_at_call 23; go_must (refine (rimage_any a2 c2 5 page (countL n) w2 (countL_length n).symm (by decide) (by decide) (countL_lt n) HP.out hr2 hn2).mono ?_); rintro e w3 ⟨a3, c3, rfl, hr3, g1, g2, _, hb3⟩; have HR3 : Hid (BRow w3 _ _ ∧ page ≤ c3 ∧ c3 ≤ maxLen) := ⟨hr3, g1, g2⟩; have HB3 : Hid (Below w.heap.size w w3) := Below.after hb2 hb3; clear hr3 g1 g2 hb3))
  go_ret2
  exact ⟨a3, c3, rfl, HR3.out.1, HR3.out.2.1, HR3.out.2.2, HB3.out⟩
set_option maxRecDepth 10000 in
set_option maxHeartbeats 4000000 in
theorem rcount_no1 (n page : Int) (w : World) (i1 : page < 64) : Calls Tryd.prog 8 #[.int .i64 n, .int .i64 page] w fun e w' => e = .returned (.tuple #[.slice none 0 0, .int .i64 22]) ∧ w = w' := by
  go_enter Tryd.func8, Tryd.ntmps8
  go_wp2
  go_ret2
  exact ⟨rfl, rfl⟩
set_option maxRecDepth 10000 in
set_option maxHeartbeats 4000000 in
theorem rcount_no2 (n page : Int) (w : World) (i1 : ¬ page < 64) (i2 : 512 < page) : Calls Tryd.prog 8 #[.int .i64 n, .int .i64 page] w fun e w' => e = .returned (.tuple #[.slice none 0 0, .int .i64 22]) ∧ w = w' := by
  go_enter Tryd.func8, Tryd.ntmps8
  go_wp2
  go_ret2
  exact ⟨rfl, rfl⟩
set_option maxRecDepth 10000 in
set_option maxHeartbeats 4000000 in
theorem rcount_no3 (n page : Int) (w : World) (i1 : ¬ page < 64) (i2 : ¬ 512 < page) (i3 : n < 0) : Calls Tryd.prog 8 #[.int .i64 n, .int .i64 page] w fun e w' => e = .returned (.tuple #[.slice none 0 0, .int .i64 22]) ∧ w = w' := by
  go_enter Tryd.func8, Tryd.ntmps8
  go_wp2
  go_ret2
  exact ⟨rfl, rfl⟩
set_option maxRecDepth 10000 in
set_option maxHeartbeats 4000000 in
theorem rcount_no4 (n page : Int) (w : World) (i1 : ¬ page < 64) (i2 : ¬ 512 < page) (i3 : ¬ n < 0) (i4 : 2147483647 < n) : Calls Tryd.prog 8 #[.int .i64 n, .int .i64 page] w fun e w' => e = .returned (.tuple #[.slice none 0 0, .int .i64 22]) ∧ w = w' := by
  go_enter Tryd.func8, Tryd.ntmps8
  go_wp2
  go_ret2
  exact ⟨rfl, rfl⟩
theorem rcount_no (n page : Int) (w : World) (h : ¬ (countOk n ∧ pageOk page)) : Calls Tryd.prog 8 #[.int .i64 n, .int .i64 page] w (NoPost w) := by
  have hx : ∀ {e : Ending} {w' : World}, (e = .returned (.tuple #[.slice none 0 0, .int .i64 22]) ∧ w = w') → NoPost w e w' := fun ⟨h1, h2⟩ => ⟨h1, h2 ▸ Below.refl _ _⟩
  unfold countOk pageOk at h
  by_cases i1 : page < 64
  · exact (rcount_no1 n page w i1).mono fun _ _ h => hx h
  · by_cases i2 : 512 < page
    · exact (rcount_no2 n page w i1 i2).mono fun _ _ h => hx h
    · by_cases i3 : n < 0
      · exact (rcount_no3 n page w i1 i2 i3).mono fun _ _ h => hx h
      · exact (rcount_no4 n page w i1 i2 i3 (by omega)).mono fun _ _ h => hx h
theorem rmap_row {w : World} {base leb seq pages : Nat} {v : Value} (h : w.ownsRow base 5 1 v (1 + 2 + 8 + 1) ([.int .u8 77] ++ (putL 2 leb).map u8v ++ (putL 8 seq).map u8v ++ [pages].map u8v)) (hp : pages < 256) : w.ownsRow base 5 1 v (mapL leb seq pages).length ((mapL leb seq pages).map u8v) := by
  refine map_row ?_
  have : putL 1 pages = [pages] := by simp [putL, Nat.mod_eq_of_lt hp]
  rw [this]
  exact h

/-- What lies on through the document's Mapping. -/
structure Rm (w1 w : World) (b leb seq pages : Nat) : Prop where
  bel : Below w1.heap.size w1 w
  row : Row w b [.int .i64 leb, .int .u64 seq, .int .i64 pages] 24
theorem Rm.later {w1 w w' : World} {b leb seq pages : Nat} (h : Rm w1 w b leb seq pages) (hb : Below w.heap.size w w') : Rm w1 w' b leb seq pages := ⟨Below.after h.bel hb, h.row.later hb⟩
theorem Rm.grown {w1 w w' : World} {b leb seq pages n : Nat} {v : Value} {xs : List Value} (h : Rm w1 w b leb seq pages) (hg : w.grownBy w' v.ownBlock) (ho : w.ownsRow w1.heap.size 5 1 v n xs) (hlt : b < w1.heap.size) : Rm w1 w' b leb seq pages := by
  have hb := grown_own h.bel hg h.bel.size ho
  refine ⟨hb, h.row.same (hg.block b h.row.lt fun e => ?_)⟩
  have := (ho.lt b e.symm).1
  omega

set_option maxRecDepth 10000 in
set_option maxHeartbeats 4000000 in
theorem rmapping_yes (leb seq pages page : Nat) (w : World) (h1 : leb ≤ 255) (h2 : pages ≤ 64) (hs : seq < 18446744073709551616) (h3 : 64 ≤ page) (h4 : page ≤ 512) :
    Calls Tryd.prog 10 #[.agg #[.int .i64 leb, .int .u64 seq, .int .i64 pages], .int .i64 page] w (RcPost w (imgL (mapL leb seq pages) page) page) := by
  have HP : Hid (page ≤ 1048576) := by show _ ≤ _; omega
  have HN1 : Hid (leb < 18446744073709551616) := by show _ < _; omega
  have HN3 : Hid (pages < 256) := by show _ < _; omega
  have HN2 : Hid (seq < 18446744073709551616) := hs
  obtain ⟨W, hW⟩ : ∃ W, W = w.alloc (.cells #[.int .i64 leb, .int .u64 seq, .int .i64 pages] 24) := ⟨_, rfl⟩
  have hr : Row W w.heap.size [.int .i64 leb, .int .u64 seq, .int .i64 pages] 24 := by rw [hW]; exact Row.new w [_, _, _] _
  have c0 : W.cell? ⟨w.heap.size, 0, none⟩ = some (.int .i64 leb) := hr.cell (i := 0) rfl
  have c2 : W.cell? ⟨w.heap.size, 2, none⟩ = some (.int .i64 pages) := hr.cell (i := 2) rfl
  have hl1 := hr.lt
  have HB : Hid (Below w.heap.size w W) := by rw [hW]; exact below_new _ _
  have HM1 : Hid (Rm W (W.alloc (.cells #[.int .u8 77] 5)) w.heap.size leb seq pages) := Rm.later ⟨Below.refl _ _, hr⟩ (below_new _ _)
  have HO1 : Hid ((W.alloc (.cells #[.int .u8 77] 5)).ownsRow W.heap.size 5 1 (.slice (some ⟨w.heap.size + 1, 0, none⟩) 1 1) 1 [.int .u8 77]) := by
    have := own_one W W 77 (Nat.le_refl _)
    rw [show W.heap.size = w.heap.size + 1 by rw [hW, size_new]] at this ⊢
    exact this
  clear hr
  have HA2 : Hid (1 + 2 ≤ maxLen ∧ (1 + 2) * 1 ≤ 140737488355328) := ⟨by decide, by decide⟩
  have HA8 : Hid (1 + 2 + 8 ≤ maxLen ∧ (1 + 2 + 8) * 1 ≤ 140737488355328) := ⟨by decide, by decide⟩
  have HA1 : Hid (1 + 2 + 8 + 1 ≤ maxLen ∧ (1 + 2 + 8 + 1) * 1 ≤ 140737488355328) := ⟨by decide, by decide⟩
  have M1 : Hid True := trivial
  have M2 : Hid True := trivial
  have M3 : Hid True := trivial
  have i1 : ¬ (page : Int) < 64 := by omega
  have i2 : ¬ (512 : Int) < (page : Int) := by omega
  have i3 : ¬ (leb : Int) < 0 := by omega
  have i4 : ¬ (256 : Int) ≤ (leb : Int) := by omega
  have i5 : ¬ (pages : Int) < 0 := by omega
  have i6 : ¬ (64 : Int) < (pages : Int) := by omega
  go_enter Tryd.func10, Tryd.ntmps10
  go_wp2_with fail
  rw [← hW]
  clear hW
  go_wp2_with (first
    | (go_at_call 24; clear M1; refine (rput_sl leb HN1.out 2 (by decide) _).mono ?_; rintro e w3 ⟨a3, y3, rfl, hr3, _, _, hn3, hb3⟩; have HO3 : Hid (World.ownsRow _ _ _ _ _ _ _) := owns_later HO1.out hb3; have HM3 : Hid (Rm _ _ _ _ _ _) := HM1.out.later hb3; have HR3 : Hid (BRow w3 _ _ ∧ (a3 = none → 2 = 0 ∧ y3 = 0)) := ⟨hr3, hn3⟩; clear hb3 hr3 hn3 HO1 HM1 c0 c2)
    | (at_builtin; clear M2; go_must (refine wpList_append_bytes rfl _ _ rfl W.heap.size _ 1 _ rfl HO3.out _ 2 _ (putL 2 leb) rfl (putL_length _ _).symm HR3.out.1 HR3.out.2 HA2.out.1 HA2.out.2 HM3.out.bel.size ?_); intro v4 w4 hown4 hg4; have hm4 := HM3.out.grown hg4 HO3.out hl1; have d1 : w4.cell? ⟨w.heap.size, 1, none⟩ = some (.int .u64 seq) := hm4.row.cell (i := 1) rfl; have HM4 : Hid (Rm _ _ _ _ _ _) := hm4; have HO4 : Hid (World.ownsRow _ _ _ _ _ _ _) := hown4; clear hown4 hg4 hm4 HM3 HO3 HR3)
    | (go_at_call 24; refine (rput_sl seq HN2.out 8 (by decide) _).mono ?_; rintro e w5 ⟨a5, y5, rfl, hr5, _, _, hn5, hb5⟩; have HO5 : Hid (World.ownsRow _ _ _ _ _ _ _) := owns_later HO4.out hb5; have HM5 : Hid (Rm _ _ _ _ _ _) := HM4.out.later hb5; have HR5 : Hid (BRow w5 _ _ ∧ (a5 = none → 8 = 0 ∧ y5 = 0)) := ⟨hr5, hn5⟩; clear hb5 hr5 hn5 HO4 HM4 d1)
    | (at_builtin; clear M3; go_must (refine wpList_append_bytes rfl _ _ rfl W.heap.size _ (1 + 2) _ rfl HO5.out _ 8 _ (putL 8 seq) rfl (putL_length _ _).symm HR5.out.1 HR5.out.2 HA8.out.1 HA8.out.2 HM5.out.bel.size ?_); intro v6 w6 hown6 hg6; have hm6 := HM5.out.grown hg6 HO5.out hl1; have d2 : w6.cell? ⟨w.heap.size, 2, none⟩ = some (.int .i64 pages) := hm6.row.cell (i := 2) rfl; have HM6 : Hid (Rm _ _ _ _ _ _) := hm6; have HO6 : Hid (World.ownsRow _ _ _ _ _ _ _) := hown6; clear hown6 hg6 hm6 HM5 HO5 HR5)
    | (at_builtin; go_must (refine wpList_append_bytes rfl _ _ rfl W.heap.size _ (1 + 2 + 8) _ rfl (owns_later HO6.out (below_new w6 (.cells #[.int .u8 pages] 5))) _ 1 1 [pages] rfl rfl (brow_new w6 [pages] (0, 0)) (fun h => by cases h) HA1.out.1 HA1.out.2 (Nat.le_trans HM6.out.bel.size (by simp)) ?_); intro v8 w8 hown8 hg8; have hm8 := (HM6.out.later (below_new w6 (.cells #[.int .u8 pages] 5))).grown hg8 (owns_later HO6.out (below_new w6 (.cells #[.int .u8 pages] 5))) hl1; have HM8 : Hid (Rm _ _ _ _ _ _) := hm8; obtain ⟨a8, c8, rfl, hr8, hn8, _⟩ := own_shape (mapL_length leb seq pages).symm (rmap_row hown8 HN3.out); have HR8 : Hid (BRow w8 _ _ ∧ (a8 = none → 12 = 0 ∧ c8 = 0)) := ⟨hr8, hn8⟩; clear hown8 hg8 hm8 hr8 hn8 HM6 HO6)
    | (go_at_call 23; go_must (refine (rimage_any a8 c8 12 page (mapL leb seq pages) w8 (mapL_length _ _ _).symm (by decide) (by decide) (mapL_lt _ _ _) HP.out HR8.out.1 HR8.out.2).mono ?_); rintro e w9 ⟨a9, c9, rfl, hr9, g1, g2, _, hb9⟩; have HR9 : Hid (BRow w9 _ _ ∧ page ≤ c9 ∧ c9 ≤ maxLen) := ⟨hr9, g1, g2⟩; have HB9 : Hid (Below w.heap.size w w9) := Below.after (Below.after HB.out HM8.out.bel) hb9; clear hr9 g1 g2 hb9))
  go_ret2
  exact ⟨a9, c9, rfl, HR9.out.1, HR9.out.2.1, HR9.out.2.2, HB9.out⟩
set_option maxRecDepth 10000 in
set_option maxHeartbeats 4000000 in
theorem rmap_no1 (leb seq pages page : Int) (w : World)  (i1 : page < 64) : Calls Tryd.prog 10 #[.agg #[.int .i64 leb, .int .u64 seq, .int .i64 pages], .int .i64 page] w (NoPost w) := by
  go_enter Tryd.func10, Tryd.ntmps10
  go_wp2
  go_ret2
  exact ⟨rfl, below_new _ _⟩
set_option maxRecDepth 10000 in
set_option maxHeartbeats 4000000 in
theorem rmap_no2 (leb seq pages page : Int) (w : World) (i1 : ¬ page < 64) (i2 : 512 < page) : Calls Tryd.prog 10 #[.agg #[.int .i64 leb, .int .u64 seq, .int .i64 pages], .int .i64 page] w (NoPost w) := by
  go_enter Tryd.func10, Tryd.ntmps10
  go_wp2
  go_ret2
  exact ⟨rfl, below_new _ _⟩
set_option maxRecDepth 10000 in
set_option maxHeartbeats 4000000 in
theorem rmap_no3 (leb seq pages page : Int) (w : World) (i1 : ¬ page < 64) (i2 : ¬ 512 < page) (i3 : leb < 0) : Calls Tryd.prog 10 #[.agg #[.int .i64 leb, .int .u64 seq, .int .i64 pages], .int .i64 page] w (NoPost w) := by
  go_enter Tryd.func10, Tryd.ntmps10
  go_wp2
  go_ret2
  exact ⟨rfl, below_new _ _⟩
set_option maxRecDepth 10000 in
set_option maxHeartbeats 4000000 in
theorem rmap_no4 (leb seq pages page : Int) (w : World) (i1 : ¬ page < 64) (i2 : ¬ 512 < page) (i3 : ¬ leb < 0) (i4 : 256 ≤ leb) : Calls Tryd.prog 10 #[.agg #[.int .i64 leb, .int .u64 seq, .int .i64 pages], .int .i64 page] w (NoPost w) := by
  go_enter Tryd.func10, Tryd.ntmps10
  go_wp2
  go_ret2
  exact ⟨rfl, below_new _ _⟩
set_option maxRecDepth 10000 in
set_option maxHeartbeats 4000000 in
theorem rmap_no5 (leb seq pages page : Int) (w : World) (i1 : ¬ page < 64) (i2 : ¬ 512 < page) (i3 : ¬ leb < 0) (i4 : ¬ 256 ≤ leb) (i5 : pages < 0) : Calls Tryd.prog 10 #[.agg #[.int .i64 leb, .int .u64 seq, .int .i64 pages], .int .i64 page] w (NoPost w) := by
  go_enter Tryd.func10, Tryd.ntmps10
  go_wp2
  go_ret2
  exact ⟨rfl, below_new _ _⟩
set_option maxRecDepth 10000 in
set_option maxHeartbeats 4000000 in
theorem rmap_no6 (leb seq pages page : Int) (w : World) (i1 : ¬ page < 64) (i2 : ¬ 512 < page) (i3 : ¬ leb < 0) (i4 : ¬ 256 ≤ leb) (i5 : ¬ pages < 0) (i6 : 64 < pages) : Calls Tryd.prog 10 #[.agg #[.int .i64 leb, .int .u64 seq, .int .i64 pages], .int .i64 page] w (NoPost w) := by
  go_enter Tryd.func10, Tryd.ntmps10
  go_wp2
  go_ret2
  exact ⟨rfl, below_new _ _⟩
theorem rmapping_no (leb seq pages page : Int) (w : World) (h : ¬ ((lebOk leb ∧ pagesOk pages) ∧ pageOk page)) : Calls Tryd.prog 10 #[.agg #[.int .i64 leb, .int .u64 seq, .int .i64 pages], .int .i64 page] w (NoPost w) := by
  unfold lebOk pagesOk pageOk at h
  by_cases i1 : page < 64
  · exact rmap_no1 leb seq pages page w i1
  by_cases i2 : 512 < page
  · exact rmap_no2 leb seq pages page w i1 i2
  by_cases i3 : leb < 0
  · exact rmap_no3 leb seq pages page w i1 i2 i3
  by_cases i4 : 256 ≤ leb
  · exact rmap_no4 leb seq pages page w i1 i2 i3 i4
  by_cases i5 : pages < 0
  · exact rmap_no5 leb seq pages page w i1 i2 i3 i4 i5
  · exact rmap_no6 leb seq pages page w i1 i2 i3 i4 i5 (by omega)
/-- The document's Count and Mapping, one answer each. -/
def RResPost (w : World) (l : List Nat) (n : Nat) (er : Int) (e : Ending) (w' : World) : Prop := ∃ a c, e = .returned (.tuple #[.slice a n c, .int .i64 er]) ∧ Lies w' a n c l ∧ Below w.heap.size w w'
theorem rcount_res (n page : Int) (w : World) : Calls Tryd.prog 8 #[.int .i64 n, .int .i64 page] w (RResPost w (cL n page) (cL n page).length (cE n page)) := by
  by_cases h : countOk n ∧ pageOk page
  · obtain ⟨e1, e2⟩ := cE_ok h
    rw [e1, e2, imgL_length]
    obtain ⟨⟨h1, h2⟩, h3, h4⟩ := h
    obtain ⟨n', rfl⟩ : ∃ n' : Nat, n = n' := ⟨n.toNat, by omega⟩
    obtain ⟨p', rfl⟩ : ∃ p' : Nat, page = p' := ⟨page.toNat, by omega⟩
    refine (rcount_yes n' p' w (by omega) (by omega) (by omega)).mono ?_
    rintro e w' ⟨a, c, rfl, hr, g1, g2, hb⟩
    exact ⟨a, c, rfl, ⟨(imgL_length _ _).symm, g1, g2, imgL_lt (countL_lt _) _, hr⟩, hb⟩
  · obtain ⟨e1, e2⟩ := cE_no h
    rw [e1, e2]
    refine (rcount_no n page w h).mono ?_
    rintro e w' ⟨rfl, hb⟩
    exact ⟨none, 0, rfl, ⟨rfl, Nat.le_refl _, by decide, by simp, .inl rfl⟩, hb⟩
theorem rmap_res (a b c page : Int) (w : World) (hb0 : 0 ≤ b ∧ b ≤ 18446744073709551615) : Calls Tryd.prog 10 #[.agg #[.int .i64 a, .int .u64 b, .int .i64 c], .int .i64 page] w (RResPost w (mL a b c page) (mL a b c page).length (mE a c page)) := by
  by_cases h : (lebOk a ∧ pagesOk c) ∧ pageOk page
  · obtain ⟨e1, e2⟩ := mE_ok (b := b) h
    rw [e1, e2, imgL_length]
    obtain ⟨⟨⟨h1, h2⟩, h3, h4⟩, h5, h6⟩ := h
    obtain ⟨a', rfl⟩ : ∃ n' : Nat, a = n' := ⟨a.toNat, by omega⟩
    obtain ⟨b', rfl⟩ : ∃ n' : Nat, b = n' := ⟨b.toNat, by omega⟩
    obtain ⟨c', rfl⟩ : ∃ n' : Nat, c = n' := ⟨c.toNat, by omega⟩
    obtain ⟨p', rfl⟩ : ∃ p' : Nat, page = p' := ⟨page.toNat, by omega⟩
    refine (rmapping_yes a' b' c' p' w (by omega) (by omega) (by omega) (by omega) (by omega)).mono ?_
    rintro e w' ⟨x, y, rfl, hr, g1, g2, hb⟩
    exact ⟨x, y, rfl, ⟨(imgL_length _ _).symm, g1, g2, imgL_lt (mapL_lt _ _ _) _, hr⟩, hb⟩
  · obtain ⟨e1, e2⟩ := mE_no (b := b) h
    rw [e1, e2]
    refine (rmapping_no a b c page w h).mono ?_
    rintro e w' ⟨rfl, hb⟩
    exact ⟨none, 0, rfl, ⟨rfl, Nat.le_refl _, by decide, by simp, .inl rfl⟩, hb⟩
end Go.Proofs.YtdhbhjfpjmmonaaDoor
