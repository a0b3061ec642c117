/-
  A node's part: the greater half goes to a new one.
-/
import Derived.Test.YtpflacbinankmaaBLead
import Derived.Deep.RegionWith
namespace Go.Proofs.Ytpflacbinankmaa.Bt
open Go.RowKit
set_option maxRecDepth 10000

theorem Kept.undrew {S : Nat → Prop} {a b : World} (h : Kept S a.drew b) : Kept S a b := ⟨h.os, h.tape, h.output, h.size, h.block⟩
/-- What part makes: the node itself with the first half, a new one with the rest. -/
structure Parted (w : World) (h : Hd) (lv : Nat) (l : List Sl) (w' : World) (h' hr : Hd) : Prop where
  left : At w' h' lv (l.take (l.length / 2))
  right : At w' hr lv (l.drop (l.length / 2))
  p : h'.p = h.p
  d : h'.d = h.d
  own : h'.v.ownBlock = h.v.ownBlock
  rd : hr.d = true
  new : ∀ b ∈ hr.blks, w.heap.size ≤ b
  kept : Kept (fun b => b ∈ h.blks) w w'
structure PartAt (w : World) (h : Hd) (lv n cap g : Nat) (l : List Sl) : Prop where
  clone : ∀ W c, Below w.heap.size w W → Calls Try.prog 56 #[.slice (some ⟨g, n / 2 * 3, none⟩) (n - n / 2) c] W fun e w' => ∃ a' m' cap', e = .returned (.slice a' m' cap') ∧ Cloned W (l.drop (n / 2)) (.slice a' m' cap') w' ∧ Below w.heap.size w w' ∧
    w'.cell? ⟨h.p, 0, none⟩ = some (.int .i64 (lv : Int)) ∧ w'.cell? ⟨h.p, 1, none⟩ = some (.slice (some ⟨g, 0, none⟩) n cap)
  del : ∀ W, Below w.heap.size w W → Calls Try.prog 64 #[.slice (some ⟨g, 0, none⟩) n cap, .int .i64 (n / 2 : Nat), .int .i64 (n : Nat)] W fun e w' => ∃ a' m' cap', e = .returned (.slice a' m' cap') ∧ (Slots w' (.slice a' m' cap') (l.take (n / 2)) ∧ (Value.slice a' m' cap').ownBlock = some g ∧ Kept (fun b => b = g) W w') ∧ w'.cell? ⟨h.p, 1, none⟩ = some (.slice (some ⟨g, 0, none⟩) n cap) ∧ w'.frozen? ⟨h.p, 1, none⟩ = false
  fin : ∀ W1 W2 v1 v2 w3, Below w.heap.size w W1 → Cloned W1 (l.drop (n / 2)) v1 W2 → Slots w3 v2 (l.take (n / 2)) → v2.ownBlock = some g → Kept (fun b => b = g) (W2.alloc (.cells #[.int .i64 (lv : Int), v1, .bool true] 74)) w3 →
    ∃ h', Parted w h lv l (w3.setCell ⟨h.p, 1, none⟩ v2) h' ⟨W2.heap.size, v1, true⟩
theorem partAt {w : World} {h : Hd} {lv n cap g : Nat} {l : List Sl} (hA : At w h lv l) (hv : h.v = .slice (some ⟨g, 0, none⟩) n cap) (hn : n = l.length) (hl : l.length ≤ 500) (h2 : 2 ≤ n) : PartAt w h lv n cap g l := by
  have ho : h.v.ownBlock = some g := by rw [hv]; rfl
  have hpg := hA.ne g ho
  refine ⟨?_, ?_, ?_⟩
  · intro W c hb
    have hAW := hA.later hb
    rcases hAW.own.form with ⟨e, _⟩ | ⟨g', cap', cs, e, _, hw, c1, c2, c3, c4⟩
    · rw [hv] at e; cases e
    · rw [hv] at e
      obtain ⟨rfl, rfl, rfl⟩ : g' = g ∧ l.length = n ∧ cap' = cap := by
        injection e with e1 e2 e3; injection e1 with e1; injection e1 with e1; exact ⟨e1.symm, e2.symm, e3.symm⟩
      have := clone_some g' (l.length / 2 * 3) (l.length - l.length / 2) c (l.drop (l.length / 2)) W (by rw [List.length_drop]) (fun j u hj => ?_) (by rw [List.length_drop]; omega)
      · refine this.mono ?_
        rintro e w' ⟨v', rfl, q⟩
        obtain ⟨a', cap2, rfl, _⟩ := q.1.slice
        have hb' := bafter hb q.2.2
        have hA' := hA.later hb'
        exact ⟨a', _, cap2, rfl, q, hb', hA'.row.cell (i := 0) rfl, by rw [← hv]; exact hA'.row.cell (i := 1) rfl⟩
      · have hj' := (List.getElem?_eq_some_iff.1 hj).1
        rw [flat_len slv 3 slv_len, List.length_drop] at hj'
        refine hw.cell.trans ?_
        rw [← flat_drop slv 3 slv_len, List.getElem?_drop, ← c4, List.getElem?_take, if_pos (by omega)] at hj
        exact hj
  · intro W hb
    have hAW := hA.later hb
    have := delete_any h.v l (n / 2) n W hAW.own (by omega) (by omega)
    rw [hv] at this
    refine this.mono ?_
    rintro e w' ⟨v', rfl, q1, q2, q3, _⟩
    have q3 : Kept (fun b => b = g) W w' := q3.mono (fun b e => by injection e with e; exact e.symm)
    rw [hn, List.drop_eq_nil_of_le (Nat.le_refl _), List.append_nil, ← hn] at q1
    obtain ⟨a', cap2, rfl, _⟩ := q1.slice
    have hr := hAW.row.kept q3 (fun e => hpg e.symm)
    exact ⟨a', _, cap2, rfl, ⟨q1, q2, q3⟩, by rw [← hv]; exact hr.cell (i := 1) rfl, hr.frozen 1⟩
  · intro W1 W2 v1 v2 w3 hb q1 q2 q3 q4
    have hb2 := bafter hb q1.2.2
    have hb3 : Below w.heap.size w (W2.alloc (.cells #[.int .i64 (lv : Int), v1, .bool true] 74)) := bafter hb2 (below_new W2 _)
    have hA3 := hA.later hb3
    have hgw := (hA.own.lt g ho).1
    have hW1 : w.heap.size ≤ W1.heap.size := hb.size
    have hW2 : w.heap.size ≤ W2.heap.size := hb2.size
    have hr := hA3.row.kept q4 (fun e => hpg e.symm)
    have hR : Row w3 W2.heap.size [.int .i64 (lv : Int), v1, .bool true] 74 := (Row.new W2 [.int .i64 (lv : Int), v1, .bool true] _).kept q4 (fun e => by omega)
    have hS : Slots w3 v1 (l.drop (n / 2)) := (q1.1.later (below_new W2 _)).kept q4 (fun b e e2 => by have := q1.2.1 b e; omega)
    have hpw : h.p < w.heap.size := hA.row.lt
    have k3 : Kept (fun b => b ∈ h.blks) w w3 := (Kept.of_below hb3).trans (q4.mono fun b e => by rw [e]; simp [Hd.blks, ho])
    refine ⟨⟨h.p, v2, h.d⟩, ⟨?_, ?_, rfl, rfl, by rw [ho]; exact q3, rfl, ?_, k3.setCell (p := ⟨h.p, 1, none⟩) (by simp [Hd.blks]) v2⟩⟩
    · rw [← hn]
      exact ⟨by simpa using hr.set (i := 1) v2 (by simp), q2.same fun b e => Below.heap_setCell _ _ _ _ (fun e2 => by rw [q3] at e; cases e; exact hpg e2)⟩
    · rw [← hn]
      refine ⟨hR.other _ _ (fun e => ?_), hS.same fun b e => Below.heap_setCell _ _ _ _ (fun e2 => ?_)⟩
      · have e : W2.heap.size = h.p := e; omega
      · have := q1.2.1 b e; have e2 : b = h.p := e2; omega
    · intro b hb'
      rcases List.mem_cons.1 hb' with e | e
      · rw [e]; exact hW2
      · have := q1.2.1 b (by simpa using e); omega
set_option maxHeartbeats 4000000 in
theorem part_any (h : Hd) (lv : Nat) (l : List Sl) (w : World) (hA : At w h lv l) (hl : l.length ≤ 500) (h2 : 2 ≤ l.length) :
    Calls Try.prog 69 #[.pointer (some ⟨h.p, 0, none⟩)] w fun e w' => ∃ h' hr, e = .returned (.pointer (some ⟨hr.p, 0, none⟩)) ∧ Parted w h lv l w' h' hr := by
  obtain ⟨s, hs⟩ : ∃ s, l[0]? = some s := ⟨_, List.getElem?_eq_getElem (by omega)⟩
  obtain ⟨g, cap, hv, _, c1, c2, _⟩ := hA.own.at hs
  have hP := partAt hA hv rfl hl h2
  have HP : Hid (PartAt w h lv l.length cap g l) := hP
  have p0 : w.cell? ⟨h.p, 0, none⟩ = some (.int .i64 (lv : Int)) := hA.row.cell (i := 0) rfl
  have p1 : w.cell? ⟨h.p, 1, none⟩ = some (.slice (some ⟨g, 0, none⟩) l.length cap) := by rw [← hv]; exact hA.row.cell (i := 1) rfl
  obtain ⟨n, hn⟩ : ∃ n, n = l.length := ⟨_, rfl⟩
  rw [← hn] at HP p1 c1 h2 hl
  have hd2 : ((n / 2 : Nat) : Int) = (n : Int) / 2 := by omega
  have hN : Hid (n = l.length) := hn
  have hc : ¬ cap = n / 2 := by omega
  have hb1 : (0 : Int) ≤ (n : Int) / 2 := by omega
  have hb2 : (n : Int) / 2 ≤ (n : Int) := by omega
  have ht : ((n : Int) / 2).toNat = n / 2 := by omega
  unfold maxLen at c2
  clear hP hA hs hv hn
  go_enter Try.func69, Try.ntmps69
  go_wp2
  go_region_held3 (fun w' => w'.cell? ⟨h.p, 0, none⟩ = some (.int .i64 (lv : Int)) ∧ w'.cell? ⟨h.p, 1, none⟩ = some (.slice (some ⟨g, 0, none⟩) n cap)) (first | assumption | go_keep)
    (first
    | (go_at_call 56; refine (HP.out.clone _ _ (Below.refl _ w).drew).mono ?_; rintro e w1 ⟨a1, m1, cap1, rfl, q, hb, r0, r1⟩; have HQ : Hid (Cloned _ _ _ _) := q; have HB : Hid (Below _ _ _) := hb; have hn1 := World.new_ne w1 ⟨h.p, 0, none⟩ r0; clear q hb))
  all_goals go_wp2
  obtain ⟨W2, hW2⟩ : ∃ W2, W2 = w1.alloc (.cells #[.int .i64 (lv : Int), .slice a1 m1 cap1, .bool true] 74) := ⟨_, rfl⟩
  rw [← hW2]
  have HW2 : Hid (W2 = w1.alloc (.cells #[.int .i64 (lv : Int), .slice a1 m1 cap1, .bool true] 74)) := hW2
  have s1 : W2.cell? ⟨h.p, 1, none⟩ = some (.slice (some ⟨g, 0, none⟩) n cap) := by rw [hW2]; exact Lib.cell?_alloc_some _ r1
  have hB2 : Hid (Below w.heap.size w W2) := by show Below _ _ _; rw [hW2]; exact bafter HB.out (below_new _ _)
  clear hW2 r0 r1 p0 p1 hn1
  go_region_with (first
    | (go_at_call 64; refine (HP.out.del _ hB2.out.drew).mono ?_; rintro e w3 ⟨a3, m3, cap3, rfl, q3, r1, r2⟩; have HQ3 : Hid (Slots _ _ _ ∧ _ ∧ Kept _ _ _) := q3; clear q3))
  all_goals go_wp2
  all_goals go_ret
  all_goals
    obtain ⟨h', hP'⟩ := HP.out.fin _ _ _ _ _ (Below.refl _ w).drew HQ.out HQ3.out.1 HQ3.out.2.1 (by have := HQ3.out.2.2.undrew; rw [HW2.out] at this; exact this)
    exact ⟨h', _, rfl, hP'⟩
end Go.Proofs.Ytpflacbinankmaa.Bt
