/-
  A node's clone: a leaf's.
-/
import Derived.Test.YtlfgeanafidopaaQV
import Derived.Deep.RegionLaw
import Derived.Deep.RegionWith
namespace Go.Proofs.Ytlfgeanafidopaa.Bt
open Go.RowKit
set_option maxRecDepth 10000

theorem flat_setKid : ∀ (l : List Sl) (j : Nat) (s s' : Sl), l[j]? = some s → s'.k = s.k → s'.v = s.v → (l.flatMap slv).set (j * 3 + 2) (kidP s') = (l.set j s').flatMap slv
  | [], _, _, _, h, _, _ => by simp at h
  | x :: l, 0, s, s', h, hk, hv => by
    simp only [List.getElem?_cons_zero, Option.some.injEq] at h
    subst h
    rw [List.set_cons_zero, List.flatMap_cons, List.flatMap_cons]
    show [_, _, _] ++ _ = [_, _, _] ++ _
    rw [hk, hv]
    rfl
  | x :: l, j + 1, s, s', h, hk, hv => by
    rw [List.set_cons_succ, List.flatMap_cons, List.flatMap_cons, List.set_append_right _ _ (by rw [slv_len]; omega), slv_len, show (j + 1) * 3 + 2 - 3 = j * 3 + 2 by omega, flat_setKid l j s s' (by simpa using h) hk hv]
theorem slots_setKid {w : World} {v : Value} {l : List Sl} (h : Slots w v l) {i : Nat} {s : Sl} (hi : l[i]? = some s) (s' : Sl) (hk : s'.k = s.k) (hv : s'.v = s.v) {g : Nat} (hg : v.ownBlock = some g) : Slots (w.setCell ⟨g, i * 3 + 2, none⟩ (kidP s')) v (l.set i s') := by
  have hil := (List.getElem?_eq_some_iff.1 hi).1
  rcases h.form with ⟨rfl, rfl⟩ | ⟨g', cap, cs, rfl, ho, hw, c1, c2, c3, c4⟩
  · simp at hi
  · rw [ho] at hg; cases hg
    have sh := Slots.of (l := l.set i s') (cap := cap) (hw.set (i := i * 3 + 2) (kidP s')) (by rw [List.length_set]; exact c1) c2 (by rw [List.length_set]; exact c3) ?_
    · rwa [List.length_set] at sh
    · rw [List.length_set, List.take_set, c4]
      exact flat_setKid l i s s' hi hk hv
theorem Par.setKid {m : Nat} {w : World} {F0 : List Nat} {W : World} {h : Hd} {lv : Nat} {sl : List Sl} {ks : List (En m)} (y : Par w F0 W h lv sl ks) {g N cap : Nat} (hv : h.v = .slice (some ⟨g, 0, none⟩) N cap) {j : Nat} {s : Sl} (hj : sl[j]? = some s) (s' : Sl) (e1 : s'.k = s.k) (e2 : s'.v = s.v) : Par w F0 (W.setCell ⟨g, j * 3 + 2, none⟩ (kidP s')) h lv (sl.set j s') ks := by
  have ho : h.v.ownBlock = some g := by rw [hv]; rfl
  refine Par.turn y (h' := h) ⟨⟨y.at_.row.same (Below.heap_setCell _ _ _ _ (fun e => y.at_.ne g ho e.symm)), slots_setKid y.at_.own hj s' e1 e2 ho⟩, rfl, rfl, fun b hb => .inl hb, (Kept.refl (fun b => b ∈ h.blks) W).setCell (p := ⟨g, j * 3 + 2, none⟩) (by simp [Hd.blks, ho]) _⟩
theorem Par.add {m : Nat} {w : World} {W W' : World} {h : Hd} {lv : Nat} {sl : List Sl} {ks : List (En m)} (x : Par w [] W h lv sl ks) (hb : Below W.heap.size W W') {c : En m} (hl : Lies W' m c) (hn : (foot m c).Nodup) (hs : ∀ b ∈ foot m c, W.heap.size ≤ b) : Par w [] W' h lv sl (ks ++ [c]) := by
  have y := x.later hb
  have e : footL (ks ++ [c]) = footL ks ++ foot m c := by rw [footL_append, footL_cons]; simp [footL]
  have hlt : ∀ b ∈ h.blks ++ footL ks, b < W.heap.size := by
    intro b hb
    rcases List.mem_append.1 hb with hb | hb
    · exact x.at_.lt b hb
    · obtain ⟨e, he, hb⟩ := mem_footL.1 hb
      exact (x.lies e he).lt b hb
  refine ⟨y.at_, fun a ha => ?_, ?_, fun b hb' => ?_, y.kept⟩
  · rcases List.mem_append.1 ha with ha | ha
    · exact y.lies a ha
    · rw [List.mem_singleton.1 ha]; exact hl
  · rw [e, ← List.append_assoc]
    exact List.nodup_append.2 ⟨x.nd, hn, fun a ha b hb' e => by have := hlt a ha; have := hs b hb'; omega⟩
  · rw [e, ← List.append_assoc] at hb'
    rcases List.mem_append.1 hb' with q | q
    · exact x.sub b q
    · exact .inr (Nat.le_trans x.kept.size (hs b q))
/-- What clone leaves. -/
structure Twin {n : Nat} (w : World) (t t' : En (n + 1)) (w' : World) : Prop where
  lies : Lies w' (n + 1) t'
  nd : (foot (n + 1) t').Nodup
  new : ∀ b ∈ foot (n + 1) t', w.heap.size ≤ b
  abs : abs (n + 1) t' = abs (n + 1) t
  below : Below w.heap.size w w'
def CloneAt (F n : Nat) : Prop := ∀ (t : En (n + 1)) (w : World), Lies w (n + 1) t → (∀ e ∈ (abs (n + 1) t).l, Fill F n e) → t.l.length ≤ F → (0 < n → 0 < t.l.length) →
  Calls Try.prog 32 #[.pointer (some ⟨t.h.p, 0, none⟩)] w fun e w' => ∃ t' : En (n + 1), e = .returned (.pointer (some ⟨t'.h.p, 0, none⟩)) ∧ Twin w t t' w'
/-- The twin, as it is made. -/
theorem twin_start {m : Nat} {w W1 : World} {l : List Sl} {v' : Value} (hC : Cloned w l v' W1) (lv : Nat) (d : Bool) : Par (m := m) w [] (W1.alloc (.cells #[.int .i64 (lv : Int), v', .bool d] 74)) ⟨W1.heap.size, v', d⟩ lv l [] := by
  obtain ⟨c1, c2, c3⟩ := hC
  have hb := below_new W1 (.cells #[.int .i64 (lv : Int), v', .bool d] 74)
  have hlt : ∀ g, v'.ownBlock = some g → g < W1.heap.size := fun g hg => (c1.lt g hg).1
  refine ⟨⟨Row.new W1 [.int .i64 (lv : Int), v', .bool d] _, c1.later hb⟩, fun e he => (by cases he), ?_, fun b hb' => .inr ?_, Kept.of_below (bafter c3 hb)⟩
  · show ((W1.heap.size :: v'.ownBlock.toList) ++ []).Nodup
    cases hv : v'.ownBlock with
    | none => simp
    | some g => have := hlt g hv; simp; omega
  · replace hb' : b ∈ (W1.heap.size :: v'.ownBlock.toList) ++ footL ([] : List (En m)) := hb'
    rw [show footL ([] : List (En m)) = [] from rfl, List.append_nil] at hb'
    rcases List.mem_cons.1 hb' with e | e
    · rw [e]; exact c3.size
    · exact c2 b (by simpa using e)
theorem Par.twin {n : Nat} {w W : World} {h : Hd} {t : En (n + 1)} {ks : List (En n)} (x : Par w [] W h n (ks.map (slE n)) ks) (hd : h.d = t.h.d) (ha : ks.map (Bt.abs n) = t.l.map (Bt.abs n)) : Twin w t (En.nd h ks) W := by
  refine ⟨⟨x.at_, x.lies⟩, by rw [foot_succ]; exact x.nd, fun b hb => ?_, ?_, x.kept.below (Nat.le_refl _) (fun k hk => (by cases hk))⟩
  · rw [foot_succ] at hb
    rcases x.sub b hb with q | q
    · cases q
    · exact q
  · show El.nd h.d _ = El.nd _ _
    rw [hd, En.l_nd, ha]
theorem clone_sl (v : Value) (l : List Sl) (w : World) (h : Slots w v l) (hl : l.length ≤ 1000) :
    Calls Try.prog 56 #[v] w fun e w' => ∃ a' m' c', e = .returned (.slice a' m' c') ∧ Cloned w l (.slice a' m' c') w' := by
  refine (clone_any v l w h hl).mono ?_
  rintro e w' ⟨v', rfl, hC⟩
  obtain ⟨a, c, e, _⟩ := hC.1.slice
  subst e
  exact ⟨_, _, _, rfl, hC⟩
theorem par_leaf {w W : World} {h : Hd} {lv : Nat} {sl : List Sl} (x : Par (m := 0) w [] W h lv sl []) (ks : List (En 0)) : Par w [] W h lv sl ks := by
  have e : footL ks = [] := by
    unfold footL
    induction ks with
    | nil => rfl
    | cons a l ih => rw [List.flatMap_cons, ih]; rfl
  have e0 : footL ([] : List (En 0)) = [] := rfl
  have a := x.nd
  have b := x.sub
  rw [e0] at a b
  exact ⟨x.at_, fun _ _ => trivial, by rw [e]; exact a, by rw [e]; exact b, x.kept⟩
theorem cut_in {P G : Prop} (m : P → G) (k : P) : G := m k
set_option maxHeartbeats 4000000 in
theorem clone_leaf (t : En 1) (w : World) (h : Lies w 1 t) (hl : t.l.length ≤ 64) :
    Calls Try.prog 32 #[.pointer (some ⟨t.h.p, 0, none⟩)] w fun e w' => ∃ t' : En 1, e = .returned (.pointer (some ⟨t'.h.p, 0, none⟩)) ∧ Twin w t t' w' := by
  have hAt := h.1
  have d0 : w.cell? ⟨t.h.p, 0, none⟩ = some (.int .i64 0) := hAt.row.cell (i := 0) rfl
  have d1 : w.cell? ⟨t.h.p, 1, none⟩ = some t.h.v := hAt.row.cell (i := 1) rfl
  have d2 : w.cell? ⟨t.h.p, 2, none⟩ = some (.bool t.h.d) := hAt.row.cell (i := 2) rfl
  have HA : Hid (At w t.h 0 (t.l.map (slE 0))) := hAt
  have HC : Hid (∀ X, Below w.heap.size w X → Calls Try.prog 56 #[t.h.v] X fun e w' => ∃ a' m' c', e = .returned (.slice a' m' c') ∧ Cloned X (t.l.map (slE 0)) (.slice a' m' c') w') := fun X hX => clone_sl t.h.v _ X (hAt.own.later hX) (by rw [List.length_map]; omega)
  have HR : Hid (∀ X, Below w.heap.size w X → X.cell? ⟨t.h.p, 0, none⟩ = some (.int .i64 0) ∧ X.cell? ⟨t.h.p, 1, none⟩ = some t.h.v ∧ X.cell? ⟨t.h.p, 2, none⟩ = some (.bool t.h.d)) := fun X hX => ⟨(hAt.later hX).row.cell (i := 0) rfl, (hAt.later hX).row.cell (i := 1) rfl, (hAt.later hX).row.cell (i := 2) rfl⟩
  have HK : Hid (∀ X, Below w.heap.size w X → Calls Try.prog 45 #[.pointer (some ⟨t.h.p, 0, none⟩)] X fun e w' => e = .returned (.slice none 0 0) ∧ X = w') := fun X hX => kids_leaf t.h _ X (hAt.later hX)
  obtain ⟨a0, cap0, hv, _, _⟩ := hAt.own.slice
  rw [List.length_map] at hv
  rw [hv] at d1 HC HR
  have HF : Hid (∀ X W1 v', Below w.heap.size w X → Cloned X (t.l.map (slE 0)) v' W1 → Twin w t (En.nd (n := 0) ⟨W1.heap.size, v', t.h.d⟩ t.l) (W1.alloc (.cells #[.int .i64 0, v', .bool t.h.d] 74))) := fun X W1 v' hX hC => by
    have p := par_leaf (twin_start (m := 0) (⟨hC.1, fun g hg => Nat.le_trans hX.size (hC.2.1 g hg), bafter hX hC.2.2⟩ : Cloned w _ v' W1) 0 t.h.d) t.l
    exact Par.twin p rfl rfl
  clear h hAt hl hv
  generalize t.h.p = tp at *
  generalize t.h.d = td at *
  go_enter Try.func32, Try.ntmps32
  go_wp2
  refine cut_in (P := ∀ (W1 : World) (a1 : Option Addr) (m1 c1 : Nat), Hid (Twin w t (En.nd (n := 0) ⟨W1.heap.size, .slice a1 m1 c1, td⟩ t.l) (W1.alloc (.cells #[.int .i64 0, .slice a1 m1 c1, .bool td] 74))) → (?keyAll : World → Option Addr → Nat → Nat → Prop) W1 a1 m1 c1) (fun key => ?main) ?rest
  case main =>
    go_region_with (go_at_call 56; refine (HC.out w.drew (below_drawn w 1)).mono ?_; rintro e W1 ⟨a1, m1, c1, rfl, hC⟩; have HT := HF.out w.drew _ _ (below_drawn w 1) hC; have HT2 : Hid (Twin w t (En.nd (n := 0) ⟨W1.heap.size, .slice a1 m1 c1, td⟩ t.l) (W1.alloc (.cells #[.int .i64 0, .slice a1 m1 c1, .bool td] 74))) := HT; obtain ⟨r0, r1, r2⟩ := HR.out W1 (bafter (below_drawn w 1) hC.2.2); clear HT hC)
    all_goals exact key W1 a1 m1 c1 HT2
  intro W1 a1 m1 c1 HT2
  go_wp2_with (go_at_call 45; refine (HK.out _ HT2.out.below).mono ?_; rintro e w' ⟨rfl, rfl⟩)
  obtain ⟨W2, hW2⟩ : ∃ W2, W2 = W1.alloc (.cells #[.int .i64 0, .slice a1 m1 c1, .bool td] 74) := ⟨_, rfl⟩
  rw [← hW2] at HT2 ⊢
  clear hW2
  go_loopg [24] 0 (fun kx s wr => kx = 0 ∧ s = .int .i64 0 ∧ wr = W2)
  case atStart => exact ⟨rfl, rfl, rfl⟩
  case round =>
    obtain ⟨rfl, rfl, rfl⟩ := hrel
    go_wp2
    go_ret
    exact ⟨_, rfl, HT2.out⟩
end Go.Proofs.Ytlfgeanafidopaa.Bt
