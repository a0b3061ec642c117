/-
  A node's from, behind and place.
-/
import Derived.Test.YtpflacbinankmaaBFind
import Derived.Deep.LoopGhost
import Derived.Deep.QuietTactic
import Derived.BigQuiet
namespace Go.Proofs.Ytpflacbinankmaa.Bt
open Go.RowKit
set_option maxRecDepth 10000

set_option maxHeartbeats 1000000 in
theorem from1_any (bn bk p g n cap i : Nat) (s key : K) (W : World) (hi : i < n)
    (h1 : W.cell? ⟨bn, 0, none⟩ = some (.pointer (some ⟨p, 0, none⟩))) (h2 : W.cell? ⟨bk, 0, none⟩ = some (.string key)) (h3 : W.cell? ⟨p, 1, none⟩ = some (.slice (some ⟨g, 0, none⟩) n cap)) (h4 : W.cell? ⟨g, i * 3, none⟩ = some (.string s)) :
    Calls Try.prog 60 (#[.int .i64 i] ++ #[.pointer (some ⟨bn, 0, none⟩), .pointer (some ⟨bk, 0, none⟩)]) W fun e w' => e = .returned (.bool (!klt s key)) ∧ ∃ q, w' = W.drewN q := by
  have hiz : (i : Int) < (n : Int) := by omega
  go_enter Try.func60, Try.ntmps60
  go_wp2
  go_quiet (fail)
  go_wp2
  go_ret
  exact ⟨ret_bool rfl, _, rfl⟩
set_option maxHeartbeats 1000000 in
theorem behind1_any (bn bk p g n cap i : Nat) (s key : K) (W : World) (hi : i < n)
    (h1 : W.cell? ⟨bn, 0, none⟩ = some (.pointer (some ⟨p, 0, none⟩))) (h2 : W.cell? ⟨bk, 0, none⟩ = some (.string key)) (h3 : W.cell? ⟨p, 1, none⟩ = some (.slice (some ⟨g, 0, none⟩) n cap)) (h4 : W.cell? ⟨g, i * 3, none⟩ = some (.string s)) :
    Calls Try.prog 63 (#[.int .i64 i] ++ #[.pointer (some ⟨bn, 0, none⟩), .pointer (some ⟨bk, 0, none⟩)]) W fun e w' => e = .returned (.bool (klt key s)) ∧ ∃ q, w' = W.drewN q := by
  have hiz : (i : Int) < (n : Int) := by omega
  have HK : Hid ((!(Op.bytesLess s.toList key.toList || s.toList == key.toList)) = klt key s) := kgt s key
  go_enter Try.func63, Try.ntmps63
  go_wp2
  go_quiet (fail)
  go_wp2
  go_ret
  exact ⟨ret_bool (by rw [← Bool.not_or]; exact HK.out), _, rfl⟩

/-- The world behind the two boxes of a search. -/
theorem boxes (w : World) (a b : Value) (ta tb : TypeId) : ∀ W, W = (w.alloc (.cells #[a] ta)).alloc (.cells #[b] tb) → Below w.heap.size w W ∧ W.heap.size = w.heap.size + 1 + 1 ∧ W.cell? ⟨w.heap.size, 0, none⟩ = some a ∧ W.cell? ⟨w.heap.size + 1, 0, none⟩ = some b := by
  rintro W rfl
  refine ⟨((Below.refl _ w).alloc (Nat.le_refl _) _).alloc (by simp) _, by simp, ?_, ?_⟩
  · exact ((Row.new w [a] ta).alloc _).cell (i := 0) rfl
  · have := (Row.new (w.alloc (.cells #[a] ta)) [b] tb).cell (i := 0) rfl
    rwa [World.size_alloc] at this
theorem lb_places {key : K} {l : List Sl} (hs : Ksrt (l.map Sl.k)) : ∀ p : Nat → Bool, (∀ i s, l[i]? = some s → p i = !klt s.k key) → (List.range l.length).countP (fun i => !p i) = lb key (l.map Sl.k) ∧ ∀ a b, a ≤ b → b < l.length → p a = true → p b = true := by
  intro p hp
  have hl := lb_le key (l.map Sl.k)
  rw [List.length_map] at hl
  have hi : ∀ t, t < l.length → (t < lb key (l.map Sl.k) ↔ p t = false) := fun t ht => by
    obtain ⟨s, hs'⟩ : ∃ s, l[t]? = some s := ⟨_, List.getElem?_eq_getElem ht⟩
    rw [lb_iff hs t s.k (by rw [List.getElem?_map, hs']; rfl), hp t s hs']
    cases klt s.k key <;> simp
  refine ⟨range_count _ p _ hl (fun t ht => (hi t (by omega)).1 ht) (fun t h1 h2 => ?_), fun a b hab hb ha => ?_⟩
  · cases q : p t with
    | true => rfl
    | false => have := (hi t h2).2 q; omega
  · cases q : p b with
    | true => rfl
    | false => have := (hi b hb).2 q; have := (hi a (by omega)).1 (by omega); rw [ha] at this; cases this
theorem ub_places {key : K} {l : List Sl} (hs : Ksrt (l.map Sl.k)) : ∀ p : Nat → Bool, (∀ i s, l[i]? = some s → p i = klt key s.k) → (List.range l.length).countP (fun i => !p i) = ub key (l.map Sl.k) ∧ ∀ a b, a ≤ b → b < l.length → p a = true → p b = true := by
  intro p hp
  have hl := ub_le key (l.map Sl.k)
  rw [List.length_map] at hl
  have hi : ∀ t, t < l.length → (t < ub key (l.map Sl.k) ↔ p t = false) := fun t ht => by
    obtain ⟨s, hs'⟩ : ∃ s, l[t]? = some s := ⟨_, List.getElem?_eq_getElem ht⟩
    rw [ub_iff hs t s.k (by rw [List.getElem?_map, hs']; rfl), hp t s hs']
  refine ⟨range_count _ p _ hl (fun t ht => (hi t (by omega)).1 ht) (fun t h1 h2 => ?_), fun a b hab hb ha => ?_⟩
  · cases q : p t with
    | true => rfl
    | false => have := (hi t h2).2 q; omega
  · cases q : p b with
    | true => rfl
    | false => have := (hi b hb).2 q; have := (hi a (by omega)).1 (by omega); rw [ha] at this; cases this
theorem drewN_add (w : World) (a b : Nat) : (w.drewN a).drewN b = w.drewN (a + b) := World.drewN_drewN ..

set_option maxHeartbeats 2000000 in
theorem from_any (h : Hd) (lv : Nat) (l : List Sl) (key : K) (w : World) (hA : At w h lv l) (hs : Ksrt (l.map Sl.k)) (hl : l.length ≤ 1000) :
    Calls Try.prog 37 #[.pointer (some ⟨h.p, 0, none⟩), .string key] w fun e w' => e = .returned (.int .i64 (lb key (l.map Sl.k) : Nat)) ∧ Below w.heap.size w w' := by
  obtain ⟨W0, hW0⟩ : ∃ W0, W0 = (w.alloc (.cells #[.pointer (some ⟨h.p, 0, none⟩)] 65)).alloc (.cells #[.string key] 9) := ⟨_, rfl⟩
  obtain ⟨b1, b2, b3, b4⟩ := boxes w _ _ _ _ W0 hW0
  have hA0 := hA.later b1
  obtain ⟨a, cap, hv, hc1, hc2⟩ := hA.own.slice
  have r1 : W0.cell? ⟨h.p, 1, none⟩ = some (.slice a l.length cap) := by rw [← hv]; exact hA0.row.cell (i := 1) rfl
  have hps : h.p < w.heap.size := hA.row.lt
  obtain ⟨q1, q2⟩ := lb_places (key := key) hs (fun i => ((l[i]?).map fun s => !klt s.k key).getD true) (fun i s hi => by simp [hi])
  have hS := search_from #[.pointer (some ⟨w.heap.size, 0, none⟩), .pointer (some ⟨w.heap.size + 1, 0, none⟩)] l.length (fun i => ((l[i]?).map fun s => !klt s.k key).getD true) W0 (by omega)
    (fun m i hi => by
      obtain ⟨s, hs'⟩ : ∃ s, l[i]? = some s := ⟨_, List.getElem?_eq_getElem hi⟩
      obtain ⟨g, cap', hv', _, _, _, _, d0, _⟩ := hA0.own.at hs'
      rw [hv] at hv'
      cases hv'
      have := from1_any w.heap.size (w.heap.size + 1) h.p g l.length cap i s.k key (W0.drewN m) hi b3 b4 r1 d0
      rw [hs']
      exact this.mono fun e w' ⟨he, q, hq⟩ => ⟨he, m + q, by rw [hq, drewN_add]⟩) q2
  rw [q1] at hS
  generalize lb key (l.map Sl.k) = r at hS ⊢
  have r2 : W0.cell? ⟨w.heap.size, 0, none⟩ = some (.pointer (some ⟨h.p, 0, none⟩)) := b3
  have HB : Hid (Below w.heap.size w W0) := b1
  have HW : Hid (W0 = (w.alloc (.cells #[.pointer (some ⟨h.p, 0, none⟩)] 65)).alloc (.cells #[.string key] 9)) := hW0
  clear q1 q2 hA hA0 hs b1 b2 b3 b4 hv
  rw [hW0] at r1
  clear hW0 r2
  go_enter Try.func37, Try.ntmps37
  go_wp2_with (go_at_call 59; rw [← HW.out]; refine hS.mono ?_; rintro e w' ⟨rfl, q, rfl⟩)
  go_ret
  exact ⟨rfl, bafter HB.out (below_drawn W0 q)⟩

set_option maxHeartbeats 2000000 in
theorem behind_any (h : Hd) (lv : Nat) (l : List Sl) (key : K) (w : World) (hA : At w h lv l) (hs : Ksrt (l.map Sl.k)) (hl : l.length ≤ 1000) :
    Calls Try.prog 48 #[.pointer (some ⟨h.p, 0, none⟩), .string key] w fun e w' => e = .returned (.int .i64 (ub key (l.map Sl.k) : Nat)) ∧ Below w.heap.size w w' := by
  obtain ⟨W0, hW0⟩ : ∃ W0, W0 = (w.alloc (.cells #[.pointer (some ⟨h.p, 0, none⟩)] 65)).alloc (.cells #[.string key] 9) := ⟨_, rfl⟩
  obtain ⟨b1, b2, b3, b4⟩ := boxes w _ _ _ _ W0 hW0
  have hA0 := hA.later b1
  obtain ⟨a, cap, hv, hc1, hc2⟩ := hA.own.slice
  have r1 : W0.cell? ⟨h.p, 1, none⟩ = some (.slice a l.length cap) := by rw [← hv]; exact hA0.row.cell (i := 1) rfl
  have hps : h.p < w.heap.size := hA.row.lt
  obtain ⟨q1, q2⟩ := ub_places (key := key) hs (fun i => ((l[i]?).map fun s => klt key s.k).getD true) (fun i s hi => by simp [hi])
  have hS := search_behind #[.pointer (some ⟨w.heap.size, 0, none⟩), .pointer (some ⟨w.heap.size + 1, 0, none⟩)] l.length (fun i => ((l[i]?).map fun s => klt key s.k).getD true) W0 (by omega)
    (fun m i hi => by
      obtain ⟨s, hs'⟩ : ∃ s, l[i]? = some s := ⟨_, List.getElem?_eq_getElem hi⟩
      obtain ⟨g, cap', hv', _, _, _, _, d0, _⟩ := hA0.own.at hs'
      rw [hv] at hv'
      cases hv'
      have := behind1_any w.heap.size (w.heap.size + 1) h.p g l.length cap i s.k key (W0.drewN m) hi b3 b4 r1 d0
      rw [hs']
      exact this.mono fun e w' ⟨he, q, hq⟩ => ⟨he, m + q, by rw [hq, drewN_add]⟩) q2
  rw [q1] at hS
  generalize ub key (l.map Sl.k) = r at hS ⊢
  have r2 : W0.cell? ⟨w.heap.size, 0, none⟩ = some (.pointer (some ⟨h.p, 0, none⟩)) := b3
  have HB : Hid (Below w.heap.size w W0) := b1
  have HW : Hid (W0 = (w.alloc (.cells #[.pointer (some ⟨h.p, 0, none⟩)] 65)).alloc (.cells #[.string key] 9)) := hW0
  clear q1 q2 hA hA0 hs b1 b2 b3 b4 hv
  rw [hW0] at r1
  clear hW0 r2
  go_enter Try.func48, Try.ntmps48
  go_wp2_with (go_at_call 59; rw [← HW.out]; refine hS.mono ?_; rintro e w' ⟨rfl, q, rfl⟩)
  go_ret
  exact ⟨rfl, bafter HB.out (below_drawn W0 q)⟩

set_option maxHeartbeats 1000000 in
theorem place_any (h : Hd) (lv : Nat) (l : List Sl) (key : K) (w : World) (hA : At w h lv l) (hs : Ksrt (l.map Sl.k)) (hl : l.length ≤ 1000) :
    Calls Try.prog 62 #[.pointer (some ⟨h.p, 0, none⟩), .string key] w fun e w' => e = .returned (.int .i64 (ub key (l.map Sl.k) - 1 : Nat)) ∧ Below w.heap.size w w' := by
  have hB := behind_any h lv l key w hA hs hl
  have hu := ub_le key (l.map Sl.k)
  rw [List.length_map] at hu
  generalize ub key (l.map Sl.k) = r at *
  have h1 : r ≤ 1000 := by omega
  clear hA hs hl hu
  go_enter Try.func62, Try.ntmps62
  go_wp2_with (go_at_call 48; refine hB.mono ?_; rintro e w' ⟨rfl, hb⟩)
  all_goals go_ret
  all_goals exact ⟨ret_int (by omega), hb⟩
end Go.Proofs.Ytpflacbinankmaa.Bt
