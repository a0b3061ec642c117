/-
  sort.Search.
  A node's from, behind and place.
  A node's lead and lay.
-/
import Derived.Test.YtlfgeanafidopaaQA
import Derived.Test.YtlfgeanafidopaaQC
import Derived.Deep.LoopGhost
import Derived.Deep.QuietTactic
import Derived.BigQuiet
import Derived.Sort.Walk0
import Derived.Laws.ResultCell
import Derived.Deep.RegionHeld3
namespace Go.Proofs.Ytlfgeanafidopaa.Bt
open Go.RowKit
set_option maxRecDepth 10000

theorem range_count (n : Nat) (p : Nat → Bool) (lo : Nat) (h : lo ≤ n) (h1 : ∀ t, t < lo → p t = false) (h2 : ∀ t, lo ≤ t → t < n → p t = true) : (List.range n).countP (fun i => !p i) = lo := by
  obtain ⟨m, rfl⟩ : ∃ m, n = lo + m := ⟨n - lo, by omega⟩
  rw [List.range_add, List.countP_append]
  have e1 : (List.range lo).countP (fun i => !p i) = lo := by
    rw [List.countP_eq_length.2 (fun a ha => by rw [h1 a (List.mem_range.1 ha)]; rfl), List.length_range]
  have e2 : ((List.range m).map (fun x => lo + x)).countP (fun i => !p i) = 0 := by
    refine List.countP_eq_zero.2 (fun a ha => ?_)
    obtain ⟨x, hx, rfl⟩ := List.mem_map.1 ha
    have := List.mem_range.1 hx
    rw [h2 (lo + x) (by omega) (by omega)]; decide
  omega

set_option maxHeartbeats 2000000 in
theorem search_from (cb : Array Value) (n : Nat) (p : Nat → Bool) (w : World) (hsz : n < 4611686018427387904)
    (hf : ∀ (m : Nat) (i : Nat), i < n → Calls Try.prog 60 (#[.int .i64 i] ++ cb) (w.drewN m) fun e w' => e = .returned (.bool (p i)) ∧ ∃ q, w' = w.drewN q)
    (hmono : ∀ a b, a ≤ b → b < n → p a = true → p b = true) :
    Calls Try.prog 59 #[.int .i64 n, .func (.func 60) #[] cb] w fun e w' => e = .returned (.int .i64 ((List.range n).countP (fun i => !p i) : Nat)) ∧ ∃ q, w' = w.drewN q := by
  have HF : Hid (∀ (m : Nat) (i : Nat), i < n → Calls Try.prog 60 (#[.int .i64 i] ++ cb) (w.drewN m) fun e w' => e = .returned (.bool (p i)) ∧ ∃ q, w' = w.drewN q) := hf
  have M : Hid (∀ a b, a ≤ b → b < n → p a = true → p b = true) := hmono
  clear hf hmono
  generalize hcnt : (List.range n).countP (fun i => !p i) = cnt
  have CN : Hid ((List.range n).countP (fun i => !p i) = cnt) := hcnt
  clear hcnt
  go_enter Try.func59, Try.ntmps59
  go_wp2
  go_loopg [5, 6] n (fun kx s5 s6 wr => ∃ (lo hi q : Nat), s5 = .int .i64 lo ∧ s6 = .int .i64 hi ∧ lo ≤ hi ∧ hi ≤ n ∧ hi - lo ≤ kx ∧ wr = w.drewN q ∧
    Hid ((∀ t, t < lo → p t = false) ∧ (∀ t, hi ≤ t → t < n → p t = true)))
  case atStart => exact ⟨0, n, 0, rfl, rfl, Nat.zero_le _, Nat.le_refl _, by omega, rfl, (⟨fun t ht => absurd ht (Nat.not_lt_zero _), fun t h1 h2 => by omega⟩ : (∀ t, t < 0 → p t = false) ∧ (∀ t, n ≤ t → t < n → p t = true))⟩
  case round =>
    obtain ⟨lo, hi, q, rfl, rfl, hlh, hin, hg, rfl, I⟩ := hrel
    by_cases hlt : lo < hi
    · have hc := HF.out q ((lo + hi) / 2) (by omega)
      rw [show (((lo + hi) / 2 : Nat) : Int) = ((lo : Int) + (hi : Int)) / 2 by omega] at hc
      cases hp : p ((lo + hi) / 2) <;> rw [hp] at hc
      · have HP : Hid (p ((lo + hi) / 2) = false) := hp
        clear hp
        go_wp2_with (go_at_call 60; refine hc.mono ?_; rintro e w' ⟨rfl, nq, rfl⟩)
        go_roundg (hi - ((lo + hi) / 2 + 1))
        case measure => omega
        case rel =>
          have I2 : Hid ((∀ t, t < (lo + hi) / 2 + 1 → p t = false) ∧ (∀ t, hi ≤ t → t < n → p t = true)) := ⟨fun t ht => (by
            cases h : p t with
            | false => rfl
            | true => have := M.out t ((lo + hi) / 2) (by omega) (by omega) h; rw [HP.out] at this; cases this), I.out.2⟩
          exact ⟨(lo + hi) / 2 + 1, hi, nq, by rw [show ((lo : Int) + (hi : Int)) / 2 + 1 = (((lo + hi) / 2 + 1 : Nat) : Int) by omega], rfl, by omega, hin, Nat.le_refl _, rfl, I2⟩
      · have HP : Hid (p ((lo + hi) / 2) = true) := hp
        clear hp
        go_wp2_with (go_at_call 60; refine hc.mono ?_; rintro e w' ⟨rfl, nq, rfl⟩)
        go_roundg ((lo + hi) / 2 - lo)
        case measure => omega
        case rel =>
          have I2 : Hid ((∀ t, t < lo → p t = false) ∧ (∀ t, (lo + hi) / 2 ≤ t → t < n → p t = true)) := ⟨I.out.1, fun t h1 h2 => M.out _ t h1 h2 HP.out⟩
          exact ⟨lo, (lo + hi) / 2, nq, rfl, by rw [show ((lo : Int) + (hi : Int)) / 2 = (((lo + hi) / 2 : Nat) : Int) by omega], by omega, by omega, Nat.le_refl _, rfl, I2⟩
    · go_wp2
      go_ret
      refine ⟨ret_int ?_, q, rfl⟩
      have : hi = lo := by omega
      subst this
      rw [← CN.out, range_count n p hi hin I.out.1 I.out.2]

set_option maxHeartbeats 2000000 in
theorem search_behind (cb : Array Value) (n : Nat) (p : Nat → Bool) (w : World) (hsz : n < 4611686018427387904)
    (hf : ∀ (m : Nat) (i : Nat), i < n → Calls Try.prog 63 (#[.int .i64 i] ++ cb) (w.drewN m) fun e w' => e = .returned (.bool (p i)) ∧ ∃ q, w' = w.drewN q)
    (hmono : ∀ a b, a ≤ b → b < n → p a = true → p b = true) :
    Calls Try.prog 59 #[.int .i64 n, .func (.func 63) #[] cb] w fun e w' => e = .returned (.int .i64 ((List.range n).countP (fun i => !p i) : Nat)) ∧ ∃ q, w' = w.drewN q := by
  have HF : Hid (∀ (m : Nat) (i : Nat), i < n → Calls Try.prog 63 (#[.int .i64 i] ++ cb) (w.drewN m) fun e w' => e = .returned (.bool (p i)) ∧ ∃ q, w' = w.drewN q) := hf
  have M : Hid (∀ a b, a ≤ b → b < n → p a = true → p b = true) := hmono
  clear hf hmono
  generalize hcnt : (List.range n).countP (fun i => !p i) = cnt
  have CN : Hid ((List.range n).countP (fun i => !p i) = cnt) := hcnt
  clear hcnt
  go_enter Try.func59, Try.ntmps59
  go_wp2
  go_loopg [5, 6] n (fun kx s5 s6 wr => ∃ (lo hi q : Nat), s5 = .int .i64 lo ∧ s6 = .int .i64 hi ∧ lo ≤ hi ∧ hi ≤ n ∧ hi - lo ≤ kx ∧ wr = w.drewN q ∧
    Hid ((∀ t, t < lo → p t = false) ∧ (∀ t, hi ≤ t → t < n → p t = true)))
  case atStart => exact ⟨0, n, 0, rfl, rfl, Nat.zero_le _, Nat.le_refl _, by omega, rfl, (⟨fun t ht => absurd ht (Nat.not_lt_zero _), fun t h1 h2 => by omega⟩ : (∀ t, t < 0 → p t = false) ∧ (∀ t, n ≤ t → t < n → p t = true))⟩
  case round =>
    obtain ⟨lo, hi, q, rfl, rfl, hlh, hin, hg, rfl, I⟩ := hrel
    by_cases hlt : lo < hi
    · have hc := HF.out q ((lo + hi) / 2) (by omega)
      rw [show (((lo + hi) / 2 : Nat) : Int) = ((lo : Int) + (hi : Int)) / 2 by omega] at hc
      cases hp : p ((lo + hi) / 2) <;> rw [hp] at hc
      · have HP : Hid (p ((lo + hi) / 2) = false) := hp
        clear hp
        go_wp2_with (go_at_call 63; refine hc.mono ?_; rintro e w' ⟨rfl, nq, rfl⟩)
        go_roundg (hi - ((lo + hi) / 2 + 1))
        case measure => omega
        case rel =>
          have I2 : Hid ((∀ t, t < (lo + hi) / 2 + 1 → p t = false) ∧ (∀ t, hi ≤ t → t < n → p t = true)) := ⟨fun t ht => (by
            cases h : p t with
            | false => rfl
            | true => have := M.out t ((lo + hi) / 2) (by omega) (by omega) h; rw [HP.out] at this; cases this), I.out.2⟩
          exact ⟨(lo + hi) / 2 + 1, hi, nq, by rw [show ((lo : Int) + (hi : Int)) / 2 + 1 = (((lo + hi) / 2 + 1 : Nat) : Int) by omega], rfl, by omega, hin, Nat.le_refl _, rfl, I2⟩
      · have HP : Hid (p ((lo + hi) / 2) = true) := hp
        clear hp
        go_wp2_with (go_at_call 63; refine hc.mono ?_; rintro e w' ⟨rfl, nq, rfl⟩)
        go_roundg ((lo + hi) / 2 - lo)
        case measure => omega
        case rel =>
          have I2 : Hid ((∀ t, t < lo → p t = false) ∧ (∀ t, (lo + hi) / 2 ≤ t → t < n → p t = true)) := ⟨I.out.1, fun t h1 h2 => M.out _ t h1 h2 HP.out⟩
          exact ⟨lo, (lo + hi) / 2, nq, rfl, by rw [show ((lo : Int) + (hi : Int)) / 2 = (((lo + hi) / 2 : Nat) : Int) by omega], by omega, by omega, Nat.le_refl _, rfl, I2⟩
    · go_wp2
      go_ret
      refine ⟨ret_int ?_, q, rfl⟩
      have : hi = lo := by omega
      subst this
      rw [← CN.out, range_count n p hi hin I.out.1 I.out.2]

end Go.Proofs.Ytlfgeanafidopaa.Bt
namespace Go.Proofs.Ytlfgeanafidopaa.Bt
open Go.RowKit
set_option maxRecDepth 10000

set_option maxHeartbeats 1000000 in
theorem from1_any (bn bk p g n cap i : Nat) (s key : K) (W : World) (hi : i < n)
    (h1 : W.cell? ⟨bn, 0, none⟩ = some (.pointer (some ⟨p, 0, none⟩))) (h2 : W.cell? ⟨bk, 0, none⟩ = some (.string key)) (h3 : W.cell? ⟨p, 1, none⟩ = some (.slice (some ⟨g, 0, none⟩) n cap)) (h4 : W.cell? ⟨g, i * 3, none⟩ = some (.string s)) :
    Calls Try.prog 60 (#[.int .i64 i] ++ #[.pointer (some ⟨bn, 0, none⟩), .pointer (some ⟨bk, 0, none⟩)]) W fun e w' => e = .returned (.bool (!klt s key)) ∧ ∃ q, w' = W.drewN q := by
  have hiz : (i : Int) < (n : Int) := by omega
  go_enter Try.func60, Try.ntmps60
  go_wp2
  go_quiet (fail)
  go_wp2
  go_ret
  exact ⟨ret_bool rfl, _, rfl⟩
set_option maxHeartbeats 1000000 in
theorem behind1_any (bn bk p g n cap i : Nat) (s key : K) (W : World) (hi : i < n)
    (h1 : W.cell? ⟨bn, 0, none⟩ = some (.pointer (some ⟨p, 0, none⟩))) (h2 : W.cell? ⟨bk, 0, none⟩ = some (.string key)) (h3 : W.cell? ⟨p, 1, none⟩ = some (.slice (some ⟨g, 0, none⟩) n cap)) (h4 : W.cell? ⟨g, i * 3, none⟩ = some (.string s)) :
    Calls Try.prog 63 (#[.int .i64 i] ++ #[.pointer (some ⟨bn, 0, none⟩), .pointer (some ⟨bk, 0, none⟩)]) W fun e w' => e = .returned (.bool (klt key s)) ∧ ∃ q, w' = W.drewN q := by
  have hiz : (i : Int) < (n : Int) := by omega
  have HK : Hid ((!(Op.bytesLess s.toList key.toList || s.toList == key.toList)) = klt key s) := kgt s key
  go_enter Try.func63, Try.ntmps63
  go_wp2
  go_quiet (fail)
  go_wp2
  go_ret
  exact ⟨ret_bool (by rw [← Bool.not_or]; exact HK.out), _, rfl⟩

/-- The world behind the two boxes of a search. -/
theorem boxes (w : World) (a b : Value) (ta tb : TypeId) : ∀ W, W = (w.alloc (.cells #[a] ta)).alloc (.cells #[b] tb) → Below w.heap.size w W ∧ W.heap.size = w.heap.size + 1 + 1 ∧ W.cell? ⟨w.heap.size, 0, none⟩ = some a ∧ W.cell? ⟨w.heap.size + 1, 0, none⟩ = some b := by
  rintro W rfl
  refine ⟨((Below.refl _ w).alloc (Nat.le_refl _) _).alloc (by simp) _, by simp, ?_, ?_⟩
  · exact ((Row.new w [a] ta).alloc _).cell (i := 0) rfl
  · have := (Row.new (w.alloc (.cells #[a] ta)) [b] tb).cell (i := 0) rfl
    rwa [World.size_alloc] at this
theorem lb_places {key : K} {l : List Sl} (hs : Ksrt (l.map Sl.k)) : ∀ p : Nat → Bool, (∀ i s, l[i]? = some s → p i = !klt s.k key) → (List.range l.length).countP (fun i => !p i) = lb key (l.map Sl.k) ∧ ∀ a b, a ≤ b → b < l.length → p a = true → p b = true := by
  intro p hp
  have hl := lb_le key (l.map Sl.k)
  rw [List.length_map] at hl
  have hi : ∀ t, t < l.length → (t < lb key (l.map Sl.k) ↔ p t = false) := fun t ht => by
    obtain ⟨s, hs'⟩ : ∃ s, l[t]? = some s := ⟨_, List.getElem?_eq_getElem ht⟩
    rw [lb_iff hs t s.k (by rw [List.getElem?_map, hs']; rfl), hp t s hs']
    cases klt s.k key <;> simp
  refine ⟨range_count _ p _ hl (fun t ht => (hi t (by omega)).1 ht) (fun t h1 h2 => ?_), fun a b hab hb ha => ?_⟩
  · cases q : p t with
    | true => rfl
    | false => have := (hi t h2).2 q; omega
  · cases q : p b with
    | true => rfl
    | false => have := (hi b hb).2 q; have := (hi a (by omega)).1 (by omega); rw [ha] at this; cases this
theorem ub_places {key : K} {l : List Sl} (hs : Ksrt (l.map Sl.k)) : ∀ p : Nat → Bool, (∀ i s, l[i]? = some s → p i = klt key s.k) → (List.range l.length).countP (fun i => !p i) = ub key (l.map Sl.k) ∧ ∀ a b, a ≤ b → b < l.length → p a = true → p b = true := by
  intro p hp
  have hl := ub_le key (l.map Sl.k)
  rw [List.length_map] at hl
  have hi : ∀ t, t < l.length → (t < ub key (l.map Sl.k) ↔ p t = false) := fun t ht => by
    obtain ⟨s, hs'⟩ : ∃ s, l[t]? = some s := ⟨_, List.getElem?_eq_getElem ht⟩
    rw [ub_iff hs t s.k (by rw [List.getElem?_map, hs']; rfl), hp t s hs']
  refine ⟨range_count _ p _ hl (fun t ht => (hi t (by omega)).1 ht) (fun t h1 h2 => ?_), fun a b hab hb ha => ?_⟩
  · cases q : p t with
    | true => rfl
    | false => have := (hi t h2).2 q; omega
  · cases q : p b with
    | true => rfl
    | false => have := (hi b hb).2 q; have := (hi a (by omega)).1 (by omega); rw [ha] at this; cases this
theorem drewN_add (w : World) (a b : Nat) : (w.drewN a).drewN b = w.drewN (a + b) := World.drewN_drewN ..

set_option maxHeartbeats 2000000 in
theorem from_any (h : Hd) (lv : Nat) (l : List Sl) (key : K) (w : World) (hA : At w h lv l) (hs : Ksrt (l.map Sl.k)) (hl : l.length ≤ 1000) :
    Calls Try.prog 37 #[.pointer (some ⟨h.p, 0, none⟩), .string key] w fun e w' => e = .returned (.int .i64 (lb key (l.map Sl.k) : Nat)) ∧ Below w.heap.size w w' := by
  obtain ⟨W0, hW0⟩ : ∃ W0, W0 = (w.alloc (.cells #[.pointer (some ⟨h.p, 0, none⟩)] 65)).alloc (.cells #[.string key] 9) := ⟨_, rfl⟩
  obtain ⟨b1, b2, b3, b4⟩ := boxes w _ _ _ _ W0 hW0
  have hA0 := hA.later b1
  obtain ⟨a, cap, hv, hc1, hc2⟩ := hA.own.slice
  have r1 : W0.cell? ⟨h.p, 1, none⟩ = some (.slice a l.length cap) := by rw [← hv]; exact hA0.row.cell (i := 1) rfl
  have hps : h.p < w.heap.size := hA.row.lt
  obtain ⟨q1, q2⟩ := lb_places (key := key) hs (fun i => ((l[i]?).map fun s => !klt s.k key).getD true) (fun i s hi => by simp [hi])
  have hS := search_from #[.pointer (some ⟨w.heap.size, 0, none⟩), .pointer (some ⟨w.heap.size + 1, 0, none⟩)] l.length (fun i => ((l[i]?).map fun s => !klt s.k key).getD true) W0 (by omega)
    (fun m i hi => by
      obtain ⟨s, hs'⟩ : ∃ s, l[i]? = some s := ⟨_, List.getElem?_eq_getElem hi⟩
      obtain ⟨g, cap', hv', _, _, _, _, d0, _⟩ := hA0.own.at hs'
      rw [hv] at hv'
      cases hv'
      have := from1_any w.heap.size (w.heap.size + 1) h.p g l.length cap i s.k key (W0.drewN m) hi b3 b4 r1 d0
      rw [hs']
      exact this.mono fun e w' ⟨he, q, hq⟩ => ⟨he, m + q, by rw [hq, drewN_add]⟩) q2
  rw [q1] at hS
  generalize lb key (l.map Sl.k) = r at hS ⊢
  have r2 : W0.cell? ⟨w.heap.size, 0, none⟩ = some (.pointer (some ⟨h.p, 0, none⟩)) := b3
  have HB : Hid (Below w.heap.size w W0) := b1
  have HW : Hid (W0 = (w.alloc (.cells #[.pointer (some ⟨h.p, 0, none⟩)] 65)).alloc (.cells #[.string key] 9)) := hW0
  clear q1 q2 hA hA0 hs b1 b2 b3 b4 hv
  rw [hW0] at r1
  clear hW0 r2
  go_enter Try.func37, Try.ntmps37
  go_wp2_with (go_at_call 59; rw [← HW.out]; refine hS.mono ?_; rintro e w' ⟨rfl, q, rfl⟩)
  go_ret
  exact ⟨rfl, bafter HB.out (below_drawn W0 q)⟩

set_option maxHeartbeats 2000000 in
theorem behind_any (h : Hd) (lv : Nat) (l : List Sl) (key : K) (w : World) (hA : At w h lv l) (hs : Ksrt (l.map Sl.k)) (hl : l.length ≤ 1000) :
    Calls Try.prog 48 #[.pointer (some ⟨h.p, 0, none⟩), .string key] w fun e w' => e = .returned (.int .i64 (ub key (l.map Sl.k) : Nat)) ∧ Below w.heap.size w w' := by
  obtain ⟨W0, hW0⟩ : ∃ W0, W0 = (w.alloc (.cells #[.pointer (some ⟨h.p, 0, none⟩)] 65)).alloc (.cells #[.string key] 9) := ⟨_, rfl⟩
  obtain ⟨b1, b2, b3, b4⟩ := boxes w _ _ _ _ W0 hW0
  have hA0 := hA.later b1
  obtain ⟨a, cap, hv, hc1, hc2⟩ := hA.own.slice
  have r1 : W0.cell? ⟨h.p, 1, none⟩ = some (.slice a l.length cap) := by rw [← hv]; exact hA0.row.cell (i := 1) rfl
  have hps : h.p < w.heap.size := hA.row.lt
  obtain ⟨q1, q2⟩ := ub_places (key := key) hs (fun i => ((l[i]?).map fun s => klt key s.k).getD true) (fun i s hi => by simp [hi])
  have hS := search_behind #[.pointer (some ⟨w.heap.size, 0, none⟩), .pointer (some ⟨w.heap.size + 1, 0, none⟩)] l.length (fun i => ((l[i]?).map fun s => klt key s.k).getD true) W0 (by omega)
    (fun m i hi => by
      obtain ⟨s, hs'⟩ : ∃ s, l[i]? = some s := ⟨_, List.getElem?_eq_getElem hi⟩
      obtain ⟨g, cap', hv', _, _, _, _, d0, _⟩ := hA0.own.at hs'
      rw [hv] at hv'
      cases hv'
      have := behind1_any w.heap.size (w.heap.size + 1) h.p g l.length cap i s.k key (W0.drewN m) hi b3 b4 r1 d0
      rw [hs']
      exact this.mono fun e w' ⟨he, q, hq⟩ => ⟨he, m + q, by rw [hq, drewN_add]⟩) q2
  rw [q1] at hS
  generalize ub key (l.map Sl.k) = r at hS ⊢
  have r2 : W0.cell? ⟨w.heap.size, 0, none⟩ = some (.pointer (some ⟨h.p, 0, none⟩)) := b3
  have HB : Hid (Below w.heap.size w W0) := b1
  have HW : Hid (W0 = (w.alloc (.cells #[.pointer (some ⟨h.p, 0, none⟩)] 65)).alloc (.cells #[.string key] 9)) := hW0
  clear q1 q2 hA hA0 hs b1 b2 b3 b4 hv
  rw [hW0] at r1
  clear hW0 r2
  go_enter Try.func48, Try.ntmps48
  go_wp2_with (go_at_call 59; rw [← HW.out]; refine hS.mono ?_; rintro e w' ⟨rfl, q, rfl⟩)
  go_ret
  exact ⟨rfl, bafter HB.out (below_drawn W0 q)⟩

set_option maxHeartbeats 1000000 in
theorem place_any (h : Hd) (lv : Nat) (l : List Sl) (key : K) (w : World) (hA : At w h lv l) (hs : Ksrt (l.map Sl.k)) (hl : l.length ≤ 1000) :
    Calls Try.prog 62 #[.pointer (some ⟨h.p, 0, none⟩), .string key] w fun e w' => e = .returned (.int .i64 (ub key (l.map Sl.k) - 1 : Nat)) ∧ Below w.heap.size w w' := by
  have hB := behind_any h lv l key w hA hs hl
  have hu := ub_le key (l.map Sl.k)
  rw [List.length_map] at hu
  generalize ub key (l.map Sl.k) = r at *
  have h1 : r ≤ 1000 := by omega
  clear hA hs hl hu
  go_enter Try.func62, Try.ntmps62
  go_wp2_with (go_at_call 48; refine hB.mono ?_; rintro e w' ⟨rfl, hb⟩)
  all_goals go_ret
  all_goals exact ⟨ret_int (by omega), hb⟩
end Go.Proofs.Ytlfgeanafidopaa.Bt
namespace Go.Proofs.Ytlfgeanafidopaa.Bt
open Go.RowKit
set_option maxRecDepth 10000

def slA (s : Sl) : Value := .agg #[.string s.k, .string s.v, .pointer (s.kid.map fun b => ⟨b, 0, none⟩)]
def slO (s : Sl) : Obj := .cells #[.string s.k, .string s.v, .pointer (s.kid.map fun b => ⟨b, 0, none⟩)] 77
/-- The slot that leads to a node. -/
def leadS (h : Hd) (l : List Sl) : Sl := ⟨((l.head?).map Sl.k).getD ⟨#[]⟩, ⟨#[]⟩, some h.p⟩
set_option maxHeartbeats 1000000 in
theorem lead_any (h : Hd) (lv : Nat) (l : List Sl) (w : World) (hA : At w h lv l) (hl : 0 < l.length) :
    Calls Try.prog 65 #[.pointer (some ⟨h.p, 0, none⟩)] w fun e w' => e = .returned (slA (leadS h l)) ∧ Below w.heap.size w w' := by
  obtain ⟨s, hs⟩ : ∃ s, l[0]? = some s := ⟨_, List.getElem?_eq_getElem hl⟩
  obtain ⟨g, cap, hv, _, c1, c2, c3, d0, _⟩ := hA.own.at hs
  have r1 : w.cell? ⟨h.p, 1, none⟩ = some (.slice (some ⟨g, 0, none⟩) l.length cap) := by rw [← hv]; exact hA.row.cell (i := 1) rfl
  have hp := hA.row.lt
  rw [Nat.zero_mul] at d0
  have e : leadS h l = ⟨s.k, ⟨#[]⟩, some h.p⟩ := by
    unfold leadS
    rw [List.head?_eq_getElem?, hs]; rfl
  rw [e]
  generalize l.length = n at *
  have hn : (0 : Int) < (n : Int) := by omega
  clear hA hs hv e
  go_enter Try.func65, Try.ntmps65
  go_wp2
  refine bodyPost_ret (v := slA ⟨s.k, ⟨#[]⟩, some h.p⟩) ?_ rfl ⟨rfl, ?_⟩
  · simp [results, Try.results65, go_sem, slA]
  · exact below_new w _

/-- What lay makes of a node's slots. -/
def layS (s : Sl) (l : List Sl) : List Sl :=
  if (l[lb s.k (l.map Sl.k)]?).map Sl.k = some s.k then l.set (lb s.k (l.map Sl.k)) s else l.take (lb s.k (l.map Sl.k)) ++ s :: l.drop (lb s.k (l.map Sl.k))
/-- A node whose slots were changed: where it lies now. -/
structure Turned (w : World) (h : Hd) (lv : Nat) (l' : List Sl) (h' : Hd) (w' : World) : Prop where
  at_ : At w' h' lv l'
  p : h'.p = h.p
  d : h'.d = h.d
  own : ∀ b, h'.v.ownBlock = some b → h.v.ownBlock = some b ∨ w.heap.size ≤ b
  kept : Kept (fun b => b ∈ h.blks) w w'
theorem slots_set {w : World} {v : Value} {l : List Sl} (h : Slots w v l) {i : Nat} (hi : i < l.length) (s : Sl) {g : Nat} (hg : v.ownBlock = some g) : ∀ W, W = w.setCells g (i * 3) (slv s) → Slots W v (l.set i s) := by
  rintro W rfl
  rcases h.form with ⟨rfl, rfl⟩ | ⟨g', cap, cs, rfl, ho, hw, c1, c2, c3, c4⟩
  · simp at hi
  · rw [ho] at hg; cases hg
    have hw2 := Whole.setCells (slv s) (i * 3) w cs hw (by rw [slv_len, c3]; omega)
    have sh := Slots.of (l := l.set i s) (cap := cap) hw2 (by rw [List.length_set]; exact c1) c2 (by simp only [List.length_append, List.length_take, List.length_drop, slv_len]; omega) ?_
    · rwa [List.length_set] at sh
    · have hlt : l.set i s = l.take i ++ s :: l.drop (i + 1) := by rw [List.set_eq_take_append_cons_drop, if_pos hi]
      have e1 : cs.take (i * 3) = (l.take i).flatMap slv := by rw [← flat_take slv 3 slv_len, ← c4, List.take_take, Nat.min_eq_left (by omega)]
      have e2 : (cs.drop (i * 3 + 3)).take ((l.length - (i + 1)) * 3) = (l.drop (i + 1)).flatMap slv := by
        rw [← flat_drop slv 3 slv_len, ← c4, List.drop_take]
        congr 1
        · omega
        · congr 1; omega
      rw [List.length_set, slv_len, List.append_assoc, List.take_append, List.length_take, Nat.min_eq_left (by rw [c3]; omega), List.take_of_length_le (l := cs.take (i * 3)) (by rw [List.length_take]; omega), e1, List.take_append, slv_len, List.take_of_length_le (l := slv s) (by rw [slv_len]; omega), show l.length * 3 - i * 3 - 3 = (l.length - (i + 1)) * 3 by omega, e2, hlt]
      simp
theorem setCells3 (w : World) (g o : Nat) (a b c : Value) : w.setCells g o [a, b, c] = ((w.setCell ⟨g, o, none⟩ a).setCell ⟨g, o + 1, none⟩ b).setCell ⟨g, o + 2, none⟩ c := rfl
/-- What the walks of a slot's Insert into a node ask. -/
structure InsAt (W0 : World) (h : Hd) (lv n cap : Nat) (a : Option Addr) (l L : List Sl) (i : Nat) (s : Sl) (b0 : Nat) : Prop where
  call : ∀ W vb vc, Below W0.heap.size W0 W → Whole W vb (slv s) 77 → W0.heap.size ≤ vb → Calls Try.prog 68 #[.slice a n cap, .int .i64 i, .slice (some ⟨vb, 0, none⟩) 1 vc] W fun e w' =>
    ∃ a' m' cap', e = .returned (.slice a' m' cap') ∧ Inserted W h.v L (.slice a' m' cap') w' ∧ w'.cell? ⟨h.p, 1, none⟩ = some (.slice a n cap) ∧ w'.frozen? ⟨h.p, 1, none⟩ = false
  fin : ∀ W v' w', Below W0.heap.size W0 W → Inserted W h.v L v' w' → ∃ h', Turned W0 h lv L h' (w'.setCell ⟨h.p, 1, none⟩ v')
theorem insAt {W0 : World} {h : Hd} {lv n cap : Nat} {a : Option Addr} {l : List Sl} (hA : At W0 h lv l) (hv : h.v = .slice a n cap) (hn : n = l.length) (hl : l.length ≤ 500) (i : Nat) (hi : i ≤ l.length) (s : Sl) : InsAt W0 h lv n cap a l (l.take i ++ s :: l.drop i) i s 0 := by
  constructor
  · intro W vb vc hb hV hvb
    have hAW := hA.later hb
    have := insert_any h.v l i s vb vc W hAW.own hi (by omega) hV (fun e => by have := (hA.own.lt vb e).1; omega)
    rw [hv] at this
    refine this.mono ?_
    rintro e w' ⟨v', rfl, q⟩
    rw [← hv] at q
    obtain ⟨a', cap', rfl, _⟩ := q.1.slice
    have hr := hAW.row.kept q.2.2 (fun e => hAW.ne _ e rfl)
    exact ⟨a', _, cap', rfl, q, by rw [← hv]; exact hr.cell (i := 1) rfl, hr.frozen 1⟩
  · intro W v' w' hb q
    have hAW := hA.later hb
    have hr := hAW.row.kept q.2.2 (fun e => hAW.ne _ e rfl)
    obtain ⟨g, hg, hgo⟩ := q.2.1
    have hpg : h.p ≠ g := by
      obtain ⟨_, cs, hw⟩ := q.1.lt g hg
      exact hr.ne hw.row (by decide)
    refine ⟨⟨h.p, v', h.d⟩, ⟨⟨by simpa using hr.set (i := 1) v' (by simp), ?_⟩, rfl, rfl, ?_, ?_⟩⟩
    · exact q.1.same fun g' hg' => Below.heap_setCell _ _ _ _ (fun e => by rw [hg] at hg'; cases hg'; exact hpg e.symm)
    · intro b hb'
      have hb' : v'.ownBlock = some b := hb'
      rw [hg] at hb'; cases hb'
      rcases hgo with e | e
      · exact .inl e
      · exact .inr (by have := hb.size; omega)
    · refine Kept.setCell (S := fun b => b ∈ h.blks) (p := ⟨h.p, 1, none⟩) ?_ (by simp [Hd.blks]) v'
      exact (Kept.of_below hb).comp q.2.2 (fun b e => .inl (by simp [Hd.blks, e]))
theorem Turned.before {w W0 w' : World} {h h' : Hd} {lv : Nat} {l : List Sl} (x : Turned W0 h lv l h' w') (b : Below w.heap.size w W0) : Turned w h lv l h' w' :=
  ⟨x.at_, x.p, x.d, fun g hg => by rcases x.own g hg with e | e; exact .inl e; exact .inr (by have := b.size; omega), (Kept.of_below b).trans x.kept⟩
set_option maxHeartbeats 4000000 in
theorem lay_set (h : Hd) (lv : Nat) (l : List Sl) (s x : Sl) (i : Nat) (w : World) (hA : At w h lv l) (hs : Ksrt (l.map Sl.k)) (hl : l.length ≤ 500) (hi : lb s.k (l.map Sl.k) = i) (hx : l[i]? = some x) (he : x.k = s.k) :
    Calls Try.prog 67 #[.pointer (some ⟨h.p, 0, none⟩), slA s] w fun e w' => e = .returned (.tuple #[]) ∧ ∃ h', Turned w h lv (l.set i s) h' w' := by
  obtain ⟨W0, hW0⟩ : ∃ W0, W0 = w.alloc (.cells #[.string s.k, .string s.v, .pointer (s.kid.map fun b => ⟨b, 0, none⟩)] 77) := ⟨_, rfl⟩
  have b0 : Below w.heap.size w W0 := by rw [hW0]; exact below_new w _
  have hB0 : Whole W0 w.heap.size (slv s) 77 := by rw [hW0]; exact Whole.new w (slv s) _
  have hA0 := hA.later b0
  have hF := from_any h lv l s.k W0 hA0 hs (by omega)
  rw [hi] at hF
  obtain ⟨a, cap, hv, c1, c2⟩ := hA.own.slice
  have hp0 : h.p < W0.heap.size := hA0.row.lt
  obtain ⟨g, cap', hv', ho, _, _, hg0, _⟩ := hA0.own.at hx
  have hil := (List.getElem?_eq_some_iff.1 hx).1
  rw [hv] at hv'
  cases hv'
  have HB : Hid (∀ W, Below W0.heap.size W0 W → W.cell? ⟨h.p, 1, none⟩ = some (.slice (some ⟨g, 0, none⟩) l.length cap) ∧ W.cell? ⟨w.heap.size, 0, none⟩ = some (.string s.k) ∧ W.cell? ⟨w.heap.size, 1, none⟩ = some (.string s.v) ∧ W.cell? ⟨w.heap.size, 2, none⟩ = some (.pointer (s.kid.map fun b => ⟨b, 0, none⟩)) ∧ W.cell? ⟨g, i * 3, none⟩ = some (.string x.k) ∧ W.cell? ⟨g, i * 3 + 1, none⟩ = some (.string x.v) ∧ W.cell? ⟨g, i * 3 + 2, none⟩ = some (.pointer (x.kid.map fun b => ⟨b, 0, none⟩)) ∧ (∀ j, W.frozen? ⟨g, j, none⟩ = false)) := fun W hb => by
    obtain ⟨g2, cap2, hv2, _, _, _, _, q0, q1, q2, q3⟩ := (hA0.later hb).own.at hx
    rw [hv] at hv2; cases hv2
    exact ⟨by rw [← hv]; exact (hA0.later hb).row.cell (i := 1) rfl, (hB0.later hb).row.cell (i := 0) rfl, (hB0.later hb).row.cell (i := 1) rfl, (hB0.later hb).row.cell (i := 2) rfl, q0, q1, q2, q3⟩
  have fin : ∀ W, Below W0.heap.size W0 W → ∀ W', W' = W.setCells g (i * 3) (slv s) → ∃ h', Turned w h lv (l.set i s) h' W' := by
    rintro W hb W' rfl
    have hbW := bafter b0 hb
    have hAW := hA.later hbW
    have hgm : g ∈ h.blks := by simp [Hd.blks, ho]
    refine ⟨h, ⟨⟨hAW.row.same ?_, slots_set hAW.own hil s ho _ rfl⟩, rfl, rfl, fun b hb => .inl hb, kept_setCells (S := fun b => b ∈ h.blks) hgm _ _ _ (Kept.of_below hbW)⟩⟩
    exact (kept_setCells (S := fun b => b = g) rfl (slv s) (i * 3) W (Kept.refl _ W)).block h.p hAW.row.lt (fun e => hAW.ne g ho e.symm)
  have HFin : Hid (∀ W, Below W0.heap.size W0 W → ∀ W', W' = W.setCells g (i * 3) (slv s) → ∃ h', Turned w h lv (l.set i s) h' W') := fin
  have e1 : (x.k.toList == s.k.toList) = true := by rw [keq]; simp [he]
  have hin : (i : Int) < (l.length : Int) := by omega
  have HW0 : Hid (W0 = w.alloc (.cells #[.string s.k, .string s.v, .pointer (s.kid.map fun b => ⟨b, 0, none⟩)] 77)) := hW0
  have hgw : g ≠ w.heap.size := fun e => by have := (hA.own.lt g ho).1; omega
  unfold slA
  generalize l.length = n at *
  clear fin hA hA0 hB0 hs hl hx he b0 hv ho hW0
  go_enter Try.func67, Try.ntmps67
  go_wp2_with (go_at_call 37; rw [← HW0.out]; refine hF.mono ?_; rintro e W ⟨rfl, hb⟩; obtain ⟨q1, q2, q3, q4, q5, q6, q7, q8⟩ := HB.out W hb; have HBW : Hid (Below _ _ _) := hb; clear hb)
  go_quiet (fail)
  go_wp2
  go_region
  all_goals go_wp2
  all_goals refine bodyPost_ret (results_none rfl _ _ _) rfl ?_
  all_goals exact ⟨rfl, HFin.out ((W.drewN _).drew) (bafter HBW.out ((below_drawn W _).drew)) _ rfl⟩
end Go.Proofs.Ytlfgeanafidopaa.Bt
