/-
  Range of a tree that lives, of a nil one, and of none; lists held against each other.
-/
import Derived.Test.YtpflacbinankmaaBRange
import Derived.Test.YtpflacbinankmaaBBuild
import Derived.Laws.StructEq
import Derived.BigQuiet
namespace Go.Proofs.Ytpflacbinankmaa.Bt
open Go.RowKit
set_option maxRecDepth 10000

theorem nod_of {F n : Nat} {w : World} {t : En (n + 1)} (hl : Lies w (n + 1) t) (hI : Inv F n (abs (n + 1) t)) : Nod F w n t :=
  ⟨hl, hI.good, by have := hI.le; rwa [abs_l, List.length_map] at this, fun hn => by have := hI.two hn; rw [abs_l, List.length_map] at this; omega⟩
/-- How many leaves come: no more than entries. -/
theorem lvs_len {F : Nat} (hF : 4 ≤ F) {w : World} (k : K) : ∀ {n : Nat} {t : En (n + 1)}, Nod F w n t → 0 < t.l.length → (lvs k n t).length ≤ (flats (abs (n + 1) t).l).length
  | 0, t, h, hp => by
    have e : lvs k 0 t = [t] := rfl
    rw [e, flats_leaf, List.length_map]
    exact hp
  | n + 1, t, h, _ => by
    have e : lvs k (n + 1) t = (t.l.drop (place k (abs (n + 2) t).l)).flatMap (lvs k n) := rfl
    have key : ∀ ks : List (En (n + 1)), (∀ d ∈ ks, d ∈ t.l) → (ks.flatMap (lvs k n)).length ≤ (flats (ks.map (abs (n + 1)))).length := by
      intro ks
      induction ks with
      | nil => intro _; simp [flats]
      | cons a r ih =>
        intro hk
        have h1 := ih (fun d hd => hk d (by simp [hd]))
        rw [List.flatMap_cons, List.length_append, List.map_cons, flats_cons, List.length_append, flat_succ]
        have ha := hk a (by simp)
        have hm : (abs (n + 1) a) ∈ (abs (n + 2) t).l := by rw [abs_l]; exact List.mem_map_of_mem ha
        obtain ⟨f1, f2, f3⟩ := h.good.kids _ hm
        rw [abs_l, List.length_map] at f1
        have h2 := lvs_len hF k (h.kid hF ha) (by omega)
        omega
    have h1 := key (t.l.drop (place k (abs (n + 2) t).l)) (fun d hd => List.mem_of_mem_drop hd)
    rw [e]
    refine Nat.le_trans h1 ?_
    rw [List.map_drop, ← abs_l]
    generalize place k (abs (n + 2) t).l = p
    conv => rhs; rw [← List.take_append_drop p (abs (n + 2) t).l, flats_append, List.length_append]
    exact Nat.le_add_left _ _
theorem Live.range {w : World} {p F : Nat} {x : Tre} {fs : List Nat} (h : Live w p F x fs) (k to : K) (m : Nat) (hm : 0 < m) (hm2 : m < 9223372036854775808) (hsz : m ≤ 1099511627776 ∨ x.all.length < 1073741824) :
    Calls Try.prog 17 #[.pointer (some ⟨p, 0, none⟩), .string k, .string to, .int .i64 (m : Int)] w fun e w' => ∃ v, e = .returned v ∧ Told w w' v (rng k to m x.all) := by
  obtain ⟨t, h1, _⟩ := h.tr
  have hI := h.inv.of h1
  have hN := nod_of h1.lies hI
  have e : flats (abs (x.n + 1) t).l = x.all := by rw [h1.abs]; rfl
  have := callsIn_wide.1 (range_in 3 (Nat.le_refl _) h.lo h.hi k to m p x.n t w h1.tree hN hm (by
    rcases hsz with q | q
    · exact .inl q
    · refine .inr ?_
      by_cases hp : 0 < t.l.length
      · have := lvs_len h.lo k hN hp
        rw [e] at this
        omega
      · by_cases hn : 0 < x.n
        · exact absurd (hN.pos hn) hp
        · have key : ∀ (n : Nat) (t : En (n + 1)), n = 0 → (lvs k n t).length ≤ 1073741824 := by
            rintro n t rfl
            have e1 : lvs k 0 t = [t] := rfl
            rw [e1]; simp
          exact key x.n t (by omega)) hm2)
  rwa [e] at this
set_option maxHeartbeats 1000000 in
theorem range_nil (k to : K) (m : Int) (w : World) : Calls Try.prog 17 #[.pointer none, .string k, .string to, .int .i64 m] w fun e w' => e = .returned (.slice none 0 0) ∧ Below w.heap.size w w' := by
  go_enter Try.func17, Try.ntmps17
  go_wp2
  refine bodyPost_ret (v := .slice none 0 0) ?_ rfl ⟨rfl, ?_⟩
  · simp [results, Try.f17, go_sem]
  · have h1 := below_new w (.cells #[.string k] 9)
    have h2 := bafter h1 (below_new _ (.cells #[.string to] 9))
    have h3 := bafter h2 (below_new _ (.cells #[.int .i64 m] 3))
    exact bafter h3 (below_new _ (.cells #[.slice none 0 0] 22))
/-- A list of nodes as it lies. -/
structure NdAt (w : World) (v : Value) (l : List KV) : Prop where
  own : w.ownsRow 0 54 3 v l.length (l.flatMap ndv)
theorem Told.at {w w' : World} {v : Value} {l : List KV} (h : Told w w' v l) : NdAt w' v l := by
  refine ⟨h.1.1, ?_⟩
  rcases h.1.2 with q | ⟨g, cap, cur, q1, q2, q3⟩
  · exact .inl q
  · exact .inr ⟨g, cap, cur, q1, Nat.zero_le _, q3⟩
theorem NdAt.later {w w' : World} {v : Value} {l : List KV} (h : NdAt w v l) (hb : Below w.heap.size w w') : NdAt w' v l := ⟨h.own.kept (below_grown hb) (own_ne h.own (row := none) (fun r e => by cases e))⟩
theorem NdAt.cells {w : World} {v : Value} {l : List KV} (h : NdAt w v l) {i : Nat} {x : KV} (hi : l[i]? = some x) : ∃ g cap, v = .slice (some ⟨g, 0, none⟩) l.length cap ∧ w.cell? ⟨g, i * 3, none⟩ = some (.string x.1) ∧ w.cell? ⟨g, i * 3 + 1, none⟩ = some (.string x.2) ∧ w.cell? ⟨g, i * 3 + 2, none⟩ = some (.bool false) := by
  have hil := (List.getElem?_eq_some_iff.1 hi).1
  rcases h.own.2 with ⟨_, h0⟩ | ⟨g, cap, cur, rfl, _, hgg, hnc, hcm, hcs, htake⟩
  · omega
  · have hw : Whole w g cur.toList 54 := by unfold Whole; simpa using hgg
    have hc : ∀ j, j < 3 → w.cell? ⟨g, i * 3 + j, none⟩ = (ndv x)[j]? := fun j hj => by
      rw [hw.cell, ← flat_get ndv 3 ndv_len j hj l i x hi, ← htake, List.getElem?_take, if_pos (by omega)]
    exact ⟨g, cap, rfl, hc 0 (by omega), hc 1 (by omega), hc 2 (by omega)⟩
set_option maxHeartbeats 2000000 in
theorem same_yes (v u : Value) (l : List KV) (w : World) (hv : NdAt w v l) (hu : NdAt w u l) (hl : l.length ≤ 4611686018427387904) :
    Calls Try.prog 16 #[v, u] w fun e w' => e = .returned (.bool true) ∧ Below w.heap.size w w' := by
  have hL : Hid (∀ i, i < l.length → ∃ x, l[i]? = some x) := fun i hi => ⟨_, List.getElem?_eq_getElem hi⟩
  obtain ⟨a, ca, ea⟩ := own_slice hv.own
  obtain ⟨b, cb, eb⟩ := own_slice hu.own
  have HV : Hid (∀ i x, l[i]? = some x → ∃ g cap, a = some ⟨g, 0, none⟩ ∧ ca = cap ∧ w.cell? ⟨g, i * 3, none⟩ = some (.string x.1) ∧ w.cell? ⟨g, i * 3 + 1, none⟩ = some (.string x.2) ∧ w.cell? ⟨g, i * 3 + 2, none⟩ = some (.bool false)) := fun i x hx => by
    obtain ⟨g, cap, e, q⟩ := hv.cells hx
    rw [ea] at e; cases e
    exact ⟨_, _, rfl, rfl, q⟩
  have HU : Hid (∀ i x, l[i]? = some x → ∃ g cap, b = some ⟨g, 0, none⟩ ∧ cb = cap ∧ w.cell? ⟨g, i * 3, none⟩ = some (.string x.1) ∧ w.cell? ⟨g, i * 3 + 1, none⟩ = some (.string x.2) ∧ w.cell? ⟨g, i * 3 + 2, none⟩ = some (.bool false)) := fun i x hx => by
    obtain ⟨g, cap, e, q⟩ := hu.cells hx
    rw [eb] at e; cases e
    exact ⟨_, _, rfl, rfl, q⟩
  subst ea eb
  clear hv hu
  obtain ⟨N, hN⟩ : ∃ N, N = l.length := ⟨_, rfl⟩
  rw [← hN] at hL hl ⊢
  clear hN
  go_enter Try.func16, Try.ntmps16
  go_wp2
  go_loopg [5] N (fun kx s wr => ∃ j d : Nat, j + kx = N ∧ s = .int .i64 (j : Nat) ∧ wr = w.drewN d)
  case atStart => exact ⟨0, 0, by omega, rfl, rfl⟩
  case round =>
    obtain ⟨j, d, hj, rfl, rfl⟩ := hrel
    by_cases hlt : j < N
    · obtain ⟨x, hx⟩ := hL.out j hlt
      obtain ⟨g1, _, rfl, _, p0, p1, p2⟩ := HV.out j x hx
      obtain ⟨g2, _, rfl, _, r0, r1, r2⟩ := HU.out j x hx
      have hj1 : (j : Int) < (N : Int) := by omega
      go_wp2
      go_quiet (fail)
      go_wp2
      go_roundg (N - (j + 1))
      case measure => omega
      case rel => exact ⟨j + 1, _, by omega, by go_num, rfl⟩
    · have hj1 : ¬ (j : Int) < (N : Int) := by omega
      go_wp2
      go_ret
      exact ⟨rfl, below_drawn w d⟩
end Go.Proofs.Ytpflacbinankmaa.Bt
