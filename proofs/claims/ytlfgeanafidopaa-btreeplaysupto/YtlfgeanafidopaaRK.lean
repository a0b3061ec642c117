/-
  The document's first: the walk.
-/
import Derived.Test.YtlfgeanafidopaaRJ
namespace Go.Proofs.Ytlfgeanafidopaa.Bt
open Go.RowKit Go.Shelf
set_option maxRecDepth 10000

/-- Nodes and keys go together. -/
structure Kin (RR : List (List Shc)) : Prop where
  row : ∀ (k : Nat) (r r2 : List Shc), RR[k]? = some r → RR[k + 1]? = some r2 → cum r r.length = r2.length
  len : ∀ (k : Nat) (r : List Shc), RR[k]? = some r → r.length ≤ 100000000
  all : RR.length ≤ 100000000
/-- What first answers. -/
def FstO (w : World) (l : List Nat) (e : Ending) (w' : World) : Prop := ∃ G c, e = .returned (.tuple #[.slice (some ⟨G, 0, none⟩) l.length c, .bool true]) ∧ Ints w' w.heap.size (.slice (some ⟨G, 0, none⟩) l.length c) l ∧ Below w.heap.size w w'
theorem int_size (w : World) (o : Obj) (b : Nat) (h : b ≤ w.heap.size) : b ≤ (w.alloc o).heap.size := by rw [World.size_alloc]; omega
set_option maxHeartbeats 8000000 in
theorem first_last {w : World} {G cap : Nat} {RR : List (List Shc)} (h : LvAt w G cap RR) (hK : Kin RR) {k : Nat} (hk : k + 1 = RR.length) {r : List Shc} (hr : RR[k]? = some r) :
    Calls Try.prog 41 #[.slice (some ⟨G, 0, none⟩) RR.length cap, .int .i64 (k : Nat)] w fun e w' => FstO w (List.range (r.length + 1)) e w' := by
  have hN := hK.len k r hr
  have hA := hK.all
  have HC : Hid (∃ b c, ∀ X, Below w.heap.size w X → X.cell? ⟨G, k, none⟩ = some (.slice (some ⟨b, 0, none⟩) r.length c)) := by
    obtain ⟨b, c, q1, _⟩ := h.rows k r hr
    exact ⟨b, c, fun X hX => (hX.cell (World.block_lt_of_cell? w _ q1)).trans q1⟩
  obtain ⟨N, hNe⟩ : ∃ N, N = r.length := ⟨_, rfl⟩
  obtain ⟨L, hL⟩ : ∃ L, L = RR.length := ⟨_, rfl⟩
  rw [← hNe] at hN HC ⊢
  rw [← hL] at hk hA ⊢
  clear h hK hr hNe hL
  obtain ⟨fl, hfl⟩ : ∃ fl, fl = List.range (N + 1) := ⟨_, rfl⟩
  have HFl : Hid (fl = List.range (N + 1)) := hfl
  rw [← hfl]
  clear hfl
  obtain ⟨b, c, hc⟩ := HC.out
  have HCl : Hid (∀ X, Below w.heap.size w X → X.cell? ⟨G, k, none⟩ = some (.slice (some ⟨b, 0, none⟩) N c)) := hc
  clear hc HC
  have hj : IntKind.i64.wrap ((L : Int) - 1) = (k : Int) := by rw [IntKind.wrap_i64]; omega
  have k1 : (k : Int) < (L : Int) := by omega
  have k2 : (0 : Int) ≤ (k : Int) := by omega
  go_enter Try.func41, Try.ntmps41
  go_wp2
  go_loopg [6, 7] (N + 1) (fun kx s6 s7 wr => ∃ (i : Nat) (a6 : Option Addr) (n6 c6 : Nat), i + kx = N + 1 ∧ s6 = .slice a6 n6 c6 ∧ s7 = .int .i64 (i : Nat) ∧ Hid (Ints wr w.heap.size (.slice a6 n6 c6) (List.range i)) ∧ Hid (Below w.heap.size w wr))
  case atStart => exact ⟨0, none, 0, 0, by omega, rfl, rfl, (World.ownsRow_nil _ _ _ 1 : Ints w w.heap.size _ []), Below.refl _ _⟩
  case round =>
    obtain ⟨i, a6, n6, c6, hi, rfl, rfl, O, B⟩ := hrel
    have q1 := HCl.out wr B.out
    have hn6 : n6 = i := by have := O.out.len; simpa using this
    subst hn6
    by_cases hlt : n6 ≤ N
    · have hi1 : (n6 : Int) ≤ (N : Int) := by omega
      have HN : Hid (∀ v' W', W'.ownsRow w.heap.size 3 1 v' (n6 + 1) ((List.range n6).map intV ++ [intV n6]) → (wr.alloc (.cells #[intV n6] 3)).grownBy W' (Value.slice a6 n6 c6).ownBlock → Ints W' w.heap.size v' (List.range (n6 + 1)) ∧ Below w.heap.size w W') := fun v' W' ho hg => by
        rw [List.range_succ]
        exact Ints.push (bafter B.out (below_new wr _)) (by simp) (O.out.later (below_new wr _)) ho hg
      have HO : Hid ((wr.alloc (.cells #[intV n6] 3)).ownsRow w.heap.size 3 1 (.slice a6 n6 c6) n6 ((List.range n6).map intV)) := by
        have := O.out.later (below_new wr (.cells #[intV n6] 3))
        unfold Ints at this
        rw [List.length_range] at this
        exact this
      have HS : Hid (w.heap.size ≤ wr.heap.size) := B.out.size
      clear O B
      go_wp2_with (at_builtin; refine wpList_append_int rfl (.tmp 27) (.tmp 29) rfl w.heap.size (.slice a6 n6 c6) n6 _ rfl HO.out wr.heap.size (intV n6) rfl (int_new wr n6) rfl (by omega) (int_size wr _ w.heap.size HS.out) ?_; intro v' W' ho hg; obtain ⟨G', cap', ev'⟩ := ownsRow_succ ho; subst ev'; obtain ⟨p1, p2⟩ := HN.out _ _ ho hg; have HI : Hid (Ints W' w.heap.size (.slice (some ⟨G', 0, none⟩) (n6 + 1) cap') (List.range (n6 + 1))) := p1; have HB : Hid (Below w.heap.size w W') := p2; clear ho hg p1 p2)
      go_roundg (N + 1 - (n6 + 1))
      case measure => omega
      case rel => exact ⟨n6 + 1, _, n6 + 1, cap', by omega, rfl, by go_num, HI, HB⟩
    · have hi1 : ¬ (n6 : Int) ≤ (N : Int) := by omega
      have e1 : n6 = N + 1 := by omega
      obtain ⟨G', eg⟩ : ∃ G', a6 = some ⟨G', 0, none⟩ := by
        rcases O.out.2 with ⟨e, e0⟩ | ⟨g, cap', cur, e, _⟩
        · rw [List.length_range] at e0; omega
        · injection e with e3; exact ⟨g, e3⟩
      have HF : Hid (FstO w fl (.returned (.tuple #[.slice a6 n6 c6, .bool true])) wr) := by
        have h1 := O.out
        have h2 := B.out
        show FstO _ _ _ _
        rw [HFl.out]
        subst eg
        rw [e1] at h1 ⊢
        refine ⟨G', c6, by rw [List.length_range], by rw [List.length_range]; exact h1, h2⟩
      clear O B e1 eg
      go_wp2
      go_ret2
      exact HF.out
theorem Ints.wide {W : World} {b1 b2 : Nat} {v : Value} {l : List Nat} (h : Ints W b1 v l) (hb : b2 ≤ b1) : Ints W b2 v l := by
  obtain ⟨h1, h2⟩ := h
  refine ⟨h1, ?_⟩
  rcases h2 with h2 | ⟨g, cap, cur, e, q0, q1⟩
  · exact .inl h2
  · exact .inr ⟨g, cap, cur, e, Nat.le_trans hb q0, q1⟩
theorem int_row (w : World) (x : Nat) : (w.alloc (.cells #[intV x] 3)).ownsRow w.heap.size 3 1 (.slice (some ⟨w.heap.size, 0, none⟩) 1 1) 1 [intV x] :=
  ⟨rfl, .inr ⟨w.heap.size, 1, _, rfl, Nat.le_refl _, World.alloc_heap_new w _, Nat.le_refl _, by unfold maxLen; omega, rfl, rfl⟩⟩
set_option maxHeartbeats 8000000 in
theorem first_step {w : World} {G cap : Nat} {RR : List (List Shc)} (h : LvAt w G cap RR) (hK : Kin RR) {k : Nat} (hk : k + 1 < RR.length) {r r2 : List Shc} (hr : RR[k]? = some r) (hr2 : RR[k + 1]? = some r2) {bl : List Nat} (hbl : bl.length = r2.length + 1) (hb0 : bl.getD 0 0 = 0)
    (ih : Calls Try.prog 41 #[.slice (some ⟨G, 0, none⟩) RR.length cap, .int .i64 ((k + 1 : Nat) : Int)] w fun e w' => FstO w bl e w') :
    Calls Try.prog 41 #[.slice (some ⟨G, 0, none⟩) RR.length cap, .int .i64 (k : Nat)] w fun e w' => FstO w ((List.range (r.length + 1)).map fun i => bl.getD (cum r i) 0) e w' := by
  have hN := hK.len k r hr
  have hN2 := hK.len (k + 1) r2 hr2
  have hA := hK.all
  have hsum := hK.row k r r2 hr hr2
  have HC : Hid (∃ b c, ∀ X, Below w.heap.size w X → X.cell? ⟨G, k, none⟩ = some (.slice (some ⟨b, 0, none⟩) r.length c) ∧ ∀ i, i < r.length → ∃ B M, cum r (i + 1) = cum r i + M ∧ cum r (i + 1) ≤ r2.length ∧ X.cell? ⟨b, i * 3 + 1, none⟩ = some (.slice (some ⟨B, 0, none⟩) M M)) := by
    obtain ⟨b, c, q1, q2⟩ := h.rows k r hr
    refine ⟨b, c, fun X hX => ⟨(hX.cell (World.block_lt_of_cell? w _ q1)).trans q1, fun i hi => ?_⟩⟩
    have hg := List.getElem?_eq_getElem hi
    exact ⟨_, _, cum_succ hg, by rw [← hsum]; exact cum_le r _, ((q2.later hX).cells hg).2.1⟩
  have HL : Hid (bl.length = r2.length + 1) := hbl
  obtain ⟨N, hNe⟩ : ∃ N, N = r.length := ⟨_, rfl⟩
  obtain ⟨N2, hNe2⟩ : ∃ N2, N2 = r2.length := ⟨_, rfl⟩
  obtain ⟨L, hL⟩ : ∃ L, L = RR.length := ⟨_, rfl⟩
  obtain ⟨C, hCe⟩ : ∃ C, C = cum r := ⟨_, rfl⟩
  have hC0 : C 0 = 0 := by rw [hCe]; rfl
  rw [← hCe, ← hNe, ← hNe2] at hsum HC
  rw [← hNe2] at HL hN2
  rw [← hNe] at hN ⊢
  rw [← hL] at hk hA ih ⊢
  rw [← hCe]
  obtain ⟨D, hD⟩ : ∃ D : Nat → Nat, D = fun i => bl.getD (C i) 0 := ⟨_, rfl⟩
  have HD0 : Hid (D 0 = 0) := by show D 0 = 0; rw [hD]; show bl.getD (C 0) 0 = 0; rw [hC0]; exact hb0
  have HDx : Hid (∀ i, C i ≤ N2 → bl[C i]? = some (D i)) := fun i hi => by
    have hlt : C i < bl.length := by have := HL.out; omega
    rw [hD]
    show _ = some (bl.getD (C i) 0)
    rw [List.getD_eq_getElem?_getD, List.getElem?_eq_getElem hlt]
    rfl
  rw [← hD]
  clear h hK hr hr2 hNe hNe2 hL hCe hbl hb0 hD
  obtain ⟨b, c, hc⟩ := HC.out
  have HCl : Hid (∀ X, Below w.heap.size w X → X.cell? ⟨G, k, none⟩ = some (.slice (some ⟨b, 0, none⟩) N c) ∧ ∀ i, i < N → ∃ B M, C (i + 1) = C i + M ∧ C (i + 1) ≤ N2 ∧ X.cell? ⟨b, i * 3 + 1, none⟩ = some (.slice (some ⟨B, 0, none⟩) M M)) := hc
  have HIH : Hid (Calls Try.prog 41 #[.slice (some ⟨G, 0, none⟩) L cap, .int .i64 ((k + 1 : Nat) : Int)] w fun e w' => FstO w bl e w') := ih
  have HE : Hid (∃ fl, fl = (List.range (N + 1)).map D) := ⟨_, rfl⟩
  obtain ⟨fl, hfl⟩ := HE.out
  have HFl : Hid (fl = (List.range (N + 1)).map D) := hfl
  rw [← hfl]
  clear hc HC ih hfl HE
  have hj : IntKind.i64.wrap ((L : Int) - 1) = ((L - 1 : Nat) : Int) := by rw [IntKind.wrap_i64]; omega
  have hj2 : ¬ (k : Int) = ((L - 1 : Nat) : Int) := by omega
  have hj3 : IntKind.i64.wrap ((k : Int) + 1) = ((k + 1 : Nat) : Int) := by rw [IntKind.wrap_i64]; omega
  have k1 : (k : Int) < (L : Int) := by omega
  have k2 : (0 : Int) ≤ (k : Int) := by omega
  go_enter Try.func41, Try.ntmps41
  go_wp2_with (go_at_call 41; refine HIH.out.mono ?_; rintro e w1 ⟨Gb, cb, rfl, hI, hB⟩; rw [HL.out] at hI ⊢; have HI : Hid (Ints w1 w.heap.size (.slice (some ⟨Gb, 0, none⟩) (N2 + 1) cb) bl) := hI; have HB : Hid (Below w.heap.size w w1) := hB; clear hI hB)
  have HCx : Hid (∀ X, Below w1.heap.size w1 X → X.cell? ⟨G, k, none⟩ = some (.slice (some ⟨b, 0, none⟩) N c) ∧ ∀ i, i < N → ∃ B M, C (i + 1) = C i + M ∧ C (i + 1) ≤ N2 ∧ X.cell? ⟨b, i * 3 + 1, none⟩ = some (.slice (some ⟨B, 0, none⟩) M M) ∧ X.cell? ⟨Gb, C (i + 1), none⟩ = some (.int .i64 (D (i + 1) : Nat))) := fun X hX => by
    obtain ⟨y1, y2⟩ := HCl.out X (bafter HB.out hX)
    refine ⟨y1, fun i hi => ?_⟩
    obtain ⟨B, M, z1, z2, z3⟩ := y2 i hi
    exact ⟨B, M, z1, z2, z3, (HI.out.later hX).cell (HDx.out _ z2)⟩
  have HBW : Hid (∀ X, Below w1.heap.size w1 X → Below w.heap.size w X ∧ w.heap.size ≤ w1.heap.size) := fun X hX => ⟨bafter HB.out hX, HB.out.size⟩
  clear HCl HIH HI HB HDx
  go_loopg [10, 11, 12] N (fun kx s10 s11 s12 wr => ∃ (i : Nat) (a6 : Option Addr) (n6 c6 : Nat), i + kx = N ∧ s10 = .slice a6 n6 c6 ∧ s11 = .int .i64 (C i : Nat) ∧ s12 = .int .i64 (i : Nat) ∧ Hid (Ints wr w1.heap.size (.slice a6 n6 c6) ((List.range (i + 1)).map D)) ∧ Hid (Below w1.heap.size w1 wr))
  case atStart =>
    refine ⟨0, _, 1, 1, by omega, rfl, by rw [hC0]; rfl, rfl, ?_, below_new w1 _⟩
    have := int_row w1 0
    show Ints _ _ _ _
    have e : (List.range (0 + 1)).map D = [0] := by
      show [D 0] = [0]
      rw [HD0.out]
    rw [e]
    exact this
  case round =>
    obtain ⟨i, a6, n6, c6, hi, rfl, rfl, rfl, O, B⟩ := hrel
    obtain ⟨q1, q2⟩ := HCx.out wr B.out
    have hn6 : n6 = i + 1 := by have := O.out.len; simpa using this
    subst hn6
    by_cases hlt : i < N
    · obtain ⟨Bk, M, z1, z2, z3, z4⟩ := q2 i hlt
      have hi1 : (i : Int) < (N : Int) := by omega
      have hi2 : (0 : Int) ≤ (i : Int) := by omega
      obtain ⟨x, hx⟩ : ∃ x, x = D (i + 1) := ⟨_, rfl⟩
      rw [← hx] at z4
      obtain ⟨C1, hC1⟩ : ∃ C1, C1 = C (i + 1) := ⟨_, rfl⟩
      obtain ⟨C2, hC2⟩ : ∃ C2, C2 = C i := ⟨_, rfl⟩
      have HC1 : Hid (C1 = C (i + 1)) := hC1
      rw [← hC1] at z1 z2 z4
      rw [← hC2] at z1 ⊢
      have u1 : IntKind.i64.wrap ((C2 : Int) + (M : Int)) = (C1 : Int) := by rw [IntKind.wrap_i64]; omega
      have u2 : ¬ ((N2 + 1 : Nat) : Int) ≤ (C1 : Int) := by omega
      have u3 : (C1 : Int) < ((N2 + 1 : Nat) : Int) := by omega
      have u4 : (0 : Int) ≤ (C1 : Int) := by omega
      have HN : Hid (∀ v' W', W'.ownsRow w1.heap.size 3 1 v' (i + 1 + 1) (((List.range (i + 1)).map D).map intV ++ [intV x]) → (wr.alloc (.cells #[intV x] 3)).grownBy W' (Value.slice a6 (i + 1) c6).ownBlock → Ints W' w1.heap.size v' ((List.range (i + 1 + 1)).map D) ∧ Below w1.heap.size w1 W') := fun v' W' ho hg => by
        rw [List.range_succ, List.map_append, List.map_singleton, ← hx]
        exact Ints.push (bafter B.out (below_new wr _)) (by simp) (O.out.later (below_new wr _)) ho hg
      have HO : Hid ((wr.alloc (.cells #[intV x] 3)).ownsRow w1.heap.size 3 1 (.slice a6 (i + 1) c6) (i + 1) (((List.range (i + 1)).map D).map intV)) := by
        have := O.out.later (below_new wr (.cells #[intV x] 3))
        unfold Ints at this
        rw [List.length_map, List.length_range] at this
        exact this
      have HS : Hid (w1.heap.size ≤ wr.heap.size) := B.out.size
      have HZ : Hid (i + 1 ≤ 1000000000) := by show i + 1 ≤ _; omega
      clear O B q2 hx hC1 hC2 z1 z2
      go_wp2_with (at_builtin; refine wpList_append_int rfl (.tmp 66) (.tmp 71) rfl w1.heap.size (.slice a6 (i + 1) c6) (i + 1) _ rfl HO.out wr.heap.size (intV x) rfl (int_new wr x) rfl HZ.out (int_size wr _ w1.heap.size HS.out) ?_; intro v' W' ho hg; obtain ⟨G', cap', ev'⟩ := ownsRow_succ ho; subst ev'; obtain ⟨p1, p2⟩ := HN.out _ _ ho hg; have HI : Hid (Ints W' w1.heap.size (.slice (some ⟨G', 0, none⟩) (i + 1 + 1) cap') ((List.range (i + 1 + 1)).map D)) := p1; have HB : Hid (Below w1.heap.size w1 W') := p2; clear ho hg p1 p2)
      go_roundg (N - (i + 1))
      case measure => omega
      case rel => exact ⟨i + 1, _, i + 1 + 1, cap', by omega, rfl, by rw [← HC1.out], by go_num, HI, HB⟩
    · have hi1 : ¬ (i : Int) < (N : Int) := by omega
      have e1 : i = N := by omega
      subst e1
      obtain ⟨G', eg⟩ : ∃ G', a6 = some ⟨G', 0, none⟩ := by
        rcases O.out.2 with ⟨e, e0⟩ | ⟨g, cap', cur, e, _⟩
        · rw [List.length_map, List.length_range] at e0; omega
        · injection e with e3; exact ⟨g, e3⟩
      have hw : IntKind.i64.wrap (((N2 + 1 : Nat) : Int) - 1) = (N2 : Int) := by rw [IntKind.wrap_i64]; omega
      have HF : Hid (FstO w fl (.returned (.tuple #[.slice a6 (i + 1) c6, .bool true])) wr) := by
        have h1 := O.out
        obtain ⟨h2, h3⟩ := HBW.out wr B.out
        show FstO _ _ _ _
        rw [HFl.out]
        subst eg
        have el : ((List.range (i + 1)).map D).length = i + 1 := by rw [List.length_map, List.length_range]
        refine ⟨G', c6, by rw [el], by rw [el]; exact h1.wide h3, h2⟩
      rw [hsum]
      clear O B eg q2
      go_wp2
      go_ret2
      exact HF.out
end Go.Proofs.Ytlfgeanafidopaa.Bt
