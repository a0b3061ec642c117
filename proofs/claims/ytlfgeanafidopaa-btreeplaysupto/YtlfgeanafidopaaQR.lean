/-
  A node's kids and clean; a tree's Clean.
  A node's shape.
-/
import Derived.Test.YtlfgeanafidopaaQQ
import Derived.Test.YtlfgeanafidopaaQG
import Derived.Laws.MakeOwn
import Derived.BigQuiet
namespace Go.Proofs.Ytlfgeanafidopaa.Bt
open Go.RowKit
set_option maxRecDepth 10000

theorem made_one (z : Value) (n : Nat) : (madeCells #[z] n).toList = List.replicate n z := by
  unfold madeCells
  apply List.ext_getElem
  · simp
  · intro i h1 h2
    simp [Nat.mod_one]
theorem infoN : (Try.prog.info? 65).map (fun i => (i.zero, i.size, i.bytes)) = some (some (.pointer none), 1, 8) := by kernel_rfl
theorem makeN (N : Nat) (h : N ≤ 1000) (W : World) : (Instr.makeSlice 87 (.int .i64 (N : Int)) (.int .i64 (N : Int))).run Try.prog W = .ok (.slice (some ⟨W.heap.size, 0, none⟩) N N) (W.alloc (.cells (List.replicate N (Value.pointer none)).toArray 65)) := by
  obtain ⟨i0, hi, hz0, hz1, hz2⟩ := info_parts infoN
  have := run_make (P := Try.prog) W 87 65 i0 _ Try.underlying87 hi hz0 .i64 .i64 N N (by omega) (Int.le_refl _) (by rw [hz2]; omega) (by omega)
  rw [hz1] at this
  have e : (madeCells (Value.pointer none).cells ((N : Int).toNat * 1)) = (List.replicate N (Value.pointer none)).toArray := by
    apply Array.toList_inj.1
    rw [show (Value.pointer none).cells = #[Value.pointer none] from rfl, made_one]; simp
  rw [e] at this
  exact this
def kidP (s : Sl) : Value := .pointer (s.kid.map fun b => ⟨b, 0, none⟩)
theorem set_part {P : List Value} {k : Nat} {v : Value} (z : Value) (hk : P[k]? = some v) : (P.take k ++ List.replicate (P.length - k) z).set k v = P.take (k + 1) ++ List.replicate (P.length - (k + 1)) z := by
  obtain ⟨hlt, he⟩ := List.getElem?_eq_some_iff.1 hk
  rw [List.set_append_right _ _ (by rw [List.length_take]; omega), List.length_take, Nat.min_eq_left (by omega), Nat.sub_self, show P.length - k = (P.length - (k + 1)) + 1 by omega, List.replicate_succ, List.set_cons_zero, List.take_succ_eq_append_getElem hlt, he]
  simp
set_option maxHeartbeats 2000000 in
theorem kids_any (h : Hd) (lv : Nat) (l : List Sl) (w : World) (hA : At w h lv l) (hl : l.length ≤ 500) (h1 : 0 < l.length) (hlv : 0 < lv) :
    Calls Try.prog 45 #[.pointer (some ⟨h.p, 0, none⟩)] w fun e w' => ∃ B, e = .returned (.slice (some ⟨B, 0, none⟩) l.length l.length) ∧ Below w.heap.size w w' ∧ w.heap.size ≤ B ∧ Whole w' B (l.map kidP) 65 := by
  obtain ⟨s0, hs0⟩ : ∃ s, l[0]? = some s := ⟨_, List.getElem?_eq_getElem h1⟩
  obtain ⟨g, cap, hv, ho, _, _, hgw, _⟩ := hA.own.at hs0
  have d0 : w.cell? ⟨h.p, 0, none⟩ = some (.int .i64 (lv : Int)) := hA.row.cell (i := 0) rfl
  have d1 : w.cell? ⟨h.p, 1, none⟩ = some (.slice (some ⟨g, 0, none⟩) l.length cap) := by rw [← hv]; exact hA.row.cell (i := 1) rfl
  have hpw := hA.row.lt
  obtain ⟨N, hN⟩ : ∃ N, N = l.length := ⟨_, rfl⟩
  have hmk := makeN N (by omega)
  have HC : Hid (∀ X, Below w.heap.size w X → ∀ i s, l[i]? = some s → X.cell? ⟨g, i * 3, none⟩ = some (.string s.k) ∧ X.cell? ⟨g, i * 3 + 1, none⟩ = some (.string s.v) ∧ X.cell? ⟨g, i * 3 + 2, none⟩ = some (.pointer (s.kid.map fun b => ⟨b, 0, none⟩))) := fun X hb i s hs => by
    obtain ⟨g', cap', hv', _, _, _, _, q0, q1, q2, _⟩ := (hA.later hb).own.at hs
    rw [hv] at hv'; cases hv'
    exact ⟨q0, q1, q2⟩
  have hL : Hid (∀ i, i < N → ∃ s, l[i]? = some s) := fun i hi => ⟨_, List.getElem?_eq_getElem (by omega)⟩
  have HN : Hid (N = l.length) := hN
  rw [← hN] at d1 h1 hl ⊢
  have hn2 : ((lv : Int) == 0) = false := by simp; omega
  have hn3 : ¬ (lv : Int) = 0 := by omega
  generalize (lv : Int) = L at *
  clear hA hs0 hv ho hN
  go_enter Try.func45, Try.ntmps45
  go_wp2
  go_loopg [22] N (fun kx s wr => ∃ k : Nat, k + kx = N ∧ s = .int .i64 (k : Nat) ∧ Hid (Below w.heap.size w wr ∧ Whole wr w.heap.size ((l.map kidP).take k ++ List.replicate ((l.map kidP).length - k) (.pointer none)) 65))
  case atStart =>
    refine ⟨0, by omega, rfl, ?_⟩
    refine (⟨below_new w _, ?_⟩ : Below w.heap.size w _ ∧ Whole _ w.heap.size _ _)
    have := Whole.new w (List.replicate N (.pointer none)) 65
    rw [List.take_zero, List.nil_append, List.length_map, Nat.sub_zero, ← HN.out]
    exact this
  case round =>
    obtain ⟨k, hk, rfl, I⟩ := hrel
    by_cases hlt : k < N
    · obtain ⟨s, hs⟩ := hL.out k hlt
      obtain ⟨q0, q1, q2⟩ := HC.out wr I.out.1 k s hs
      have hPk : (l.map kidP)[k]? = some (kidP s) := by rw [List.getElem?_map, hs]; rfl
      have hsp := set_part (.pointer none) hPk
      have hcell : ∃ u, wr.cell? ⟨w.heap.size, k, none⟩ = some u := by
        refine ⟨_, I.out.2.cell.trans (List.getElem?_eq_getElem ?_)⟩
        rw [List.length_append, List.length_take, List.length_replicate, List.length_map, ← HN.out]; omega
      obtain ⟨u, hu⟩ := hcell
      have hfz := I.out.2.frozen k
      have fin : ∀ o W', (W' = (wr.alloc o).setCell ⟨w.heap.size, k, none⟩ (kidP s) ∨ W' = (wr.setCell ⟨w.heap.size, k, none⟩ (kidP s)).alloc o) → Below w.heap.size w W' ∧ Whole W' w.heap.size ((l.map kidP).take (k + 1) ++ List.replicate ((l.map kidP).length - (k + 1)) (.pointer none)) 65 := by
        rintro o W' (rfl | rfl)
        · refine ⟨(bafter I.out.1 (below_new wr o)).setCell (p := ⟨w.heap.size, k, none⟩) (Nat.le_refl _) _, ?_⟩
          have := (I.out.2.later (below_new wr o)).set (i := k) (kidP s)
          rwa [hsp] at this
        · have hb := I.out.1.setCell (p := ⟨w.heap.size, k, none⟩) (Nat.le_refl _) (kidP s)
          refine ⟨bafter hb (below_new _ o), ?_⟩
          have := I.out.2.set (i := k) (kidP s)
          rw [hsp] at this
          exact this.later (below_new _ o)
      have HF : Hid (∀ o W', (W' = (wr.alloc o).setCell ⟨w.heap.size, k, none⟩ (kidP s) ∨ W' = (wr.setCell ⟨w.heap.size, k, none⟩ (kidP s)).alloc o) → Below w.heap.size w W' ∧ Whole W' w.heap.size ((l.map kidP).take (k + 1) ++ List.replicate ((l.map kidP).length - (k + 1)) (.pointer none)) 65) := fin
      have hbz : w.heap.size < wr.heap.size := I.out.2.lt
      have hi1 : (k : Int) < (N : Int) := by omega
      clear fin hsp hPk hs I
      go_wp2
      go_roundg (N - (k + 1))
      case measure => omega
      case rel => exact ⟨k + 1, by omega, by go_num, by first | exact HF.out _ _ (.inr rfl) | exact HF.out _ _ (.inl rfl)⟩
    · have hkN : k = N := by omega
      subst hkN
      go_wp2
      go_ret
      refine ⟨w.heap.size, rfl, I.out.1, Nat.le_refl _, ?_⟩
      have := I.out.2
      rw [List.take_of_length_le (by rw [List.length_map, ← HN.out]; exact Nat.le_refl _), List.length_map, ← HN.out, Nat.sub_self] at this
      simpa using this
set_option maxHeartbeats 1000000 in
theorem kids_leaf (h : Hd) (l : List Sl) (w : World) (hA : At w h 0 l) :
    Calls Try.prog 45 #[.pointer (some ⟨h.p, 0, none⟩)] w fun e w' => e = .returned (.slice none 0 0) ∧ w = w' := by
  have d0 : w.cell? ⟨h.p, 0, none⟩ = some (.int .i64 0) := hA.row.cell (i := 0) rfl
  clear hA
  go_enter Try.func45, Try.ntmps45
  go_wp2
  go_ret
  exact ⟨rfl, rfl⟩
end Go.Proofs.Ytlfgeanafidopaa.Bt
namespace Go.Proofs.Ytlfgeanafidopaa.Bt
open Go.RowKit
set_option maxRecDepth 10000

theorem infoStr : (Try.prog.info? 9).map (fun i => (i.zero, i.size, i.bytes)) = some (some (.string ⟨#[]⟩), 1, 16) := by kernel_rfl
theorem makeStr (N : Nat) (h : N ≤ 1000) (W : World) : (Instr.makeSlice 46 (.int .i64 (N : Int)) (.int .i64 (N : Int))).run Try.prog W = .ok (.slice (some ⟨W.heap.size, 0, none⟩) N N) (W.alloc (.cells (List.replicate N (Value.string ⟨#[]⟩)).toArray 9)) := by
  obtain ⟨i0, hi, hz0, hz1, hz2⟩ := info_parts infoStr
  have := run_make (P := Try.prog) W 46 9 i0 _ Try.underlying46 hi hz0 .i64 .i64 N N (by omega) (Int.le_refl _) (by rw [hz2]; omega) (by omega)
  rw [hz1] at this
  have e : (madeCells (Value.string ⟨#[]⟩).cells ((N : Int).toNat * 1)) = (List.replicate N (Value.string ⟨#[]⟩)).toArray := by
    apply Array.toList_inj.1
    rw [show (Value.string ⟨#[]⟩).cells = #[Value.string ⟨#[]⟩] from rfl, made_one]; simp
  rw [e] at this
  exact this
def keyV (s : Sl) : Value := .string s.k
/-- A shape as it is answered: its keys lie in the block B. -/
def shV (lv : Nat) (B N : Nat) (d : Bool) : Value := .agg #[.int .i64 (lv : Int), .slice (some ⟨B, 0, none⟩) N N, .bool d]
/-- shape's boxes while it goes on. -/
structure Shg (w : World) (l : List Sl) (k : Nat) (wr : World) : Prop where
  below : Below w.heap.size w wr
  res : Whole wr w.heap.size [.int .i64 0, .slice none 0 0, .bool false] 48
  keys : Whole wr (w.heap.size + 1) ((l.map keyV).take k ++ List.replicate ((l.map keyV).length - k) (.string ⟨#[]⟩)) 9
theorem Shg.start (w : World) (l : List Sl) (N : Nat) (hN : N = l.length) : Shg w l 0 ((w.alloc (.cells #[.int .i64 0, .slice none 0 0, .bool false] 48)).alloc (.cells (List.replicate N (Value.string ⟨#[]⟩)).toArray 9)) := by
  have b1 := below_new w (.cells #[.int .i64 0, .slice none 0 0, .bool false] 48)
  have n1 := Whole.new w [.int .i64 0, .slice none 0 0, .bool false] 48
  have e1 := World.size_alloc w (.cells #[.int .i64 0, .slice none 0 0, .bool false] 48)
  generalize hw1 : w.alloc (.cells #[.int .i64 0, .slice none 0 0, .bool false] 48) = w1 at *
  have b2 := below_new w1 (.cells (List.replicate N (Value.string ⟨#[]⟩)).toArray 9)
  have n2 := Whole.new w1 (List.replicate N (Value.string ⟨#[]⟩)) 9
  rw [e1] at n2
  refine ⟨bafter b1 b2, n1.later b2, ?_⟩
  rw [List.take_zero, List.nil_append, List.length_map, Nat.sub_zero, ← hN]
  exact n2
theorem Shg.step {w : World} {l : List Sl} {k : Nat} {wr : World} (h : Shg w l k wr) {s : Sl} (hs : l[k]? = some s) (o : Obj) : Shg w l (k + 1) ((wr.alloc o).setCell ⟨w.heap.size + 1, k, none⟩ (keyV s)) := by
  have hPk : (l.map keyV)[k]? = some (keyV s) := by rw [List.getElem?_map, hs]; rfl
  have hsp := set_part (.string ⟨#[]⟩) hPk
  have hb := below_new wr o
  refine ⟨(bafter h.below hb).setCell (p := ⟨w.heap.size + 1, k, none⟩) (by show w.heap.size ≤ w.heap.size + 1; omega) _, ?_, ?_⟩
  · exact (h.res.later hb).same (Below.heap_setCell _ _ _ _ (by show w.heap.size ≠ w.heap.size + 1; omega))
  · have := (h.keys.later hb).set (i := k) (keyV s)
    rwa [hsp] at this
theorem Shg.fin {w : World} {l : List Sl} {k : Nat} {wr W1 W2 W3 W4 : World} (h : Shg w l k wr) (hk : k = l.length) {a b c : Value} (e1 : W1 = wr.setCell ⟨w.heap.size, 0, none⟩ a) (e2 : W2 = W1.setCell ⟨w.heap.size, 1, none⟩ b) (e3 : W3 = W2.setCell ⟨w.heap.size, 2, none⟩ c) (e4 : W4 = W3.drew) : Below w.heap.size w W4 ∧ Whole W4 (w.heap.size + 1) (l.map keyV) 9 ∧ Whole W4 w.heap.size [a, b, c] 48 := by
  have k0 : Whole wr (w.heap.size + 1) (l.map keyV) 9 := by
    have := h.keys
    rw [List.take_of_length_le (by rw [List.length_map]; omega), List.length_map, hk, Nat.sub_self] at this
    simpa using this
  have a1 : Whole W1 w.heap.size [a, .slice none 0 0, .bool false] 48 := by rw [e1]; exact h.res.set (i := 0) a
  have a2 : Whole W1 (w.heap.size + 1) (l.map keyV) 9 := by rw [e1]; exact k0.same (Below.heap_setCell _ _ _ _ (by show w.heap.size + 1 ≠ w.heap.size; omega))
  have a3 : Below w.heap.size w W1 := by rw [e1]; exact h.below.setCell (p := ⟨w.heap.size, 0, none⟩) (Nat.le_refl _) _
  clear e1
  have b1 : Whole W2 w.heap.size [a, b, .bool false] 48 := by rw [e2]; exact a1.set (i := 1) b
  have b2 : Whole W2 (w.heap.size + 1) (l.map keyV) 9 := by rw [e2]; exact a2.same (Below.heap_setCell _ _ _ _ (by show w.heap.size + 1 ≠ w.heap.size; omega))
  have b3 : Below w.heap.size w W2 := by rw [e2]; exact a3.setCell (p := ⟨w.heap.size, 1, none⟩) (Nat.le_refl _) _
  clear e2
  have c1 : Whole W3 w.heap.size [a, b, c] 48 := by rw [e3]; exact b1.set (i := 2) c
  have c2 : Whole W3 (w.heap.size + 1) (l.map keyV) 9 := by rw [e3]; exact b2.same (Below.heap_setCell _ _ _ _ (by show w.heap.size + 1 ≠ w.heap.size; omega))
  have c3 : Below w.heap.size w W3 := by rw [e3]; exact b3.setCell (p := ⟨w.heap.size, 2, none⟩) (Nat.le_refl _) _
  subst e4
  exact ⟨c3.drew, c2.later (below_drawn W3 1), c1.later (below_drawn W3 1)⟩
set_option maxHeartbeats 2000000 in
theorem shape_any (h : Hd) (lv : Nat) (l : List Sl) (w : World) (hA : At w h lv l) (hl : l.length ≤ 500) :
    Calls Try.prog 44 #[.pointer (some ⟨h.p, 0, none⟩)] w fun e w' => e = .returned (shV lv (w.heap.size + 1) l.length h.d) ∧ Below w.heap.size w w' ∧ Whole w' (w.heap.size + 1) (l.map keyV) 9 := by
  obtain ⟨a0, cap, hv, hc1, hc2⟩ := hA.own.slice
  have d0 : w.cell? ⟨h.p, 0, none⟩ = some (.int .i64 (lv : Int)) := hA.row.cell (i := 0) rfl
  have d1 : w.cell? ⟨h.p, 1, none⟩ = some (.slice a0 l.length cap) := by rw [← hv]; exact hA.row.cell (i := 1) rfl
  have hpw := hA.row.lt
  obtain ⟨N, hN⟩ : ∃ N, N = l.length := ⟨_, rfl⟩
  have hmk := makeStr N (by omega)
  have HC : Hid (∀ X, Below w.heap.size w X → ∀ i s, l[i]? = some s → ∃ g, a0 = some ⟨g, 0, none⟩ ∧ X.cell? ⟨g, i * 3, none⟩ = some (.string s.k) ∧ X.cell? ⟨g, i * 3 + 1, none⟩ = some (.string s.v) ∧ X.cell? ⟨g, i * 3 + 2, none⟩ = some (.pointer (s.kid.map fun b => ⟨b, 0, none⟩))) := fun X hb i s hs => by
    obtain ⟨g', cap', hv', _, _, _, _, q0, q1, q2, _⟩ := (hA.later hb).own.at hs
    rw [hv] at hv'; cases hv'
    exact ⟨_, rfl, q0, q1, q2⟩
  have HD : Hid (∀ X, Below w.heap.size w X → X.cell? ⟨h.p, 0, none⟩ = some (.int .i64 (lv : Int)) ∧ X.cell? ⟨h.p, 1, none⟩ = some (.slice a0 l.length cap) ∧ X.cell? ⟨h.p, 2, none⟩ = some (.bool h.d)) := fun X hb => ⟨(hA.later hb).row.cell (i := 0) rfl, by rw [← hv]; exact (hA.later hb).row.cell (i := 1) rfl, (hA.later hb).row.cell (i := 2) rfl⟩
  have hL : Hid (∀ i, i < N → ∃ s, l[i]? = some s) := fun i hi => ⟨_, List.getElem?_eq_getElem (by omega)⟩
  have HN : Hid (N = l.length) := hN
  have HS : Hid (Shg w l 0 ((w.alloc (.cells #[.int .i64 0, .slice none 0 0, .bool false] 48)).alloc (.cells (List.replicate N (Value.string ⟨#[]⟩)).toArray 9))) := Shg.start w l N hN
  rw [← hN] at d1 hl ⊢ HD
  unfold shV
  generalize (lv : Int) = L at *
  generalize h.d = hd at *
  generalize h.p = hp at *
  clear hA hv hN hc1 hc2
  go_enter Try.func44, Try.ntmps44
  go_wp2
  go_loopg [17] N (fun kx s wr => ∃ k : Nat, k + kx = N ∧ s = .int .i64 (k : Nat) ∧ Hid (Shg w l k wr))
  case atStart => exact ⟨0, by omega, rfl, HS.out⟩
  case round =>
    obtain ⟨k, hk, rfl, I⟩ := hrel
    have l0 := I.out.res.lt
    have l1 := I.out.keys.lt
    by_cases hlt : k < N
    · obtain ⟨s, hs⟩ := hL.out k hlt
      obtain ⟨g, rfl, q0, q1, q2⟩ := HC.out wr I.out.below k s hs
      have hcell : ∃ u, wr.cell? ⟨w.heap.size + 1, k, none⟩ = some u := by
        refine ⟨_, I.out.keys.cell.trans (List.getElem?_eq_getElem ?_)⟩
        rw [List.length_append, List.length_take, List.length_replicate, List.length_map, ← HN.out]; omega
      obtain ⟨u, hu⟩ := hcell
      have hfz := I.out.keys.frozen k
      have HF : Hid (∀ o, Shg w l (k + 1) ((wr.alloc o).setCell ⟨w.heap.size + 1, k, none⟩ (.string s.k))) := fun o => I.out.step hs o
      have hi1 : (k : Int) < (N : Int) := by omega
      clear hs I
      go_wp2
      go_roundg (N - (k + 1))
      case measure => omega
      case rel => exact ⟨k + 1, by omega, by go_num, by first | exact HF.out _ | (rw [alloc_setCell _ _ _ _ l1]; exact HF.out _)⟩
    · have hkN : k = N := by omega
      subst hkN
      obtain ⟨e0, e1, e2⟩ := HD.out wr I.out.below
      have c0 : wr.cell? ⟨w.heap.size, 0, none⟩ = some (.int .i64 0) := I.out.res.cell
      have c1 : wr.cell? ⟨w.heap.size, 1, none⟩ = some (.slice none 0 0) := I.out.res.cell
      have c2 : wr.cell? ⟨w.heap.size, 2, none⟩ = some (.bool false) := I.out.res.cell
      have f0 := I.out.res.frozen 0
      have f1 := I.out.res.frozen 1
      have f2 := I.out.res.frozen 2
      obtain ⟨W4, hW4⟩ : ∃ W4, W4 = (((wr.setCell ⟨w.heap.size, 0, none⟩ (.int .i64 L)).setCell ⟨w.heap.size, 1, none⟩ (.slice (some ⟨w.heap.size + 1, 0, none⟩) k k)).setCell ⟨w.heap.size, 2, none⟩ (.bool hd)).drew := ⟨_, rfl⟩
      obtain ⟨y1, y2, y3⟩ := I.out.fin HN.out rfl rfl rfl hW4
      have H4 : Hid (W4 = (((wr.setCell ⟨w.heap.size, 0, none⟩ (.int .i64 L)).setCell ⟨w.heap.size, 1, none⟩ (.slice (some ⟨w.heap.size + 1, 0, none⟩) k k)).setCell ⟨w.heap.size, 2, none⟩ (.bool hd)).drew) := hW4
      have z0 : W4.cell? ⟨w.heap.size, 0, none⟩ = some (.int .i64 L) := y3.cell
      have z1 : W4.cell? ⟨w.heap.size, 1, none⟩ = some (.slice (some ⟨w.heap.size + 1, 0, none⟩) k k) := y3.cell
      have z2 : W4.cell? ⟨w.heap.size, 2, none⟩ = some (.bool hd) := y3.cell
      have HE : Hid (Below w.heap.size w W4 ∧ Whole W4 (w.heap.size + 1) (l.map keyV) 9) := ⟨y1, y2⟩
      clear I hW4 y1 y2 y3
      go_wp2
      go_region_with (fail)
      all_goals
        rw [← H4.out]
        go_wp2
        refine bodyPost_ret (v := .agg #[.int .i64 L, .slice (some ⟨w.heap.size + 1, 0, none⟩) k k, .bool hd]) ?_ rfl ⟨rfl, HE.out.1, HE.out.2⟩
        simp [results, Try.f44, go_sem, z0, z1, z2]
end Go.Proofs.Ytlfgeanafidopaa.Bt
