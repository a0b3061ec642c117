/-
  A node's kids and clean; a tree's Clean.
-/
import Derived.Test.YtpflacbinankmaaBOpsD
import Derived.Laws.MakeOwn
namespace Go.Proofs.Ytpflacbinankmaa.Bt
open Go.RowKit
set_option maxRecDepth 10000

theorem made_one (z : Value) (n : Nat) : (madeCells #[z] n).toList = List.replicate n z := by
  unfold madeCells
  apply List.ext_getElem
  · simp
  · intro i h1 h2
    simp [Nat.mod_one]
theorem infoN : (Try.prog.info? 65).map (fun i => (i.zero, i.size, i.bytes)) = some (some (.pointer none), 1, 8) := by kernel_rfl
theorem makeN (N : Nat) (h : N ≤ 1000) (W : World) : (Instr.makeSlice 87 (.int .i64 (N : Int)) (.int .i64 (N : Int))).run Try.prog W = .ok (.slice (some ⟨W.heap.size, 0, none⟩) N N) (W.alloc (.cells (List.replicate N (Value.pointer none)).toArray 65)) := by
  obtain ⟨i0, hi, hz0, hz1, hz2⟩ := info_parts infoN
  have := run_make (P := Try.prog) W 87 65 i0 _ Try.underlying87 hi hz0 .i64 .i64 N N (by omega) (Int.le_refl _) (by rw [hz2]; omega) (by omega)
  rw [hz1] at this
  have e : (madeCells (Value.pointer none).cells ((N : Int).toNat * 1)) = (List.replicate N (Value.pointer none)).toArray := by
    apply Array.toList_inj.1
    rw [show (Value.pointer none).cells = #[Value.pointer none] from rfl, made_one]; simp
  rw [e] at this
  exact this
def kidP (s : Sl) : Value := .pointer (s.kid.map fun b => ⟨b, 0, none⟩)
theorem set_part {P : List Value} {k : Nat} {v : Value} (z : Value) (hk : P[k]? = some v) : (P.take k ++ List.replicate (P.length - k) z).set k v = P.take (k + 1) ++ List.replicate (P.length - (k + 1)) z := by
  obtain ⟨hlt, he⟩ := List.getElem?_eq_some_iff.1 hk
  rw [List.set_append_right _ _ (by rw [List.length_take]; omega), List.length_take, Nat.min_eq_left (by omega), Nat.sub_self, show P.length - k = (P.length - (k + 1)) + 1 by omega, List.replicate_succ, List.set_cons_zero, List.take_succ_eq_append_getElem hlt, he]
  simp
set_option maxHeartbeats 2000000 in
theorem kids_any (h : Hd) (lv : Nat) (l : List Sl) (w : World) (hA : At w h lv l) (hl : l.length ≤ 500) (h1 : 0 < l.length) (hlv : 0 < lv) :
    Calls Try.prog 45 #[.pointer (some ⟨h.p, 0, none⟩)] w fun e w' => ∃ B, e = .returned (.slice (some ⟨B, 0, none⟩) l.length l.length) ∧ Below w.heap.size w w' ∧ w.heap.size ≤ B ∧ Whole w' B (l.map kidP) 65 := by
  obtain ⟨s0, hs0⟩ : ∃ s, l[0]? = some s := ⟨_, List.getElem?_eq_getElem h1⟩
  obtain ⟨g, cap, hv, ho, _, _, hgw, _⟩ := hA.own.at hs0
  have d0 : w.cell? ⟨h.p, 0, none⟩ = some (.int .i64 (lv : Int)) := hA.row.cell (i := 0) rfl
  have d1 : w.cell? ⟨h.p, 1, none⟩ = some (.slice (some ⟨g, 0, none⟩) l.length cap) := by rw [← hv]; exact hA.row.cell (i := 1) rfl
  have hpw := hA.row.lt
  obtain ⟨N, hN⟩ : ∃ N, N = l.length := ⟨_, rfl⟩
  have hmk := makeN N (by omega)
  have HC : Hid (∀ X, Below w.heap.size w X → ∀ i s, l[i]? = some s → X.cell? ⟨g, i * 3, none⟩ = some (.string s.k) ∧ X.cell? ⟨g, i * 3 + 1, none⟩ = some (.string s.v) ∧ X.cell? ⟨g, i * 3 + 2, none⟩ = some (.pointer (s.kid.map fun b => ⟨b, 0, none⟩))) := fun X hb i s hs => by
    obtain ⟨g', cap', hv', _, _, _, _, q0, q1, q2, _⟩ := (hA.later hb).own.at hs
    rw [hv] at hv'; cases hv'
    exact ⟨q0, q1, q2⟩
  have hL : Hid (∀ i, i < N → ∃ s, l[i]? = some s) := fun i hi => ⟨_, List.getElem?_eq_getElem (by omega)⟩
  have HN : Hid (N = l.length) := hN
  rw [← hN] at d1 h1 hl ⊢
  have hn2 : ((lv : Int) == 0) = false := by simp; omega
  have hn3 : ¬ (lv : Int) = 0 := by omega
  generalize (lv : Int) = L at *
  clear hA hs0 hv ho hN
  go_enter Try.func45, Try.ntmps45
  go_wp2
  go_loopg [22] N (fun kx s wr => ∃ k : Nat, k + kx = N ∧ s = .int .i64 (k : Nat) ∧ Hid (Below w.heap.size w wr ∧ Whole wr w.heap.size ((l.map kidP).take k ++ List.replicate ((l.map kidP).length - k) (.pointer none)) 65))
  case atStart =>
    refine ⟨0, by omega, rfl, ?_⟩
    refine (⟨below_new w _, ?_⟩ : Below w.heap.size w _ ∧ Whole _ w.heap.size _ _)
    have := Whole.new w (List.replicate N (.pointer none)) 65
    rw [List.take_zero, List.nil_append, List.length_map, Nat.sub_zero, ← HN.out]
    exact this
  case round =>
    obtain ⟨k, hk, rfl, I⟩ := hrel
    by_cases hlt : k < N
    · obtain ⟨s, hs⟩ := hL.out k hlt
      obtain ⟨q0, q1, q2⟩ := HC.out wr I.out.1 k s hs
      have hPk : (l.map kidP)[k]? = some (kidP s) := by rw [List.getElem?_map, hs]; rfl
      have hsp := set_part (.pointer none) hPk
      have hcell : ∃ u, wr.cell? ⟨w.heap.size, k, none⟩ = some u := by
        refine ⟨_, I.out.2.cell.trans (List.getElem?_eq_getElem ?_)⟩
        rw [List.length_append, List.length_take, List.length_replicate, List.length_map, ← HN.out]; omega
      obtain ⟨u, hu⟩ := hcell
      have hfz := I.out.2.frozen k
      have fin : ∀ o W', (W' = (wr.alloc o).setCell ⟨w.heap.size, k, none⟩ (kidP s) ∨ W' = (wr.setCell ⟨w.heap.size, k, none⟩ (kidP s)).alloc o) → Below w.heap.size w W' ∧ Whole W' w.heap.size ((l.map kidP).take (k + 1) ++ List.replicate ((l.map kidP).length - (k + 1)) (.pointer none)) 65 := by
        rintro o W' (rfl | rfl)
        · refine ⟨(bafter I.out.1 (below_new wr o)).setCell (p := ⟨w.heap.size, k, none⟩) (Nat.le_refl _) _, ?_⟩
          have := (I.out.2.later (below_new wr o)).set (i := k) (kidP s)
          rwa [hsp] at this
        · have hb := I.out.1.setCell (p := ⟨w.heap.size, k, none⟩) (Nat.le_refl _) (kidP s)
          refine ⟨bafter hb (below_new _ o), ?_⟩
          have := I.out.2.set (i := k) (kidP s)
          rw [hsp] at this
          exact this.later (below_new _ o)
      have HF : Hid (∀ o W', (W' = (wr.alloc o).setCell ⟨w.heap.size, k, none⟩ (kidP s) ∨ W' = (wr.setCell ⟨w.heap.size, k, none⟩ (kidP s)).alloc o) → Below w.heap.size w W' ∧ Whole W' w.heap.size ((l.map kidP).take (k + 1) ++ List.replicate ((l.map kidP).length - (k + 1)) (.pointer none)) 65) := fin
      have hbz : w.heap.size < wr.heap.size := I.out.2.lt
      have hi1 : (k : Int) < (N : Int) := by omega
      clear fin hsp hPk hs I
      go_wp2
      go_roundg (N - (k + 1))
      case measure => omega
      case rel => exact ⟨k + 1, by omega, by go_num, by first | exact HF.out _ _ (.inr rfl) | exact HF.out _ _ (.inl rfl)⟩
    · have hkN : k = N := by omega
      subst hkN
      go_wp2
      go_ret
      refine ⟨w.heap.size, rfl, I.out.1, Nat.le_refl _, ?_⟩
      have := I.out.2
      rw [List.take_of_length_le (by rw [List.length_map, ← HN.out]; exact Nat.le_refl _), List.length_map, ← HN.out, Nat.sub_self] at this
      simpa using this
set_option maxHeartbeats 1000000 in
theorem kids_leaf (h : Hd) (l : List Sl) (w : World) (hA : At w h 0 l) :
    Calls Try.prog 45 #[.pointer (some ⟨h.p, 0, none⟩)] w fun e w' => e = .returned (.slice none 0 0) ∧ w = w' := by
  have d0 : w.cell? ⟨h.p, 0, none⟩ = some (.int .i64 0) := hA.row.cell (i := 0) rfl
  clear hA
  go_enter Try.func45, Try.ntmps45
  go_wp2
  go_ret
  exact ⟨rfl, rfl⟩
end Go.Proofs.Ytpflacbinankmaa.Bt
