/-
  slices.Insert at slots: one slot, ahead of others.
-/
import Derived.Test.YtlfgeanafidopaaQA
namespace Go.Proofs.Ytlfgeanafidopaa.Bt
open Go.RowKit
set_option maxRecDepth 10000

theorem setCells_size (g : Nat) : ∀ (vs : List Value) (o : Nat) (X : World), (X.setCells g o vs).heap.size = X.heap.size
  | [], _, _ => rfl
  | a :: r, o, X => by rw [World.setCells, setCells_size g r]; simp [World.setCell]

set_option maxHeartbeats 4000000 in
theorem insert_shift (g cap i : Nat) (l : List Sl) (s : Sl) (vb vc : Nat) (cs : List Value) (w : World) (hw : Whole w g cs 77) (c2 : cap ≤ maxLen) (c3 : cs.length = cap * 3) (c4 : cs.take (l.length * 3) = l.flatMap slv)
    (hi : i < l.length) (hl : l.length ≤ 1000) (hroom : l.length + 1 ≤ cap) (hV : Whole w vb (slv s) 77) (hvb : vb ≠ g) :
    Calls Try.prog 68 #[.slice (some ⟨g, 0, none⟩) l.length cap, .int .i64 i, .slice (some ⟨vb, 0, none⟩) 1 vc] w fun e w' => ∃ v', e = .returned v' ∧ Inserted w (.slice (some ⟨g, 0, none⟩) l.length cap) (l.take i ++ s :: l.drop i) v' w' := by
  obtain ⟨n, hn⟩ : ∃ n, n = l.length := ⟨_, rfl⟩
  rw [← hn] at hi hl hroom c4 ⊢
  obtain ⟨news, hnews⟩ : ∃ news, news = (l.drop i).flatMap slv := ⟨_, rfl⟩
  have hlen : news.length = (n - i) * 3 := by rw [hnews, flat_len slv 3 slv_len, List.length_drop, hn]
  have hget : ∀ t u, news[t]? = some u → cs[i * 3 + t]? = some u := by
    intro t u hu
    have ht := (List.getElem?_eq_some_iff.1 hu).1
    rw [hlen] at ht
    rw [hnews, ← flat_drop slv 3 slv_len, List.getElem?_drop, ← c4, List.getElem?_take, if_pos (by omega)] at hu
    exact hu
  have hov : ∀ lb cb, (callFunc 70 #[.slice (some ⟨vb, 0, none⟩) 1 vc, .slice (some ⟨g, (i + 1) * 3, none⟩) lb cb]).run Try.prog w = .ok (.value (.bool false)) w := fun lb cb => by
    rw [run_callFunc_extern Try.func70 (by kernel_rfl) (by kernel_rfl) (by kernel_rfl) (e := Extern.SlicesOverlaps.overlaps #[72, 72] #[4]) (by kernel_rfl),
      Lib.run_overlaps_apart w 72 4 77 Try.underlying72 3 Try.sizeOf77 ⟨vb, 0, none⟩ ⟨g, (i + 1) * 3, none⟩ 1 vc lb cb hvb _ _ _ _ hV.shape hw.shape (by rw [c3]; omega) (hV.frozen _) (hV.frozen _)]
    rfl
  have hcp1 : ∀ ty dc sc, (Builtin.copy_ #[72, 72] ty #[.slice (some ⟨g, (i + 1) * 3, none⟩) (n - i) dc, .slice (some ⟨g, i * 3, none⟩) (n + 1 - i) sc]).run Try.prog w.drew = .ok (goInt (n - i : Nat)) (w.drew.setCells g ((i + 1) * 3) news) := fun ty dc sc =>
    run_copy_slots w.drew ty g ((i + 1) * 3) _ dc ⟨g, i * 3, none⟩ _ sc (n - i) news (by simp only [Nat.min_def]; split <;> omega) hlen
      (fun j v hj => by rw [Addr.add_lit]; exact hw.cell.trans (hget j v hj)) (fun j hj => by show (w.cell? _).isSome = true; rw [hw.cell, List.getElem?_eq_getElem (by rw [c3]; omega)]; rfl) hw.frozen (fun v hv => slv_one _ v (by rw [← hnews]; exact hv))
  obtain ⟨W1, hW1⟩ : ∃ W1, W1 = w.drew.setCells g ((i + 1) * 3) news := ⟨_, rfl⟩
  obtain ⟨cs1, hcs1⟩ : ∃ cs1, cs1 = cs.take ((i + 1) * 3) ++ news ++ cs.drop ((i + 1) * 3 + news.length) := ⟨_, rfl⟩
  have hw1 : Whole W1 g cs1 77 := by rw [hW1, hcs1]; exact Whole.setCells news ((i + 1) * 3) w.drew cs hw (by rw [c3]; omega)
  have l1 : cs1.length = cap * 3 := by rw [hcs1]; simp only [List.length_append, List.length_take, List.length_drop]; omega
  have k1 : Kept (fun b => (some g : Option Nat) = some b) w W1 := by rw [hW1]; exact kept_setCells (S := fun b => (some g : Option Nat) = some b) rfl _ _ _ (Kept.refl _ w).drew
  have hV1 : Whole W1 vb (slv s) 77 := hV.kept k1 (fun e => hvb (by simpa using e.symm))
  have hcp2 : ∀ ty dc, (Builtin.copy_ #[72, 72] ty #[.slice (some ⟨g, i * 3, none⟩) (n + 1 - i) dc, .slice (some ⟨vb, 0, none⟩) 1 vc]).run Try.prog W1 = .ok (goInt (1 : Nat)) (W1.setCells g (i * 3) (slv s)) := fun ty dc =>
    run_copy_slots W1 ty g (i * 3) _ dc ⟨vb, 0, none⟩ 1 vc 1 (slv s) (by simp only [Nat.min_def]; split <;> omega) rfl
      (fun j v hj => by rw [Addr.add_lit, Nat.zero_add, hV1.cell]; exact hj) (fun j hj => by rw [slv_len] at hj; rw [hw1.cell, List.getElem?_eq_getElem (by rw [l1]; omega)]; rfl) hw1.frozen (fun v hv => slv_one [s] v (by simpa using hv))
  rw [← hW1] at hcp1
  have fin : Inserted w (.slice (some ⟨g, 0, none⟩) n cap) (l.take i ++ s :: l.drop i) (.slice (some ⟨g, 0, none⟩) (n + 1) cap) (W1.setCells g (i * 3) (slv s)) := by
    have hw2 := Whole.setCells (slv s) (i * 3) W1 cs1 hw1 (by rw [slv_len, l1]; omega)
    have hle : (l.take i ++ s :: l.drop i).length = n + 1 := by rw [List.length_append, List.length_take, List.length_cons, List.length_drop]; omega
    refine ⟨?_, ⟨g, rfl, .inl rfl⟩, kept_setCells (S := fun b => (some g : Option Nat) = some b) rfl _ _ _ k1⟩
    have sh := Slots.of (l := l.take i ++ s :: l.drop i) (cap := cap) hw2 (by omega) c2 (by simp only [List.length_append, List.length_take, List.length_drop, slv_len]; omega) ?_
    · rw [hle] at sh; exact sh
    · have t1 : cs1.take (i * 3) = (l.take i).flatMap slv := by
        rw [hcs1, List.append_assoc, List.take_append_of_le_length (by rw [List.length_take, c3]; omega), List.take_take, Nat.min_eq_left (by omega), ← flat_take slv 3 slv_len, ← c4, List.take_take, Nat.min_eq_left (by omega)]
      have t2 : (cs1.drop (i * 3 + 3)).take ((n - i) * 3) = news := by
        rw [hcs1, List.append_assoc, List.drop_append_of_le_length (by rw [List.length_take, c3]; omega), List.drop_eq_nil_of_le (by rw [List.length_take]; omega), List.nil_append, List.take_append_of_le_length (by omega), List.take_of_length_le (by omega)]
      rw [hle, t1, slv_len, List.append_assoc, List.take_append, flat_len slv 3 slv_len, List.length_take, ← hn, Nat.min_eq_left (by omega), List.take_of_length_le (l := (l.take i).flatMap slv) (by rw [flat_len slv 3 slv_len, List.length_take]; omega), List.take_append, slv_len, List.take_of_length_le (l := slv s) (by rw [slv_len]; omega), show (n + 1) * 3 - i * 3 - 3 = (n - i) * 3 by omega, t2, hnews]
      simp
  have HF : Hid (Inserted w (.slice (some ⟨g, 0, none⟩) n cap) (l.take i ++ s :: l.drop i) (.slice (some ⟨g, 0, none⟩) (n + 1) cap) (W1.setCells g (i * 3) (slv s))) := fin
  have hz2 : ¬ ((i : Int) = (n : Int)) := by omega
  have hin : i ≤ n := by omega
  have hw1' : IntKind.i64.wrap ((i : Int) + 1) = (i : Int) + 1 := by rw [IntKind.wrap_i64]; omega
  have hb1 : (0 : Int) ≤ (i : Int) + 1 := by omega
  have htn : ((i : Int) + 1).toNat = i + 1 := by omega
  have hb2 : ¬ (cap = i + 1) := by omega
  have hb3 : (i : Int) ≤ (n : Int) + 1 := by omega
  have hb4 : ¬ (cap = i) := by omega
  have hb5 : (i : Int) + 1 ≤ (n : Int) + 1 := by omega
  clear fin hw1 hcs1 l1 hw hget hnews hlen c3 c4 hV hV1 k1 hW1 hn
  unfold maxLen at c2
  go_enter Try.func68, Try.ntmps68
  go_wp2_with (simp only [hov])
  go_region_law (refine step_copy_run rfl _ _ 72 72 rfl _ _ (by simp [Act.eval, Act.put]) (by simp [Act.eval, Act.put]) (hcp1 _ _ _) ?_)
  go_wp2_with (refine wpl_copy_run _ rfl _ _ 72 72 rfl _ _ rfl rfl (hcp2 _ _) ?_)
  go_ret
  exact ⟨_, rfl, HF.out⟩
end Go.Proofs.Ytlfgeanafidopaa.Bt
