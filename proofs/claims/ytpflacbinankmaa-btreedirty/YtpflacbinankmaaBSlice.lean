/-
  slices.Delete at slots.
-/
import Derived.Test.YtpflacbinankmaaBMem
import Derived.Deep.RegionLaw
import Derived.Deep.QuietTactic
import Derived.BigQuiet
namespace Go.Proofs.Ytpflacbinankmaa.Bt
open Go.RowKit
set_option maxRecDepth 10000

def zeroS : List Value := [.string ⟨#[]⟩, .string ⟨#[]⟩, .pointer none]
theorem zeros_slots (n : Nat) : ∀ v ∈ (Builtin.zeroCells zeroS.toArray n).toList, v.oneCell' = true := by
  intro v hv
  simp only [Builtin.zeroCells, zeroS] at hv
  simp at hv
  obtain ⟨i, _, rfl⟩ := hv
  have : i % 3 < 3 := Nat.mod_lt _ (by decide)
  rcases (by omega : i % 3 = 0 ∨ i % 3 = 1 ∨ i % 3 = 2) with e | e | e <;> simp [e] <;> rfl
theorem zeros_len (n : Nat) : (Builtin.zeroCells zeroS.toArray n).toList.length = n * 3 := by simp [Builtin.zeroCells, zeroS]
theorem zeroV (w : World) : (zeroValue 77).run Try.prog w = .ok (.agg zeroS.toArray) w := Try.zeroValue77 w
theorem run_clear_slots (w : World) (ty : TypeId) (g o n c : Nat) (hn : 0 < n) (hc : ∀ j, j < n * 3 → (w.cell? ⟨g, o + j, none⟩).isSome = true) (hf : ∀ j, w.frozen? ⟨g, j, none⟩ = false) :
    (Builtin.clear_ #[72] ty #[.slice (some ⟨g, o, none⟩) n c]).run Try.prog w = .ok (.tuple #[]) (w.setCells g o (Builtin.zeroCells zeroS.toArray n).toList) := by
  have hst := run_storeCells_cells (P := Try.prog) g o (Builtin.zeroCells zeroS.toArray n).toList 0 w (by rw [zeros_len]; simpa using hc) (fun j _ => hf _) (zeros_slots n)
  simp only [Nat.add_zero] at hst
  have hz := zeroV w
  obtain ⟨m, rfl⟩ : ∃ m, n = m + 1 := ⟨n - 1, by omega⟩
  have e : (Value.agg zeroS.toArray).cells = zeroS.toArray := rfl
  simp [Builtin.clear_, run_underlying Try.underlying72, hz, e, hst]
theorem run_copy_slots (w : World) (ty : TypeId) (g o dLen dCap : Nat) (a : Addr) (sLen sCap n : Nat) (cs : List Value) (hn : n = Nat.min sLen dLen) (hl : cs.length = n * 3)
    (hsrc : ∀ j v, cs[j]? = some v → w.cell? (a.add j) = some v) (hc : ∀ j, j < cs.length → (w.cell? ⟨g, o + j, none⟩).isSome = true) (hf : ∀ j, w.frozen? ⟨g, j, none⟩ = false) (h1 : ∀ v ∈ cs, v.oneCell' = true) :
    (Builtin.copy_ #[72, 72] ty #[.slice (some ⟨g, o, none⟩) dLen dCap, .slice (some a) sLen sCap]).run Try.prog w = .ok (goInt n) (w.setCells g o cs) := by
  have hld := run_loadCells_list (P := Try.prog) w a cs hsrc
  have hst := run_storeCells_cells (P := Try.prog) g o cs 0 w (by simpa using hc) (fun j _ => hf _) h1
  obtain ⟨i, hi, h0, h1', h2⟩ := info_parts infoS
  rw [hl] at hld
  simp only [Nat.add_zero] at hst
  simp [Builtin.copy_, run_underlying Try.underlying72, Builtin.lenOf, Builtin.firstCells, sizeOf, typeInfo, hi, h1', ← hn, hld, hst]

set_option maxHeartbeats 4000000 in
theorem delete_any (v : Value) (l : List Sl) (i j : Nat) (w : World) (h : Slots w v l) (hij : i < j) (hj : j ≤ l.length) :
    Calls Try.prog 64 #[v, .int .i64 i, .int .i64 j] w fun e w' => ∃ v', e = .returned v' ∧ Slots w' v' (l.take i ++ l.drop j) ∧ v'.ownBlock = v.ownBlock ∧ Kept (fun b => v.ownBlock = some b) w w' ∧ w'.heap.size = w.heap.size := by
  rcases h.form with ⟨rfl, rfl⟩ | ⟨g, cap, cs, rfl, ho, hw, c1, c2, c3, c4⟩
  · simp at hj; omega
  obtain ⟨n, hn⟩ : ∃ n, n = l.length := ⟨_, rfl⟩
  rw [← hn] at hj c1 c4
  rw [show (Value.slice (some ⟨g, 0, none⟩) l.length cap) = .slice (some ⟨g, 0, none⟩) n cap by rw [hn]]
  obtain ⟨news, hnews⟩ : ∃ news, news = (l.drop j).flatMap slv := ⟨_, rfl⟩
  have hlen : news.length = (n - j) * 3 := by rw [hnews, flat_len slv 3 slv_len, List.length_drop, hn]
  have hget : ∀ t u, news[t]? = some u → cs[j * 3 + t]? = some u := by
    intro t u hu
    have ht := (List.getElem?_eq_some_iff.1 hu).1
    rw [hlen] at ht
    rw [hnews, ← flat_drop slv 3 slv_len, List.getElem?_drop, ← c4, List.getElem?_take, if_pos (by omega)] at hu
    exact hu
  obtain ⟨A, hA, hsrc⟩ : ∃ A : Addr, (if cap = j then some (⟨g, 0, none⟩ : Addr) else some ⟨g, j * 3, none⟩) = some A ∧ Hid (∀ t u, news[t]? = some u → w.drew.cell? (A.add t) = some u) := by
    by_cases h : cap = j
    · refine ⟨⟨g, 0, none⟩, by simp [h], fun t u hu => ?_⟩
      have h0 : news.length = 0 := by rw [hlen]; omega
      rw [List.length_eq_zero_iff.1 h0] at hu
      simp at hu
    · refine ⟨⟨g, j * 3, none⟩, by simp [h], fun t u hu => ?_⟩
      rw [Addr.add_lit]
      exact hw.cell.trans (hget t u hu)
  have s1 : Hid (news.length = (n - j) * 3) := hlen
  have s2 : Hid (∀ u ∈ news, u.oneCell' = true) := by intro u hu; rw [hnews] at hu; exact slv_one _ u hu
  have s3 : Hid (∀ t, t < news.length → (w.drew.cell? ⟨g, 0 + i * 3 + t, none⟩).isSome = true ∧ w.drew.frozen? ⟨g, 0 + i * 3 + t, none⟩ = false) := by
    intro t ht
    refine ⟨?_, hw.frozen _⟩
    show (w.cell? _).isSome = true
    rw [hw.cell, List.getElem?_eq_getElem (by rw [c3]; omega)]; rfl
  obtain ⟨W1, hW1⟩ : ∃ W1, W1 = w.drew.setCells g (0 + i * 3) news := ⟨_, rfl⟩
  obtain ⟨cs1, hcs1⟩ : ∃ cs1, cs1 = cs.take (i * 3) ++ news ++ cs.drop (i * 3 + news.length) := ⟨_, rfl⟩
  have hw1 : Whole W1 g cs1 77 := by
    rw [hW1, hcs1, Nat.zero_add]
    exact Whole.setCells news (i * 3) w.drew cs hw (by rw [c3]; omega)
  have l1 : cs1.length = cap * 3 := by rw [hcs1]; simp only [List.length_append, List.length_take, List.length_drop]; omega
  have hcl : ∀ ty, (Builtin.clear_ #[72] ty #[.slice (some ⟨g, (i + (n - j)) * 3, none⟩) (n - (i + (n - j))) (cap - (i + (n - j)))]).run Try.prog W1 = .ok (.tuple #[]) (W1.setCells g ((i + (n - j)) * 3) (Builtin.zeroCells zeroS.toArray (n - (i + (n - j)))).toList) :=
    fun ty => run_clear_slots W1 ty g _ _ _ (by omega) (fun t ht => by rw [hw1.cell, List.getElem?_eq_getElem (by rw [l1]; omega)]; rfl) hw1.frozen
  have fin : ∀ W2, W2 = W1.setCells g ((i + (n - j)) * 3) (Builtin.zeroCells zeroS.toArray (n - (i + (n - j)))).toList → Slots W2 (.slice (some ⟨g, 0, none⟩) (i + (n - j)) cap) (l.take i ++ l.drop j) ∧ Kept (fun b => (some g : Option Nat) = some b) w W2 ∧ W2.heap.size = w.heap.size := by
    rintro W2 rfl
    have hw2 := Whole.setCells (Builtin.zeroCells zeroS.toArray (n - (i + (n - j)))).toList ((i + (n - j)) * 3) W1 cs1 hw1 (by rw [zeros_len, l1]; omega)
    have hle : (l.take i ++ l.drop j).length = i + (n - j) := by rw [List.length_append, List.length_take, List.length_drop]; omega
    have k1 : Kept (fun b => (some g : Option Nat) = some b) w W1 := by rw [hW1]; exact kept_setCells (S := fun b => (some g : Option Nat) = some b) rfl _ _ _ (Kept.refl _ w).drew
    refine ⟨?_, kept_setCells (S := fun b => (some g : Option Nat) = some b) rfl _ _ _ k1, ?_⟩
    · have sh := Slots.of (l := l.take i ++ l.drop j) (cap := cap) hw2 (by omega) c2 ?_ ?_
      · rw [hle] at sh; exact sh
      · simp only [List.length_append, List.length_take, List.length_drop, zeros_len]; omega
      · rw [hle, List.append_assoc, List.take_append_of_le_length (by rw [List.length_take, l1]; omega), List.take_take, Nat.min_self, hcs1, List.append_assoc, ← List.append_assoc, List.take_append_of_le_length (by rw [List.length_append, List.length_take, hlen]; omega)]
        rw [List.take_of_length_le (by rw [List.length_append, List.length_take, hlen]; omega), List.flatMap_append, hnews]
        congr 1
        rw [← flat_take slv 3 slv_len, ← c4, List.take_take, Nat.min_eq_left (by omega)]
    · have e : ∀ (vs : List Value) (o : Nat) (X : World), (X.setCells g o vs).heap.size = X.heap.size := by
        intro vs
        induction vs with
        | nil => intros; rfl
        | cons a r ih => intro o X; rw [World.setCells, ih]; simp [World.setCell]
      rw [e, hW1, e]; rfl
  have HF : Hid (∀ W2, W2 = W1.setCells g ((i + (n - j)) * 3) (Builtin.zeroCells zeroS.toArray (n - (i + (n - j)))).toList → Slots W2 (.slice (some ⟨g, 0, none⟩) (i + (n - j)) cap) (l.take i ++ l.drop j) ∧ Kept (fun b => (some g : Option Nat) = some b) w W2 ∧ W2.heap.size = w.heap.size) := fin
  have hW : Hid (W1 = w.drew.setCells g (0 + i * 3) news) := hW1
  have hic : i ≤ cap := by omega
  have hjc : j ≤ cap := by omega
  obtain ⟨i0, hi0, _, hz1, _⟩ := info_parts infoS
  clear fin hW1 hw1 hcs1 l1 hw hget hnews hlen c3 c4 h ho hn
  unfold maxLen at c2
  go_enter Try.func64, Try.ntmps64
  go_wp2_with fail
  go_region_law (refine step_append_room rfl (.tmp 22) (.tmp 25) 72 rfl 77 i0 3 Try.underlying72 hi0 hz1 g 0 i cap (by simp [Act.eval, Act.put]) A (n - j) (cap - j) news (by simp [Act.eval, Act.put]) s1.out hsrc.out s2.out (by omega) s3.out ?_; rw [← hW.out])
  go_wp2
  go_ret
  exact ⟨_, rfl, (HF.out _ rfl).1, rfl, (HF.out _ rfl).2.1, (HF.out _ rfl).2.2⟩
end Go.Proofs.Ytpflacbinankmaa.Bt
