/-
  What was made is read as it was: by numbers and lists alone.
-/
import Derived.Test.YtefpcdpclpignaaKPM
import Derived.Test.YtefpcdpclpignaaKParE
import Derived.Test.YtefpcdpclpignaaKKeyM
namespace Go.Proofs.Ytefpcdpclpignaa
open Go.RowKit M

theorem num_put (m : Nat) (hm : m ≤ 8) (k : Nat) (hk : k < 256 ^ m) (x : List UInt8) : numV m (u8s (putL m k) ++ x) = k ∧ txR m (u8s (putL m k) ++ x) = x := by
  have hl : (u8s (putL m k)).length = m := by rw [u8s_length, putL_length]
  have h1 : m ≤ (u8s (putL m k) ++ x).length := by rw [List.length_append]; omega
  refine ⟨?_, ?_⟩
  · rw [numV_le h1 hm, List.take_left' hl, nats_u8s (putL_lt _ _), getL_putL, Nat.mod_eq_of_lt hk]
  · rw [txR_le' h1, List.drop_left' hl]
theorem inVal_len (k m u g l s : Nat) : (inVal k m u g l s).length = 13 := by
  unfold inVal
  simp [u8s_length, putL_length]
theorem back_in (i : In) (h : i.right = true) : piOk i.nd = true ∧ vIn (kindOf i.nd.key).2.1 i.nd.val = i := by
  have h' := h
  obtain ⟨a0, a1, a2, a3, a4, a5, a6, rfl, q1, q2, q3, q4, q5, q6, q7, q8, q9⟩ := In.right_nat h
  have hm : ((m16 (a0 : Int) : Nat) : Int) = a0 := m16_small (by omega) (by omega)
  have hm2 : m16 (a0 : Int) = a0 := by omega
  have hk : kindOf (In.nd ⟨a0, a1, a2, a3, a4, a5, a6⟩).key = (1, a0, [], 0) := by
    show kindOf (pre3 a0 1) = _
    rw [kind_inode, if_pos (by rw [hm]; exact decide_eq_true (by omega)), hm2]
  have hv : (In.nd ⟨a0, a1, a2, a3, a4, a5, a6⟩).val = u8s (putL 1 a1) ++ (u8s (putL 2 a2) ++ (u8s (putL 2 a3) ++ (u8s (putL 2 a4) ++ (u8s (putL 2 a5) ++ (u8s (putL 4 a6) ++ []))))) := by
    show inVal a1 a2 a3 a4 a5 a6 = _
    unfold inVal
    simp [List.append_assoc]
  have hV : vIn (kindOf (In.nd ⟨a0, a1, a2, a3, a4, a5, a6⟩).key).2.1 (In.nd ⟨a0, a1, a2, a3, a4, a5, a6⟩).val = ⟨a0, a1, a2, a3, a4, a5, a6⟩ := by
    rw [hk, hv]
    unfold vIn
    rw [(num_put 1 (by decide) a1 (by omega) _).1, (num_put 1 (by decide) a1 (by omega) _).2, (num_put 2 (by decide) a2 (by omega) _).1, (num_put 2 (by decide) a2 (by omega) _).2,
      (num_put 2 (by decide) a3 (by omega) _).1, (num_put 2 (by decide) a3 (by omega) _).2, (num_put 2 (by decide) a4 (by omega) _).1, (num_put 2 (by decide) a4 (by omega) _).2,
      (num_put 2 (by decide) a5 (by omega) _).1, (num_put 2 (by decide) a5 (by omega) _).2, (num_put 4 (by decide) a6 (by omega) _).1]
  refine ⟨?_, hV⟩
  unfold piOk
  rw [hV, h', hk]
  have h13 : (In.nd ⟨a0, a1, a2, a3, a4, a5, a6⟩).val.length = 13 := inVal_len _ _ _ _ _ _
  rw [h13]
  rfl
theorem back_en (dir : Int) (e : En) (h : enOk dir e = true) : peOk (En.nd dir e) = true ∧ ((kindOf (En.nd dir e).key).2.1 : Int) = dir ∧ vEn (kindOf (En.nd dir e).key).2.2.1 (En.nd dir e).val = e := by
  unfold enOk at h
  rw [Bool.and_eq_true] at h
  obtain ⟨h1, h2⟩ := h
  have h2' := h2
  obtain ⟨name, b1, b2⟩ := e
  unfold En.right at h2
  rw [Bool.and_eq_true, Bool.and_eq_true] at h2
  obtain ⟨⟨hn, hi⟩, ht⟩ := h2
  dsimp only at hn hi ht
  have hi' := of_decide_eq_true hi
  have ht' := of_decide_eq_true ht
  have hd' := of_decide_eq_true h1
  obtain ⟨a1, rfl⟩ : ∃ a : Nat, b1 = (a : Int) := ⟨b1.toNat, by omega⟩
  obtain ⟨a2, rfl⟩ : ∃ a : Nat, b2 = (a : Int) := ⟨b2.toNat, by omega⟩
  have hm : ((m16 dir : Nat) : Int) = dir := m16_small (by omega) (by omega)
  have hk : kindOf (En.nd dir ⟨name, a1, a2⟩).key = (2, m16 dir, name, 0) := by
    show kindOf (pre3 dir 2 ++ name) = _
    rw [kind_entry, if_pos ⟨by rw [hm]; exact h1, hn⟩]
  have hv : (En.nd dir ⟨name, a1, a2⟩).val = u8s (putL 2 a1) ++ (u8s (putL 1 a2) ++ []) := by
    show u8s (putL 2 a1) ++ u8s (putL 1 a2) = _
    simp
  have hV : vEn (kindOf (En.nd dir ⟨name, a1, a2⟩).key).2.2.1 (En.nd dir ⟨name, a1, a2⟩).val = ⟨name, a1, a2⟩ := by
    rw [hk, hv]
    unfold vEn
    rw [(num_put 2 (by decide) a1 (by omega) _).1, (num_put 2 (by decide) a1 (by omega) _).2, (num_put 1 (by decide) a2 (by omega) _).1]
  refine ⟨?_, by rw [hk]; exact hm, hV⟩
  unfold peOk
  rw [hV, h2', hk]
  have h3 : (En.nd dir ⟨name, a1, a2⟩).val.length = 3 := by rw [hv]; simp [u8s_length, putL_length]
  rw [h3]
  rfl
theorem bytes_pmT (n : Nd) : pmT (u8s n.bytes) = n.tag := by
  have ht : n.tag < 256 := by unfold Nd.tag; cases n.gone <;> decide
  have e0 : u8s n.bytes = u8s [n.tag] ++ (u8s (putL 1 n.key.length) ++ (n.key ++ (u8s (putL 2 n.val.length) ++ n.val))) := by
    rw [bytes_u8s]; simp [List.append_assoc]
  rw [e0, ← u8s_byte _ ht]
  exact (num_put 1 (by decide) n.tag (by omega) _).1
theorem bytes_noMark (n : Nd) : pmOk (u8s n.bytes) = false := by
  unfold pmOk
  rw [bytes_pmT]
  have : (n.tag == 3) = false := by unfold Nd.tag; cases n.gone <;> rfl
  rw [this, Bool.and_false, Bool.false_and]
theorem mark_u8s (g k : Nat) : u8s (markL g k) = u8s (putL 1 3) ++ (u8s (putL 8 g) ++ (u8s (putL 1 k) ++ [])) := by
  unfold markL
  rw [u8s_append, u8s_append, u8s_append, u8s_byte 3 (by decide)]
  simp [u8s]
theorem back_mark (g k : Nat) (hg : g < 18446744073709551616) (k1 : 1 ≤ k) (k2 : k ≤ 16) : pmOk (u8s (markL g k)) = true ∧ pmG (u8s (markL g k)) = g ∧ pmC (u8s (markL g k)) = k ∧ uOk (u8s (markL g k)) = false := by
  have hl : (u8s (markL g k)).length = 10 := by rw [u8s_length]; simp [markL, putL_length]
  have hT : numV 1 (u8s (markL g k)) = 3 := by rw [mark_u8s]; exact (num_put 1 (by decide) 3 (by decide) _).1
  have hG : pmG (u8s (markL g k)) = g := by
    unfold pmG
    rw [mark_u8s, (num_put 1 (by decide) 3 (by decide) _).2, (num_put 8 (by decide) g (by omega) _).1]
  have hC : pmC (u8s (markL g k)) = k := by
    unfold pmC
    rw [mark_u8s, (num_put 1 (by decide) 3 (by decide) _).2, (num_put 8 (by decide) g (by omega) _).2, (num_put 1 (by decide) k (by omega) _).1]
  refine ⟨?_, hG, hC, ?_⟩
  · unfold pmOk pmT
    rw [hl, hT, hC]
    have : inB (k : Nat) 1 16 = true := decide_eq_true (by omega)
    rw [this]
    rfl
  · unfold uOk uTag
    rw [hT]
    have : (3 == (uNd (u8s (markL g k))).tag) = false := by unfold Nd.tag; cases (uNd (u8s (markL g k))).gone <;> rfl
    rw [this, Bool.and_false]
end Go.Proofs.Ytefpcdpclpignaa
