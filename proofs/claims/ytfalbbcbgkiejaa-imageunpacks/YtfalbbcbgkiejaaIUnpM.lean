/-
  The document's words on unpacking, and that the code keeps them.
-/
import Derived.Test.YtfalbbcbgkiejaaIUnp
namespace Go.Proofs.Ytfalbbcbgkiejaa
open Go.RowKit M

theorem numV_nil (n : Nat) : numV n [] = 0 := by
  unfold numV txV
  split <;> simp [nats, getL]
theorem tx_short {n : Nat} {r : List UInt8} (h : r.length < n) (sh : Bool) : txR n r = r ∧ txS n r sh = true := by
  unfold txR txS; rw [if_pos h, if_pos h]; exact ⟨rfl, rfl⟩
theorem tx_long {n : Nat} {r : List UInt8} (h : n ≤ r.length) (sh : Bool) : txV n r = r.take n ∧ txR n r = r.drop n ∧ txS n r sh = sh := by
  have q : ¬ r.length < n := by omega
  unfold txV txR txS; rw [if_neg q, if_neg q, if_neg q]; exact ⟨rfl, rfl, rfl⟩
theorem txS_true (n : Nat) (r : List UInt8) : txS n r true = true := by unfold txS; split <;> rfl
theorem slS_true (r : List UInt8) : slS r true = true := by unfold slS; rw [txS_true, txS_true, txS_true, txS_true, txS_true]
/-- A slot is whole just where its bytes are there. -/
theorem slS_short {r : List UInt8} (h : r.length < 8 + slK r) (sh : Bool) : slS r sh = true := by
  by_cases h0 : r.length < 1
  · unfold slS; rw [(tx_short h0 sh).2, txS_true, txS_true, txS_true, txS_true]
  have e1 : sl1 r = r.drop 1 := (tx_long (by omega) sh).2.1
  by_cases h1 : (sl1 r).length < slK r
  · unfold slS; rw [(tx_short h1 _).2, txS_true, txS_true, txS_true]
  have e2 : sl2 r = (sl1 r).drop (slK r) := (tx_long (by omega) sh).2.1
  by_cases h2 : (sl2 r).length < 2
  · unfold slS; rw [(tx_short h2 _).2, txS_true, txS_true]
  have e3 : sl3 r = (sl2 r).drop 2 := (tx_long (by omega) sh).2.1
  by_cases h3 : (sl3 r).length < 3
  · unfold slS; rw [(tx_short h3 _).2, txS_true]
  have e4 : sl4 r = (sl3 r).drop 3 := (tx_long (by omega) sh).2.1
  have h4 : (sl4 r).length < 2 := by
    have l1 := congrArg List.length e1
    have l2 := congrArg List.length e2
    have l3 := congrArg List.length e3
    have l4 := congrArg List.length e4
    rw [List.length_drop] at l1 l2 l3 l4
    omega
  unfold slS; rw [(tx_short h4 _).2]
theorem sl_long {r : List UInt8} (h : 8 + slK r ≤ r.length) (sh : Bool) : slS r sh = sh ∧ sl1 r = r.drop 1 ∧ sl2 r = r.drop (1 + slK r) ∧ sl3 r = r.drop (1 + slK r + 2) ∧ sl4 r = r.drop (1 + slK r + 5) ∧ sl5 r = r.drop (8 + slK r) := by
  have e1 : sl1 r = r.drop 1 := (tx_long (by omega) sh).2.1
  have l1 := congrArg List.length e1
  rw [List.length_drop] at l1
  have e2 : sl2 r = (sl1 r).drop (slK r) := (tx_long (by omega) sh).2.1
  have l2 := congrArg List.length e2
  rw [List.length_drop] at l2
  have e3 : sl3 r = (sl2 r).drop 2 := (tx_long (by omega) sh).2.1
  have l3 := congrArg List.length e3
  rw [List.length_drop] at l3
  have e4 : sl4 r = (sl3 r).drop 3 := (tx_long (by omega) sh).2.1
  have l4 := congrArg List.length e4
  rw [List.length_drop] at l4
  have e5 : sl5 r = (sl4 r).drop 2 := (tx_long (by omega) sh).2.1
  refine ⟨?_, e1, ?_, ?_, ?_, ?_⟩
  · unfold slS
    rw [(tx_long (n := 2) (r := sl4 r) (by omega) _).2.2, (tx_long (n := 3) (r := sl3 r) (by omega) _).2.2, (tx_long (n := 2) (r := sl2 r) (by omega) _).2.2, (tx_long (n := slK r) (r := sl1 r) (by omega) _).2.2, (tx_long (n := 1) (r := r) (by omega) _).2.2]
  · rw [e2, e1, List.drop_drop]
  · rw [e3, e2, e1, List.drop_drop, List.drop_drop]; exact congrArg (fun n => List.drop n r) (by omega)
  · rw [e4, e3, e2, e1, List.drop_drop, List.drop_drop, List.drop_drop]; exact congrArg (fun n => List.drop n r) (by omega)
  · rw [e5, e4, e3, e2, e1, List.drop_drop, List.drop_drop, List.drop_drop, List.drop_drop]
    exact congrArg (fun n => List.drop n r) (by omega)
theorem rdF_true : ∀ (c : Nat) (r : List UInt8), rdF c r true = true
  | 0, _ => rfl
  | c + 1, r => by rw [rdF, slS_true]; exact rdF_true c _
/-- How many bytes the slots that were read have. -/
theorem rd_len : ∀ (c : Nat) (r : List UInt8), rdF c r false = false → (rdR c r).length + pkN (rdS c r) = r.length
  | 0, _, _ => by simp [rdR, rdS, pkN]
  | c + 1, r, h => by
    rw [rdF] at h
    by_cases hs : r.length < 8 + slK r
    · rw [slS_short hs, rdF_true] at h; cases h
    · have hl := sl_long (r := r) (by omega) false
      rw [hl.1] at h
      have ih := rd_len c (sl5 r) h
      rw [rdR, rdS, pkN, bare1]
      have hk : (slV r).key.size = slK r := by
        show (bs (txV (slK r) (sl1 r))).size = _
        rw [bs_size, (tx_long (r := sl1 r) (n := slK r) (by rw [hl.2.1, List.length_drop]; omega) false).1, List.length_take, hl.2.1, List.length_drop]
        omega
      have h5 := congrArg List.length hl.2.2.2.2.2
      rw [List.length_drop] at h5
      omega
theorem rdS_len : ∀ (c : Nat) (r : List UInt8), (rdS c r).length = c
  | 0, _ => rfl
  | c + 1, r => by rw [rdS, List.length_cons, rdS_len c]
/-- What the document reads. -/
def rupk (r : List UInt8) : Option (Nat × List St) :=
  if r.length < 3 then none
  else if upM r != 84 then none
  else if rdF (upC r) (upR r) false then none
  else if (rdR (upC r) (upR r)).isEmpty && imgOk (upL r) (rdS (upC r) (upR r)) then some (upL r, rdS (upC r) (upR r)) else none
theorem upF_short {r : List UInt8} (h : r.length < 3) : upF r = true := by
  unfold upF
  by_cases h0 : r.length < 1
  · rw [(tx_short h0 false).2, txS_true, txS_true]
  have e1 : txR 1 r = r.drop 1 := (tx_long (by omega) false).2.1
  have l1 := congrArg List.length e1
  rw [List.length_drop] at l1
  by_cases h1 : (txR 1 r).length < 1
  · rw [(tx_short h1 _).2, txS_true]
  have e2 : txR 1 (txR 1 r) = (txR 1 r).drop 1 := (tx_long (by omega) false).2.1
  have l2 := congrArg List.length e2
  rw [List.length_drop] at l2
  rw [(tx_short (r := txR 1 (txR 1 r)) (by omega) _).2]
theorem up_long {r : List UInt8} (h : 3 ≤ r.length) : upF r = false ∧ txR 1 r = r.drop 1 ∧ txR 1 (txR 1 r) = r.drop 2 ∧ upR r = r.drop 3 := by
  have e1 : txR 1 r = r.drop 1 := (tx_long (by omega) false).2.1
  have l1 := congrArg List.length e1
  rw [List.length_drop] at l1
  have e2 : txR 1 (txR 1 r) = (txR 1 r).drop 1 := (tx_long (by omega) false).2.1
  have l2 := congrArg List.length e2
  rw [List.length_drop] at l2
  have e3 : upR r = (txR 1 (txR 1 r)).drop 1 := (tx_long (by omega) false).2.1
  refine ⟨?_, e1, by rw [e2, e1, List.drop_drop], by rw [e3, e2, e1, List.drop_drop, List.drop_drop]⟩
  unfold upF
  rw [(tx_long (n := 1) (r := txR 1 (txR 1 r)) (by omega) _).2.2, (tx_long (n := 1) (r := txR 1 r) (by omega) _).2.2, (tx_long (n := 1) (r := r) (by omega) _).2.2]
theorem rupk_upk (r : List UInt8) : rupk r = upk r := by
  unfold rupk upk
  by_cases h3 : r.length < 3
  · rw [if_pos h3, if_neg (by omega), upF_short h3, rdF_true]
    split
    · rfl
    · rfl
  · obtain ⟨u1, _, _, u4⟩ := up_long (r := r) (by omega)
    rw [if_neg h3, u1]
    cases hm : (upM r != 84) with
    | true => simp
    | false =>
      cases hF : rdF (upC r) (upR r) false with
      | true => simp [dn]
      | false =>
        have hl := rd_len _ _ hF
        have hlen := congrArg List.length u4
        rw [List.length_drop] at hlen
        cases hO : ((rdR (upC r) (upR r)).isEmpty && imgOk (upL r) (rdS (upC r) (upR r))) with
        | false =>
          have : (dn (rdR (upC r) (upR r)) false && imgOk (upL r) (rdS (upC r) (upR r))) = false := by
            unfold dn; simpa using hO
          rw [this]
          simp
        | true =>
          have : (dn (rdR (upC r) (upR r)) false && imgOk (upL r) (rdS (upC r) (upR r))) = true := by
            unfold dn; simpa using hO
          rw [Bool.and_eq_true] at hO
          obtain ⟨o1, o2⟩ := hO
          obtain ⟨_, ⟨_, i3⟩, i4⟩ := imgOk_iff o2
          have hpk := pkN_le (rises_mem i4)
          rw [rdS_len] at i3 hpk
          have hnil : rdR (upC r) (upR r) = [] := by simpa using o1
          rw [hnil, List.length_nil] at hl
          have h579 : ¬ 579 < r.length := by omega
          have h8 : ¬ 8 < upC r := by omega
          rw [this]
          simp [h579, h8]
end Go.Proofs.Ytfalbbcbgkiejaa
