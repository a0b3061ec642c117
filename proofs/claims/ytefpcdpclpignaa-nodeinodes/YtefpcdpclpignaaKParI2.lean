/-
  What ParseInode of package node answers, as one answer.
-/
import Derived.Test.YtefpcdpclpignaaKParI
namespace Go.Proofs.Ytefpcdpclpignaa
open Go.RowKit M

/-- The inode that a value's bytes tell. -/
def vIn (ino : Nat) (v : List UInt8) : In :=
  ⟨ino, numV 1 v, numV 2 (txR 1 v), numV 2 (txR 2 (txR 1 v)), numV 2 (txR 2 (txR 2 (txR 1 v))), numV 2 (txR 2 (txR 2 (txR 2 (txR 1 v)))), numV 4 (txR 2 (txR 2 (txR 2 (txR 2 (txR 1 v)))))⟩
theorem txR_le {n : Nat} {r : List UInt8} (h : n ≤ r.length) : txR n r = r.drop n := by unfold txR; rw [if_neg (by omega)]
theorem txS_le {n : Nat} {r : List UInt8} {s : Bool} (h : n ≤ r.length) : txS n r s = s := by unfold txS; rw [if_neg (by omega)]
theorem txS_gt {n : Nat} {r : List UInt8} {s : Bool} (h : r.length < n) : txS n r s = true := by unfold txS; rw [if_pos h]
theorem numV_le {n : Nat} {r : List UInt8} (h : n ≤ r.length) (h8 : n ≤ 8) : numV n r = getL (nats (r.take n)) := by
  unfold numV txV
  rw [if_neg (by omega), List.take_of_length_le (by rw [nats_length, List.length_take]; omega)]
/-- The reader's end behind the fields of an inode. -/
def vEnd (v : List UInt8) : Bool := dn (txR 4 (txR 2 (txR 2 (txR 2 (txR 2 (txR 1 v)))))) (txS 4 (txR 2 (txR 2 (txR 2 (txR 2 (txR 1 v))))) (txS 2 (txR 2 (txR 2 (txR 2 (txR 1 v)))) (txS 2 (txR 2 (txR 2 (txR 1 v))) (txS 2 (txR 2 (txR 1 v)) (txS 2 (txR 1 v) (txS 1 v false))))))
theorem dnS (n : Nat) (r : List UInt8) (s : Bool) : dn (txR n r) (txS n r s) = (!s && decide (r.length = n)) := by
  unfold dn txR txS
  by_cases h : r.length < n
  · simp [h]; omega
  · simp only [h, if_false]
    congr 1
    rw [Bool.eq_iff_iff, List.isEmpty_iff, decide_eq_true_iff, List.drop_eq_nil_iff]
    omega
theorem vEnd_eq (v : List UInt8) : vEnd v = decide (v.length = 13) := by
  unfold vEnd
  by_cases h : v.length = 13
  · rw [txR_le (n := 1) (r := v) (by omega), txR_le (n := 2) (r := v.drop 1) (by rw [List.length_drop]; omega), txR_le (n := 2) (r := (v.drop 1).drop 2) (by rw [List.length_drop, List.length_drop]; omega),
      txR_le (n := 2) (r := ((v.drop 1).drop 2).drop 2) (by rw [List.length_drop, List.length_drop, List.length_drop]; omega), txR_le (n := 2) (r := (((v.drop 1).drop 2).drop 2).drop 2) (by rw [List.length_drop, List.length_drop, List.length_drop, List.length_drop]; omega), dnS,
      txS_le (n := 1) (r := v) (by omega), txS_le (n := 2) (r := v.drop 1) (by rw [List.length_drop]; omega), txS_le (n := 2) (r := (v.drop 1).drop 2) (by rw [List.length_drop, List.length_drop]; omega),
      txS_le (n := 2) (r := ((v.drop 1).drop 2).drop 2) (by rw [List.length_drop, List.length_drop, List.length_drop]; omega), txS_le (n := 2) (r := (((v.drop 1).drop 2).drop 2).drop 2) (by rw [List.length_drop, List.length_drop, List.length_drop, List.length_drop]; omega)]
    simp [h]
  · rw [decide_eq_false h, dnS]
    by_cases h1 : v.length < 1
    · rw [txS_gt (n := 1) h1, txS_true, txS_true, txS_true, txS_true]; rfl
    rw [txR_le (n := 1) (by omega)]
    by_cases h2 : (v.drop 1).length < 2
    · rw [txS_gt (n := 2) (r := v.drop 1) h2, txS_true, txS_true, txS_true]; rfl
    rw [txR_le (n := 2) (r := v.drop 1) (by omega)]
    by_cases h3 : ((v.drop 1).drop 2).length < 2
    · rw [txS_gt (n := 2) (r := (v.drop 1).drop 2) h3, txS_true, txS_true]; rfl
    rw [txR_le (n := 2) (r := (v.drop 1).drop 2) (by omega)]
    by_cases h4 : (((v.drop 1).drop 2).drop 2).length < 2
    · rw [txS_gt (n := 2) (r := ((v.drop 1).drop 2).drop 2) h4, txS_true]; rfl
    rw [txR_le (n := 2) (r := ((v.drop 1).drop 2).drop 2) (by omega)]
    by_cases h5 : ((((v.drop 1).drop 2).drop 2).drop 2).length < 2
    · rw [txS_gt (n := 2) (r := (((v.drop 1).drop 2).drop 2).drop 2) h5]; rfl
    rw [txR_le (n := 2) (r := (((v.drop 1).drop 2).drop 2).drop 2) (by omega)]
    simp only [List.length_drop] at h1 h2 h3 h4 h5 ⊢
    rw [decide_eq_false (by omega), Bool.and_false]

def In.zero : In := ⟨0, 0, 0, 0, 0, 0, 0⟩
/-- Is it the node of an inode? -/
def piOk (n : Nd) : Bool := !n.gone && ((kindOf n.key).1 == 1) && decide (n.val.length = 13) && (vIn (kindOf n.key).2.1 n.val).right

theorem parseInode_any (n : Nd) (hk : n.key.length ≤ maxLen) (hv : n.val.length ≤ maxLen) (w : World) :
    Calls Try.prog 24 #[n.v] w fun e w' => e = .returned (.tuple #[(bif piOk n then vIn (kindOf n.key).2.1 n.val else In.zero).v, .bool (piOk n)]) ∧ Below w.heap.size w w' := by
  have hK := fun W => kind_any n.key hk W
  have hV := fun W => readValue_any n.val W
  have l1 : (txR 1 n.val).length ≤ maxLen := Nat.le_trans (txR_len _ _) hv
  have l2 : (txR 2 (txR 1 n.val)).length ≤ maxLen := Nat.le_trans (txR_len _ _) l1
  have l3 : (txR 2 (txR 2 (txR 1 n.val))).length ≤ maxLen := Nat.le_trans (txR_len _ _) l2
  have l4 : (txR 2 (txR 2 (txR 2 (txR 1 n.val)))).length ≤ maxLen := Nat.le_trans (txR_len _ _) l3
  have l5 : (txR 2 (txR 2 (txR 2 (txR 2 (txR 1 n.val))))).length ≤ maxLen := Nat.le_trans (txR_len _ _) l4
  have f1 : FieldAt 1 n.val _ false _ _ := fun W B h => field_any B _ 1 (by decide) n.val false W hv h
  have f2 : FieldAt 2 _ _ _ _ _ := fun W B h => field_any B _ 2 (by decide) (txR 1 n.val) (txS 1 n.val false) W l1 h
  have f3 : FieldAt 2 _ _ _ _ _ := fun W B h => field_any B _ 2 (by decide) (txR 2 (txR 1 n.val)) (txS 2 (txR 1 n.val) (txS 1 n.val false)) W l2 h
  have f4 : FieldAt 2 _ _ _ _ _ := fun W B h => field_any B _ 2 (by decide) (txR 2 (txR 2 (txR 1 n.val))) (txS 2 (txR 2 (txR 1 n.val)) (txS 2 (txR 1 n.val) (txS 1 n.val false))) W l3 h
  have f5 : FieldAt 2 _ _ _ _ _ := fun W B h => field_any B _ 2 (by decide) (txR 2 (txR 2 (txR 2 (txR 1 n.val)))) (txS 2 (txR 2 (txR 2 (txR 1 n.val))) (txS 2 (txR 2 (txR 1 n.val)) (txS 2 (txR 1 n.val) (txS 1 n.val false)))) W l4 h
  have f6 : FieldAt 4 _ _ _ _ _ := fun W B h => field_any B _ 4 (by decide) (txR 2 (txR 2 (txR 2 (txR 2 (txR 1 n.val))))) (txS 2 (txR 2 (txR 2 (txR 2 (txR 1 n.val)))) (txS 2 (txR 2 (txR 2 (txR 1 n.val))) (txS 2 (txR 2 (txR 1 n.val)) (txS 2 (txR 1 n.val) (txS 1 n.val false))))) W l5 h
  have hd : VDoneAt _ _ (vEnd n.val) := fun W B h => done_any B _ _ _ W h
  rw [vEnd_eq] at hd
  have ho := fun W => rightInode_any (vIn (kindOf n.key).2.1 n.val) W
  obtain ⟨key, val, gone⟩ := n
  show Calls Try.prog 24 #[.agg #[.string (bs key), .string (bs val), .bool gone]] w _
  dsimp only at *
  unfold kvOf kv at hK
  unfold piOk
  dsimp only
  cases gone
  · by_cases h1 : (kindOf key).1 = 1
    · by_cases h2 : val.length = 13
      · rw [decide_eq_true h2] at hd
        cases h3 : (vIn (kindOf key).2.1 val).right
        · rw [h3] at ho
          rw [h1, decide_eq_true h2]
          exact pin_wrong _ _ _ _ _ _ _ _ _ _ _ _ _ _ _ _ _ _ _ _ _ _ _ _ _ _ w hK hV f1 f2 f3 f4 f5 f6 h1 hd ho
        · rw [h3] at ho
          rw [h1, decide_eq_true h2]
          exact pin_yes _ _ _ _ _ _ _ _ _ _ _ _ _ _ _ _ _ _ _ _ _ _ _ _ _ _ w hK hV f1 f2 f3 f4 f5 f6 h1 hd ho
      · rw [decide_eq_false h2] at hd
        rw [decide_eq_false h2, Bool.and_false, Bool.false_and]
        exact pin_short _ _ _ _ _ _ _ _ _ _ _ _ _ _ _ _ _ _ _ _ _ _ _ _ _ _ w hK hV f1 f2 f3 f4 f5 f6 _ h1 hd ho
    · have e : ((kindOf key).1 == 1) = false := by simpa using h1
      rw [e, Bool.and_false, Bool.false_and, Bool.false_and]
      exact pin_kind _ _ _ _ _ _ _ _ _ _ _ _ _ _ _ _ _ _ _ _ _ _ _ _ _ _ w hK hV f1 f2 f3 f4 f5 f6 _ _ (by simp; omega) hd ho
  · exact pin_gone _ _ _ _ _ _ _ _ _ _ _ _ _ _ _ _ _ _ _ _ _ _ _ _ _ _ w hK hV f1 f2 f3 f4 f5 f6 _ _ hd ho
end Go.Proofs.Ytefpcdpclpignaa
