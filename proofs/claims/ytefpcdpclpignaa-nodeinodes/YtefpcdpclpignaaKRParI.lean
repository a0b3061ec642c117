/-
  The document's answer of ParseInode of layer 6, where the value has its length.
-/
import Derived.Test.YtefpcdpclpignaaKRParIW
import Derived.Test.YtefpcdpclpignaaKRParIV
namespace Go.Proofs.Ytefpcdpclpignaa
open Go.RowKit M

theorem vIn_at (ino : Nat) (v : List UInt8) (h : v.length = 13) : vIn ino v = ⟨ino, getL (nats ((v.drop 0).take 1)), getL (nats ((v.drop 1).take 2)), getL (nats ((v.drop 3).take 2)), getL (nats ((v.drop 5).take 2)), getL (nats ((v.drop 7).take 2)), getL (nats ((v.drop 9).take 4))⟩ := by
  have t1 : txR 1 v = v.drop 1 := txR_le (by omega)
  have t2 : txR 2 (v.drop 1) = v.drop 3 := by rw [txR_le (by rw [List.length_drop]; omega), List.drop_drop]
  have t3 : txR 2 (v.drop 3) = v.drop 5 := by rw [txR_le (by rw [List.length_drop]; omega), List.drop_drop]
  have t4 : txR 2 (v.drop 5) = v.drop 7 := by rw [txR_le (by rw [List.length_drop]; omega), List.drop_drop]
  have t5 : txR 2 (v.drop 7) = v.drop 9 := by rw [txR_le (by rw [List.length_drop]; omega), List.drop_drop]
  unfold vIn
  rw [t1, t2, t3, t4, t5, numV_le (n := 1) (r := v) (by omega) (by decide), numV_le (n := 2) (r := v.drop 1) (by rw [List.length_drop]; omega) (by decide), numV_le (n := 2) (r := v.drop 3) (by rw [List.length_drop]; omega) (by decide),
    numV_le (n := 2) (r := v.drop 5) (by rw [List.length_drop]; omega) (by decide), numV_le (n := 2) (r := v.drop 7) (by rw [List.length_drop]; omega) (by decide), numV_le (n := 4) (r := v.drop 9) (by rw [List.length_drop]; omega) (by decide), List.drop_zero]

theorem rparseInode_any (n : Nd) (hk : n.key.length ≤ maxLen) (w : World) :
    Calls Try.prog 25 #[n.v] w fun e w' => e = .returned (.tuple #[(bif piOk n then vIn (kindOf n.key).2.1 n.val else In.zero).v, .bool (piOk n)]) ∧ Below w.heap.size w w' := by
  have hK := fun W => rkind_any n.key hk W
  obtain ⟨key, val, gone⟩ := n
  show Calls Try.prog 25 #[.agg #[.string (bs key), .string (bs val), .bool gone]] w _
  dsimp only at *
  unfold kvOf kv at hK
  unfold piOk
  dsimp only
  by_cases h1 : (kindOf key).1 = 1
  · cases gone
    · by_cases h2 : val.length = 13
      · have ho := fun W => rrightInode_any (vIn (kindOf key).2.1 val) W
        rw [h1, decide_eq_true h2]
        rw [vIn_at _ val h2] at ho ⊢
        have g : ∀ lo m : Nat, m ≤ 4 → ∀ W, Calls Try.prog 66 #[.string (bs ((val.drop lo).take m))] W fun e w' => e = .returned (.int .i64 (getL (nats ((val.drop lo).take m)) : Nat)) ∧ Below W.heap.size W w' := fun lo m hm W => rget_any _ (by rw [List.length_take]; omega) W
        have q : ∀ lo m : Nat, (bs val).extract lo (lo + m) = bs ((val.drop lo).take m) := fun lo m => by rw [bs_extract, Nat.add_sub_cancel_left]
        cases h3 : In.right ⟨((kindOf key).2.1 : Nat), getL (nats ((val.drop 0).take 1)), getL (nats ((val.drop 1).take 2)), getL (nats ((val.drop 3).take 2)), getL (nats ((val.drop 5).take 2)), getL (nats ((val.drop 7).take 2)), getL (nats ((val.drop 9).take 4))⟩
        · rw [h3] at ho
          exact rpi_wrong _ _ _ _ _ _ _ _ _ _ _ _ _ _ _ _ _ _ hK h1 ((bs_size val).trans h2) (q 0 1) (q 1 2) (q 3 2) (q 5 2) (q 7 2) (q 9 4) (g 0 1 (by decide)) (g 1 2 (by decide)) (g 3 2 (by decide)) (g 5 2 (by decide)) (g 7 2 (by decide)) (g 9 4 (by decide)) ho w
        · rw [h3] at ho
          exact rpi_yes _ _ _ _ _ _ _ _ _ _ _ _ _ _ _ _ _ _ hK h1 ((bs_size val).trans h2) (q 0 1) (q 1 2) (q 3 2) (q 5 2) (q 7 2) (q 9 4) (g 0 1 (by decide)) (g 1 2 (by decide)) (g 3 2 (by decide)) (g 5 2 (by decide)) (g 7 2 (by decide)) (g 9 4 (by decide)) ho w
      · rw [decide_eq_false h2, Bool.and_false, Bool.false_and]
        exact rpi_len _ _ _ _ _ _ hK h1 (by rw [bs_size]; simp; omega) w
    · exact rpi_gone _ _ _ _ _ _ hK h1 w
  · have e : ((kindOf key).1 == 1) = false := by simpa using h1
    rw [e, Bool.and_false, Bool.false_and, Bool.false_and]
    exact rpi_kind _ _ _ _ _ _ _ hK (by simp; omega) w
end Go.Proofs.Ytefpcdpclpignaa
