/-
  What Kind of package node answers, by the document's words.
-/
import Derived.Test.YtefpcdpclpignaaKKind
namespace Go.Proofs.Ytefpcdpclpignaa
open Go.RowKit M

/-- A key's kind, its inode's number, its name, its block: by the document's words. -/
def kindOf : List UInt8 → Nat × Nat × List UInt8 × Nat
  | a :: b :: c :: r =>
    if c.toNat = 1 ∧ inoB (num2 a b : Nat) = true ∧ r = [] then (1, num2 a b, [], 0)
    else if c.toNat = 2 ∧ inoB (num2 a b : Nat) = true ∧ nameB r = true then (2, num2 a b, r, 0)
    else if c.toNat = 3 ∧ inoB (num2 a b : Nat) = true ∧ r.length = 2 ∧ blkB (hiV r : Nat) = true then (3, num2 a b, [], hiV r)
    else if c.toNat = 4 ∧ num2 a b = 0 ∧ r.length = 2 ∧ inoB (hiV r : Nat) = true then (4, hiV r, [], 0)
    else (0, 0, [], 0)
  | _ => (0, 0, [], 0)
/-- The same as a value. -/
def kvOf (l : List UInt8) : Value := kv (kindOf l).1 (kindOf l).2.1 (kindOf l).2.2.1 (kindOf l).2.2.2

theorem txS_true (n : Nat) (r : List UInt8) : txS n r true = true := by unfold txS; split <;> rfl
theorem dn_true (r : List UInt8) : dn r true = false := rfl
theorem numV_cons (a : UInt8) (r : List UInt8) : numV 1 (a :: r) = a.toNat := by
  simp [numV, txV, nats, getL]
theorem txR_cons (a : UInt8) (r : List UInt8) : txR 1 (a :: r) = r := by simp [txR]
theorem txS_cons (a : UInt8) (r : List UInt8) (s : Bool) : txS 1 (a :: r) s = s := by simp [txS]
theorem dn2 (r : List UInt8) : dn (txR 2 r) (txS 2 r false) = decide (r.length = 2) := by
  unfold dn txR txS
  by_cases h : r.length < 2
  · simp [h]; omega
  · simp only [h, if_false, Bool.not_false, Bool.true_and]
    rw [Bool.eq_iff_iff, List.isEmpty_iff, decide_eq_true_iff, List.drop_eq_nil_iff]
    omega

theorem kind_tail (l r1 r2 : List UInt8) (s1 s2 : Bool) (i k : Nat) (hl : r2.length ≤ maxLen) (w : World) (hh : HighAt l r1 false s1 i) (hk : KindAt r1 r2 s1 s2 k) (R : Value)
    (h1 : k = 1 → R = (bif inoB i && dn r2 s2 then kv 1 i [] 0 else kv 0 0 [] 0))
    (h2 : k = 2 → R = (bif nameB r2 && inoB i && dn [] s2 then kv 2 i r2 0 else kv 0 0 [] 0))
    (h3 : k = 3 → R = (bif blkB (hiV r2 : Nat) && inoB i && dn (txR 2 r2) (txS 2 r2 s2) then kv 3 i [] (hiV r2) else kv 0 0 [] 0))
    (h4 : k = 4 → R = (bif ((i : Int) == 0) && inoB (hiV r2 : Nat) && dn (txR 2 r2) (txS 2 r2 s2) then kv 4 (hiV r2) [] 0 else kv 0 0 [] 0))
    (h0 : k ≠ 1 → k ≠ 2 → k ≠ 3 → k ≠ 4 → R = kv 0 0 [] 0) :
    Calls Try.prog 9 #[.string (bs l)] w fun e w' => e = .returned R ∧ Below w.heap.size w w' := by
  by_cases e1 : k = 1
  · rw [h1 e1]; subst e1
    exact kind_1 l r1 r2 s1 s2 i _ _ w hh hk (fun W => isIno_any i W) (fun W B h => done_any B _ r2 s2 W h)
  · by_cases e2 : k = 2
    · rw [h2 e2]; subst e2
      exact kind_2 l r1 r2 s1 s2 i _ _ _ w hh hk (fun W B h => all_any B _ r2 s2 W hl h) (fun W => isName_any r2 hl W) (fun W => isIno_any i W) (fun W B h => done_any B _ [] s2 W h)
    · by_cases e3 : k = 3
      · rw [h3 e3]; subst e3
        exact kind_3 l r1 r2 _ s1 s2 i _ _ _ _ _ w hh hk (fun W B h => khigh_any B _ r2 s2 W hl h) (fun W => isBlock_any _ W) (fun W => isIno_any i W) (fun W B h => done_any B _ _ _ W h)
      · by_cases e4 : k = 4
        · rw [h4 e4]; subst e4
          exact kind_4 l r1 r2 _ s1 s2 i _ _ _ _ _ w hh hk (fun W B h => khigh_any B _ r2 s2 W hl h) rfl (fun W => isIno_any _ W) (fun W B h => done_any B _ _ _ W h)
        · rw [h0 e1 e2 e3 e4]
          exact kind_0 l r1 r2 s1 s2 i k w hh hk (by simp; omega) (by simp; omega) (by simp; omega) (by simp; omega)

theorem kind_any (l : List UInt8) (hl : l.length ≤ maxLen) (w : World) :
    Calls Try.prog 9 #[.string (bs l)] w fun e w' => e = .returned (kvOf l) ∧ Below w.heap.size w w' := by
  have hr1 : (txR 2 l).length ≤ maxLen := Nat.le_trans (txR_len 2 l) hl
  have hr2 : (txR 1 (txR 2 l)).length ≤ maxLen := Nat.le_trans (txR_len 1 _) hr1
  refine kind_tail l (txR 2 l) (txR 1 (txR 2 l)) (txS 2 l false) (txS 1 (txR 2 l) (txS 2 l false)) (hiV l) (numV 1 (txR 2 l)) hr2 w
    (fun W B h => khigh_any B _ l false W hl h) (fun W B h => kkind_any B _ _ _ W hr1 h) (kvOf l) ?_ ?_ ?_ ?_ ?_
  all_goals
    rcases l with _ | ⟨a, _ | ⟨b, _ | ⟨c, r⟩⟩⟩
  all_goals
    first
    | (intros; simp [txS, txR, dn, kvOf, kindOf]; done)
    | skip
  all_goals
    have e1 : txR 2 (a :: b :: c :: r) = c :: r := by unfold txR; rw [if_neg (by simp)]; rfl
    have e2 : txS 2 (a :: b :: c :: r) false = false := by unfold txS; rw [if_neg (by simp)]
    have e3 : hiV (a :: b :: c :: r) = num2 a b := rfl
    rw [e1, numV_cons]
  · intro hc
    rw [e2, e3, txR_cons, txS_cons]
    cases h : inoB (num2 a b : Nat) <;> cases r <;> simp [kvOf, kindOf, hc, dn, h]
  · intro hc
    rw [e2, e3, txR_cons, txS_cons]
    cases h : inoB (num2 a b : Nat) <;> cases h2 : nameB r <;> simp [kvOf, kindOf, hc, dn, h, h2]
  · intro hc
    rw [e2, e3, txR_cons, txS_cons, dn2]
    cases h : inoB (num2 a b : Nat) <;> cases h2 : blkB (hiV r : Nat) <;> by_cases h3 : r.length = 2 <;> simp [kvOf, kindOf, hc, h, h2, h3]
  · intro hc
    rw [e2, e3, txR_cons, txS_cons, dn2]
    by_cases h : num2 a b = 0
    · cases h2 : inoB (hiV r : Nat) <;> by_cases h3 : r.length = 2 <;> simp [kvOf, kindOf, hc, h, h2, h3]
    · have hz : (((num2 a b : Nat) : Int) == 0) = false := by rw [beq_eq_false_iff_ne]; omega
      rw [hz]
      simp [kvOf, kindOf, hc, h]
  · intro n1 n2 n3 n4
    simp [kvOf, kindOf, n1, n2, n3, n4]
end Go.Proofs.Ytefpcdpclpignaa
