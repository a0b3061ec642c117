/-
  Slots and lists of slots held against each other: equal.
-/
import Derived.Test.YtfalbbcbgkiejaaIAlive
namespace Go.Proofs.Ytfalbbcbgkiejaa
open Go.RowKit M
set_option maxRecDepth 10000

/-- Are two slots the same? -/
def eqSt (x y : St) : Bool := decide (x.key = y.key) && (x.leb == y.leb && x.pos == y.pos && x.size == y.size)
theorem eqSt_iff {x y : St} : eqSt x y = true ↔ x = y := by
  obtain ⟨a, b, c, d⟩ := x
  obtain ⟨a', b', c', d'⟩ := y
  simp only [eqSt, Bool.and_eq_true, decide_eq_true_eq, beq_iff_eq, St.mk.injEq, and_assoc]
theorem neq_slot (w : World) (x y : St) :
    (binOp .neq 69 (.agg #[.string x.key, .int .i64 x.leb, .int .i64 x.pos, .int .i64 x.size]) (.agg #[.string y.key, .int .i64 y.leb, .int .i64 y.pos, .int .i64 y.size])).run Try.prog w = .ok (.bool (!eqSt x y)) w := by
  have hu := Try.underlying69
  have hq := Try.underlying67
  have hi := Try.underlying9
  have hp : Try.prog.stoodInHeld 69 = false := by kernel_rfl
  unfold eqSt
  rw [run_neq_struct, run_equalIn_struct w 9999 _ _ _ (by rw [Program.fieldsOf, hu]) hp]
  by_cases e1 : x.key = y.key
  · by_cases f1 : x.leb = y.leb <;> by_cases f2 : x.pos = y.pos <;> by_cases f3 : x.size = y.size <;> simp [go_sem, hu, hi, hq, e1, f1, f2, f3]
  · have e2 : ¬ x.key.toList = y.key.toList := fun q => e1 (list_inj q)
    simp [go_sem, hu, hi, e1, e2]
def eqL : List St → List St → Bool
  | [], [] => true
  | x :: a, y :: b => eqSt x y && eqL a b
  | _, _ => false
theorem eqL_iff : ∀ {a b : List St}, eqL a b = true ↔ a = b
  | [], [] => by simp [eqL]
  | x :: a, y :: b => by rw [eqL, Bool.and_eq_true, eqSt_iff, eqL_iff (a := a) (b := b)]; simp
  | [], _ :: _ => by simp [eqL]
  | _ :: _, [] => by simp [eqL]
theorem eqL_len : ∀ {a b : List St}, a.length ≠ b.length → eqL a b = false := fun {a b} h => by
  cases e : eqL a b with
  | false => rfl
  | true => exact absurd (congrArg List.length (eqL_iff.1 e)) h
set_option maxHeartbeats 2000000 in
theorem equal_any (a b : Option Addr) (n m c d : Nat) (l k : List St) (w : World) (ha : ZArg w a n c l) (hb : ZArg w b m d k) :
    Calls Try.prog 29 #[.slice a n c, .slice b m d] w fun e w' => e = .returned (.bool (eqL l k)) ∧ Below w.heap.size w w' := by
  have h1 := ha.len_eq
  have h2 := hb.len_eq
  have hm1 := ha.max
  have hm2 := hb.max
  have hc1 := ha.le
  have hc2 := hb.le
  unfold maxLen at hm1 hm2
  by_cases hnm : n = m
  · subst hnm
    have HZ1 : Hid (ZRow w a l) := ha.row
    have HZ2 : Hid (ZRow w b k) := hb.row
    have HL : Hid (n = l.length ∧ n = k.length) := ⟨h1, h2⟩
    obtain ⟨R, hR⟩ : ∃ R, R = eqL l k := ⟨_, rfl⟩
    have HR : Hid (R = eqL l k) := hR
    rw [← hR]
    clear ha hb h1 h2 hR
    go_enter Try.func29, Try.ntmps29
    go_wp2
    go_loopg [5] n (fun kx s wr => ∃ j q : Nat, j + kx = n ∧ s = .int .i64 (j : Nat) ∧ wr = w.drewN q ∧ Hid (eqL (l.drop j) (k.drop j) = R))
    case atStart => exact ⟨0, 0, by omega, rfl, rfl, by show _ = _; rw [HR.out]; rfl⟩
    case round =>
      obtain ⟨j, q, hj, rfl, rfl, I⟩ := hrel
      by_cases hlt : j < n
      · obtain ⟨g1, o1, x, rfl, hx, hdx, p0, p1, p2, p3⟩ := zrow_at HZ1.out (k := j) (by have := HL.out; omega)
        obtain ⟨g2, o2, y, rfl, hy, hdy, r0, r1, r2, r3⟩ := zrow_at HZ2.out (k := j) (by have := HL.out; omega)
        have hj1 : (j : Int) < (n : Int) := by omega
        have HS : Hid ((eqSt x y && eqL (l.drop (j + 1)) (k.drop (j + 1))) = R) := by have := I.out; rw [hdx, hdy] at this; exact this
        have hne := fun W => neq_slot W x y
        clear hdx hdy hx hy I
        cases he : eqSt x y with
        | true =>
          rw [he] at hne HS
          have HS2 : Hid (eqL (l.drop (j + 1)) (k.drop (j + 1)) = R) := HS.out
          go_wp2
          go_quiet (fail)
          go_wp2
          go_roundg (n - (j + 1))
          case measure => omega
          case rel => exact ⟨j + 1, _, by omega, by go_num, rfl, HS2.out⟩
        | false =>
          rw [he] at hne HS
          have HS2 : Hid (R = false) := HS.out.symm
          go_wp2
          go_quiet (fail)
          go_wp2
          go_ret
          exact ⟨by rw [HS2.out]; rfl, bafter (below_drawn w _) (below_drawn _ _)⟩
      · have hj1 : ¬ (j : Int) < (n : Int) := by omega
        have HS : Hid (R = true) := by
          have := I.out
          rw [List.drop_eq_nil_of_le (by have := HL.out; omega), List.drop_eq_nil_of_le (by have := HL.out; omega)] at this
          exact this.symm
        go_wp2
        go_ret
        exact ⟨by rw [HS.out]; rfl, below_drawn w _⟩
  · rw [eqL_len (by omega)]
    have hne : ¬ (n : Int) = (m : Int) := by omega
    clear ha hb
    go_enter Try.func29, Try.ntmps29
    go_wp2
    go_ret
    exact ⟨rfl, Below.refl _ _⟩
end Go.Proofs.Ytfalbbcbgkiejaa
