/-
  The order of keys.
-/
import Derived.Test.YtefpcdpclpignabKKeyM
namespace Go.Proofs.Ytefpcdpclpignab
open Go.RowKit M

/-- Does x stand ahead of y, by their bytes? -/
def lt (x y : ByteArray) : Bool := Op.bytesLess x.toList y.toList
theorem less_any (x y : ByteArray) (w : World) : Calls Try.prog 6 #[.string x, .string y] w fun e w' => e = .returned (.bool (lt x y)) ∧ w = w' := by
  unfold lt
  go_enter Try.func6, Try.ntmps6
  go_wp2
  go_ret
  exact ⟨rfl, rfl⟩
/-- Does x stand from f on, and ahead of t? -/
def wi (x f t : ByteArray) : Bool := !lt x f && lt x t
theorem lwithin_any (x f t : ByteArray) (w : World) : Calls Try.prog 10 #[.string x, .string f, .string t] w fun e w' => e = .returned (.bool (wi x f t)) ∧ w = w' := by
  unfold wi
  cases h : lt x f
  all_goals
    go_enter Try.func10, Try.ntmps10
    go_wp2_with (go_at_call 6; refine (less_any _ _ _).mono ?_; rintro e w1 ⟨rfl, rfl⟩)
    go_ret
    exact ⟨by simp, rfl⟩

theorem bl_cons (a b : UInt8) (x y : List UInt8) : Op.bytesLess (a :: x) (b :: y) = (decide (a.toNat < b.toNat) || (decide (a.toNat = b.toNat) && Op.bytesLess x y)) := by
  show (decide (a < b) || (a == b && Op.bytesLess x y)) = _
  have e1 : decide (a < b) = decide (a.toNat < b.toNat) := decide_eq_decide.2 UInt8.lt_iff_toNat_lt
  have e2 : (a == b) = decide (a.toNat = b.toNat) := by
    rw [Bool.eq_iff_iff, beq_iff_eq, decide_eq_true_iff]
    exact UInt8.toNat_inj.symm
  rw [e1, e2]
theorem bl_two (a b c d : UInt8) (x y : List UInt8) : Op.bytesLess (a :: b :: x) (c :: d :: y) = (decide (num2 a b < num2 c d) || (decide (num2 a b = num2 c d) && Op.bytesLess x y)) := by
  rw [bl_cons, bl_cons]
  have := a.toNat_lt
  have := b.toNat_lt
  have := c.toNat_lt
  have := d.toNat_lt
  unfold num2
  by_cases h1 : a.toNat < c.toNat
  · have e : a.toNat * 256 + b.toNat < c.toNat * 256 + d.toNat := by omega
    simp [h1, e]
  · by_cases h2 : a.toNat = c.toNat
    · by_cases h3 : b.toNat < d.toNat
      · have e : a.toNat * 256 + b.toNat < c.toNat * 256 + d.toNat := by omega
        simp [h2, h3]
      · by_cases h4 : b.toNat = d.toNat
        · simp [h2, h4]
        · have e : ¬ a.toNat * 256 + b.toNat < c.toNat * 256 + d.toNat := by omega
          have e2 : ¬ a.toNat * 256 + b.toNat = c.toNat * 256 + d.toNat := by omega
          simp [h2, h3, h4]
    · have e : ¬ a.toNat * 256 + b.toNat < c.toNat * 256 + d.toNat := by omega
      have e2 : ¬ a.toNat * 256 + b.toNat = c.toNat * 256 + d.toNat := by omega
      simp [h1, h2, e, e2]
theorem bl_hi (n m : Int) (x y : List UInt8) : Op.bytesLess (hi2 n ++ x) (hi2 m ++ y) = (decide (m16 n < m16 m) || (decide (m16 n = m16 m) && Op.bytesLess x y)) := by
  obtain ⟨a, b, h, e⟩ := hi2_eq n
  obtain ⟨c, d, h', e'⟩ := hi2_eq m
  rw [h, h', ← e, ← e']
  exact bl_two a b c d x y
theorem bl_key {n m : Int} (n0 : 0 ≤ n) (n1 : n ≤ 65535) (m0 : 0 ≤ m) (m1 : m ≤ 65535) {i j : Nat} (hi : i < 256) (hj : j < 256) (x y : List UInt8) :
    Op.bytesLess (pre3 n i ++ x) (pre3 m j ++ y) = (decide (n < m) || (decide (n = m) && (decide (i < j) || (decide (i = j) && Op.bytesLess x y)))) := by
  unfold pre3
  rw [List.append_assoc, List.append_assoc, bl_hi]
  have e1 : u8s [i] ++ x = UInt8.ofNat i :: x := rfl
  have e2 : u8s [j] ++ y = UInt8.ofNat j :: y := rfl
  rw [e1, e2, bl_cons]
  have a1 : (UInt8.ofNat i).toNat = i := by simp; omega
  have a2 : (UInt8.ofNat j).toNat = j := by simp; omega
  have b1 := m16_small n0 n1
  have b2 := m16_small m0 m1
  rw [a1, a2]
  have c1 : decide (m16 n < m16 m) = decide (n < m) := decide_eq_decide.2 (by omega)
  have c2 : decide (m16 n = m16 m) = decide (n = m) := decide_eq_decide.2 (by omega)
  rw [c1, c2]
theorem bl_nil (x : List UInt8) : Op.bytesLess x [] = false := by cases x <;> rfl

/-- The keys, as texts. -/
def EK (n : Int) (s : ByteArray) : ByteArray := bs (pre3 n 2 ++ s.data.toList)
def BK (n m : Int) : ByteArray := bs (pre3 n 3 ++ hi2 m)
def IK (n : Int) : ByteArray := bs (pre3 n 1)
def OK (n : Int) : ByteArray := bs (pre3 0 4 ++ hi2 n)
def FK (n : Int) (k : Nat) : ByteArray := bs (pre3 n k)
theorem lt_bs (x y : List UInt8) : lt (bs x) (bs y) = Op.bytesLess x y := by unfold lt; rw [bs_toList, bs_toList]
section
variable {n m : Int} (n0 : 1 ≤ n) (n1 : n ≤ 4096)
include n0 n1
theorem lt_ek (a b : ByteArray) : lt (EK n a) (EK n b) = lt a b := by
  unfold EK
  rw [lt_bs, bl_key (by omega) (by omega) (by omega) (by omega) (by decide) (by decide)]
  unfold lt
  rw [ByteArray.toList_eq, ByteArray.toList_eq]
  simp
theorem lt_bk {x y : Int} (x0 : 0 ≤ x) (x1 : x ≤ 127) (y0 : 0 ≤ y) (y1 : y ≤ 127) : lt (BK n x) (BK n y) = decide (x < y) := by
  unfold BK
  rw [lt_bs, bl_key (by omega) (by omega) (by omega) (by omega) (by decide) (by decide)]
  have h := bl_hi x y [] []
  have b1 := m16_small x0 (by omega)
  have b2 := m16_small y0 (by omega)
  rw [List.append_nil, List.append_nil, bl_nil] at h
  rw [h]
  have c1 : decide (m16 x < m16 y) = decide (x < y) := decide_eq_decide.2 (by omega)
  rw [c1]
  simp
theorem lt_ik {m : Int} (m0 : 1 ≤ m) (m1 : m ≤ 4096) : lt (IK n) (IK m) = decide (n < m) := by
  unfold IK
  have h := bl_key (n := n) (m := m) (by omega) (by omega) (by omega) (by omega) (i := 1) (j := 1) (by decide) (by decide) [] []
  rw [List.append_nil, List.append_nil, bl_nil] at h
  rw [lt_bs, h]
  simp
theorem lt_key_fk {m : Int} (m0 : 0 ≤ m) (m1 : m ≤ 4096) {i j : Nat} (hi : i < 256) (hj : j < 256) (x : List UInt8) : lt (bs (pre3 m i ++ x)) (FK n j) = (decide (m < n) || (decide (m = n) && decide (i < j))) := by
  unfold FK
  have h := bl_key (n := m) (m := n) (by omega) (by omega) (by omega) (by omega) (i := i) (j := j) hi hj x []
  rw [List.append_nil, bl_nil] at h
  rw [lt_bs, h]
  simp
theorem wi_key {m : Int} (m0 : 0 ≤ m) (m1 : m ≤ 4096) {i j : Nat} (hi : i < 256) (hj : j < 255) (x : List UInt8) : wi (bs (pre3 m i ++ x)) (FK n j) (FK n (j + 1)) = (decide (m = n) && decide (i = j)) := by
  unfold wi
  rw [lt_key_fk n0 n1 m0 m1 hi (by omega), lt_key_fk n0 n1 m0 m1 hi (by omega)]
  by_cases h1 : m < n
  · have : ¬ m = n := by omega
    simp [h1, this]
  · by_cases h2 : m = n
    · subst h2
      simp
      rw [Bool.eq_iff_iff]
      simp
      omega
    · simp [h1, h2]
end
end Go.Proofs.Ytefpcdpclpignab
