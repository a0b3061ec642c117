/-
  The check sum's mathematics: its steps are linear over exclusive or, and one to one.
-/
import Derived.Test.YtdhbhjfpjmmonaaDoorStep
namespace Go.Proofs.YtdhbhjfpjmmonaaDoor.M
open Go.Proofs.YtdhbhjfpjmmonaaDoor

theorem bit1_testBit (n i : Nat) : (bit1 n).testBit i = ((n.testBit (i + 1)) ^^ (n.testBit 0 && (3988292384 : Nat).testBit i)) := by
  unfold bit1
  rw [Nat.testBit_zero]
  split
  · rename_i h
    simp [Nat.testBit_xor, Nat.testBit_succ, h]
  · rename_i h
    simp [Nat.testBit_succ, h]
theorem bit1_xor (x y : Nat) : bit1 (x ^^^ y) = bit1 x ^^^ bit1 y := by
  refine Nat.eq_of_testBit_eq fun i => ?_
  simp only [bit1_testBit, Nat.testBit_xor]
  cases x.testBit (i + 1) <;> cases y.testBit (i + 1) <;> cases x.testBit 0 <;> cases y.testBit 0 <;> cases (3988292384 : Nat).testBit i <;> rfl
theorem bitN_xor (k x y : Nat) : bitN k (x ^^^ y) = bitN k x ^^^ bitN k y := by
  induction k with
  | zero => rfl
  | succ k ih => simp only [bitN, ih, bit1_xor]
theorem step8_xor (x y : Nat) : step8 (x ^^^ y) = step8 x ^^^ step8 y := bitN_xor 8 x y

theorem bit1_inj {x y : Nat} (hx : x < 4294967296) (hy : y < 4294967296) (h : bit1 x = bit1 y) : x = y := by
  have hb : ∀ i, (bit1 x).testBit i = (bit1 y).testBit i := fun i => by rw [h]
  have h32 : ∀ n : Nat, n < 4294967296 → n.testBit 32 = false := fun n hn => Nat.testBit_lt_two_pow hn
  have hP : (3988292384 : Nat).testBit 31 = true := by decide
  have h0 : x.testBit 0 = y.testBit 0 := by
    have := hb 31
    rw [bit1_testBit, bit1_testBit, h32 x hx, h32 y hy, hP] at this
    simpa using this
  refine Nat.eq_of_testBit_eq fun i => ?_
  cases i with
  | zero => exact h0
  | succ i =>
    have := hb i
    rw [bit1_testBit, bit1_testBit, h0] at this
    revert this
    cases x.testBit (i + 1) <;> cases y.testBit (i + 1) <;> cases y.testBit 0 <;> cases (3988292384 : Nat).testBit i <;> simp
theorem bitN_inj {k x y : Nat} (hx : x < 4294967296) (hy : y < 4294967296) (h : bitN k x = bitN k y) : x = y := by
  induction k with
  | zero => exact h
  | succ k ih => exact ih (bit1_inj (bitN_lt k hx) (bitN_lt k hy) h)
theorem step8_inj {x y : Nat} (hx : x < 4294967296) (hy : y < 4294967296) (h : step8 x = step8 y) : x = y := bitN_inj hx hy h

theorem xor_right_inj {a b c : Nat} (h : a ^^^ c = b ^^^ c) : a = b := by
  have : (a ^^^ c) ^^^ c = (b ^^^ c) ^^^ c := by rw [h]
  simpa [Nat.xor_assoc] using this
theorem xor_left_inj {a b c : Nat} (h : c ^^^ a = c ^^^ b) : a = b := by
  rw [Nat.xor_comm c a, Nat.xor_comm c b] at h
  exact xor_right_inj h

theorem regL_inj : ∀ (l : List Nat) (c d : Nat), c < 4294967296 → d < 4294967296 → (∀ x ∈ l, x < 256) → regL c l = regL d l → c = d
  | [], _, _, _, _, _, h => h
  | x :: l, c, d, hc, hd, hl, h => by
    have hx := hl x (by simp)
    have h1 := xor_lt32 hc (show x < 4294967296 by omega)
    have h2 := xor_lt32 hd (show x < 4294967296 by omega)
    have := regL_inj l _ _ (step8_lt h1) (step8_lt h2) (fun y hy => hl y (by simp [hy])) h
    exact xor_right_inj (step8_inj h1 h2 this)
theorem regL_append : ∀ (p l : List Nat) (c : Nat), regL c (p ++ l) = regL (regL c p) l
  | [], _, _ => rfl
  | _ :: p, l, _ => regL_append p l _

/-- A byte turned: another sum. -/
theorem sumL_turned {p s : List Nat} {x y : Nat} (hp : ∀ z ∈ p, z < 256) (hs : ∀ z ∈ s, z < 256) (hx : x < 256) (hy : y < 256) (hne : x ≠ y) : sumL (p ++ x :: s) ≠ sumL (p ++ y :: s) := by
  intro h
  unfold sumL at h
  rw [regL_append, regL_append] at h
  have hr := regL_lt p 4294967295 (by decide) hp
  have hx2 := xor_lt32 hr (show x < 4294967296 by omega)
  have hy2 := xor_lt32 hr (show y < 4294967296 by omega)
  have a1 : regL (regL 4294967295 p) (x :: s) < 4294967296 := regL_lt _ _ hr (by intro z hz; simp at hz; rcases hz with rfl | hz; exact hx; exact hs z hz)
  have a2 : regL (regL 4294967295 p) (y :: s) < 4294967296 := regL_lt _ _ hr (by intro z hz; simp at hz; rcases hz with rfl | hz; exact hy; exact hs z hz)
  have e : regL (regL 4294967295 p) (x :: s) = regL (regL 4294967295 p) (y :: s) := by omega
  have := regL_inj s _ _ (step8_lt hx2) (step8_lt hy2) hs e
  exact hne (xor_left_inj (step8_inj hx2 hy2 this))

/-- Three lists put together bit by bit. -/
def xor3 : List Nat → List Nat → List Nat → List Nat
  | x :: a, y :: b, z :: c => (x ^^^ y ^^^ z) :: xor3 a b c
  | _, _, _ => []
theorem xor3_length : ∀ (a b c : List Nat), a.length = b.length → b.length = c.length → (xor3 a b c).length = a.length
  | [], _, _, _, _ => by simp [xor3]
  | x :: a, [], _, h, _ => by simp at h
  | x :: a, y :: b, [], _, h => by simp at h
  | x :: a, y :: b, z :: c, h1, h2 => by simp [xor3, xor3_length a b c (by simpa using h1) (by simpa using h2)]
theorem xor_lt8 {a b : Nat} (ha : a < 256) (hb : b < 256) : a ^^^ b < 256 := Nat.xor_lt_two_pow (n := 8) ha hb
theorem xor3_lt : ∀ (a b c : List Nat), (∀ x ∈ a, x < 256) → (∀ x ∈ b, x < 256) → (∀ x ∈ c, x < 256) → ∀ x ∈ xor3 a b c, x < 256
  | [], _, _, _, _, _, x, hx => by simp [xor3] at hx
  | _ :: _, [], _, _, _, _, x, hx => by simp [xor3] at hx
  | _ :: _, _ :: _, [], _, _, _, x, hx => by simp [xor3] at hx
  | p :: a, q :: b, r :: c, ha, hb, hc, x, hx => by
    simp only [xor3, List.mem_cons] at hx
    rcases hx with rfl | hx
    · exact xor_lt8 (xor_lt8 (ha p (by simp)) (hb q (by simp))) (hc r (by simp))
    · exact xor3_lt a b c (fun y hy => ha y (by simp [hy])) (fun y hy => hb y (by simp [hy])) (fun y hy => hc y (by simp [hy])) x hx
theorem xor3_getD : ∀ (a b c : List Nat) (k : Nat), a.length = b.length → b.length = c.length → k < a.length → (xor3 a b c).getD k 0 = a.getD k 0 ^^^ b.getD k 0 ^^^ c.getD k 0
  | [], _, _, _, _, _, h => by simp at h
  | x :: a, [], _, _, h, _, _ => by simp at h
  | x :: a, y :: b, [], _, _, h, _ => by simp at h
  | x :: a, y :: b, z :: c, 0, _, _, _ => by simp [xor3]
  | x :: a, y :: b, z :: c, k + 1, h1, h2, h3 => by
    have := xor3_getD a b c k (by simpa using h1) (by simpa using h2) (by simpa using h3)
    simpa [xor3] using this
theorem xor4 (a b c x y z : Nat) : (a ^^^ x) ^^^ (b ^^^ y) ^^^ (c ^^^ z) = (a ^^^ b ^^^ c) ^^^ (x ^^^ y ^^^ z) := by
  refine Nat.eq_of_testBit_eq fun i => ?_
  simp only [Nat.testBit_xor]
  cases a.testBit i <;> cases b.testBit i <;> cases c.testBit i <;> cases x.testBit i <;> cases y.testBit i <;> cases z.testBit i <;> rfl
theorem regL_xor3 : ∀ (a b c : List Nat) (p q r : Nat), a.length = b.length → b.length = c.length → regL p a ^^^ regL q b ^^^ regL r c = regL (p ^^^ q ^^^ r) (xor3 a b c)
  | [], b, c, p, q, r, h1, h2 => by
    have hb : b = [] := List.eq_nil_of_length_eq_zero h1.symm
    subst hb
    have hc : c = [] := List.eq_nil_of_length_eq_zero h2.symm
    subst hc
    rfl
  | x :: a, [], _, _, _, _, h, _ => by simp at h
  | x :: a, y :: b, [], _, _, _, _, h => by simp at h
  | x :: a, y :: b, z :: c, p, q, r, h1, h2 => by
    show regL (step8 (p ^^^ x)) a ^^^ regL (step8 (q ^^^ y)) b ^^^ regL (step8 (r ^^^ z)) c = regL (step8 ((p ^^^ q ^^^ r) ^^^ (x ^^^ y ^^^ z))) (xor3 a b c)
    rw [regL_xor3 a b c _ _ _ (by simpa using h1) (by simpa using h2), ← xor4, ← step8_xor, ← step8_xor]
theorem sumL_xor3 (a b c : List Nat) (h1 : a.length = b.length) (h2 : b.length = c.length) (ha : ∀ x ∈ a, x < 256) (hb : ∀ x ∈ b, x < 256) (hc : ∀ x ∈ c, x < 256) :
    sumL a ^^^ sumL b ^^^ sumL c = sumL (xor3 a b c) := by
  have e : ∀ l : List Nat, (∀ x ∈ l, x < 256) → sumL l = 4294967295 ^^^ regL 4294967295 l := fun l hl => (nat_not32 _ (regL_lt l _ (by decide) hl)).symm
  rw [e a ha, e b hb, e c hc, e _ (xor3_lt a b c ha hb hc)]
  have := regL_xor3 a b c 4294967295 4294967295 4294967295 h1 h2
  have h3 : (4294967295 : Nat) ^^^ 4294967295 ^^^ 4294967295 = 4294967295 := by decide
  rw [h3] at this
  rw [← this, xor4, h3]
end Go.Proofs.YtdhbhjfpjmmonaaDoor.M
