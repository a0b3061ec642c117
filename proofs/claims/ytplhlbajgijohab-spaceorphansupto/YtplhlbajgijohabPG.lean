/-
  What a geometry holds: Lebs, Bytes, Limit, Most, of the code and of the document.
-/
import Derived.Test.YtplhlbajgijohabPRt
import Derived.Test.YtplhlbajgijohabPB
import Derived.BigQuiet
namespace Go.Proofs.Ytplhlbajgijohab
open Go.RowKit
set_option maxRecDepth 10000

/-- Is that geometry right? -/
abbrev rB (b p z r : Int) : Bool := Nd.rightB b p z r
structure Rg (b p z r : Int) : Prop where
  b0 : 16 ≤ b
  b1 : b ≤ 256
  p0 : 8 ≤ p
  p1 : p ≤ 64
  z0 : 64 ≤ z
  z1 : z ≤ 512
  s : 1536 ≤ (p - 2) * z
  s1 : (p - 2) * z ≤ 31744
  r0 : 0 ≤ r
  r1 : r ≤ b / 4
theorem rg_of {b p z r : Int} (h : rB b p z r = true) : Rg b p z r := by
  unfold rB Nd.rightB at h
  simp only [Bool.and_eq_true, decide_eq_true_eq] at h
  obtain ⟨⟨h1, h2⟩, ⟨h3, h4⟩, _, ⟨h5, h6⟩, _, h7, h8, h9⟩ := h
  have e1 : wrap64 (p - 2) = p - 2 := by unfold wrap64; omega
  have m0 : 0 ≤ (p - 2) * z := Int.mul_nonneg (by omega) (by omega)
  have m1 : (p - 2) * z ≤ 62 * 512 := Int.mul_le_mul (by omega) (by omega) (by omega) (by omega)
  have e2 : wrap64 ((p - 2) * z) = (p - 2) * z := by unfold wrap64; omega
  have e3 : wrap64 (b.tdiv 4) = b / 4 := by rw [Int.tdiv_eq_ediv_of_nonneg (by omega)]; unfold wrap64; omega
  rw [e1, e2] at h7
  rw [e3] at h9
  exact ⟨h1, h2, h3, h4, h5, h6, h7, by omega, h8, h9⟩
def lebG (b p z r : Int) : Int := bif rB b p z r then b - r - 2 else 0
def bytG (b p z r : Int) : Int := bif rB b p z r then (p - 2) * z else 0
def limG (b p z r : Int) : Int := bif rB b p z r then ((b - r - 7) / 2) * (((p - 2) * z) / 2) else 0
def mosG (b p z r : Int) : Int := bif rB b p z r then 8 * b * p else 0
def gv (b p z r : Int) : Value := .agg #[.int .i64 b, .int .i64 p, .int .i64 z, .int .i64 r]
theorem Row.cells4 {W : World} {B : Nat} {x y z u : Value} {t : TypeId} (h : Row W B [x, y, z, u] t) :
    W.cell? ⟨B, 0, none⟩ = some x ∧ W.cell? ⟨B, 1, none⟩ = some y ∧ W.cell? ⟨B, 2, none⟩ = some z ∧ W.cell? ⟨B, 3, none⟩ = some u :=
  ⟨h.cell (i := 0) rfl, h.cell (i := 1) rfl, h.cell (i := 2) rfl, h.cell (i := 3) rfl⟩
theorem i64w {x : Int} (h0 : 0 ≤ x) (h1 : x ≤ 9223372036854775807) : IntKind.i64.wrap x = x := by
  simp [IntKind.wrap, IntKind.bits, IntKind.signed]
  omega

set_option maxHeartbeats 2000000 in
theorem lebs_any (b p z r : Int) (w : World) : Calls Try.prog 29 #[gv b p z r] w fun e w' => e = .returned (.int .i64 (lebG b p z r)) ∧ Below w.heap.size w w' := by
  unfold gv
  have kr := fun W => Nd.right_any b p z r W
  have HX : Hid (Row (w.alloc (.cells #[.int .i64 b, .int .i64 p, .int .i64 z, .int .i64 r] 42)) w.heap.size [.int .i64 b, .int .i64 p, .int .i64 z, .int .i64 r] 42) := Row.new w [.int .i64 b, .int .i64 p, .int .i64 z, .int .i64 r] _
  have HV : Hid (lebG b p z r = bif rB b p z r then b - r - 2 else 0) := rfl
  cases hB : rB b p z r with
  | false =>
    rw [show Nd.rightB b p z r = false from hB] at kr
    rw [hB] at HV
    clear hB
    go_enter Try.func29, Try.ntmps29
    go_wp2_with (go_at_call 28; refine (kr _).mono ?_; rintro e w1 ⟨rfl, hb⟩; have HB : Hid (Below w.heap.size w w1) := Below.after (below_new _ _) hb; clear hb)
    go_ret
    exact ⟨ret_int (by rw [HV.out]; rfl), HB.out⟩
  | true =>
    have hR := rg_of hB
    rw [show Nd.rightB b p z r = true from hB] at kr
    rw [hB] at HV
    obtain ⟨b0, b1, p0, p1, z0, z1, q0, q1, r0, r1⟩ := hR
    have n1 : (0 : Int) ≤ b - r := by omega
    have n2 : b - r ≤ 9223372036854775807 := by omega
    have n3 : (0 : Int) ≤ b - r - 2 := by omega
    have n4 : b - r - 2 ≤ 9223372036854775807 := by omega
    clear hB q0 q1
    go_enter Try.func29, Try.ntmps29
    go_wp2_with (go_at_call 28; refine (kr _).mono ?_; rintro e w1 ⟨rfl, hb⟩; have HB : Hid (Below w.heap.size w w1) := Below.after (below_new _ _) hb; obtain ⟨x0, x1, x2, x3⟩ := (HX.out.later hb).cells4; have HX1 : Hid (Row w1 w.heap.size [.int .i64 b, .int .i64 p, .int .i64 z, .int .i64 r] 42) := HX.out.later hb; clear hb)
    go_ret
    exact ⟨ret_int (by rw [HV.out]; rfl), HB.out⟩

set_option maxHeartbeats 2000000 in
theorem bytes_any (b p z r : Int) (w : World) : Calls Try.prog 30 #[gv b p z r] w fun e w' => e = .returned (.int .i64 (bytG b p z r)) ∧ Below w.heap.size w w' := by
  unfold gv
  have kr := fun W => Nd.right_any b p z r W
  have HX : Hid (Row (w.alloc (.cells #[.int .i64 b, .int .i64 p, .int .i64 z, .int .i64 r] 42)) w.heap.size [.int .i64 b, .int .i64 p, .int .i64 z, .int .i64 r] 42) := Row.new w [.int .i64 b, .int .i64 p, .int .i64 z, .int .i64 r] _
  have HV : Hid (bytG b p z r = bif rB b p z r then (p - 2) * z else 0) := rfl
  cases hB : rB b p z r with
  | false =>
    rw [show Nd.rightB b p z r = false from hB] at kr
    rw [hB] at HV
    clear hB
    go_enter Try.func30, Try.ntmps30
    go_wp2_with (go_at_call 28; refine (kr _).mono ?_; rintro e w1 ⟨rfl, hb⟩; have HB : Hid (Below w.heap.size w w1) := Below.after (below_new _ _) hb; clear hb)
    go_ret
    exact ⟨ret_int (by rw [HV.out]; rfl), HB.out⟩
  | true =>
    have hR := rg_of hB
    rw [show Nd.rightB b p z r = true from hB] at kr
    rw [hB] at HV
    obtain ⟨b0, b1, p0, p1, z0, z1, q0, q1, r0, r1⟩ := hR
    have n1 : (0 : Int) ≤ p - 2 := by omega
    have n2 : p - 2 ≤ 9223372036854775807 := by omega
    have n3 : (0 : Int) ≤ (p - 2) * z := by omega
    have n4 : (p - 2) * z ≤ 9223372036854775807 := by omega
    clear hB q0 q1
    go_enter Try.func30, Try.ntmps30
    go_wp2_with (go_at_call 28; refine (kr _).mono ?_; rintro e w1 ⟨rfl, hb⟩; have HB : Hid (Below w.heap.size w w1) := Below.after (below_new _ _) hb; obtain ⟨x0, x1, x2, x3⟩ := (HX.out.later hb).cells4; have HX1 : Hid (Row w1 w.heap.size [.int .i64 b, .int .i64 p, .int .i64 z, .int .i64 r] 42) := HX.out.later hb; clear hb)
    go_ret
    exact ⟨ret_int (by rw [HV.out]; rfl), HB.out⟩

set_option maxHeartbeats 2000000 in
theorem most_any (b p z r : Int) (w : World) : Calls Try.prog 15 #[gv b p z r] w fun e w' => e = .returned (.int .i64 (mosG b p z r)) ∧ Below w.heap.size w w' := by
  unfold gv
  have kr := fun W => Nd.right_any b p z r W
  have HX : Hid (Row (w.alloc (.cells #[.int .i64 b, .int .i64 p, .int .i64 z, .int .i64 r] 42)) w.heap.size [.int .i64 b, .int .i64 p, .int .i64 z, .int .i64 r] 42) := Row.new w [.int .i64 b, .int .i64 p, .int .i64 z, .int .i64 r] _
  have HV : Hid (mosG b p z r = bif rB b p z r then 8 * b * p else 0) := rfl
  cases hB : rB b p z r with
  | false =>
    rw [show Nd.rightB b p z r = false from hB] at kr
    rw [hB] at HV
    clear hB
    go_enter Try.func15, Try.ntmps15
    go_wp2_with (go_at_call 28; refine (kr _).mono ?_; rintro e w1 ⟨rfl, hb⟩; have HB : Hid (Below w.heap.size w w1) := Below.after (below_new _ _) hb; clear hb)
    go_ret
    exact ⟨ret_int (by rw [HV.out]; rfl), HB.out⟩
  | true =>
    have hR := rg_of hB
    rw [show Nd.rightB b p z r = true from hB] at kr
    rw [hB] at HV
    obtain ⟨b0, b1, p0, p1, z0, z1, q0, q1, r0, r1⟩ := hR
    have n1 : (0 : Int) ≤ 8 * b := by omega
    have n2 : 8 * b ≤ 9223372036854775807 := by omega
    have n3 : (0 : Int) ≤ 8 * b * p := Int.mul_nonneg (by omega) (by omega)
    have n4 : 8 * b * p ≤ 9223372036854775807 := Int.le_trans (Int.mul_le_mul (show 8 * b ≤ 2048 by omega) (show p ≤ 64 by omega) (by omega) (by omega)) (by omega)
    clear hB q0 q1
    go_enter Try.func15, Try.ntmps15
    go_wp2_with (go_at_call 28; refine (kr _).mono ?_; rintro e w1 ⟨rfl, hb⟩; have HB : Hid (Below w.heap.size w w1) := Below.after (below_new _ _) hb; obtain ⟨x0, x1, x2, x3⟩ := (HX.out.later hb).cells4; have HX1 : Hid (Row w1 w.heap.size [.int .i64 b, .int .i64 p, .int .i64 z, .int .i64 r] 42) := HX.out.later hb; clear hb)
    go_ret
    exact ⟨ret_int (by rw [HV.out]; rfl), HB.out⟩

set_option maxHeartbeats 2000000 in
theorem limit_any (b p z r : Int) (w : World) : Calls Try.prog 14 #[gv b p z r] w fun e w' => e = .returned (.int .i64 (limG b p z r)) ∧ Below w.heap.size w w' := by
  unfold gv
  have kr := fun W => Nd.right_any b p z r W
  have kl := fun W => lebs_any b p z r W
  have ky := fun W => bytes_any b p z r W
  unfold gv at kl ky
  have HX : Hid (Row (w.alloc (.cells #[.int .i64 b, .int .i64 p, .int .i64 z, .int .i64 r] 42)) w.heap.size [.int .i64 b, .int .i64 p, .int .i64 z, .int .i64 r] 42) := Row.new w [.int .i64 b, .int .i64 p, .int .i64 z, .int .i64 r] _
  have HV : Hid (limG b p z r = bif rB b p z r then ((b - r - 7) / 2) * (((p - 2) * z) / 2) else 0) := rfl
  cases hB : rB b p z r with
  | false =>
    rw [show Nd.rightB b p z r = false from hB] at kr
    rw [hB] at HV
    clear hB
    go_enter Try.func14, Try.ntmps14
    go_wp2_with (go_at_call 28; refine (kr _).mono ?_; rintro e w1 ⟨rfl, hb⟩; have HB : Hid (Below w.heap.size w w1) := Below.after (below_new _ _) hb; clear hb)
    go_ret
    exact ⟨ret_int (by rw [HV.out]; rfl), HB.out⟩
  | true =>
    have hR := rg_of hB
    rw [show Nd.rightB b p z r = true from hB] at kr
    rw [hB] at HV
    obtain ⟨b0, b1, p0, p1, z0, z1, q0, q1, r0, r1⟩ := hR
    rw [show lebG b p z r = b - r - 2 by unfold lebG; rw [hB]; rfl] at kl
    rw [show bytG b p z r = (p - 2) * z by unfold bytG; rw [hB]; rfl] at ky
    obtain ⟨L, eL⟩ : ∃ L, L = b - r - 2 := ⟨_, rfl⟩
    obtain ⟨S, eS⟩ : ∃ S, S = (p - 2) * z := ⟨_, rfl⟩
    rw [← eL] at kl
    rw [← eS] at ky q0 q1 HV
    have n1 : (0 : Int) ≤ L - 5 := by omega
    have n2 : L - 5 ≤ 9223372036854775807 := by omega
    obtain ⟨X, eX⟩ : ∃ X, X = (b - r - 7) / 2 := ⟨_, rfl⟩
    obtain ⟨Y, eY⟩ : ∃ Y, Y = S / 2 := ⟨_, rfl⟩
    have hX : (L - 5).tdiv 2 = X := by rw [Int.tdiv_eq_ediv_of_nonneg n1]; omega
    have hY : S.tdiv 2 = Y := by rw [Int.tdiv_eq_ediv_of_nonneg (by omega)]; omega
    rw [← eX, ← eY] at HV
    have n3 : (0 : Int) ≤ X * Y := Int.mul_nonneg (by omega) (by omega)
    have n4 : X * Y ≤ 9223372036854775807 := Int.le_trans (Int.mul_le_mul (show X ≤ 256 by omega) (show Y ≤ 31744 by omega) (by omega) (by omega)) (by omega)
    have HW : Hid (IntKind.i64.wrap (IntKind.i64.wrap ((IntKind.i64.wrap (L - 5)).tdiv 2) * IntKind.i64.wrap Y) = X * Y) := by
      show _ = _
      rw [i64w n1 n2, hX, i64w (x := X) (by omega) (by omega), i64w (x := Y) (by omega) (by omega), i64w n3 n4]
    clear eL eS eX eY hB q0 q1 b0 b1 p0 p1 z0 z1 r0 r1
    go_enter Try.func14, Try.ntmps14
    go_wp2_with (go_at_call 28; refine (kr _).mono ?_; rintro e w1 ⟨rfl, hb⟩; have HB : Hid (Below w.heap.size w w1) := Below.after (below_new _ _) hb; obtain ⟨x0, x1, x2, x3⟩ := (HX.out.later hb).cells4; have HX1 : Hid (Row w1 w.heap.size [.int .i64 b, .int .i64 p, .int .i64 z, .int .i64 r] 42) := HX.out.later hb; clear hb)
    go_region_held3 (fun w' => w'.cell? ⟨w.heap.size, 0, none⟩ = some (.int .i64 b) ∧ w'.cell? ⟨w.heap.size, 1, none⟩ = some (.int .i64 p) ∧ w'.cell? ⟨w.heap.size, 2, none⟩ = some (.int .i64 z) ∧ w'.cell? ⟨w.heap.size, 3, none⟩ = some (.int .i64 r)) (first | assumption | go_keep)
      (first
      | (go_at_call 29; refine (kl _).mono ?_; rintro e w2 ⟨rfl, hb⟩; have HB2 : Hid (Below w1.heap.size w1 w2) := undrew hb; have hc2 := (HX1.out.later HB2.out).cells4; clear hb)
      | (go_at_call 30; refine (ky _).mono ?_; rintro e w3 ⟨rfl, hb⟩; have HB3 : Hid (Below w1.heap.size w1 w3) := Below.after HB2.out hb; have hc3 := (HX1.out.later HB3.out).cells4; clear hb))
    go_wp2
    go_ret
    exact ⟨ret_int (by rw [HV.out, HW.out]; rfl), Below.after HB.out HB3.out⟩

end Go.Proofs.Ytplhlbajgijohab
