/-
  SpaceLeast: of any geometry (four numbers, whatever they are): one that is not right holds nothing; a right one's Limit holds what a root, a file's inode, its entry and a block cost, and is no more than its pages; it has at least 10 logical blocks of at least 1536 bytes; Most is more than its pages; and the chapter's examples come out. No condition.
-/
import Derived.Test.YtplhlbajgijohaaPW
namespace Go.Proofs.Ytplhlbajgijohaa.spaceLeast
open Go.ChangeShapes Go.WideShapes Go.ChangeAt Go.RowKit Go.Deep Go.Proofs.Ytplhlbajgijohaa
set_option maxRecDepth 10000

theorem least_facts {b p z r : Int} (h : Rg b p z r) : 493 ≤ ((b - r - 7) / 2) * (((p - 2) * z) / 2) ∧ ((b - r - 7) / 2) * (((p - 2) * z) / 2) ≤ b * p * z ∧ 10 ≤ b - r - 2 ∧ b * p < 8 * b * p ∧ 0 ≤ b * p ∧ b * p ≤ 16384 ∧ 0 ≤ b * p * z ∧ b * p * z ≤ 8388608 := by
  obtain ⟨b0, b1, p0, p1, z0, z1, s0, s1, r0, r1⟩ := h
  have m1 : 2 * 768 ≤ ((b - r - 7) / 2) * (((p - 2) * z) / 2) := Int.mul_le_mul (by omega) (by omega) (by omega) (by omega)
  have m2 : ((b - r - 7) / 2) * (((p - 2) * z) / 2) ≤ b * ((p - 2) * z) := Int.mul_le_mul (by omega) (by omega) (by omega) (by omega)
  have m3 : (p - 2) * z ≤ p * z := Int.mul_le_mul_of_nonneg_right (by omega) (by omega)
  have m4 : b * ((p - 2) * z) ≤ b * (p * z) := Int.mul_le_mul_of_nonneg_left m3 (by omega)
  have e1 : b * (p * z) = b * p * z := by rw [Int.mul_assoc]
  have m5 : 16 * 8 ≤ b * p := Int.mul_le_mul (by omega) (by omega) (by omega) (by omega)
  have m6 : b * p ≤ 256 * 64 := Int.mul_le_mul (by omega) (by omega) (by omega) (by omega)
  have e2 : 8 * b * p = 8 * (b * p) := by rw [Int.mul_assoc]
  have m7 : 0 ≤ b * p * z := Int.mul_nonneg (by omega) (by omega)
  have m8 : b * p * z ≤ 16384 * 512 := Int.mul_le_mul (by omega) (by omega) (by omega) (by omega)
  refine ⟨by omega, by omega, by omega, by omega, by omega, by omega, m7, by omega⟩

set_option maxHeartbeats 8000000 in
theorem walk (b p z r : Int) (w : World) : Calls Try.prog 6 #[.agg #[.int .i64 b, .int .i64 p, .int .i64 z, .int .i64 r]] w fun e w' => e = .returned (.bool true) ∧ Below w.heap.size w w' := by
  have kr := fun W => Nd.right_any b p z r W
  obtain ⟨W1, hW1⟩ : ∃ W1, W1 = w.alloc (.cells #[.int .i64 b, .int .i64 p, .int .i64 z, .int .i64 r] 23) := ⟨_, rfl⟩
  have HX : Hid (Row W1 w.heap.size [.int .i64 b, .int .i64 p, .int .i64 z, .int .i64 r] 23) := by rw [hW1]; exact Row.new w [.int .i64 b, .int .i64 p, .int .i64 z, .int .i64 r] _
  have HB : Hid (Below w.heap.size w W1) := by rw [hW1]; exact below_new _ _
  obtain ⟨x0, x1, x2, x3⟩ := HX.out.cells4
  have k1 := fun W => lebs_any b p z r W
  have k2 := fun W => bytes_any b p z r W
  have k3 := fun W => limit_any b p z r W
  have k4 := fun W => most_any b p z r W
  have k9 := fun W => alive_any W
  unfold gv at k1 k2 k3 k4
  cases hB : rB b p z r with
  | false =>
    rw [show Nd.rightB b p z r = false from hB] at kr
    rw [show lebG b p z r = 0 by unfold lebG; rw [hB]; rfl] at k1
    rw [show bytG b p z r = 0 by unfold bytG; rw [hB]; rfl] at k2
    rw [show limG b p z r = 0 by unfold limG; rw [hB]; rfl] at k3
    rw [show mosG b p z r = 0 by unfold mosG; rw [hB]; rfl] at k4
    clear hB
    go_enter Try.func6, Try.ntmps6
    go_wp2_with fail
    rw [← hW1]
    clear hW1
    go_wp2_with (first
      | (go_at_call 32; refine (kr _).mono ?_; rintro e w1 ⟨rfl, hb⟩; have B1 : Hid (Below W1.heap.size W1 w1) := hb; clear x0 x1 x2 x3; obtain ⟨x0, x1, x2, x3⟩ := (HX.out.later B1.out).cells4; clear hb kr)
      | (go_at_call 9; refine (k1 _).mono ?_; rintro e w2 ⟨rfl, hb⟩; have B2 : Hid (Below W1.heap.size W1 w2) := Below.after B1.out hb; clear x0 x1 x2 x3; obtain ⟨x0, x1, x2, x3⟩ := (HX.out.later B2.out).cells4; clear hb k1)
      | (go_at_call 11; refine (k2 _).mono ?_; rintro e w3 ⟨rfl, hb⟩; have B3 : Hid (Below W1.heap.size W1 w3) := Below.after B2.out hb; clear x0 x1 x2 x3; obtain ⟨x0, x1, x2, x3⟩ := (HX.out.later B3.out).cells4; clear hb k2)
      | (go_at_call 13; refine (k3 _).mono ?_; rintro e w4 ⟨rfl, hb⟩; have B4 : Hid (Below W1.heap.size W1 w4) := Below.after B3.out hb; clear x0 x1 x2 x3; obtain ⟨x0, x1, x2, x3⟩ := (HX.out.later B4.out).cells4; clear hb k3)
      | (go_at_call 15; refine (k4 _).mono ?_; rintro e w5 ⟨rfl, hb⟩; have B5 : Hid (Below W1.heap.size W1 w5) := Below.after B4.out hb; clear x0 x1 x2 x3; obtain ⟨x0, x1, x2, x3⟩ := (HX.out.later B5.out).cells4; clear hb k4)
      | (go_at_call 17; refine (k9 _).mono ?_; rintro e w6 ⟨rfl, hb⟩; have B9 : Hid (Below W1.heap.size W1 w6) := Below.after B5.out hb; clear x0 x1 x2 x3; obtain ⟨x0, x1, x2, x3⟩ := (HX.out.later B9.out).cells4; clear hb k9))
    go_ret
    exact ⟨rfl, Below.after HB.out B9.out⟩
  | true =>
    have hR := rg_of hB
    rw [show Nd.rightB b p z r = true from hB] at kr
    rw [show lebG b p z r = b - r - 2 by unfold lebG; rw [hB]; rfl] at k1
    rw [show bytG b p z r = (p - 2) * z by unfold bytG; rw [hB]; rfl] at k2
    rw [show limG b p z r = ((b - r - 7) / 2) * (((p - 2) * z) / 2) by unfold limG; rw [hB]; rfl] at k3
    rw [show mosG b p z r = 8 * b * p by unfold mosG; rw [hB]; rfl] at k4
    obtain ⟨f1, f2, f3, f4, f5, f6, f7, f8⟩ := least_facts hR
    have f9 := hR.s
    clear hR hB
    generalize ((b - r - 7) / 2) * (((p - 2) * z) / 2) = L at *
    generalize 8 * b * p = M at *
    generalize (p - 2) * z = S at *
    have g5 : b * p ≤ 9223372036854775807 := by omega
    have g7 : b * p * z ≤ 9223372036854775807 := by omega
    generalize b - r - 2 = N at *
    have k5 : ∀ W, Calls Try.prog 22 #[] W fun e w' => e = .returned (.int .i64 83) ∧ Below W.heap.size W w' := fun W => inodeC_any W
    have k6 : ∀ W, Calls Try.prog 24 #[.string ⟨#[97, 32, 102, 105, 108, 101, 32, 119, 105, 116, 104, 32, 97, 32, 108, 111, 110, 103, 101, 115, 116, 32, 110, 97, 109, 101]⟩] W fun e w' => e = .returned (.int .i64 125) ∧ Below W.heap.size W w' := fun W => entryC_any ⟨#[97, 32, 102, 105, 108, 101, 32, 119, 105, 116, 104, 32, 97, 32, 108, 111, 110, 103, 101, 115, 116, 32, 110, 97, 109, 101]⟩ (by decide) W
    have k7 : ∀ W, Calls Try.prog 26 #[.int .i64 128] W fun e w' => e = .returned (.int .i64 202) ∧ Below W.heap.size W w' := fun W => fileC_any 128 W
    go_enter Try.func6, Try.ntmps6
    go_wp2_with fail
    rw [← hW1]
    clear hW1
    go_wp2_with (go_at_call 32; refine (kr _).mono ?_; rintro e w1 ⟨rfl, hb⟩; have B1 : Hid (Below W1.heap.size W1 w1) := hb; clear hb)
    have HZ : Hid (∀ q : Wd w1, q.v.cell? ⟨w.heap.size, 0, none⟩ = some (.int .i64 b) ∧ q.v.cell? ⟨w.heap.size, 1, none⟩ = some (.int .i64 p) ∧ q.v.cell? ⟨w.heap.size, 2, none⟩ = some (.int .i64 z) ∧ q.v.cell? ⟨w.heap.size, 3, none⟩ = some (.int .i64 r)) := fun q => (HX.out.later (Below.after B1.out q.h)).cells4
    have H1 : Hid (∀ q : Wd w1, Calls Try.prog 9 #[.agg #[.int .i64 b, .int .i64 p, .int .i64 z, .int .i64 r]] q.v fun e w'' => e = .returned (.int .i64 N) ∧ ∃ q : Wd w1, w'' = q.v) := fun q => quiet_call q (k1 q.v)
    have H2 : Hid (∀ q : Wd w1, Calls Try.prog 11 #[.agg #[.int .i64 b, .int .i64 p, .int .i64 z, .int .i64 r]] q.v fun e w'' => e = .returned (.int .i64 S) ∧ ∃ q : Wd w1, w'' = q.v) := fun q => quiet_call q (k2 q.v)
    have H3 : Hid (∀ q : Wd w1, Calls Try.prog 13 #[.agg #[.int .i64 b, .int .i64 p, .int .i64 z, .int .i64 r]] q.v fun e w'' => e = .returned (.int .i64 L) ∧ ∃ q : Wd w1, w'' = q.v) := fun q => quiet_call q (k3 q.v)
    have H4 : Hid (∀ q : Wd w1, Calls Try.prog 15 #[.agg #[.int .i64 b, .int .i64 p, .int .i64 z, .int .i64 r]] q.v fun e w'' => e = .returned (.int .i64 M) ∧ ∃ q : Wd w1, w'' = q.v) := fun q => quiet_call q (k4 q.v)
    have H5 : Hid (∀ q : Wd w1, Calls Try.prog 22 #[] q.v fun e w'' => e = .returned (.int .i64 83) ∧ ∃ q : Wd w1, w'' = q.v) := fun q => quiet_call q (k5 q.v)
    have H6 : Hid (∀ q : Wd w1, Calls Try.prog 24 #[.string ⟨#[97, 32, 102, 105, 108, 101, 32, 119, 105, 116, 104, 32, 97, 32, 108, 111, 110, 103, 101, 115, 116, 32, 110, 97, 109, 101]⟩] q.v fun e w'' => e = .returned (.int .i64 125) ∧ ∃ q : Wd w1, w'' = q.v) := fun q => quiet_call q (k6 q.v)
    have H7 : Hid (∀ q : Wd w1, Calls Try.prog 26 #[.int .i64 128] q.v fun e w'' => e = .returned (.int .i64 202) ∧ ∃ q : Wd w1, w'' = q.v) := fun q => quiet_call q (k7 q.v)
    have H8 : Hid (∀ q : Wd w1, Calls Try.prog 17 #[] q.v fun e w'' => e = .returned (.bool true) ∧ ∃ q : Wd w1, w'' = q.v) := fun q => quiet_call q (k9 q.v)
    clear k1 k2 k3 k4 k5 k6 k7 k9 x0 x1 x2 x3
    have z0 := fun q => (HZ.out q).1
    have z1 := fun q => (HZ.out q).2.1
    have z2 := fun q => (HZ.out q).2.2.1
    have z3 := fun q => (HZ.out q).2.2.2
    have ne := Wd.non w1
    refine quiet_below (by kernel_rfl) ?_
    repeat (first | go_big_quiet_skip | go_big_quiet_step (first
      | (go_at_call 9; exact H1.out _)
      | (go_at_call 11; exact H2.out _)
      | (go_at_call 13; exact H3.out _)
      | (go_at_call 15; exact H4.out _)
      | (go_at_call 22; exact H5.out _)
      | (go_at_call 24; exact H6.out _)
      | (go_at_call 26; exact H7.out _)
      | (go_at_call 17; exact H8.out _)))
    refine wpQuiet_nil ?_
    rintro _ ⟨p7, rfl⟩
    have HB7 : Hid (Below w.heap.size w p7.v) := Below.after HB.out (Below.after B1.out p7.h)
    clear z0 z1 z2 z3 ne
    go_wp2
    go_ret
    exact ⟨rfl, HB7.out⟩

set_option maxRecDepth 100000 in
theorem lifted (os : Os) (started : os.Started) (H : Type) (enc : TypeId × Value → H) :
    ReturnsInHanded {} Try.checked os 6 .any (Rows.spaceLeastSpec.pre6 enc Try.prog Try.f6 Rows.spaceLeastRow.domain false) (Rows.spaceLeastSpec.post enc Try.prog Try.f6 false true false false) := by
  refine returnsInHanded_of_change_sized (C := Try.checked) own started (by kernel_rfl) Try.func6
    (ChangeSpec.witness6 (enc := enc) (C := Try.checked) false ⟨#[], #[.agg #[.int .i64 0, .int .i64 0, .int .i64 0, .int .i64 0]], []⟩ 8 (by kernel_rfl) (by kernel_rfl) (by kernel_rfl) (by kernel_rfl)) ?_
  intro W base args ds gs before hval0 hW hcnd hsz0 _
  have hval : ∀ (j : Nat) t v, Try.f6.params[j]? = some t → args[j]? = some v → Value.okWide Try.prog W .any base t v := hval0
  have hsz : (DataW.weightsEach Try.prog (Try.f6.params.toList ++ Rows.spaceLeastSpec.plain.varTypes Try.prog) (ds ++ gs)).all (· ≤ reachBytes) = true := hsz0
  have hW' := hW
  obtain ⟨p, q, hA0, hV, rfl, hfz, hnd⟩ := hW
  have hA : DataW.TrodAll enc Try.prog W 0 (fun _ => true) true Try.f6.params.toList args.toList ds p := hA0
  rw [Try.params6] at hA hval hsz
  obtain ⟨v0, vs0, d0, ds0, p0, q0, hargs, rfl, rfl, h0, r0⟩ := trodAll_cons hA
  obtain ⟨rfl, rfl, rfl⟩ := trodAll_nil r0
  obtain rfl : args = #[v0] := by cases args; simp_all
  obtain ⟨rfl, rfl⟩ := trodVars_none hV
  obtain ⟨cs0, rfl, sz0⟩ := okWide_struct Try.underlying23 (hval 0 23 v0 rfl rfl)
  have k0 := h0
  have lt0 : ∀ x ∈ p0, x.block < W.heap.size := by obtain ⟨m, hm⟩ := k0; exact DataW.trod_lt m _ _ _ hm
  obtain ⟨gb0, gp0, gz0, gr0, rfl⟩ : ∃ b p z r, cs0 = #[.int .i64 b, .int .i64 p, .int .i64 z, .int .i64 r] := by
    obtain ⟨fuel, hf⟩ := h0
    exact garg_open sz0 hf
  clear hA0 hval0
  refine (walk gb0 gp0 gz0 gr0 W ).mono fun e W' ⟨he, bel⟩ => ?_
  subst he
  exact ⟨_, rfl, _, _, _, [], _, [], hW', trodAll_mk1 (shut_bool Try.underlying4 _), (trodAll_cons_mk (Below.trod laidOut (by kernel_rfl) (of_decide_eq_true (by kernel_rfl)) k0 bel lt0) trodAll_mk0), rfl, bel.frame _, fun h => by cases h⟩

theorem over : Rows.spaceLeastRow.holds Try.pinned (OpenSpec.ofChange Rows.spaceLeastSpec) :=
  OpenClaim.holds_of_wide 6 Try.f6 rfl rfl rfl rfl rfl rfl rfl ⟨rfl, rfl, rfl, rfl, rfl⟩ rfl rfl rfl rfl rfl (by kernel_rfl) Try.func6 (by kernel_rfl)
    (of_decide_eq_true (by kernel_rfl)) (by unfold Func.isWrapper; first | (rw [if_pos (by decide +kernel)]; kernel_rfl) | (rw [if_neg (by decide +kernel)]; exact ⟨rfl, rfl⟩))
    (fun os started H enc _ => lifted os started H enc)
end Go.Proofs.Ytplhlbajgijohaa.spaceLeast

namespace Go.Proofs.Ytplhlbajgijohaa
theorem spaceLeast_holds : Rows.SpaceLeastSaid := spaceLeast.over
#print axioms spaceLeast_holds
end Go.Proofs.Ytplhlbajgijohaa
