/-
  The document's keys, and its Ino and number.
-/
import Derived.Test.YtefpcdpclpignaaKKeyM
import Derived.Test.YtefpcdpclpignaaKRName
namespace Go.Proofs.Ytefpcdpclpignaa
open Go.RowKit M

theorem two_any (n : Int) (w : World) :
    Calls Try.prog 58 #[.int .i64 n] w fun e w' => e = .returned (.string (bs (hi2 n))) ∧ Below w.heap.size w w' := by
  obtain ⟨a, ha⟩ : ∃ a : Nat, (n / 256 % 256) = (a : Int) := ⟨_, (Int.toNat_of_nonneg (by omega)).symm⟩
  obtain ⟨b, hb⟩ : ∃ b : Nat, (n % 256) = (b : Int) := ⟨_, (Int.toNat_of_nonneg (by omega)).symm⟩
  have HR : Hid (hi2 n = u8s [a, b]) := by show _ = _; unfold hi2; rw [ha, hb]; rfl
  have hcv := fun W => conv_new2 a b W
  go_enter Try.func58, Try.ntmps58
  go_wp2
  go_ret
  exact ⟨by rw [HR.out]; rfl, below_new _ _⟩

theorem rinodeKey_any (n : Int) (w : World) :
    Calls Try.prog 14 #[.int .i64 n] w fun e w' => e = .returned (.string (bs (pre3 n 1))) ∧ Below w.heap.size w w' := by
  have hp := fun W => two_any n W
  have HR : Hid (bs (hi2 n) ++ ⟨#[1]⟩ = bs (pre3 n 1)) := bs_app _ [1]
  have z1 : (bs (hi2 n)).size = 2 := rfl
  obtain ⟨H, hH⟩ : ∃ H, H = bs (hi2 n) := ⟨_, rfl⟩
  rw [← hH] at hp HR z1
  clear hH
  have sa := fun W => str_add H ⟨#[1]⟩ 2 1 z1 rfl (by omega) W
  go_enter Try.func14, Try.ntmps14
  go_wp2_with (go_at_call 58; refine (hp _).mono ?_; rintro e w1 ⟨rfl, hb⟩)
  go_ret
  exact ⟨by rw [← HR.out]; rfl, hb⟩
theorem rentryKey_any (n : Int) (l : List UInt8) (hl : l.length ≤ 140737488351232) (w : World) :
    Calls Try.prog 16 #[.int .i64 n, .string (bs l)] w fun e w' => e = .returned (.string (bs (pre3 n 2 ++ l))) ∧ Below w.heap.size w w' := by
  have hp := fun W => two_any n W
  have HR : Hid (bs (hi2 n) ++ ⟨#[2]⟩ ++ bs l = bs (pre3 n 2 ++ l)) := by
    show _ = _
    rw [show bs (hi2 n) ++ (⟨#[2]⟩ : ByteArray) = bs (pre3 n 2) from bs_app _ [2], bs_app]
  have z1 : (bs (hi2 n)).size = 2 := rfl
  have z2 : (bs l).size ≤ 140737488351232 := by rw [bs_size]; exact hl
  obtain ⟨H, hH⟩ : ∃ H, H = bs (hi2 n) := ⟨_, rfl⟩
  obtain ⟨L, hL⟩ : ∃ L, L = bs l := ⟨_, rfl⟩
  rw [← hH] at hp HR z1
  rw [← hL] at HR z2 ⊢
  clear hH hL
  have sa := fun W => str_add H ⟨#[2]⟩ 2 1 z1 rfl (by omega) W
  have y1 := size_add H ⟨#[2]⟩ 2 1 z1 rfl
  have sb : ∀ W : World, (Op.stringOp .add (H ++ ⟨#[2]⟩) L).run Try.prog W = .ok (.string (H ++ ⟨#[2]⟩ ++ L)) W := fun W => run_string_add_sum W _ L (by omega)
  go_enter Try.func16, Try.ntmps16
  go_wp2_with (go_at_call 58; refine (hp _).mono ?_; rintro e w1 ⟨rfl, hb⟩)
  go_ret
  exact ⟨by rw [← HR.out]; rfl, hb⟩
theorem rblockKey_any (n m : Int) (w : World) :
    Calls Try.prog 18 #[.int .i64 n, .int .i64 m] w fun e w' => e = .returned (.string (bs (pre3 n 3 ++ hi2 m))) ∧ Below w.heap.size w w' := by
  have hp := fun W => two_any n W
  have hq := fun W => two_any m W
  have HR : Hid (bs (hi2 n) ++ ⟨#[3]⟩ ++ bs (hi2 m) = bs (pre3 n 3 ++ hi2 m)) := by
    show _ = _
    rw [show bs (hi2 n) ++ (⟨#[3]⟩ : ByteArray) = bs (pre3 n 3) from bs_app _ [3], bs_app]
  have z1 : (bs (hi2 n)).size = 2 := rfl
  have z2 : (bs (hi2 m)).size = 2 := rfl
  obtain ⟨H, hH⟩ : ∃ H, H = bs (hi2 n) := ⟨_, rfl⟩
  obtain ⟨L, hL⟩ : ∃ L, L = bs (hi2 m) := ⟨_, rfl⟩
  rw [← hH] at hp HR z1
  rw [← hL] at hq HR z2
  clear hH hL
  have sa := fun W => str_add H ⟨#[3]⟩ 2 1 z1 rfl (by omega) W
  have y1 := size_add H ⟨#[3]⟩ 2 1 z1 rfl
  have sb := fun W => str_add (H ++ ⟨#[3]⟩) L (2 + 1) 2 y1 z2 (by omega) W
  have M1 : Hid True := trivial
  go_enter Try.func18, Try.ntmps18
  go_wp2_with (first
    | (go_at_call 58; clear M1; refine (hp _).mono ?_; rintro e w1 ⟨rfl, hb⟩)
    | (go_at_call 58; refine (hq _).mono ?_; rintro e w2 ⟨rfl, hb2⟩))
  go_ret
  exact ⟨by rw [← HR.out]; rfl, Below.after hb hb2⟩
theorem rorphanKey_any (m : Int) (w : World) :
    Calls Try.prog 20 #[.int .i64 m] w fun e w' => e = .returned (.string (bs (pre3 0 4 ++ hi2 m))) ∧ Below w.heap.size w w' := by
  have hq := fun W => two_any m W
  have HR : Hid (⟨#[0, 0, 4]⟩ ++ bs (hi2 m) = bs (pre3 0 4 ++ hi2 m)) := bs_app [0, 0, 4] _
  have z2 : (bs (hi2 m)).size = 2 := rfl
  obtain ⟨L, hL⟩ : ∃ L, L = bs (hi2 m) := ⟨_, rfl⟩
  rw [← hL] at hq HR z2
  clear hL
  have sa := fun W => str_add ⟨#[0, 0, 4]⟩ L 3 2 rfl z2 (by omega) W
  go_enter Try.func20, Try.ntmps20
  go_wp2_with (go_at_call 58; refine (hq _).mono ?_; rintro e w2 ⟨rfl, hb2⟩)
  go_ret
  exact ⟨by rw [← HR.out]; rfl, hb2⟩

theorem rino_any (n : Int) (w : World) :
    Calls Try.prog 55 #[.int .i64 n] w fun e w' => e = .returned (.bool (inoB n)) ∧ w = w' := by
  unfold inoB
  by_cases h1 : 1 ≤ n
  · go_enter Try.func55, Try.ntmps55
    go_wp2
    go_ret
    exact ⟨by simp [h1], rfl⟩
  · go_enter Try.func55, Try.ntmps55
    go_wp2
    go_ret
    have h2 : ¬ 1 ≤ n := by omega
    exact ⟨by simp [h2], rfl⟩

set_option maxRecDepth 10000 in
theorem number6_any (l : List UInt8) (h : 2 ≤ l.length) (w : World) :
    Calls Try.prog 54 #[.string (bs l)] w fun e w' => e = .returned (.int .i64 (hiV l : Nat)) ∧ Below w.heap.size w w' := by
  obtain ⟨x, y, r, rfl⟩ : ∃ x y r, l = x :: y :: r := by
    match l, h with
    | x :: y :: r, _ => exact ⟨x, y, r, rfl⟩
  have e2 : hiV (x :: y :: r) = x.toNat * 256 + y.toNat := rfl
  rw [e2]
  have hz := bs_size (x :: y :: r)
  have hz0 : 0 < (bs (x :: y :: r)).size := by rw [hz]; simp
  have hz1 : 1 < (bs (x :: y :: r)).size := by rw [hz]; simp
  have h0 : (bs (x :: y :: r))[0]'hz0 = x := by obtain ⟨_, e⟩ := bs_get hz0; exact e
  have h1 : (bs (x :: y :: r))[1]'hz1 = y := by obtain ⟨_, e⟩ := bs_get hz1; exact e
  obtain ⟨S, eS⟩ : ∃ S, S = bs (x :: y :: r) := ⟨_, rfl⟩
  clear hz
  revert hz0 hz1
  rw [← eS]
  intro hz0 hz1 h0 h1
  have hx := x.toNat_lt
  have hy := y.toNat_lt
  have ea : ((x.toNat * 256 + y.toNat : Nat) : Int) = (x.toNat : Int) * 256 + (y.toNat : Int) := by simp
  rw [ea]
  have w0 : IntKind.i64.wrap (x.toNat : Int) = (x.toNat : Int) := by rw [IntKind.wrap_i64]; omega
  have w1 : IntKind.i64.wrap (y.toNat : Int) = (y.toNat : Int) := by rw [IntKind.wrap_i64]; omega
  have w2 : IntKind.i64.wrap ((x.toNat : Int) * 256) = (x.toNat : Int) * 256 := by rw [IntKind.wrap_i64]; omega
  have w3 : IntKind.i64.wrap ((x.toNat : Int) * 256 + (y.toNat : Int)) = (x.toNat : Int) * 256 + (y.toNat : Int) := by rw [IntKind.wrap_i64]; omega
  clear eS ea e2 h
  go_enter Try.func54, Try.ntmps54
  go_wp2_with fail
  go_region
  all_goals go_wp2
  all_goals go_ret
  all_goals exact ⟨rfl, (Below.refl _ _).drew⟩
end Go.Proofs.Ytefpcdpclpignaa
