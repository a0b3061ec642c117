/-
  The program's slots held against the document's: same.
-/
import Derived.Test.YtfmgaahileknfaaIEqM
namespace Go.Proofs.Ytfmgaahileknfaa
open Go.RowKit M
set_option maxRecDepth 10000

set_option maxHeartbeats 4000000 in
theorem same_any (a b : Option Addr) (n m c d : Nat) (l k : List St) (w : World) (ha : ZArg w a n c l) (hb : ZArg w b m d k) :
    Calls Try.prog 8 #[.slice a n c, .slice b m d] w fun e w' => e = .returned (.bool (eqL l k)) ∧ Below w.heap.size w w' := by
  have h1 := ha.len_eq
  have h2 := hb.len_eq
  have hm1 := ha.max
  have hm2 := hb.max
  have hc1 := ha.le
  have hc2 := hb.le
  unfold maxLen at hm1 hm2
  by_cases hnm : n = m
  · subst hnm
    have HZ1 : Hid (ZRow w a l) := ha.row
    have HZ2 : Hid (ZRow w b k) := hb.row
    have HL : Hid (n = l.length ∧ n = k.length) := ⟨h1, h2⟩
    obtain ⟨R, hR⟩ : ∃ R, R = eqL l k := ⟨_, rfl⟩
    have HR : Hid (R = eqL l k) := hR
    rw [← hR]
    clear ha hb h1 h2 hR
    go_enter Try.func8, Try.ntmps8
    go_wp2
    go_loopg [5] n (fun kx s wr => ∃ j q : Nat, j + kx = n ∧ s = .int .i64 (j : Nat) ∧ wr = w.drewN q ∧ Hid (eqL (l.drop j) (k.drop j) = R))
    case atStart => exact ⟨0, 0, by omega, rfl, rfl, by show _ = _; rw [HR.out]; rfl⟩
    case round =>
      obtain ⟨j, q, hj, rfl, rfl, I⟩ := hrel
      by_cases hlt : j < n
      · obtain ⟨g1, o1, x, rfl, hx, hdx, p0, p1, p2, p3⟩ := zrow_at HZ1.out (k := j) (by have := HL.out; omega)
        obtain ⟨g2, o2, y, rfl, hy, hdy, r0, r1, r2, r3⟩ := zrow_at HZ2.out (k := j) (by have := HL.out; omega)
        have hj1 : (j : Int) < (n : Int) := by omega
        have HS : Hid ((eqSt x y && eqL (l.drop (j + 1)) (k.drop (j + 1))) = R) := by have := I.out; rw [hdx, hdy] at this; exact this
        clear hdx hdy hx hy I
        obtain ⟨xk, xl, xp, xs⟩ := x
        obtain ⟨yk, yl, yp, ys⟩ := y
        dsimp only at p0 p1 p2 p3 r0 r1 r2 r3
        unfold eqSt at HS
        dsimp only at HS
        by_cases f0 : xk = yk
        · subst f0
          have e0 : (xk.toList != xk.toList) = false := by simp
          by_cases f1 : xl = yl
          · subst f1
            have e1 : (xl != xl) = false := by simp
            by_cases f2 : xp = yp
            · subst f2
              have e2 : (xp != xp) = false := by simp
              by_cases f3 : xs = ys
              · subst f3
                have e3 : (xs != xs) = false := by simp
                have HS2 : Hid (eqL (l.drop (j + 1)) (k.drop (j + 1)) = R) := by have := HS.out; show _ = _; simpa using this
                go_wp2
                go_quiet (fail)
                go_wp2
                go_roundg (n - (j + 1))
                case measure => omega
                case rel => exact ⟨j + 1, _, by omega, by go_num, rfl, HS2.out⟩
              · have e3 : (xs != ys) = true := by simpa using f3
                have HS2 : Hid (R = false) := by have := HS.out; rw [← this]; show _ = _; simp [f3]
                clear f3
                go_wp2
                go_quiet (fail)
                go_wp2
                go_ret
                exact ⟨by rw [HS2.out]; rfl, bafter (below_drawn w _) (below_drawn _ _)⟩
            · have e2 : (xp != yp) = true := by simpa using f2
              have HS2 : Hid (R = false) := by have := HS.out; rw [← this]; show _ = _; simp [f2]
              clear f2
              go_wp2
              go_quiet (fail)
              go_wp2
              go_ret
              exact ⟨by rw [HS2.out]; rfl, bafter (below_drawn w _) (below_drawn _ _)⟩
          · have e1 : (xl != yl) = true := by simpa using f1
            have HS2 : Hid (R = false) := by have := HS.out; rw [← this]; show _ = _; simp [f1]
            clear f1
            go_wp2
            go_quiet (fail)
            go_wp2
            go_ret
            exact ⟨by rw [HS2.out]; rfl, bafter (below_drawn w _) (below_drawn _ _)⟩
        · have E0 : Hid (¬ xk.toList = yk.toList) := fun e => f0 (list_inj e)
          have HS2 : Hid (R = false) := by have := HS.out; rw [← this]; show _ = _; simp [f0]
          clear f0
          go_wp2
          have e0 : (xk.toList == yk.toList) = false := beq_eq_false_iff_ne.2 E0.out
          have e1 : (xk.toList != yk.toList) = true := bne_iff_ne.2 E0.out
          have e2 : ¬ xk.toList = yk.toList := E0.out
          go_quiet (fail)
          go_wp2
          go_ret
          exact ⟨by rw [HS2.out]; rfl, bafter (below_drawn w _) (below_drawn _ _)⟩
      · have hj1 : ¬ (j : Int) < (n : Int) := by omega
        have HS : Hid (R = true) := by
          have := I.out
          rw [List.drop_eq_nil_of_le (by have := HL.out; omega), List.drop_eq_nil_of_le (by have := HL.out; omega)] at this
          exact this.symm
        go_wp2
        go_ret
        exact ⟨by rw [HS.out]; rfl, below_drawn w _⟩
  · rw [eqL_len (by omega)]
    have hne : ¬ (n : Int) = (m : Int) := by omega
    clear ha hb
    go_enter Try.func8, Try.ntmps8
    go_wp2
    go_ret
    exact ⟨rfl, Below.refl _ _⟩
end Go.Proofs.Ytfmgaahileknfaa
