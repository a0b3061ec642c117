/-
  For all numbers and scripts: PropsVictims answers true (victims are closed blocks of that use with bytes that are not needed, those with more of them first, and all of these), and leaves its arguments as they were; given that the five variables of the library that it reaches hold what their initialisers lay (the card ties them).
-/
import Derived.Test.YtjbdjicciakibaaDoorBMade
import Derived.Test.YtjbdjicciakibaaDoorSVict
namespace Go.Proofs.YtjbdjicciakibaaDoor.propsVictims
open Go.ChangeShapes Go.WideShapes Go.ChangeAt Go.RowKit
set_option maxRecDepth 10000

set_option maxHeartbeats 4000000 in
theorem walk_no (n size : Int) (h : ¬ newOk n size) (a : Option Addr) (m cap : Nat) (use : Int) (w : World) (hg : Gl w) :
    Calls Tryd.prog 4 #[.int .i64 n, .int .i64 size, .slice a m cap, .int .i64 use] w fun e w' => e = .returned (.bool true) ∧ Below w.heap.size w w' := by
  have kM := made_no n size h a m cap w
  have HG := hidW hg
  clear h hg
  go_enter Tryd.func4, Tryd.ntmps4
  go_wp2_with (first
    | (go_at_call 6; refine kM.mono ?_; rintro e w1 ⟨rfl, hb1⟩; have HB1 := hidW hb1; clear hb1)
    | (go_at_call 7; refine (alive_any _ (HG.out.later HB1.out)).mono ?_; rintro e w2 ⟨rfl, hb2⟩; have HB2 := hidW (Below.after HB1.out hb2); clear hb2))
  go_ret
  exact ⟨rfl, HB2.out⟩
/-- A book and a list of numbers. -/
structure Vt (w : World) (p q cap : Nat) (size : Int) (l : List PB) (a : Option Addr) (Z : List Int) (W : World) : Prop where
  bk : Mk w p q cap size l W
  rw : ∀ g, a = some ⟨g, 0, none⟩ → Row W g (Z.map iv) 3
theorem Vt.later {w : World} {p q cap : Nat} {size : Int} {l : List PB} {a : Option Addr} {Z : List Int} {W W' : World} (h : Vt w p q cap size l a Z W) (hb : Below W.heap.size W W') : Vt w p q cap size l a Z W' := ⟨h.bk.later hb, fun g e => (h.rw g e).later hb⟩
theorem out_form {w p q cap size l W W' v Z} (h : Mk w p q cap size l W) (ho : Out W' v Z) (hb : Below W.heap.size W W') : ∃ va vc, v = .slice va Z.length vc ∧ Vt w p q cap size l va Z W' ∧ (Z ≠ [] → ∃ g, va = some ⟨g, 0, none⟩) := by
  rcases ho with ⟨rfl, rfl⟩ | ⟨g, c, rfl, h1, _, _⟩
  · exact ⟨none, 0, rfl, ⟨h.later hb, fun g e => by cases e⟩, fun e => absurd rfl e⟩
  · exact ⟨_, c, rfl, ⟨h.later hb, fun g' e => by cases e; exact h1⟩, fun _ => ⟨g, rfl⟩⟩
set_option maxHeartbeats 8000000 in
theorem walk_go (n : Nat) (size : Int) (h : newOk n size) (a : Option Addr) (m cap : Nat) (os : List BOp) (use : Int) (w : World) (hA : OArg w a m cap os) (hg : Gl w) :
    Calls Tryd.prog 4 #[.int .i64 (n : Nat), .int .i64 size, .slice a m cap, .int .i64 use] w fun e w' => e = .returned (.bool true) ∧ Below w.heap.size w w' := by
  have kM := made_go n size h a m cap os w hA
  have hnl : (madeF size n os).length = n := by
    unfold madeF
    have : ∀ (os : List BOp) (l : List PB), (os.foldl (opF size) l).length = l.length := by
      intro os
      induction os with
      | nil => intro l; rfl
      | cons o os ih =>
        intro l
        rw [List.foldl_cons, ih]
        unfold opF
        split
        · exact take_len _ _ _
        · split
          · exact use_len _ _ _ _
          · split
            · exact kill_len _ _ _
            · split
              · exact close_len _ _
              · split
                · exact free_len _ _
                · rfl
    rw [this, List.length_replicate]
  obtain ⟨l, hl⟩ : ∃ l, l = madeF size n os := ⟨_, rfl⟩
  rw [← hl] at kM hnl
  have HG := hidW hg
  have HN := hidW hnl
  have hn256 : (n : Int) ≤ 256 := h.2.1
  clear h hA hg hl hnl
  go_enter Tryd.func4, Tryd.ntmps4
  go_wp2_with (first
    | (go_at_call 6; refine kM.mono ?_; rintro e w1 ⟨rfl, hm1⟩; have HM1 := hidW hm1; clear hm1)
    | (go_at_call 14; refine (victims_any HM1.out.bk HM1.out.ok use).mono ?_; rintro e w2 ⟨v, Z, rfl, z1, z2, z3, hb2⟩; obtain ⟨va, vc, rfl, hv1, hv2⟩ := out_form HM1.out z3 hb2; have HV := hidW hv1; have HZ := hidW (And.intro z1 (And.intro z2 hv2)); have HOK := hidW HM1.out.ok; have hZl : Z.length ≤ 256 := (by rw [z1.length_eq]; exact Nat.le_trans (thoseF_len _ _ _) HOK.out.n2); clear hb2 z1 z2 z3 hv1 hv2 HM1))
  have HPos := hidW (show ∀ (k : Nat) (z : Int), Z[k]? = some z → ∃ (i : Nat) (x : PB), z = (i : Int) ∧ l[i]? = some x ∧ vicB use x = true from fun k z hz => by
    obtain ⟨i, x, h1, h2, h3⟩ := (thoseF_mem (vicB use) l 0 z).1 (HZ.out.1.mem_iff.1 (List.mem_of_getElem? hz))
    exact ⟨i, x, by rw [h2, Nat.zero_add], h1, h3⟩)
  go_loopw [11] (fun s11 wr => ∃ k : Nat, s11 = .int .i64 (k : Int) ∧ k ≤ Z.length ∧ Hid (Vt w (w.heap.size + 1) w.heap.size n size l va Z wr)) (fun s11 _ => Z.length - (intOf s11).toNat)
  case atStart => exact ⟨0, rfl, by omega, HV⟩
  case round =>
    obtain ⟨k, rfl, hk, HK⟩ := hrel
    by_cases hkl : k < Z.length
    · obtain ⟨z, hz⟩ : ∃ z, Z[k]? = some z := ⟨_, List.getElem?_eq_getElem hkl⟩
      obtain ⟨g, rfl⟩ := HZ.out.2.2 (by intro e; rw [e] at hkl; simp at hkl)
      obtain ⟨i, X, rfl, hX, hv⟩ := HPos.out k z hz
      obtain ⟨xu, xd, xl, xc⟩ := X
      have hvv : (xu ≠ 0 ∧ xu = use) ∧ xc = true ∧ 0 < xd - xl := by
        unfold vicB at hv
        simp only [Bool.and_eq_true, decide_eq_true_eq] at hv
        exact ⟨hv.1.1, hv.1.2, hv.2⟩
      obtain ⟨⟨hu0, rfl⟩, rfl, hdl⟩ := hvv
      have okX := HOK.out.ok _ (List.mem_of_getElem? hX)
      have b1 := okX.l0
      have b2 := okX.lu
      have b3 := okX.us
      have b4 := HOK.out.s2
      dsimp only at b1 b2 b3
      have e1 : (xu != xu) = false := by simp
      have e2 : (xd == xl) = false := by simp; omega
      have hlt : (k : Int) < (Z.length : Int) := by omega
      have c0 : wr.cell? ⟨g, k, none⟩ = some (.int .i64 (i : Int)) := (HK.out.rw g rfl).cell (by rw [List.getElem?_map, hz]; rfl)
      have HX := hidW hX
      have HKL := hidW hkl
      by_cases hk0 : 0 < k
      · obtain ⟨k0, rfl⟩ : ∃ k0, k = k0 + 1 := ⟨k - 1, by omega⟩
        obtain ⟨z', hz'⟩ : ∃ z', Z[k0]? = some z' := ⟨_, List.getElem?_eq_getElem (by omega)⟩
        obtain ⟨j, Y, rfl, hY, hw⟩ := HPos.out k0 z' hz'
        obtain ⟨yu, yd, yl, yc⟩ := Y
        have okY := HOK.out.ok _ (List.mem_of_getElem? hY)
        have d1 := okY.l0
        have d2 := okY.lu
        have d3 := okY.us
        dsimp only at d1 d2 d3
        have hT : Tv l (j : Int) (i : Int) := sd_get HZ.out.2.1 (by omega) hz' hz
        unfold Tv at hT
        rw [dk_at hX, dk_at hY] at hT
        dsimp only at hT
        have HY := hidW hY
        have w1 : ((k0 + 1 : Nat) : Int) - 1 = (k0 : Int) := by omega
        have HRow := hidW (fun W' (h' : Vt w (w.heap.size + 1) w.heap.size n size l (some ⟨g, 0, none⟩) Z W') => And.intro ((h'.rw g rfl).cell (i := k0 + 1) (v := .int .i64 (i : Int)) (by rw [List.getElem?_map, hz]; rfl)) ((h'.rw g rfl).cell (i := k0) (v := .int .i64 (j : Int)) (by rw [List.getElem?_map, hz']; rfl)))
        clear hz hz' hX hY hv hw okX okY hkl
        go_wp2_with (first
          | (go_at_call 15; refine (block_go HK.out.bk.bk i _ HX.out).mono ?_; rintro e u1 ⟨rfl, hb1⟩; have HK1 := hidW (HK.out.later (Below.after hb1 (below_new u1 (.cells #[.int .i64 xu, .int .i64 xd, .int .i64 xl, .bool true] 36)))); have r1 := Row.new u1 [.int .i64 xu, .int .i64 xd, .int .i64 xl, .bool true] 36; have HR1 := hidW r1; have c1 := r1.cell (i := 0) rfl; have c2 := r1.cell (i := 1) rfl; have c3 := r1.cell (i := 2) rfl; have c4 := r1.cell (i := 3) rfl; have c5 := (HRow.out _ HK1.out).1; have c6 := (HRow.out _ HK1.out).2; clear hb1 HK r1)
          | (go_at_call 15; refine (block_go HK1.out.bk.bk j _ HY.out).mono ?_; rintro e u2 ⟨rfl, hb2⟩; have HK2 := hidW (HK1.out.later (Below.after hb2 (below_new u2 (.cells #[.int .i64 yu, .int .i64 yd, .int .i64 yl, .bool yc] 36)))); have r2 := (HR1.out.later hb2).alloc (.cells #[.int .i64 yu, .int .i64 yd, .int .i64 yl, .bool yc] 36); have k0' := r2.cell (i := 0) rfl; have k1 := r2.cell (i := 1) rfl; have k2 := r2.cell (i := 2) rfl; have k3 := r2.cell (i := 3) rfl; have r3 := Row.new u2 [.int .i64 yu, .int .i64 yd, .int .i64 yl, .bool yc] 36; have k5 := r3.cell (i := 1) rfl; have k6 := r3.cell (i := 2) rfl; have k7 := (HRow.out _ HK2.out).1; have k8 := (HRow.out _ HK2.out).2; clear hb2 HK1 r2 r3))
        have m1 : IntKind.i64.wrap (yd - yl) = yd - yl := by rw [IntKind.wrap_i64]; omega
        have m2 : IntKind.i64.wrap (xd - xl) = xd - xl := by rw [IntKind.wrap_i64]; omega
        rcases hT with hT | ⟨hT, hT2⟩
        · have f1 : ¬ yd - yl < xd - xl := by omega
          have f2 : (yd - yl == xd - xl) = false := by simp; omega
          go_region
          go_wp2
          go_roundw
          case rel => exact ⟨k0 + 2, by go_num, by have := HKL.out; omega, HK2.out.later (Below.refl _ _).drew⟩
          case measure => have := HKL.out; simp [intOf]; omega
        · have f1 : ¬ yd - yl < xd - xl := by omega
          have f2 : (yd - yl == xd - xl) = true := by simpa using hT
          have f3 : ¬ (i : Int) ≤ (j : Int) := by omega
          have m3 : IntKind.i64.wrap (k0 : Int) = (k0 : Int) := by rw [IntKind.wrap_i64]; omega
          have m4 : (k0 : Int) < (Z.length : Int) := by omega
          go_region
          go_wp2
          go_roundw
          case rel => exact ⟨k0 + 2, by go_num, by have := HKL.out; omega, HK2.out.later (Below.refl _ _).drew⟩
          case measure => have := HKL.out; simp [intOf]; omega
      · have hk0' : k = 0 := by omega
        subst hk0'
        have HRow := hidW (fun W' (h' : Vt w (w.heap.size + 1) w.heap.size n size l (some ⟨g, 0, none⟩) Z W') => And.intro ((h'.rw g rfl).cell (i := 0) (v := .int .i64 (i : Int)) (by rw [List.getElem?_map, hz]; rfl)) True.intro)
        clear hz hX hv okX hkl
        go_wp2_with (first
          | (go_at_call 15; refine (block_go HK.out.bk.bk i _ HX.out).mono ?_; rintro e u1 ⟨rfl, hb1⟩; have HK1 := hidW (HK.out.later (Below.after hb1 (below_new u1 (.cells #[.int .i64 xu, .int .i64 xd, .int .i64 xl, .bool true] 36)))); have r1 := Row.new u1 [.int .i64 xu, .int .i64 xd, .int .i64 xl, .bool true] 36; have HR1 := hidW r1; have c1 := r1.cell (i := 0) rfl; have c2 := r1.cell (i := 1) rfl; have c3 := r1.cell (i := 2) rfl; have c4 := r1.cell (i := 3) rfl; clear hb1 HK r1))
        go_roundw
        case rel => exact ⟨1, by go_num, by have := HKL.out; omega, HK1⟩
        case measure => have := HKL.out; simp [intOf]; omega
    · have hlt : ¬ (k : Int) < (Z.length : Int) := by omega
      have HK0 := HK
      clear hkl HV HPos HK
      go_wp2_with fail
      go_loopw [16, 17] (fun s16 s17 wr => ∃ i q : Nat, s17 = .int .i64 (i : Int) ∧ s16 = .int .i64 (q : Int) ∧ i ≤ n ∧ q = (thoseF (vicB use) 0 (l.take i)).length ∧ Hid (Vt w (w.heap.size + 1) w.heap.size n size l va Z wr)) (fun _ s17 _ => n - (intOf s17).toNat)
      case atStart => exact ⟨0, 0, rfl, rfl, by omega, by simp [thoseF], HK0⟩
      case round =>
        obtain ⟨i, q, rfl, rfl, hi, hq, HL⟩ := hrel
        have hq2 : q ≤ 256 := by
          have := thoseF_len (vicB use) (l.take i) 0
          rw [List.length_take] at this
          omega
        have HQ := hidW hq
        clear hq
        by_cases hil : i < n
        · obtain ⟨X, hX⟩ : ∃ X, l[i]? = some X := ⟨_, List.getElem?_eq_getElem (by rw [HN.out]; exact hil)⟩
          have HT := hidW (show (thoseF (vicB use) 0 (l.take (i + 1))).length = (thoseF (vicB use) 0 (l.take i)).length + (if vicB use X = true then 1 else 0) by
            rw [thoseF_take _ hX, List.length_append]
            split <;> rfl)
          have okX := HOK.out.ok _ (List.mem_of_getElem? hX)
          obtain ⟨xu, xd, xl, xc⟩ := X
          have b0 := okX.use0
          dsimp only at b0
          have HX := hidW hX
          have HIL := hidW hil
          have hlt2 : (i : Int) < (n : Int) := by omega
          clear hX okX hil
          by_cases g1 : xu = use
          · subst g1
            have f1 : (xu == xu) = true := by simp
            by_cases g2 : 0 < xu
            · cases xc with
              | true =>
                by_cases g3 : xl < xd
                · have HVC := hidW (show vicB xu ⟨xu, xd, xl, true⟩ = true by unfold vicB; simp; omega)
                  go_wp2_with (go_at_call 15; refine (block_go HL.out.bk.bk i _ HX.out).mono ?_; rintro e u1 ⟨rfl, hb1⟩; have HL1 := hidW (HL.out.later (Below.after hb1 (below_new u1 (.cells #[.int .i64 xu, .int .i64 xd, .int .i64 xl, .bool true] 36)))); have r1 := Row.new u1 [.int .i64 xu, .int .i64 xd, .int .i64 xl, .bool true] 36; have c1 := r1.cell (i := 0) rfl; have c2 := r1.cell (i := 1) rfl; have c3 := r1.cell (i := 2) rfl; have c4 := r1.cell (i := 3) rfl; clear hb1 HL r1)
                  go_roundw
                  case rel => exact ⟨i + 1, q + 1, by go_num, by go_num, HIL.out, by rw [HT.out]; simp [HVC.out]; exact HQ.out, HL1⟩
                  case measure => have := HIL.out; simp [intOf]; omega
                · have HVC := hidW (show vicB xu ⟨xu, xd, xl, true⟩ = false by unfold vicB; simp; omega)
                  go_wp2_with (go_at_call 15; refine (block_go HL.out.bk.bk i _ HX.out).mono ?_; rintro e u1 ⟨rfl, hb1⟩; have HL1 := hidW (HL.out.later (Below.after hb1 (below_new u1 (.cells #[.int .i64 xu, .int .i64 xd, .int .i64 xl, .bool true] 36)))); have r1 := Row.new u1 [.int .i64 xu, .int .i64 xd, .int .i64 xl, .bool true] 36; have c1 := r1.cell (i := 0) rfl; have c2 := r1.cell (i := 1) rfl; have c3 := r1.cell (i := 2) rfl; have c4 := r1.cell (i := 3) rfl; clear hb1 HL r1)
                  go_roundw
                  case rel => exact ⟨i + 1, q, by go_num, by first | rfl | go_num, HIL.out, by rw [HT.out]; simp [HVC.out]; exact HQ.out, HL1⟩
                  case measure => have := HIL.out; simp [intOf]; omega
              | false =>
                have HVC := hidW (show vicB xu ⟨xu, xd, xl, false⟩ = false by unfold vicB; simp)
                go_wp2_with (go_at_call 15; refine (block_go HL.out.bk.bk i _ HX.out).mono ?_; rintro e u1 ⟨rfl, hb1⟩; have HL1 := hidW (HL.out.later (Below.after hb1 (below_new u1 (.cells #[.int .i64 xu, .int .i64 xd, .int .i64 xl, .bool false] 36)))); have r1 := Row.new u1 [.int .i64 xu, .int .i64 xd, .int .i64 xl, .bool false] 36; have c1 := r1.cell (i := 0) rfl; have c2 := r1.cell (i := 1) rfl; have c3 := r1.cell (i := 2) rfl; have c4 := r1.cell (i := 3) rfl; clear hb1 HL r1)
                go_roundw
                case rel => exact ⟨i + 1, q, by go_num, by first | rfl | go_num, HIL.out, by rw [HT.out]; simp [HVC.out]; exact HQ.out, HL1⟩
                case measure => have := HIL.out; simp [intOf]; omega
            · have HVC := hidW (show vicB xu ⟨xu, xd, xl, xc⟩ = false by unfold vicB; simp; omega)
              go_wp2_with (go_at_call 15; refine (block_go HL.out.bk.bk i _ HX.out).mono ?_; rintro e u1 ⟨rfl, hb1⟩; have HL1 := hidW (HL.out.later (Below.after hb1 (below_new u1 (.cells #[.int .i64 xu, .int .i64 xd, .int .i64 xl, .bool xc] 36)))); have r1 := Row.new u1 [.int .i64 xu, .int .i64 xd, .int .i64 xl, .bool xc] 36; have c1 := r1.cell (i := 0) rfl; have c2 := r1.cell (i := 1) rfl; have c3 := r1.cell (i := 2) rfl; have c4 := r1.cell (i := 3) rfl; clear hb1 HL r1)
              go_roundw
              case rel => exact ⟨i + 1, q, by go_num, by first | rfl | go_num, HIL.out, by rw [HT.out]; simp [HVC.out]; exact HQ.out, HL1⟩
              case measure => have := HIL.out; simp [intOf]; omega
          · have f1 : (xu == use) = false := by simpa using g1
            have HVC := hidW (show vicB use ⟨xu, xd, xl, xc⟩ = false by unfold vicB; simp [g1])
            go_wp2_with (go_at_call 15; refine (block_go HL.out.bk.bk i _ HX.out).mono ?_; rintro e u1 ⟨rfl, hb1⟩; have HL1 := hidW (HL.out.later (Below.after hb1 (below_new u1 (.cells #[.int .i64 xu, .int .i64 xd, .int .i64 xl, .bool xc] 36)))); have r1 := Row.new u1 [.int .i64 xu, .int .i64 xd, .int .i64 xl, .bool xc] 36; have c1 := r1.cell (i := 0) rfl; have c2 := r1.cell (i := 1) rfl; have c3 := r1.cell (i := 2) rfl; have c4 := r1.cell (i := 3) rfl; clear hb1 HL r1)
            go_roundw
            case rel => exact ⟨i + 1, q, by go_num, by first | rfl | go_num, HIL.out, by rw [HT.out]; simp [HVC.out]; exact HQ.out, HL1⟩
            case measure => have := HIL.out; simp [intOf]; omega
        · have hlt2 : ¬ (i : Int) < (n : Int) := by omega
          have hqz : q = Z.length := by
            have h1 := HQ.out
            rw [show i = n by omega, List.take_of_length_le (by rw [HN.out]; exact Nat.le_refl _)] at h1
            rw [h1, HZ.out.1.length_eq]
          have e9 : ((q : Int) == (Z.length : Int)) = true := by simp [hqz]
          have HBel := hidW HL.out.bk.bel
          clear hil hqz
          go_wp2_with (go_at_call 7; refine (alive_any _ (HG.out.later HBel.out)).mono ?_; rintro e v3 ⟨rfl, hb3⟩; have HB3 := hidW (Below.after HBel.out hb3); clear hb3)
          go_ret
          exact ⟨by first | rfl | exact ret_bool (by simp [e9]), HB3.out⟩
theorem walk (n size : Int) (a : Option Addr) (m cap : Nat) (os : List BOp) (use : Int) (w : World) (hg : Gl w) (hA : OArg w a m cap os) :
    Calls Tryd.prog 4 #[.int .i64 n, .int .i64 size, .slice a m cap, .int .i64 use] w fun e w' => e = .returned (.bool true) ∧ Below w.heap.size w w' := by
  by_cases h : newOk n size
  · obtain ⟨k, rfl⟩ : ∃ k : Nat, n = (k : Int) := ⟨n.toNat, by have := h.1; omega⟩
    exact walk_go k size h a m cap os use w hA hg
  · exact walk_no n size h a m cap use w hg
set_option maxHeartbeats 2000000 in
set_option maxRecDepth 100000 in
theorem contract (H : Type) (enc : TypeId × Value → H) (W : World) (base : Nat) (args : Array Value) (ds gs : List (DataW H)) (before : List MemPlace)
    (hval : ∀ (j : Nat) t v, Tryd.f4.params[j]? = some t → args[j]? = some v → Value.okWide Tryd.prog W .any base t v)
    (hW : DataW.Whole enc Tryd.prog Tryd.f4.params.toList Rows.propsVictimsSpec.vars false W args.toList ds gs before) (hL : laidMetH Tryd.prog laid W)
    : Calls Tryd.prog 4 args W fun e W' => ∃ v, e = .returned v ∧ Rows.propsVictimsSpec.post enc Tryd.prog Tryd.f4 false true false false W args v W' := by
  have hW' := hW
  obtain ⟨p, q, hA0, hV, rfl, hfz, hnd⟩ := hW
  have hA : DataW.TrodAll enc Tryd.prog W 0 (fun _ => true) true Tryd.f4.params.toList args.toList ds p := hA0
  rw [Tryd.params4] at hA hval
  obtain ⟨v0, vs0, d0, ds0, p0, q0, hargs, rfl, rfl, h0, r0⟩ := trodAll_cons hA
  obtain ⟨v1, vs1, d1, ds1, p1, q1, rfl, rfl, rfl, h1, r1⟩ := trodAll_cons r0
  obtain ⟨v2, vs2, d2, ds2, p2, q2, rfl, rfl, rfl, h2, r2⟩ := trodAll_cons r1
  obtain ⟨v3, vs3, d3, ds3, p3, q3, rfl, rfl, rfl, h3, r3⟩ := trodAll_cons r2
  obtain ⟨rfl, rfl, rfl⟩ := trodAll_nil r3
  obtain rfl : args = #[v0, v1, v2, v3] := by cases args; simp_all
  obtain ⟨rfl, rfl⟩ := trodVars_none hV
  obtain ⟨a0, rfl, rfl, rfl, w0⟩ := open_int Tryd.underlying3 (hval 0 3 v0 rfl rfl) h0
  obtain ⟨a1, rfl, rfl, rfl, w1⟩ := open_int Tryd.underlying3 (hval 1 3 v1 rfl rfl) h1
  obtain ⟨a2, len2, cap2, rfl⟩ := okWide_slice Tryd.underlying22 (hval 2 22 v2 rfl rfl)
  have k2 := h2
  have lt2 : ∀ x ∈ p2, x.block < W.heap.size := by obtain ⟨m, hm⟩ := k2; exact DataW.trod_lt m _ _ _ hm
  obtain ⟨l2, w2⟩ : ∃ l, OArg W a2 len2 cap2 l := by
    obtain ⟨fuel, hf⟩ := h2
    exact oarg_open hf
  obtain ⟨a3, rfl, rfl, rfl, w3⟩ := open_int Tryd.underlying3 (hval 3 3 v3 rfl rfl) h3
  clear hA0
  refine (walk a0 a1 a2 len2 cap2 l2 a3 W (gl_of hL) w2).mono fun e W' ⟨he, bel⟩ => ?_
  subst he
  exact ⟨_, rfl, _, _, _, [], _, [], hW', trodAll_mk1 (shut_bool Tryd.underlying4 _), (trodAll_cons_mk (shut_int Tryd.underlying3 w0) (trodAll_cons_mk (shut_int Tryd.underlying3 w1) (trodAll_cons_mk (Below.trod laidOut (by kernel_rfl) (of_decide_eq_true (by kernel_rfl)) k2 bel lt2) (trodAll_cons_mk (shut_int Tryd.underlying3 w3) trodAll_mk0)))), rfl, bel.frame _, fun h => by cases h⟩

theorem reads (os : Os) {H : Type} (enc : TypeId × Value → H) : ∃ places, DataW.whole enc Tryd.prog ((laidWorld os).forCall (fun _ _ => 0) ⟨#[], #[.int .i64 0, .int .i64 0, .slice none 0 0, .int .i64 0], []⟩).memory Tryd.f4.params.toList Rows.propsVictimsSpec.vars false (#[.int .i64 0, .int .i64 0, .slice none 0 0, .int .i64 0] : Array Value).toList 8 = some ([.lit (.int .i64 0), .lit (.int .i64 0), .nil, .lit (.int .i64 0)], [], places) :=
  ⟨[], by kernel_rfl⟩
set_option maxRecDepth 100000 in
theorem lifted (os : Os) (started : os.Started) (H : Type) (enc : TypeId × Value → H) (F : Stop.Interp) :
    ReturnsInHanded {} Tryd.checked os 4 .any ((OpenSpec.ofChange Rows.propsVictimsSpec).preRow enc Tryd.prog Tryd.f4 Rows.propsVictimsRow.domain false Rows.propsVictimsRow.laid) (((OpenSpec.ofChange Rows.propsVictimsSpec).at F).post enc Tryd.prog Tryd.f4 false true false false) := by
  obtain ⟨places, hx⟩ := reads os enc
  refine returnsInHanded_of_row (C := Tryd.checked) (s := OpenSpec.ofChange Rows.propsVictimsSpec) own started (by kernel_rfl) Tryd.func4
    (witness_row_at (enc := enc) (C := Tryd.checked) false (laidWorld os) #[.int .i64 0, .int .i64 0, .slice none 0 0, .int .i64 0] (laid_os os) (by kernel_rfl) (by kernel_rfl) (by kernel_rfl)
      (OpenSpec.preRow_of_cond 8 hx (by kernel_rfl) (fun k hk => by cases hk) (by kernel_rfl) (laid_met os _))) ?_
  intro W base args ds gs before hval hW _ _ hsz hL _ _
  exact contract H enc W base args ds gs before hval hW hL
theorem said : Rows.PropsVictimsSaid :=
  OpenClaim.holds_of_cond 4 Tryd.f4 rfl rfl rfl rfl rfl rfl rfl ⟨rfl, rfl, rfl, rfl, rfl⟩ rfl rfl rfl rfl rfl (by kernel_rfl) Tryd.func4 (by kernel_rfl)
    (of_decide_eq_true (by kernel_rfl)) (by unfold Func.isWrapper; first | (rw [if_pos (by decide +kernel)]; kernel_rfl) | (rw [if_neg (by decide +kernel)]; exact ⟨rfl, rfl⟩))
    (fun os started H enc _ F => by rw [OpenClaim.pre_eq_preRow]; exact lifted os started H enc F)
set_option maxRecDepth 100000 in
theorem plain (f : FuncId) (fn : Func) (hf : Tryd.pinned.checked.prog.funcNamed "pumice/pumicelaw14.PropsVictims" = some f) (hfn : Tryd.pinned.checked.prog.funcs[f]? = some fn) :
    true = Tryd.pinned.checked.prog.looks [] ∧ ∀ (j : Nat) t, fn.params[j]? = some t → Tryd.pinned.checked.prog.wantsStandIn t = false := by
  obtain rfl : f = 4 := Option.some.inj ((show Tryd.prog.funcNamed "pumice/pumicelaw14.PropsVictims" = some 4 by kernel_rfl).symm.trans hf) |>.symm
  obtain rfl : fn = Tryd.f4 := (Option.some.inj (Tryd.func4.symm.trans hfn)).symm
  refine ⟨by kernel_rfl, fun j t ht => ?_⟩
  rw [Tryd.params4] at ht
  have hm : t ∈ [3, 3, 22, 3] := by simpa using Array.mem_of_getElem? ht
  have hall : ∀ u ∈ [3, 3, 22, 3], Tryd.prog.wantsStandIn u = false := by
    intro u hu
    simp only [List.mem_cons, List.not_mem_nil, or_false] at hu
    rcases hu with rfl | rfl | rfl | rfl
    · exact (show Tryd.prog.wantsStandIn 3 = false by kernel_rfl)
    · exact (show Tryd.prog.wantsStandIn 3 = false by kernel_rfl)
    · exact (show Tryd.prog.wantsStandIn 22 = false by kernel_rfl)
    · exact (show Tryd.prog.wantsStandIn 3 = false by kernel_rfl)
  exact hall t hm
theorem card : Rows.PropsVictimsCardSaid :=
  Claim7.holds_tied_plain_at .later [] _ _ _ _ said (fun _ h => by cases h) (by kernel_rfl) (fun _ h => by cases h) propsVictims_row_tie rfl ⟨rfl, rfl⟩ (by kernel_rfl) rfl plain (by kernel_rfl)
end Go.Proofs.YtjbdjicciakibaaDoor.propsVictims

namespace Go.Proofs.YtjbdjicciakibaaDoor
theorem propsVictims_holds : Rows.PropsVictimsCardSaid := propsVictims.card
#print axioms propsVictims_holds
end Go.Proofs.YtjbdjicciakibaaDoor
