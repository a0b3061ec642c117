/-
  For all geometries and scripts: ScanOnce answers true (each logical block is mapped at most once, by a block whose pages can be read), and leaves its arguments as they were; given that the package's error variable holds what its initialiser lays (the card ties it). No other condition.
-/
import Derived.Test.YteoakhfofnocfaaGreatDoorHB
import Derived.Deep.QuietTactic
import Derived.BigQuiet
namespace Go.Proofs.YteoakhfofnocfaaGreatDoor.scanOnce
open Go.ChangeShapes Go.WideShapes Go.ChangeAt Go.RowKit
open Hd (laid laidWorld laid_met laid_os glb_of)
set_option maxRecDepth 20000

theorem own_lower {base B : Nat} {w : World} {g n cap : Nat} {l : List Bl} (h : OwnL base w g n cap l) (hB : B ≤ base) : OwnL B w g n cap l := by
  refine ⟨h.1, h.2.1, ?_⟩
  rcases h.2.2 with hn | ⟨g', cap', cur, hv, hbg, rest⟩
  · exact .inl hn
  · exact .inr ⟨g', cap', cur, hv, Nat.le_trans hB hbg, rest⟩
set_option maxHeartbeats 4000000 in
theorem walk_no (b p z r : Int) (a2 : Option Addr) (n2 cap2 : Nat) (w : World) (hg : Hd.Glb w) (h : rightB b p z r = false) :
    Calls Tryz.prog 5 #[.agg #[.int .i64 b, .int .i64 p, .int .i64 z, .int .i64 r], .slice a2 n2 cap2] w fun e w' => e = .returned (.bool true) ∧ Below w.heap.size w w' := by
  obtain ⟨W0, hW0⟩ : ∃ W, W = w.alloc (.cells #[.int .i64 b, .int .i64 p, .int .i64 z, .int .i64 r] 23) := ⟨_, rfl⟩
  have hb0 : Below w.heap.size w W0 := by rw [hW0]; exact below_new w _
  have HB0 : Hid (Below w.heap.size w W0) := hb0
  have HG : Hid (Hd.Glb w) := hg
  have kN := new_c0 b p z r W0 h
  rw [hW0] at kN
  clear h hb0 hg
  go_enter Tryz.func5, Tryz.ntmps5
  go_wp2_with (first
    | (go_at_call 7; refine kN.mono ?_; rintro e w1 ⟨rfl, hb1⟩; rw [← hW0] at hb1; have HB1 : Hid (Below w.heap.size w w1) := Below.after HB0.out hb1; clear hb1)
    | (go_at_call 11; refine (alive_any _ (HG.out.later HB1.out)).mono ?_; rintro e w2 ⟨rfl, hb2⟩; have HB2 : Hid (Below w.heap.size w w2) := Below.after HB1.out hb2; clear hb2))
  go_ret
  exact ⟨rfl, HB2.out⟩
set_option maxHeartbeats 16000000 in
theorem walk_go (gb gp gz gr : Nat) (a2 : Option Addr) (n2 cap2 : Nat) (l2 : List OpD) (w : World) (hgl : Hd.Glb w) (ha2 : OArg w a2 n2 cap2 l2) (hg : rightB gb gp gz gr = true) (g1 : 1 ≤ gb) (g2 : gb ≤ 256) (g3 : 1 ≤ gp) (g4 : gp ≤ 64) (g5 : 1 ≤ gz) (g6 : gz ≤ 512) :
    Calls Tryz.prog 5 #[.agg #[.int .i64 gb, .int .i64 gp, .int .i64 gz, .int .i64 gr], .slice a2 n2 cap2] w fun e w' => e = .returned (.bool true) ∧ Below w.heap.size w w' := by
  obtain ⟨W0, hW0⟩ : ∃ W, W = w.alloc (.cells #[.int .i64 gb, .int .i64 gp, .int .i64 gz, .int .i64 gr] 23) := ⟨_, rfl⟩
  have hb0 : Below w.heap.size w W0 := by rw [hW0]; exact below_new w _
  have HG0 : Hid (Row W0 w.heap.size [.int .i64 gb, .int .i64 gp, .int .i64 gz, .int .i64 gr] 23) := by show Row _ _ _ _; rw [hW0]; exact Row.new w _ _
  have HG : Hid (∀ W, Below W0.heap.size W0 W → W.cell? ⟨w.heap.size, 0, none⟩ = some (.int .i64 gb) ∧ W.cell? ⟨w.heap.size, 1, none⟩ = some (.int .i64 gp) ∧ W.cell? ⟨w.heap.size, 2, none⟩ = some (.int .i64 gz) ∧ W.cell? ⟨w.heap.size, 3, none⟩ = some (.int .i64 gr)) := fun W hb => ⟨(HG0.out.later hb).cell (i := 0) rfl, (HG0.out.later hb).cell (i := 1) rfl, (HG0.out.later hb).cell (i := 2) rfl, (HG0.out.later hb).cell (i := 3) rfl⟩
  have HB0 : Hid (Below w.heap.size w W0) := hb0
  have HO0 : Hid (OArg W0 a2 n2 cap2 l2) := OArg.later ha2 hb0
  have HGL : Hid (∀ W, Below W0.heap.size W0 W → Hd.Glb W) := fun W hb => (hgl.later HB0.out).later hb
  have kN := new_c2 gb gp gz gr W0 hg g1 g2 g3 g4 g5 g6
  have HHG : Hid (rightB gb gp gz gr = true) := hg
  rw [hW0] at kN
  have hnm2 : n2 ≤ 9223372036854775807 := by have := ha2.le; have := ha2.max; unfold maxLen at this; omega
  have HN2 : Hid (n2 = l2.length) := ha2.len_eq
  clear ha2 hb0 hg hgl
  go_enter Tryz.func5, Tryz.ntmps5
  go_wp2_with (first
    | (go_at_call 7; refine kN.mono ?_; rintro e w1 ⟨p, q, rs, rfl, HRS, HL1, HB1⟩; rw [← hW0] at HB1 HL1)
    | (go_at_call 11; refine (alive_any _ (HGL.out _ HB1.out)).mono ?_; rintro e w2 ⟨rfl, hb2⟩; have HB2 : Hid (Below W0.heap.size W0 w2) := Below.after HB1.out hb2; have HL2 : Hid (Lies W0.heap.size w2 (newC gb gp gz gr p q [] rs)) := HL1.out.later hb2; obtain ⟨c0, c1, c2, c3⟩ := HG.out w2 HB2.out; clear hb2)
    | (go_at_call 8; refine (new_d2 (W0 := W0) (w1 := w2) gb gp gz gr HHG.out g1 g2 g3 g4 g5 g6 p q rs HRS.out HL2.out HB2.out).mono ?_; rintro e w3 ⟨P, d3, rfl, HS3⟩))
  obtain ⟨cc, hcc⟩ : ∃ c, c = newC gb gp gz gr p q [] rs := ⟨_, rfl⟩
  have HQ3 : Hid (cc.geo = (gb, gp, gz, gr)) := by show _ = _; rw [hcc]; rfl
  rw [← hcc] at HS3
  clear kN HB1 HL1 HRS HB2 HL2 c0 c1 c2 c3 hcc hW0
  go_loopg [9] n2 (fun gm i wr => ∃ k : Nat, k ≤ n2 ∧ gm = n2 - k ∧ i = .int .i64 k ∧ ∃ c d, Hid (St W0 wr p P k c d) ∧ Hid (c.geo = (gb, gp, gz, gr)))
  case atStart => exact ⟨0, by omega, by omega, rfl, _, _, HS3, HQ3⟩
  case round =>
    obtain ⟨k, hk, rfl, rfl, c, d, hI, HQ⟩ := hrel
    clear HS3 HQ3
    by_cases hlt : k < n2
    · obtain ⟨o, ho⟩ : ∃ o, l2[k]? = some o := ⟨_, List.getElem?_eq_getElem (by rw [← HN2.out]; exact hlt)⟩
      obtain ⟨b, off, rfl, hbw, hcs⟩ := op_cells HO0.out ho
      obtain ⟨q0, q1, q2, q3, q4⟩ := hcs wr hI.out.below
      have HBr : Hid (∀ W, Below W0.heap.size W0 W → Brings W0.heap.size W o) := fun W hW => brings_of HO0.out (List.mem_of_getElem? ho) hW
      have hki : (k : Int) < (n2 : Int) := by omega
      have hk63 : k < 9223372036854775807 := by omega
      clear hcs ho
      go_wp2_with (go_at_call 12; refine (does_any hI.out.duo hk63 o (HBr.out _ hI.out.below) p P hI.out.p hI.out.q).mono ?_; rintro e w9 ⟨rfl, c9, d9, hw9⟩; have HS9 : Hid (St W0 w9 p P (k + 1) c9 d9) := hI.out.went hw9; have HQ9 : Hid (c9.geo = (gb, gp, gz, gr)) := hw9.geo.trans HQ.out; clear hw9)
      go_roundg (n2 - (k + 1))
      case measure => omega
      case rel => exact ⟨k + 1, by omega, rfl, by simp, c9, d9, HS9, HQ9⟩
    · have hki : ¬ (k : Int) < (n2 : Int) := by omega
      obtain ⟨c1, hc1⟩ : ∃ x : CS, x = { c with on := true } := ⟨_, rfl⟩
      have kP := power_at hI.out.duo.cl p hI.out.p
      rw [← hc1] at kP
      have HS : Hid (Hs W0 wr c) := ⟨hI.out.duo.cl, hI.out.below⟩
      have HP : Hid (c1.p = p) := by show _ = _; rw [hc1]; exact hI.out.p
      have HO : Hid (c1.on = true) := by show _ = _; rw [hc1]
      have HE : Hid (c1.gb = gb ∧ c1.gp = gp ∧ c1.gz = gz ∧ c1.gr = gr) := by
        have h := HQ.out
        unfold CS.geo at h
        simp only [Prod.mk.injEq] at h
        show _ ∧ _ ∧ _ ∧ _
        rw [hc1]; exact h
      have HC : Hid (∀ b ∈ c1.bks, b.clear) := by show ∀ b ∈ c1.bks, b.clear; rw [hc1]; exact hI.out.duo.rel.blank
      clear hc1 hI HQ HO0 HN2
      go_wp2_with (first
        | (go_at_call 25; refine kP.mono ?_; rintro e w6 ⟨rfl, hl6, hk6⟩; have HS6 : Hid (Hs W0 w6 c1) := HS.out.step hl6 hk6; clear hl6 hk6)
        | (go_at_call 14; refine (scan_on HS6.out.lies p HP.out HO.out (HGL.out _ HS6.out.bel)).mono ?_; rintro e w7 ⟨g, cap, rfl, ho7, hb7⟩; rw [HE.out.1] at ho7 ⊢; have HT7 : Hid (Go2 W0 w7 w.heap.size [.int .i64 gb, .int .i64 gp, .int .i64 gz, .int .i64 gr] c1 g cap (scanV c1.vw)) := ⟨HS6.out.lies.later hb7, Below.after HS6.out.bel hb7, HG0.out.later (Below.after HS6.out.bel hb7), by rw [HE.out.1]; exact own_lower ho7 HS6.out.bel.size⟩; obtain ⟨y0, y1, y2, y3⟩ := HG.out w7 HT7.out.bel; clear ho7 hb7))
      have HU : Hid (Uniq (scanV c1.vw)) := (scan_facts c1.vw).1
      have H1 : Hid (∀ (i : Nat) (x : Bl), (scanV c1.vw)[i]? = some x → OneB c1.vw i x) := fun i x hx => one_scan hx
      have HR : Hid ((scanV c1.vw).length = gb) := by show _ = _; rw [scanV_length]; exact HE.out.1
      have HV : Hid (c1.vw.lebs = lebsI gb gp gz gr) := by
        obtain ⟨e1, e2, e3, e4⟩ := HE.out
        show lebsI c1.gb c1.gp c1.gz c1.gr = _
        rw [e1, e2, e3, e4]
      have HMP : Hid (∀ (i : Nat) (x : Bl), OneB c1.vw i x → x.st = 4 → 0 ≤ x.used ∧ x.used ≤ (gp : Int) - 2 ∧ ∀ k : Nat, (k : Int) < x.used + 2 → (c1.vw.rd i k).2 = 0) := fun i x h h4 => by
        have := map_pages HS6.out.lies.good HC.out h h4
        rw [HE.out.2.1] at this
        exact this
      generalize scanV c1.vw = res at HU H1 HR HT7
      clear HS HS6 HC HO y0 y1 y2 y3 kP
      go_loopw [11] (fun i wr => ∃ k : Nat, i = .int .i64 (k : Int) ∧ k ≤ gb ∧ Hid (Go2 W0 wr w.heap.size [.int .i64 gb, .int .i64 gp, .int .i64 gz, .int .i64 gr] c1 g cap res)) (fun i _ => gb - (intOf i).toNat)
      case atStart => exact ⟨0, rfl, by omega, HT7⟩
      case round =>
        clear HT7
        obtain ⟨k, rfl, hk, HT⟩ := hrel
        by_cases hlt : k < gb
        · obtain ⟨x, hx⟩ : ∃ x, res[k]? = some x := ⟨_, List.getElem?_eq_getElem (by rw [HR.out]; exact hlt)⟩
          have h1 := H1.out k x hx
          have ow := HT.out.own
          rw [HE.out.1] at ow
          obtain ⟨z0, z1, z2, z3, z4, z5⟩ := bl_at ow hx
          clear ow
          have hki : (k : Int) < (gb : Int) := by omega
          obtain ⟨st, cnt, leb, used, seq, closed⟩ := x
          obtain ⟨w4, hw4⟩ : ∃ W, W = wr.alloc (.cells #[.int .i64 st, .int .i64 cnt, .int .i64 leb, .int .i64 used, .int .u64 seq, .bool closed] 57) := ⟨_, rfl⟩
          go_wp2
          rw [← hw4]
          have hb4 : Below wr.heap.size wr w4 := by rw [hw4]; exact below_new _ _
          have HT4 : Hid (Go2 W0 w4 w.heap.size [.int .i64 gb, .int .i64 gp, .int .i64 gz, .int .i64 gr] c1 g cap res) := HT.out.later hb4
          have HX4 : Hid (Row w4 wr.heap.size [.int .i64 st, .int .i64 cnt, .int .i64 leb, .int .i64 used, .int .u64 seq, .bool closed] 57) := by show Row _ _ _ _; rw [hw4]; exact Row.new wr [_, _, _, _, _, _] _
          have ne : Nonempty (Hd.Wd w4) := ⟨⟨w4, Below.refl _ _⟩⟩
          obtain ⟨bx, hbx⟩ : ∃ b, b = wr.heap.size := ⟨_, rfl⟩
          rw [← hbx] at HX4 ⊢
          have x0 : ∀ p : Hd.Wd w4, p.v.cell? ⟨bx, 0, none⟩ = some (.int .i64 st) := fun p => (HX4.out.later p.h).cell (i := 0) rfl
          have cB := fun p' : Hd.Wd w4 => quiet_same p' (vbad_any (HT4.out.later p'.h).lies p HP.out (k : Int))
          have cN := fun p' : Hd.Wd w4 => quiet_same p' (vnext_any (HT4.out.later p'.h).lies p HP.out (k : Int))
          have hst : st = 1 ∨ st = 2 ∨ st = 3 ∨ st = 4 := by have := h1.low; simp only at this; omega
          have hbd : c1.vw.bd k = (st == 1) := h1.bad.symm
          clear z0 z1 z2 z3 z4 z5 hw4 hb4 HT hbx
          rcases hst with e | e | e | e
          · subst e
            obtain ⟨e1, e2, e3, e4⟩ : leb = 0 ∧ used = 0 ∧ seq = 0 ∧ closed = false := h1.zero (show (1 : Int) ≠ 4 by decide)
            subst e1 e2 e3 e4
            rw [show ((1 : Int) == 1) = true by decide] at hbd
            simp only [hbd] at cB
            clear h1 hbd
            refine Hd.quiet_below (by kernel_rfl) ?_
            repeat (first | go_big_quiet_skip | go_big_quiet_step (first
              | (go_at_call 26; exact cB _)
              | (go_at_call 27; exact cN _)))
            refine wpQuiet_nil ?_
            rintro _ ⟨p5, rfl⟩
            have HT5 : Hid (Go2 W0 p5.v w.heap.size [.int .i64 gb, .int .i64 gp, .int .i64 gz, .int .i64 gr] c1 g cap res) := HT4.out.later p5.h
            have HX5 : Hid (Row p5.v bx _ 57) := HX4.out.later p5.h
            have x0 := HX5.out.cell (i := 0) rfl
            have x2 := HX5.out.cell (i := 2) rfl
            have x3 := HX5.out.cell (i := 3) rfl
            have x4 := HX5.out.cell (i := 4) rfl
            have x5 := HX5.out.cell (i := 5) rfl
            go_wp2
            go_roundw
            case rel => exact ⟨k + 1, by go_num, by omega, HT5⟩
            case measure => simp [intOf]; omega
          · subst e
            obtain ⟨e1, e2, e3, e4⟩ : leb = 0 ∧ used = 0 ∧ seq = 0 ∧ closed = false := h1.zero (show (2 : Int) ≠ 4 by decide)
            subst e1 e2 e3 e4
            rw [show ((2 : Int) == 1) = false by decide] at hbd
            simp only [hbd] at cB
            have hnx : c1.vw.nx k = 1 := h1.free rfl
            simp only [hnx] at cN
            clear h1 hbd
            refine Hd.quiet_below (by kernel_rfl) ?_
            repeat (first | go_big_quiet_skip | go_big_quiet_step (first
              | (go_at_call 26; exact cB _)
              | (go_at_call 27; exact cN _)))
            refine wpQuiet_nil ?_
            rintro _ ⟨p5, rfl⟩
            have HT5 : Hid (Go2 W0 p5.v w.heap.size [.int .i64 gb, .int .i64 gp, .int .i64 gz, .int .i64 gr] c1 g cap res) := HT4.out.later p5.h
            have HX5 : Hid (Row p5.v bx _ 57) := HX4.out.later p5.h
            have x0 := HX5.out.cell (i := 0) rfl
            have x2 := HX5.out.cell (i := 2) rfl
            have x3 := HX5.out.cell (i := 3) rfl
            have x4 := HX5.out.cell (i := 4) rfl
            have x5 := HX5.out.cell (i := 5) rfl
            go_wp2
            go_roundw
            case rel => exact ⟨k + 1, by go_num, by omega, HT5⟩
            case measure => simp [intOf]; omega
          · subst e
            obtain ⟨e1, e2, e3, e4⟩ : leb = 0 ∧ used = 0 ∧ seq = 0 ∧ closed = false := h1.zero (show (3 : Int) ≠ 4 by decide)
            subst e1 e2 e3 e4
            rw [show ((3 : Int) == 1) = false by decide] at hbd
            simp only [hbd] at cB
            clear h1 hbd
            refine Hd.quiet_below (by kernel_rfl) ?_
            repeat (first | go_big_quiet_skip | go_big_quiet_step (first
              | (go_at_call 26; exact cB _)
              | (go_at_call 27; exact cN _)))
            refine wpQuiet_nil ?_
            rintro _ ⟨p5, rfl⟩
            have HT5 : Hid (Go2 W0 p5.v w.heap.size [.int .i64 gb, .int .i64 gp, .int .i64 gz, .int .i64 gr] c1 g cap res) := HT4.out.later p5.h
            have HX5 : Hid (Row p5.v bx _ 57) := HX4.out.later p5.h
            have x0 := HX5.out.cell (i := 0) rfl
            have x2 := HX5.out.cell (i := 2) rfl
            have x3 := HX5.out.cell (i := 3) rfl
            have x4 := HX5.out.cell (i := 4) rfl
            have x5 := HX5.out.cell (i := 5) rfl
            go_wp2
            go_roundw
            case rel => exact ⟨k + 1, by go_num, by omega, HT5⟩
            case measure => simp [intOf]; omega
          · subst e
            rw [show ((4 : Int) == 1) = false by decide] at hbd
            simp only [hbd] at cB
            obtain ⟨r1, r2, t1, t2, t3⟩ := h1.map rfl
            clear t1 t2 t3
            obtain ⟨r3, r4, r5⟩ := HMP.out k _ h1 rfl
            have r6 := find_uniq HU.out hx rfl
            rw [HV.out] at r2
            simp only at r1 r2 r3 r4 r5 r6
            have HR5 : Hid (∀ y : Nat, (y : Int) < used + 2 → (c1.vw.rd k y).2 = 0) := r5
            clear h1 hbd hx r5
            refine Hd.quiet_below (by kernel_rfl) ?_
            repeat (first | go_big_quiet_skip | go_big_quiet_step (first
              | (go_at_call 26; exact cB _)
              | (go_at_call 27; exact cN _)))
            refine wpQuiet_nil ?_
            rintro _ ⟨p5, rfl⟩
            have HT5 : Hid (Go2 W0 p5.v w.heap.size [.int .i64 gb, .int .i64 gp, .int .i64 gz, .int .i64 gr] c1 g cap res) := HT4.out.later p5.h
            have HX5 : Hid (Row p5.v bx _ 57) := HX4.out.later p5.h
            have x0 := HX5.out.cell (i := 0) rfl
            go_wp2
            obtain ⟨w5, hw5⟩ : ∃ W, W = p5.v := ⟨_, rfl⟩
            rw [← hw5] at HT5 HX5 ⊢
            clear x0 hw5 cB cN ne
            clear p5
            have cF := fun p' : Hd.Wd w5 => quiet_call p' (find_any gb cap res (some ⟨g, 0, none⟩) leb HR.out.symm (by omega) p'.v (by have := (HT5.out.later p'.h).own; rw [HE.out.1] at this; exact this.row))
            simp only [r6] at cF
            obtain ⟨L, hL⟩ : ∃ L, L = lebsI gb gp gz gr := ⟨_, rfl⟩
            have cL := fun p' : Hd.Wd w5 => quiet_call p' (lebs_any gb gp gz gr p'.v)
            rw [← hL] at r2
            simp only [← hL] at cL
            clear hL
            have ne5 : Nonempty (Hd.Wd w5) := ⟨⟨w5, Below.refl _ _⟩⟩
            have x2 : ∀ p : Hd.Wd w5, p.v.cell? ⟨bx, 2, none⟩ = some (.int .i64 leb) := fun p => (HX5.out.later p.h).cell (i := 2) rfl
            have x3 : ∀ p : Hd.Wd w5, p.v.cell? ⟨bx, 3, none⟩ = some (.int .i64 used) := fun p => (HX5.out.later p.h).cell (i := 3) rfl
            have y0 : ∀ p : Hd.Wd w5, p.v.cell? ⟨w.heap.size, 0, none⟩ = some (.int .i64 gb) := fun p => (HG.out p.v (HT5.out.later p.h).bel).1
            have y1 : ∀ p : Hd.Wd w5, p.v.cell? ⟨w.heap.size, 1, none⟩ = some (.int .i64 gp) := fun p => (HG.out p.v (HT5.out.later p.h).bel).2.1
            have y2 : ∀ p : Hd.Wd w5, p.v.cell? ⟨w.heap.size, 2, none⟩ = some (.int .i64 gz) := fun p => (HG.out p.v (HT5.out.later p.h).bel).2.2.1
            have y3 : ∀ p : Hd.Wd w5, p.v.cell? ⟨w.heap.size, 3, none⟩ = some (.int .i64 gr) := fun p => (HG.out p.v (HT5.out.later p.h).bel).2.2.2
            have s1 : ¬ leb < 0 := by omega
            have s2 : ¬ L ≤ leb := by omega
            have s3 : ¬ used < 0 := by omega
            have s4 : ¬ (gp : Int) - 2 < used := by omega
            refine Hd.quiet_below (by kernel_rfl) ?_
            repeat (first | go_big_quiet_skip | go_big_quiet_step (first
              | (go_at_call 19; exact cF _)
              | (go_at_call 9; exact cL _)))
            refine wpQuiet_nil ?_
            rintro _ ⟨p6, rfl⟩
            obtain ⟨w6', hw6⟩ : ∃ W, W = p6.v := ⟨_, rfl⟩
            have HT6 : Hid (Go2 W0 w6' w.heap.size [.int .i64 gb, .int .i64 gp, .int .i64 gz, .int .i64 gr] c1 g cap res) := by rw [hw6]; exact HT5.out.later p6.h
            have HX6 : Hid (Row w6' bx [.int .i64 4, .int .i64 cnt, .int .i64 leb, .int .i64 used, .int .u64 seq, .bool closed] 57) := by rw [hw6]; exact HX5.out.later p6.h
            rw [← hw6]
            clear hw6
            clear p6
            clear cF cL ne5 x2 x3 y0 y1 y2 y3 HX5 HX4 HT4 HT5
            clear x0
            go_wp2
            go_loopw [13] (fun i wr => ∃ y : Nat, i = .int .i64 (y : Int) ∧ (y : Int) ≤ used + 2 ∧ Hid (Below w6'.heap.size w6' wr)) (fun i _ => (used + 2).toNat - (intOf i).toNat)
            case atStart => exact ⟨0, rfl, by omega, Below.refl _ _⟩
            case round =>
              obtain ⟨y, rfl, hy, HY⟩ := hrel
              obtain ⟨wr4, hwr4⟩ : ∃ x, x = wr := ⟨_, rfl⟩
              have x3 := (HX6.out.later HY.out).cell (i := 3) rfl
              by_cases hyl : (y : Int) < used + 2
              · have cR := vread_any (HT6.out.later HY.out).lies p HP.out (k : Int) (y : Int)
                rw [HR5.out y hyl] at cR
                go_wp2_with (go_at_call 28; refine cR.mono ?_; rintro e w8 ⟨a8, m8, c8, rfl, hg8⟩; have HY8 : Hid (Below w6'.heap.size w6' w8) := Below.after HY.out hg8.below; clear hg8)
                go_roundw
                case rel => exact ⟨y + 1, by go_num, by omega, HY8⟩
                case measure => simp [intOf]; omega
              · have HTy : Hid (Go2 W0 wr w.heap.size [.int .i64 gb, .int .i64 gp, .int .i64 gz, .int .i64 gr] c1 g cap res) := HT6.out.later HY.out
                go_wp2
                go_roundw
                case rel => exact ⟨k + 1, by go_num, by omega, HTy⟩
                case measure => simp [intOf]; omega
        · go_wp2
          go_ret
          exact ⟨rfl, Below.after HB0.out HT.out.bel⟩
theorem walk (b p z r : Int) (a2 : Option Addr) (n2 cap2 : Nat) (l2 : List OpD) (w : World) (hg : Hd.Glb w) (ha2 : OArg w a2 n2 cap2 l2) :
    Calls Tryz.prog 5 #[.agg #[.int .i64 b, .int .i64 p, .int .i64 z, .int .i64 r], .slice a2 n2 cap2] w fun e w' => e = .returned (.bool true) ∧ Below w.heap.size w w' := by
  cases h : rightB b p z r with
  | false => exact walk_no b p z r a2 n2 cap2 w hg h
  | true =>
    obtain ⟨gb, gp, gz, gr, rfl, rfl, rfl, rfl, g1, g2, g3, g4, g5, g6⟩ := right_nums h
    exact walk_go gb gp gz gr a2 n2 cap2 l2 w hg ha2 h g1 g2 g3 g4 g5 g6

set_option maxRecDepth 100000 in
theorem contract (H : Type) (enc : TypeId × Value → H) (W : World) (base : Nat) (args : Array Value) (ds gs : List (DataW H)) (before : List MemPlace)
    (hval : ∀ (j : Nat) t v, Tryz.f5.params[j]? = some t → args[j]? = some v → Value.okWide Tryz.prog W .any base t v)
    (hW : DataW.Whole enc Tryz.prog Tryz.f5.params.toList Rows.scanOnceSpec.vars false W args.toList ds gs before) (hL : laidMetH Tryz.prog laid W)
    : Calls Tryz.prog 5 args W fun e W' => ∃ v, e = .returned v ∧ Rows.scanOnceSpec.post enc Tryz.prog Tryz.f5 false true false false W args v W' := by
  have hW' := hW
  obtain ⟨p, q, hA0, hV, rfl, hfz, hnd⟩ := hW
  have hA : DataW.TrodAll enc Tryz.prog W 0 (fun _ => true) true Tryz.f5.params.toList args.toList ds p := hA0
  rw [Tryz.params5] at hA hval
  obtain ⟨v0, vs0, d0, ds0, p0, q0, hargs, rfl, rfl, h0, r0⟩ := trodAll_cons hA
  obtain ⟨v1, vs1, d1, ds1, p1, q1, rfl, rfl, rfl, h1, r1⟩ := trodAll_cons r0
  obtain ⟨rfl, rfl, rfl⟩ := trodAll_nil r1
  obtain rfl : args = #[v0, v1] := by cases args; simp_all
  obtain ⟨rfl, rfl⟩ := trodVars_none hV
  obtain ⟨cs0, rfl, sz0⟩ := okWide_struct Tryz.underlying23 (hval 0 23 v0 rfl rfl)
  have k0 := h0
  have lt0 : ∀ x ∈ p0, x.block < W.heap.size := by obtain ⟨m, hm⟩ := k0; exact DataW.trod_lt m _ _ _ hm
  obtain ⟨gb0, gp0, gz0, gr0, rfl⟩ : ∃ b p z r, cs0 = #[.int .i64 b, .int .i64 p, .int .i64 z, .int .i64 r] := by
    obtain ⟨fuel, hf⟩ := h0
    exact garg_open sz0 hf
  obtain ⟨a1, len1, cap1, rfl⟩ := okWide_slice Tryz.underlying24 (hval 1 24 v1 rfl rfl)
  have k1 := h1
  have lt1 : ∀ x ∈ p1, x.block < W.heap.size := by obtain ⟨m, hm⟩ := k1; exact DataW.trod_lt m _ _ _ hm
  obtain ⟨l1, w1⟩ : ∃ l, OArg W a1 len1 cap1 l := by
    obtain ⟨fuel, hf⟩ := h1
    exact oarg_open hf
  clear hA0
  refine (walk gb0 gp0 gz0 gr0 a1 len1 cap1 l1 W (glb_of hL) w1).mono fun e W' ⟨he, bel⟩ => ?_
  subst he
  exact ⟨_, rfl, _, _, _, [], _, [], hW', trodAll_mk1 (shut_bool Tryz.underlying4 _), (trodAll_cons_mk (Below.trod Hd.laidOut (by kernel_rfl) (of_decide_eq_true (by kernel_rfl)) k0 bel lt0) (trodAll_cons_mk (Below.trod Hd.laidOut (by kernel_rfl) (of_decide_eq_true (by kernel_rfl)) k1 bel lt1) trodAll_mk0)), rfl, bel.frame _, fun h => by cases h⟩

theorem reads (os : Os) {H : Type} (enc : TypeId × Value → H) : ∃ places, DataW.whole enc Tryz.prog ((laidWorld os).forCall (fun _ _ => 0) ⟨#[], #[.agg #[.int .i64 0, .int .i64 0, .int .i64 0, .int .i64 0], .slice none 0 0], []⟩).memory Tryz.f5.params.toList Rows.scanOnceSpec.vars false (#[.agg #[.int .i64 0, .int .i64 0, .int .i64 0, .int .i64 0], .slice none 0 0] : Array Value).toList 8 = some ([.agg [.lit (.int .i64 0), .lit (.int .i64 0), .lit (.int .i64 0), .lit (.int .i64 0)], .nil], [], places) :=
  ⟨[], by kernel_rfl⟩
set_option maxRecDepth 100000 in
theorem lifted (os : Os) (started : os.Started) (H : Type) (enc : TypeId × Value → H) (F : Stop.Interp) :
    ReturnsInHanded {} Tryz.checked os 5 .any ((OpenSpec.ofChange Rows.scanOnceSpec).preRow enc Tryz.prog Tryz.f5 Rows.scanOnceRow.domain false Rows.scanOnceRow.laid) (((OpenSpec.ofChange Rows.scanOnceSpec).at F).post enc Tryz.prog Tryz.f5 false true false false) := by
  obtain ⟨places, hx⟩ := reads os enc
  refine returnsInHanded_of_row (C := Tryz.checked) (s := OpenSpec.ofChange Rows.scanOnceSpec) Hd.own started (by kernel_rfl) Tryz.func5
    (witness_row_at (enc := enc) (C := Tryz.checked) false (laidWorld os) #[.agg #[.int .i64 0, .int .i64 0, .int .i64 0, .int .i64 0], .slice none 0 0] (laid_os os) (by kernel_rfl) (by kernel_rfl) (by kernel_rfl)
      (OpenSpec.preRow_of_cond 8 hx (by kernel_rfl) (fun k hk => by cases hk) (by kernel_rfl) (laid_met os _))) ?_
  intro W base args ds gs before hval hW _ _ hsz hL _ _
  exact contract H enc W base args ds gs before hval hW hL
theorem said : Rows.ScanOnceSaid :=
  OpenClaim.holds_of_cond 5 Tryz.f5 rfl rfl rfl rfl rfl rfl rfl ⟨rfl, rfl, rfl, rfl, rfl⟩ rfl rfl rfl rfl rfl (by kernel_rfl) Tryz.func5 (by kernel_rfl)
    (of_decide_eq_true (by kernel_rfl)) (by unfold Func.isWrapper; first | (rw [if_pos (by decide +kernel)]; kernel_rfl) | (rw [if_neg (by decide +kernel)]; exact ⟨rfl, rfl⟩))
    (fun os started H enc _ F => by rw [OpenClaim.pre_eq_preRow]; exact lifted os started H enc F)
set_option maxRecDepth 100000 in
theorem plain (f : FuncId) (fn : Func) (hf : Tryz.pinned.checked.prog.funcNamed "pumice/pumicelaw07.ScanOnce" = some f) (hfn : Tryz.pinned.checked.prog.funcs[f]? = some fn) :
    false = Tryz.pinned.checked.prog.looks [] ∧ ∀ (j : Nat) t, fn.params[j]? = some t → Tryz.pinned.checked.prog.wantsStandIn t = false := by
  obtain rfl : f = 5 := Option.some.inj ((show Tryz.prog.funcNamed "pumice/pumicelaw07.ScanOnce" = some 5 by kernel_rfl).symm.trans hf) |>.symm
  obtain rfl : fn = Tryz.f5 := (Option.some.inj (Tryz.func5.symm.trans hfn)).symm
  refine ⟨by kernel_rfl, fun j t ht => ?_⟩
  rw [Tryz.params5] at ht
  have hm : t = 23 ∨ t = 24 := by simpa using Array.mem_of_getElem? ht
  rcases hm with rfl | rfl
  · exact (show Tryz.prog.wantsStandIn 23 = false by kernel_rfl)
  · exact (show Tryz.prog.wantsStandIn 24 = false by kernel_rfl)
theorem card : Rows.ScanOnceCardSaid :=
  Claim7.holds_tied_plain_at .later [] _ _ _ _ said (fun _ h => by cases h) (by kernel_rfl) (fun _ h => by cases h) scanOnce_row_tie rfl ⟨rfl, rfl⟩ (by kernel_rfl) rfl plain (by kernel_rfl)
end Go.Proofs.YteoakhfofnocfaaGreatDoor.scanOnce

namespace Go.Proofs.YteoakhfofnocfaaGreatDoor
theorem scanOnce_holds : Rows.ScanOnceCardSaid := scanOnce.card
#print axioms scanOnce_holds
end Go.Proofs.YteoakhfofnocfaaGreatDoor
