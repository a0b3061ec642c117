/-
  For all geometries and scripts: ScanScans answers true (what stands on any chip, block by block, as the document says, and a scan changes nothing), and leaves its arguments as they were; given that the package's error variable holds what its initialiser lays (the card ties it). No other condition.
-/
import Derived.Test.YteoakhfofnocfaaGreatDoorHB
import Derived.Test.YteoakhfofnocfaaGreatDoorHC
import Derived.Deep.QuietTactic
import Derived.BigQuiet
namespace Go.Proofs.YteoakhfofnocfaaGreatDoor.scanScans
open Go.ChangeShapes Go.WideShapes Go.ChangeAt Go.RowKit
open Hd (laid laidWorld laid_met laid_os glb_of)
set_option maxRecDepth 20000

theorem St.ops {w wr : World} {p q k : Nat} {c : CS} {d : DS} (h : St w wr p q k c d) : Calls Tryz.prog 13 #[.pointer (some ⟨p, 0, none⟩)] wr fun e w' => e = .returned (.int .i64 c.ops) ∧ wr = w' := by
  obtain ⟨L, X, bad, nx, er, hs⟩ := h.duo.said p q h.p h.q 0 0
  exact hs.opsC
theorem new_d0 (b p z r : Int) (W : World) (h : rightB b p z r = false) :
    Calls Tryz.prog 8 #[.agg #[.int .i64 b, .int .i64 p, .int .i64 z, .int .i64 r], .slice none 0 0] W fun e w' => e = .returned (.tuple #[.pointer none, .int .i64 22]) ∧ Below W.heap.size W w' :=
  d_new_no b p z r none 0 0 [] W rfl (by decide) (.inl rfl) (fun q => by rw [h] at q; cases q.1)
set_option maxHeartbeats 8000000 in
theorem walk_no (b p z r : Int) (a2 : Option Addr) (n2 cap2 : Nat) (w : World) (hgl : Hd.Glb w) (h : rightB b p z r = false) :
    Calls Tryz.prog 3 #[.agg #[.int .i64 b, .int .i64 p, .int .i64 z, .int .i64 r], .slice a2 n2 cap2] w fun e w' => e = .returned (.bool true) ∧ Below w.heap.size w w' := by
  obtain ⟨W0, hW0⟩ : ∃ W, W = w.alloc (.cells #[.int .i64 b, .int .i64 p, .int .i64 z, .int .i64 r] 23) := ⟨_, rfl⟩
  have hb0 : Below w.heap.size w W0 := by rw [hW0]; exact below_new w _
  have HG0 : Hid (Row W0 w.heap.size [.int .i64 b, .int .i64 p, .int .i64 z, .int .i64 r] 23) := by show Row _ _ _ _; rw [hW0]; exact Row.new w _ _
  have HG : Hid (∀ W, Below W0.heap.size W0 W → W.cell? ⟨w.heap.size, 0, none⟩ = some (.int .i64 b) ∧ W.cell? ⟨w.heap.size, 1, none⟩ = some (.int .i64 p) ∧ W.cell? ⟨w.heap.size, 2, none⟩ = some (.int .i64 z) ∧ W.cell? ⟨w.heap.size, 3, none⟩ = some (.int .i64 r)) := fun W hb => ⟨(HG0.out.later hb).cell (i := 0) rfl, (HG0.out.later hb).cell (i := 1) rfl, (HG0.out.later hb).cell (i := 2) rfl, (HG0.out.later hb).cell (i := 3) rfl⟩
  have HB0 : Hid (Below w.heap.size w W0) := hb0
  have HGL : Hid (∀ W, Below W0.heap.size W0 W → Hd.Glb W) := fun W hb => (hgl.later HB0.out).later hb
  have kN := new_c0 b p z r W0 h
  have kD := fun W => new_d0 b p z r W h
  rw [hW0] at kN
  clear h hb0 hgl
  go_enter Tryz.func3, Tryz.ntmps3
  go_wp2_with (first
    | (go_at_call 7; refine kN.mono ?_; rintro e w1 ⟨rfl, hb1⟩; rw [← hW0] at hb1; have HB1 : Hid (Below W0.heap.size W0 w1) := hb1; obtain ⟨c0, c1, c2, c3⟩ := HG.out w1 hb1; clear hb1)
    | (go_at_call 8; refine (kD _).mono ?_; rintro e w2 ⟨rfl, hb2⟩; have HB2 : Hid (Below W0.heap.size W0 w2) := Below.after HB1.out hb2; clear hb2))
  clear kN kD c0 c1 c2 c3 hW0
  have ne : Nonempty (Hd.Wd w2) := ⟨⟨w2, Below.refl _ _⟩⟩
  have cL := fun p' : Hd.Wd w2 => quiet_call p' (lebs_any b p z r p'.v)
  have cR := fun p' : Hd.Wd w2 => quiet_call p' (rlebs_any b p z r p'.v)
  have cA := fun p' : Hd.Wd w2 => quiet_call p' (alive_any p'.v (HGL.out _ (Below.after HB2.out p'.h)))
  have y0 : ∀ p' : Hd.Wd w2, p'.v.cell? ⟨w.heap.size, 0, none⟩ = some (.int .i64 b) := fun p' => (HG.out p'.v (Below.after HB2.out p'.h)).1
  have y1 : ∀ p' : Hd.Wd w2, p'.v.cell? ⟨w.heap.size, 1, none⟩ = some (.int .i64 p) := fun p' => (HG.out p'.v (Below.after HB2.out p'.h)).2.1
  have y2 : ∀ p' : Hd.Wd w2, p'.v.cell? ⟨w.heap.size, 2, none⟩ = some (.int .i64 z) := fun p' => (HG.out p'.v (Below.after HB2.out p'.h)).2.2.1
  have y3 : ∀ p' : Hd.Wd w2, p'.v.cell? ⟨w.heap.size, 3, none⟩ = some (.int .i64 r) := fun p' => (HG.out p'.v (Below.after HB2.out p'.h)).2.2.2
  generalize lebsI b p z r = lebs at cL cR
  refine Hd.quiet_below (by kernel_rfl) ?_
  repeat (first | go_big_quiet_skip | go_big_quiet_step (first
    | (go_at_call 9; exact cL _)
    | (go_at_call 10; exact cR _)
    | (go_at_call 11; exact cA _)))
  refine wpQuiet_nil ?_
  rintro _ ⟨p5, rfl⟩
  clear cL cR cA ne y0 y1 y2 y3
  have HB5 : Hid (Below w.heap.size w p5.v) := Below.after HB0.out (Below.after HB2.out p5.h)
  go_wp2
  go_ret
  exact ⟨rfl, HB5.out⟩
set_option maxHeartbeats 16000000 in
theorem walk_go (gb gp gz gr : Nat) (a2 : Option Addr) (n2 cap2 : Nat) (l2 : List OpD) (w : World) (hgl : Hd.Glb w) (ha2 : OArg w a2 n2 cap2 l2) (hg : rightB gb gp gz gr = true) (g1 : 1 ≤ gb) (g2 : gb ≤ 256) (g3 : 1 ≤ gp) (g4 : gp ≤ 64) (g5 : 1 ≤ gz) (g6 : gz ≤ 512) :
    Calls Tryz.prog 3 #[.agg #[.int .i64 gb, .int .i64 gp, .int .i64 gz, .int .i64 gr], .slice a2 n2 cap2] w fun e w' => e = .returned (.bool true) ∧ Below w.heap.size w w' := by
  obtain ⟨W0, hW0⟩ : ∃ W, W = w.alloc (.cells #[.int .i64 gb, .int .i64 gp, .int .i64 gz, .int .i64 gr] 23) := ⟨_, rfl⟩
  have hb0 : Below w.heap.size w W0 := by rw [hW0]; exact below_new w _
  have HG0 : Hid (Row W0 w.heap.size [.int .i64 gb, .int .i64 gp, .int .i64 gz, .int .i64 gr] 23) := by show Row _ _ _ _; rw [hW0]; exact Row.new w _ _
  have HG : Hid (∀ W, Below W0.heap.size W0 W → W.cell? ⟨w.heap.size, 0, none⟩ = some (.int .i64 gb) ∧ W.cell? ⟨w.heap.size, 1, none⟩ = some (.int .i64 gp) ∧ W.cell? ⟨w.heap.size, 2, none⟩ = some (.int .i64 gz) ∧ W.cell? ⟨w.heap.size, 3, none⟩ = some (.int .i64 gr)) := fun W hb => ⟨(HG0.out.later hb).cell (i := 0) rfl, (HG0.out.later hb).cell (i := 1) rfl, (HG0.out.later hb).cell (i := 2) rfl, (HG0.out.later hb).cell (i := 3) rfl⟩
  have HB0 : Hid (Below w.heap.size w W0) := hb0
  have HGL : Hid (∀ W, Below W0.heap.size W0 W → Hd.Glb W) := fun W hb => (hgl.later HB0.out).later hb
  have HO0 : Hid (OArg W0 a2 n2 cap2 l2) := OArg.later ha2 hb0
  have kN := new_c2 gb gp gz gr W0 hg g1 g2 g3 g4 g5 g6
  have HHG : Hid (rightB gb gp gz gr = true) := hg
  rw [hW0] at kN
  have hnm2 : n2 ≤ 9223372036854775807 := by have := ha2.le; have := ha2.max; unfold maxLen at this; omega
  have HN2 : Hid (n2 = l2.length) := ha2.len_eq
  clear ha2 hb0 hg hgl
  go_enter Tryz.func3, Tryz.ntmps3
  go_wp2_with (first
    | (go_at_call 7; refine kN.mono ?_; rintro e w1 ⟨p, q, rs, rfl, HRS, HL1, HB1⟩; rw [← hW0] at HB1 HL1; obtain ⟨c0, c1, c2, c3⟩ := HG.out w1 HB1.out)
    | (go_at_call 8; refine (new_d2 (W0 := W0) (w1 := w1) gb gp gz gr HHG.out g1 g2 g3 g4 g5 g6 p q rs HRS.out HL1.out HB1.out).mono ?_; rintro e w2 ⟨P, d3, rfl, HS2⟩; have HB2 : Hid (Below W0.heap.size W0 w2) := HS2.out.below))
  obtain ⟨cc, hcc⟩ : ∃ c, c = newC gb gp gz gr p q [] rs := ⟨_, rfl⟩
  have HQ2 : Hid (cc.geo = (gb, gp, gz, gr)) := by show _ = _; rw [hcc]; rfl
  rw [← hcc] at HS2
  clear kN HB1 HL1 HRS c0 c1 c2 c3 hcc hW0
  have ne : Nonempty (Hd.Wd w2) := ⟨⟨w2, Below.refl _ _⟩⟩
  have cL := fun p' : Hd.Wd w2 => quiet_call p' (lebs_any gb gp gz gr p'.v)
  have cR := fun p' : Hd.Wd w2 => quiet_call p' (rlebs_any gb gp gz gr p'.v)
  have cA := fun p' : Hd.Wd w2 => quiet_call p' (alive_any p'.v (HGL.out _ (Below.after HB2.out p'.h)))
  have y0 : ∀ p : Hd.Wd w2, p.v.cell? ⟨w.heap.size, 0, none⟩ = some (.int .i64 gb) := fun p => (HG.out p.v (Below.after HB2.out p.h)).1
  have y1 : ∀ p : Hd.Wd w2, p.v.cell? ⟨w.heap.size, 1, none⟩ = some (.int .i64 gp) := fun p => (HG.out p.v (Below.after HB2.out p.h)).2.1
  have y2 : ∀ p : Hd.Wd w2, p.v.cell? ⟨w.heap.size, 2, none⟩ = some (.int .i64 gz) := fun p => (HG.out p.v (Below.after HB2.out p.h)).2.2.1
  have y3 : ∀ p : Hd.Wd w2, p.v.cell? ⟨w.heap.size, 3, none⟩ = some (.int .i64 gr) := fun p => (HG.out p.v (Below.after HB2.out p.h)).2.2.2
  generalize lebsI gb gp gz gr = lebs at cL cR
  refine Hd.quiet_below (by kernel_rfl) ?_
  repeat (first | go_big_quiet_skip | go_big_quiet_step (first
    | (go_at_call 9; exact cL _)
    | (go_at_call 10; exact cR _)
    | (go_at_call 11; exact cA _)))
  refine wpQuiet_nil ?_
  rintro _ ⟨p5, rfl⟩
  clear cL cR cA ne y0 y1 y2 y3
  have HS3 : Hid (St W0 p5.v p P 0 cc d3) := HS2.out.later p5.h
  obtain ⟨w3, hw3⟩ : ∃ W, W = p5.v := ⟨_, rfl⟩
  rw [← hw3] at HS3 ⊢
  clear hw3 HS2 HB2
  clear p5
  go_wp2
  go_loopg [9] n2 (fun gm i wr => ∃ k : Nat, k ≤ n2 ∧ gm = n2 - k ∧ i = .int .i64 k ∧ ∃ c d, Hid (St W0 wr p P k c d) ∧ Hid (c.geo = (gb, gp, gz, gr)))
  case atStart => exact ⟨0, by omega, by omega, rfl, _, _, HS3, HQ2⟩
  case round =>
    obtain ⟨k, hk, rfl, rfl, c, d, hI, HQ⟩ := hrel
    clear HS3 HQ2
    by_cases hlt : k < n2
    · obtain ⟨o, ho⟩ : ∃ o, l2[k]? = some o := ⟨_, List.getElem?_eq_getElem (by rw [← HN2.out]; exact hlt)⟩
      obtain ⟨b, off, rfl, hbw, hcs⟩ := op_cells HO0.out ho
      obtain ⟨q0, q1, q2, q3, q4⟩ := hcs wr hI.out.below
      have HBr : Hid (∀ W, Below W0.heap.size W0 W → Brings W0.heap.size W o) := fun W hW => brings_of HO0.out (List.mem_of_getElem? ho) hW
      have hki : (k : Int) < (n2 : Int) := by omega
      have hk63 : k < 9223372036854775807 := by omega
      clear hcs ho
      go_wp2_with (go_at_call 12; refine (does_any hI.out.duo hk63 o (HBr.out _ hI.out.below) p P hI.out.p hI.out.q).mono ?_; rintro e w9 ⟨rfl, c9, d9, hw9⟩; have HS9 : Hid (St W0 w9 p P (k + 1) c9 d9) := hI.out.went hw9; have HQ9 : Hid (c9.geo = (gb, gp, gz, gr)) := hw9.geo.trans HQ.out; clear hw9)
      go_roundg (n2 - (k + 1))
      case measure => omega
      case rel => exact ⟨k + 1, by omega, rfl, by simp, c9, d9, HS9, HQ9⟩
    · have hki : ¬ (k : Int) < (n2 : Int) := by omega
      have cOp := St.ops hI.out
      have M1 : Hid True := trivial
      have hgb : c.gb = gb := by have h := HQ.out; unfold CS.geo at h; simp only [Prod.mk.injEq] at h; exact h.1
      have HGB : Hid (c.gb = gb) := hgb
      obtain ⟨ops, hops⟩ : ∃ o, o = c.ops := ⟨_, rfl⟩
      rw [← hops] at cOp
      have HPS : Hid (ops = c.ops) := hops
      clear hops hgb
      cases hon : c.on with
      | true =>
        have HON : Hid (c.on = true) := hon
        clear hon
        go_wp2_with (first
          | (go_at_call 13; clear M1; refine cOp.mono ?_; rintro e w' ⟨rfl, rfl⟩)
          | (go_at_call 14; refine (scan_on hI.out.duo.cl p hI.out.p HON.out (HGL.out _ hI.out.below)).mono ?_; rintro e w7 ⟨g, cap, rfl, ho7, hb7⟩; rw [HGB.out] at ho7 ⊢; have HR7 : Hid (LRow w7 (some ⟨g, 0, none⟩) (scanV c.vw)) := ho7.row; have HS7 : Hid (St W0 w7 p P k c d) := hI.out.later hb7; clear ho7 hb7)
          | (go_at_call 15; refine (rscan_on (HS7.out.duo.dv HS7.out.q) HS7.out.duo.rel.blank HON.out).mono ?_; rintro e w8 ⟨a8, k8, rfl, hr8, hb8⟩; rw [HGB.out]; have HR8 : Hid (LRow w8 a8 (scanV c.vw)) := hr8; have HL8 : Hid (LRow w8 (some ⟨g, 0, none⟩) (scanV c.vw)) := HR7.out.later hb8; have HS8 : Hid (St W0 w8 p P k c d) := HS7.out.later hb8; clear hr8 hb8)
          | (go_at_call 16; refine (bsame_any (some ⟨g, 0, none⟩) a8 gb cap k8 (scanV c.vw) w8 (by rw [scanV_length]; exact HGB.out.symm) g2 HL8.out HR8.out).mono ?_; rintro e w9 ⟨rfl, hb9⟩; have HS9 : Hid (St W0 w9 p P k c d) := HS8.out.later hb9; have cP := St.ops HS9.out; rw [← HPS.out] at cP; clear hb9)
          | (go_at_call 13; refine cP.mono ?_; rintro e w' ⟨rfl, rfl⟩)
          | (go_at_call 17; refine (looks_any HS9.out.duo p P HS9.out.p HS9.out.q 0 0).mono ?_; rintro e w10 ⟨rfl, hb10⟩; have HSB : Hid (St W0 w10 p P k c d) := HS9.out.later hb10; clear hb10))
        go_ret
        exact ⟨rfl, Below.after HB0.out HSB.out.below⟩
      | false =>
        have HON : Hid (c.on = false) := hon
        clear hon
        go_wp2_with (first
          | (go_at_call 13; clear M1; refine cOp.mono ?_; rintro e w' ⟨rfl, rfl⟩)
          | (go_at_call 14; refine (scan_off hI.out.duo.cl p hI.out.p HON.out).mono ?_; rintro e w' ⟨rfl, rfl⟩)
          | (go_at_call 15; refine (rscan_off (hI.out.duo.dv hI.out.q) HON.out).mono ?_; rintro e w' ⟨rfl, rfl⟩)
          | (go_at_call 16; refine (bsame_any none none 0 0 0 [] wr rfl (by decide) (.inl rfl) (.inl rfl)).mono ?_; rintro e w9 ⟨rfl, hb9⟩; have HS9 : Hid (St W0 w9 p P k c d) := hI.out.later hb9; have cP := St.ops HS9.out; rw [← HPS.out] at cP; clear hb9)
          | (go_at_call 13; refine cP.mono ?_; rintro e w' ⟨rfl, rfl⟩)
          | (go_at_call 17; refine (looks_any HS9.out.duo p P HS9.out.p HS9.out.q 0 0).mono ?_; rintro e w10 ⟨rfl, hb10⟩; have HSB : Hid (St W0 w10 p P k c d) := HS9.out.later hb10; clear hb10))
        go_ret
        exact ⟨rfl, Below.after HB0.out HSB.out.below⟩
theorem walk (b p z r : Int) (a2 : Option Addr) (n2 cap2 : Nat) (l2 : List OpD) (w : World) (hg : Hd.Glb w) (ha2 : OArg w a2 n2 cap2 l2) :
    Calls Tryz.prog 3 #[.agg #[.int .i64 b, .int .i64 p, .int .i64 z, .int .i64 r], .slice a2 n2 cap2] w fun e w' => e = .returned (.bool true) ∧ Below w.heap.size w w' := by
  cases h : rightB b p z r with
  | false => exact walk_no b p z r a2 n2 cap2 w hg h
  | true =>
    obtain ⟨gb, gp, gz, gr, rfl, rfl, rfl, rfl, g1, g2, g3, g4, g5, g6⟩ := right_nums h
    exact walk_go gb gp gz gr a2 n2 cap2 l2 w hg ha2 h g1 g2 g3 g4 g5 g6

set_option maxRecDepth 100000 in
theorem contract (H : Type) (enc : TypeId × Value → H) (W : World) (base : Nat) (args : Array Value) (ds gs : List (DataW H)) (before : List MemPlace)
    (hval : ∀ (j : Nat) t v, Tryz.f3.params[j]? = some t → args[j]? = some v → Value.okWide Tryz.prog W .any base t v)
    (hW : DataW.Whole enc Tryz.prog Tryz.f3.params.toList Rows.scanScansSpec.vars false W args.toList ds gs before) (hL : laidMetH Tryz.prog laid W)
    : Calls Tryz.prog 3 args W fun e W' => ∃ v, e = .returned v ∧ Rows.scanScansSpec.post enc Tryz.prog Tryz.f3 false true false false W args v W' := by
  have hW' := hW
  obtain ⟨p, q, hA0, hV, rfl, hfz, hnd⟩ := hW
  have hA : DataW.TrodAll enc Tryz.prog W 0 (fun _ => true) true Tryz.f3.params.toList args.toList ds p := hA0
  rw [Tryz.params3] at hA hval
  obtain ⟨v0, vs0, d0, ds0, p0, q0, hargs, rfl, rfl, h0, r0⟩ := trodAll_cons hA
  obtain ⟨v1, vs1, d1, ds1, p1, q1, rfl, rfl, rfl, h1, r1⟩ := trodAll_cons r0
  obtain ⟨rfl, rfl, rfl⟩ := trodAll_nil r1
  obtain rfl : args = #[v0, v1] := by cases args; simp_all
  obtain ⟨rfl, rfl⟩ := trodVars_none hV
  obtain ⟨cs0, rfl, sz0⟩ := okWide_struct Tryz.underlying23 (hval 0 23 v0 rfl rfl)
  have k0 := h0
  have lt0 : ∀ x ∈ p0, x.block < W.heap.size := by obtain ⟨m, hm⟩ := k0; exact DataW.trod_lt m _ _ _ hm
  obtain ⟨gb0, gp0, gz0, gr0, rfl⟩ : ∃ b p z r, cs0 = #[.int .i64 b, .int .i64 p, .int .i64 z, .int .i64 r] := by
    obtain ⟨fuel, hf⟩ := h0
    exact garg_open sz0 hf
  obtain ⟨a1, len1, cap1, rfl⟩ := okWide_slice Tryz.underlying24 (hval 1 24 v1 rfl rfl)
  have k1 := h1
  have lt1 : ∀ x ∈ p1, x.block < W.heap.size := by obtain ⟨m, hm⟩ := k1; exact DataW.trod_lt m _ _ _ hm
  obtain ⟨l1, w1⟩ : ∃ l, OArg W a1 len1 cap1 l := by
    obtain ⟨fuel, hf⟩ := h1
    exact oarg_open hf
  clear hA0
  refine (walk gb0 gp0 gz0 gr0 a1 len1 cap1 l1 W (glb_of hL) w1).mono fun e W' ⟨he, bel⟩ => ?_
  subst he
  exact ⟨_, rfl, _, _, _, [], _, [], hW', trodAll_mk1 (shut_bool Tryz.underlying4 _), (trodAll_cons_mk (Below.trod Hd.laidOut (by kernel_rfl) (of_decide_eq_true (by kernel_rfl)) k0 bel lt0) (trodAll_cons_mk (Below.trod Hd.laidOut (by kernel_rfl) (of_decide_eq_true (by kernel_rfl)) k1 bel lt1) trodAll_mk0)), rfl, bel.frame _, fun h => by cases h⟩

theorem reads (os : Os) {H : Type} (enc : TypeId × Value → H) : ∃ places, DataW.whole enc Tryz.prog ((laidWorld os).forCall (fun _ _ => 0) ⟨#[], #[.agg #[.int .i64 0, .int .i64 0, .int .i64 0, .int .i64 0], .slice none 0 0], []⟩).memory Tryz.f3.params.toList Rows.scanScansSpec.vars false (#[.agg #[.int .i64 0, .int .i64 0, .int .i64 0, .int .i64 0], .slice none 0 0] : Array Value).toList 8 = some ([.agg [.lit (.int .i64 0), .lit (.int .i64 0), .lit (.int .i64 0), .lit (.int .i64 0)], .nil], [], places) :=
  ⟨[], by kernel_rfl⟩
set_option maxRecDepth 100000 in
theorem lifted (os : Os) (started : os.Started) (H : Type) (enc : TypeId × Value → H) (F : Stop.Interp) :
    ReturnsInHanded {} Tryz.checked os 3 .any ((OpenSpec.ofChange Rows.scanScansSpec).preRow enc Tryz.prog Tryz.f3 Rows.scanScansRow.domain false Rows.scanScansRow.laid) (((OpenSpec.ofChange Rows.scanScansSpec).at F).post enc Tryz.prog Tryz.f3 false true false false) := by
  obtain ⟨places, hx⟩ := reads os enc
  refine returnsInHanded_of_row (C := Tryz.checked) (s := OpenSpec.ofChange Rows.scanScansSpec) Hd.own started (by kernel_rfl) Tryz.func3
    (witness_row_at (enc := enc) (C := Tryz.checked) false (laidWorld os) #[.agg #[.int .i64 0, .int .i64 0, .int .i64 0, .int .i64 0], .slice none 0 0] (laid_os os) (by kernel_rfl) (by kernel_rfl) (by kernel_rfl)
      (OpenSpec.preRow_of_cond 8 hx (by kernel_rfl) (fun k hk => by cases hk) (by kernel_rfl) (laid_met os _))) ?_
  intro W base args ds gs before hval hW _ _ hsz hL _ _
  exact contract H enc W base args ds gs before hval hW hL
theorem said : Rows.ScanScansSaid :=
  OpenClaim.holds_of_cond 3 Tryz.f3 rfl rfl rfl rfl rfl rfl rfl ⟨rfl, rfl, rfl, rfl, rfl⟩ rfl rfl rfl rfl rfl (by kernel_rfl) Tryz.func3 (by kernel_rfl)
    (of_decide_eq_true (by kernel_rfl)) (by unfold Func.isWrapper; first | (rw [if_pos (by decide +kernel)]; kernel_rfl) | (rw [if_neg (by decide +kernel)]; exact ⟨rfl, rfl⟩))
    (fun os started H enc _ F => by rw [OpenClaim.pre_eq_preRow]; exact lifted os started H enc F)
set_option maxRecDepth 100000 in
theorem plain (f : FuncId) (fn : Func) (hf : Tryz.pinned.checked.prog.funcNamed "pumice/pumicelaw07.ScanScans" = some f) (hfn : Tryz.pinned.checked.prog.funcs[f]? = some fn) :
    false = Tryz.pinned.checked.prog.looks [] ∧ ∀ (j : Nat) t, fn.params[j]? = some t → Tryz.pinned.checked.prog.wantsStandIn t = false := by
  obtain rfl : f = 3 := Option.some.inj ((show Tryz.prog.funcNamed "pumice/pumicelaw07.ScanScans" = some 3 by kernel_rfl).symm.trans hf) |>.symm
  obtain rfl : fn = Tryz.f3 := (Option.some.inj (Tryz.func3.symm.trans hfn)).symm
  refine ⟨by kernel_rfl, fun j t ht => ?_⟩
  rw [Tryz.params3] at ht
  have hm : t = 23 ∨ t = 24 := by simpa using Array.mem_of_getElem? ht
  rcases hm with rfl | rfl
  · exact (show Tryz.prog.wantsStandIn 23 = false by kernel_rfl)
  · exact (show Tryz.prog.wantsStandIn 24 = false by kernel_rfl)
theorem card : Rows.ScanScansCardSaid :=
  Claim7.holds_tied_plain_at .later [] _ _ _ _ said (fun _ h => by cases h) (by kernel_rfl) (fun _ h => by cases h) scanScans_row_tie rfl ⟨rfl, rfl⟩ (by kernel_rfl) rfl plain (by kernel_rfl)
end Go.Proofs.YteoakhfofnocfaaGreatDoor.scanScans

namespace Go.Proofs.YteoakhfofnocfaaGreatDoor
theorem scanScans_holds : Rows.ScanScansCardSaid := scanScans.card
#print axioms scanScans_holds
end Go.Proofs.YteoakhfofnocfaaGreatDoor
