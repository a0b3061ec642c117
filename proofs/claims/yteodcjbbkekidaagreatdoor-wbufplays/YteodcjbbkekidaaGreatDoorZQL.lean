/-
  A new manager, and a log of it; the example that must come at any rate.
-/
import Derived.Test.YteodcjbbkekidaaGreatDoorZQK
import Derived.Test.YteodcjbbkekidaaGreatDoorZKQ
import Derived.Test.YteodcjbbkekidaaGreatDoorZQH
import Derived.Lib.SlBytesConst
namespace Go.Proofs.YteodcjbbkekidaaGreatDoor
open Go.RowKit Go.Extern.Stop Go.Stop Go.Extern
set_option maxRecDepth 10000

theorem lies_low {base B : Nat} {w : World} {c : CS} (h : Lies base w c) (hB : B ≤ base) : Lies B w c := ⟨h.chip, h.bks, h.pgs, h.nd, fun k hk => Nat.le_trans hB (h.low k hk), h.good⟩
/-- A manager of a new chip, and nothing in it. -/
structure New (w : World) (gb gp gz gr : Nat) (m : Mg) (c : CS) (P : List (List (List Nat))) (w' : World) : Prop where
  al : Al w.heap.size 1 w c.gz w' m c P (fun _ => none)
  num : c.gb = gb ∧ c.gp = gp ∧ c.gz = gz ∧ c.gr = gr
  bl : Below w.heap.size w w'
  fs : c.fs = []
set_option maxHeartbeats 2000000 in
theorem fresh_yes (gb gp gz gr : Nat) (w : World) (hr : rightB gb gp gz gr = true) (hG : Hd.Glb w) (hT : Typed w) (h1 : 0 < w.heap.size) (h2 : 1 < w.heap.size) :
    Calls Tryz.prog 8 #[.agg #[.int .i64 gb, .int .i64 gp, .int .i64 gz, .int .i64 gr]] w fun e w' => ∃ m c P, e = .returned (.pointer (some ⟨m.p, 0, none⟩)) ∧ New w gb gp gz gr m c P w' := by
  have hb0 := below_new w (.cells #[.int .i64 gb, .int .i64 gp, .int .i64 gz, .int .i64 gr] 23)
  have HB0 := hidV hb0
  have cN := fun W => new_chip gb gp gz gr W hr
  have HF : Hid (∀ c W, Lies w.heap.size W c → Fresh c → Below w.heap.size w W → Calls Tryz.prog 32 #[.pointer (some ⟨c.p, 0, none⟩)] W fun e w' => ∃ m c' P, e = .returned (.tuple #[.pointer (some ⟨m.p, 0, none⟩), .int .i64 0]) ∧ Al w.heap.size 1 w c.gz w' m c' P (fun _ => none) ∧ Gm c c' ∧ c'.fs = []) := fun c W hl hf hb =>
    format_al hl hf (hG.later hb) h1 (hT.later hb) h2 ⟨hb.os, hb.tape, hb.output, hb.size, fun k hk _ => hb.block k hk⟩
  clear hG hT h1 h2 hb0 hr
  go_enter Tryz.func8, Tryz.ntmps8
  go_wp2_with (first
    | (go_at_call 31; refine (cN _).mono ?_; rintro e w1 ⟨c, rfl, hl, hf, hn1, hn2, hn3, hn4, hb1⟩; have HN := hidV (show c.gb = gb ∧ c.gp = gp ∧ c.gz = gz ∧ c.gr = gr from ⟨hn1, hn2, hn3, hn4⟩); have HL : Hid (Lies w.heap.size w1 c ∧ Fresh c ∧ Below w.heap.size w w1) := ⟨lies_low hl HB0.out.size, hf, Below.after HB0.out hb1⟩; clear hl hf hn1 hn2 hn3 hn4 hb1)
    | (go_at_call 32; refine (HF.out c _ HL.out.1 HL.out.2.1 HL.out.2.2).mono ?_; rintro e w2 ⟨m, c', P, rfl, ha, hgm, hfs⟩; have HA := hidV (show New w gb gp gz gr m c' P w2 from ⟨by rw [hgm.gz]; exact ha, ⟨hgm.gb.trans HN.out.1, hgm.gp.trans HN.out.2.1, hgm.gz.trans HN.out.2.2.1, hgm.gr.trans HN.out.2.2.2⟩, ⟨ha.kp.os, ha.kp.tape, ha.kp.output, ha.kp.size, fun k hk => ha.kp.block k hk (by omega)⟩, hfs⟩); clear ha hgm hfs))
  go_ret
  exact ⟨m, c', P, rfl, HA.out⟩
theorem fresh_no (b p z r : Int) (w : World) (hr : rightB b p z r = false) :
    Calls Tryz.prog 8 #[.agg #[.int .i64 b, .int .i64 p, .int .i64 z, .int .i64 r]] w fun e w' => e = .returned (.pointer none) ∧ Below w.heap.size w w' := by
  have HB0 := hidV (below_new w (.cells #[.int .i64 b, .int .i64 p, .int .i64 z, .int .i64 r] 23))
  have cN := fun W => new_c0 b p z r W hr
  clear hr
  go_enter Tryz.func8, Tryz.ntmps8
  go_wp2_with (go_at_call 31; refine (cN _).mono ?_; rintro e w1 ⟨rfl, hb1⟩; have HB1 := hidV (Below.after HB0.out hb1); clear hb1)
  go_ret
  exact ⟨rfl, HB1.out⟩
/-- A log of a manager, all of it from base on. -/
structure Lg (base t : Nat) (w0 w : World) (m : Mg) (c : CS) (P : List (List (List Nat))) (l : Lm) (gp gz : Nat) (fs : List Fm) (n : Nat) : Prop where
  ml : ML base t w m c P l
  gl : Hd.Glb w
  hb : 0 < base
  bl : Below base w0 w
  num : c.gp = gp ∧ c.gz = gz
  fs : l.fs = fs
  len : l.data.length = n
  sp : l.sp = false
  tn : t ≤ l.np + 1
theorem Lg.later {base t : Nat} {w0 w w' : World} {m : Mg} {c : CS} {P : List (List (List Nat))} {l : Lm} {gp gz n : Nat} {fs : List Fm} (h : Lg base t w0 w m c P l gp gz fs n) (hb : Below w.heap.size w w') (hbs : base ≤ w.heap.size) : Lg base t w0 w' m c P l gp gz fs n :=
  ⟨h.ml.later hb, h.gl.later hb, h.hb, h.bl.trans (hb.mono hbs), h.num, h.fs, h.len, h.sp, h.tn⟩
theorem Lg.base_le {base t : Nat} {w0 w : World} {m : Mg} {c : CS} {P : List (List (List Nat))} {l : Lm} {gp gz n : Nat} {fs : List Fm} (h : Lg base t w0 w m c P l gp gz fs n) : base ≤ w.heap.size := by
  have h1 := h.ml.ms.ml.low.1
  have h2 := h.ml.ms.ml.box.lt
  omega
theorem Lg.np {base t : Nat} {w0 w : World} {m : Mg} {c : CS} {P : List (List (List Nat))} {l : Lm} {gp gz n : Nat} {fs : List Fm} (h : Lg base t w0 w m c P l gp gz fs n) : l.np ≤ 62 ∧ t < 900000 := by
  have h1 := h.ml.np
  have h2 := h.ml.ms.page_le l.leb
  have h3 := h.ml.ms.rp.rb.geo
  have h4 := h.tn
  omega
theorem Lg.app {base t : Nat} {w0 w w' : World} {m : Mg} {c : CS} {P : List (List (List Nat))} {l : Lm} {gp gz n : Nat} {fs fs' : List Fm} {d : List Nat} (h : Lg base t w0 w m c P l gp gz fs n) (ha : AppP base t w m c P l d fs' w') (hd : l.data.length ≤ d.length) : ∃ t' m' c' P' l', l'.p = l.p ∧ m'.p = m.p ∧ Lg base t' w0 w' m' c' P' l' gp gz fs' d.length := by
  obtain ⟨m', c', P', fv, h1, h2, h3, h4, h5, h6, h7⟩ := ha
  have hft : ∀ k, MFoot m c k ∨ LFoot l k → base ≤ k := fun k e => e.elim (fun e => h.ml.ms.ml.foot_ge k e) (fun e => h.ml.ge k e)
  have hg := h.ml.ms.rp.rb.geo
  have hN : l.np ≤ d.length / c.gz := (Nat.le_div_iff_mul_le (by omega)).2 (by have := h.ml.lo h.sp; omega)
  refine ⟨t + (d.length / c.gz - l.np), m', c', P', l.nu d fs' fv (d.length / c.gz), rfl, h3, h1, Glb.kp h.gl h5 (fun e => by have := hft _ e; have := h.hb; omega), h.hb, h.bl.trans ⟨h5.os, h5.tape, h5.output, h5.size, fun k hk => h5.block k (by have := h.base_le; omega) (fun e => by have := hft _ e; omega)⟩, ⟨h2.gp.trans h.num.1, h2.gz.trans h.num.2⟩, rfl, rfl, h.sp, by show _ ≤ d.length / c.gz + 1; have := h.tn; omega⟩
theorem lg_append {base t : Nat} {w0 w : World} {m : Mg} {c : CS} {P : List (List (List Nat))} {l : Lm} {gp gz n : Nat} {fs : List Fm} (h : Lg base t w0 w m c P l gp gz fs n) (a : Option Addr) (cap : Nat) (p : List Nat) (hp : ∀ x ∈ p, x < 256) (hr : Hd.BRow w a p) (h1 : 1 ≤ p.length) (h2 : p.length ≤ 1024) (hroom : n + (6 + p.length) ≤ (gp - 2) * gz) :
    Calls Tryz.prog 15 #[.pointer (some ⟨l.p, 0, none⟩), .slice a p.length cap] w fun e w' => e = .returned (.tuple #[.int .i64 (n : Nat), .int .i64 0]) ∧ ∃ t' m' c' P' l', l'.p = l.p ∧ m'.p = m.p ∧ Lg base t' w0 w' m' c' P' l' gp gz (fs ++ [(n, p)]) (bgn gz (n + (6 + p.length))) := by
  have k := append_yes h.ml h.sp h.np.2 a cap p hp hr h1 h2 (by rw [h.len, h.ml.cap, h.num.1, h.num.2]; exact hroom)
  rw [h.len, h.fs] at k
  refine k.mono ?_
  rintro e w' ⟨rfl, ha⟩
  refine ⟨rfl, ?_⟩
  have := h.app ha (by rw [appD_length]; have := bgn_le c.gz (l.data.length + (6 + p.length)); omega)
  rw [appD_length, h.len, h.num.2] at this
  exact this
theorem lg_sync {base t : Nat} {w0 w : World} {m : Mg} {c : CS} {P : List (List (List Nat))} {l : Lm} {gp gz n : Nat} {fs : List Fm} (h : Lg base t w0 w m c P l gp gz fs n) :
    Calls Tryz.prog 18 #[.pointer (some ⟨l.p, 0, none⟩)] w fun e w' => e = .returned (.int .i64 0) ∧ ∃ t' m' c' P' l', l'.p = l.p ∧ m'.p = m.p ∧ Lg base t' w0 w' m' c' P' l' gp gz fs (rup gz n) := by
  have hg := h.ml.ms.rp.rb.geo
  by_cases hk : keptN c.gz l = 0
  · refine (sync_none h.ml hk).mono ?_
    rintro e w' ⟨rfl, hb⟩
    have hlo := h.ml.lo h.sp
    have e1 : rup gz n = n := by
      unfold keptN at hk
      unfold rup
      rw [if_pos]
      rw [← h.len, ← h.num.2]
      have : l.data.length = l.np * c.gz := by omega
      rw [this]; exact Nat.mul_mod_left _ _
    rw [e1]
    exact ⟨rfl, t, m, c, P, l, rfl, rfl, h.later hb h.base_le⟩
  · refine (sync_yes h.ml h.sp h.np.2 (by omega)).mono ?_
    rintro e w' ⟨rfl, ha⟩
    refine ⟨rfl, ?_⟩
    rw [h.fs] at ha
    have := h.app ha (by rw [synD_length (by omega)]; exact (rup_ge _ (by omega)).1)
    rw [synD_length (by omega), h.len, h.num.2] at this
    exact this
theorem lg_open {w w' : World} {gb gp gz gr : Nat} {m : Mg} {c : CS} {P : List (List (List Nat))} (h : New w gb gp gz gr m c P w') (hE : 0 < w.heap.size) (leb : Nat) (hleb : (leb : Int) + gr + 2 < gb) :
    Calls Tryz.prog 13 #[.pointer (some ⟨m.p, 0, none⟩), .int .i64 (leb : Nat)] w' fun e w2 => ∃ l, e = .returned (.tuple #[.pointer (some ⟨l.p, 0, none⟩), .int .i64 0]) ∧ Lg w.heap.size 1 w w2 m c P l gp gz [] 0 := by
  refine (open_any h.al.ms leb (by rw [h.num.1, h.num.2.2.2]; exact hleb)).mono ?_
  rintro e w2 ⟨l, rfl, ho⟩
  have hc : (cont m.bl P leb).getD [] = [] := by rw [h.al.fn]; rfl
  have h1 := ho.fs
  have h2 := ho.dl
  have h3 := ho.sp
  rw [hc] at h1 h2 h3
  have hmb : w.heap.size ≤ m.p := h.al.ms.ml.low.1
  have hk : ∀ k, k < w.heap.size → w2.heap[k]? = w'.heap[k]? := fun k hk => ho.kp.block k (Nat.lt_of_lt_of_le hk h.bl.size) (by omega)
  have hnp : l.np = 0 := by
    have := ho.ml.np
    rw [show (l.leb : Int) = (leb : Int) by rw [ho.lb], hc] at this
    exact this
  refine ⟨l, rfl, ho.ml, Glb.kp h.al.gl ho.kp (by omega), hE, h.bl.trans ⟨ho.kp.os, ho.kp.tape, ho.kp.output, ho.kp.size, hk⟩, ⟨h.num.2.1, h.num.2.2.1⟩, ?_, ?_, ?_, by omega⟩
  · rw [h1]; rfl
  · rw [h2]; rfl
  · rw [h3]; rfl
theorem brow_lit (W : World) (l : List Nat) (fr : Nat × Nat) : Hd.BRow (W.alloc (.cells (l.map u8v).toArray 5 fr)) (some ⟨W.heap.size, 0, none⟩) l := by
  refine .inr ⟨W.heap.size, 0, rfl, fun i hi => ?_⟩
  rw [Nat.zero_add]
  have : (W.alloc (.cells (l.map u8v).toArray 5 fr)).heap[W.heap.size]? = some (.cells (l.map u8v).toArray 5 fr) := lheap_new W _
  unfold World.cell?
  simp only [this]
  simp [u8v, List.getD, hi]
theorem fbk_len {base : Nat} {w : World} {v : Value} {fs : List Fm} (h : FBk base w v fs) : ∃ a cap, v = .slice a fs.length cap := by
  obtain ⟨vs, _, h2, _⟩ := h
  rcases h2.2 with ⟨e, e2⟩ | ⟨g, cap, cur, e, _⟩
  · exact ⟨none, 0, by rw [e, e2]⟩
  · exact ⟨some ⟨g, 0, none⟩, cap, e⟩
theorem lg_at {p q : Nat} {w : World} {f : FuncId} {R : Ending → World → Prop} (h : p = q) (k : Calls Tryz.prog f #[.pointer (some ⟨p, 0, none⟩)] w R) : Calls Tryz.prog f #[.pointer (some ⟨q, 0, none⟩)] w R := by rw [← h]; exact k
set_option maxHeartbeats 8000000 in
theorem alive_any (w : World) (hG : Hd.Glb w) (hT : Typed w) (h1 : 0 < w.heap.size) (h2 : 1 < w.heap.size) :
    Calls Tryz.prog 10 #[] w fun e w' => e = .returned (.bool true) ∧ Below w.heap.size w w' := by
  have kF : Calls Tryz.prog 8 #[.agg #[.int .i64 16, .int .i64 32, .int .i64 64, .int .i64 0]] w fun e w' => ∃ m c P, e = .returned (.pointer (some ⟨m.p, 0, none⟩)) ∧ New w 16 32 64 0 m c P w' := fresh_yes 16 32 64 0 w (by kernel_rfl) hG hT h1 h2
  have HE := hidV h1
  clear hG hT h1 h2
  have hc1 : ∀ W : World, (convert 39 39 (.slice (some ⟨W.heap.size, 0, none⟩) 1 1)).run Tryz.prog (W.alloc (.cells #[.int .u8 97] 5)) = .ok (.slice (some ⟨W.heap.size, 0, none⟩) 1 1) (W.alloc (.cells #[.int .u8 97] 5 (1, 2))) := fun W => Lib.run_convert_bytes_const W 39 5 #[.int .u8 97] 1 1 Tryz.underlying39 Tryz.underlying5
  have hc2 : ∀ W : World, (convert 39 39 (.slice (some ⟨W.heap.size, 0, none⟩) 2 2)).run Tryz.prog (W.alloc (.cells #[.int .u8 98, .int .u8 99] 5)) = .ok (.slice (some ⟨W.heap.size, 0, none⟩) 2 2) (W.alloc (.cells #[.int .u8 98, .int .u8 99] 5 (2, 3))) := fun W => Lib.run_convert_bytes_const W 39 5 #[.int .u8 98, .int .u8 99] 2 2 Tryz.underlying39 Tryz.underlying5
  have M1 : Hid True := trivial
  have M2 : Hid True := trivial
  have M3 : Hid True := trivial
  go_enter Tryz.func10, Tryz.ntmps10
  go_wp2_with (first
    | (go_at_call 8; refine kF.mono ?_; rintro e w1 ⟨m, c, P, rfl, hn⟩; have kO : Calls Tryz.prog 13 #[.pointer (some ⟨m.p, 0, none⟩), .int .i64 1] w1 (fun e w2 => ∃ l, e = .returned (.tuple #[.pointer (some ⟨l.p, 0, none⟩), .int .i64 0]) ∧ Lg w.heap.size 1 w w2 m c P l 32 64 [] 0) := lg_open hn HE.out 1 (by decide); clear hn)
    | (go_at_call 13; refine kO.mono ?_; rintro e w2 ⟨l, rfl, hl⟩; clear kO; have kA : Calls Tryz.prog 15 #[.pointer (some ⟨l.p, 0, none⟩), .slice (some ⟨w2.heap.size, 0, none⟩) 1 1] (w2.alloc (.cells #[.int .u8 97] 5 (1, 2))) (fun e w' => e = .returned (.tuple #[.int .i64 0, .int .i64 0]) ∧ ∃ t' m' c' P' l', l'.p = l.p ∧ m'.p = m.p ∧ Lg w.heap.size t' w w' m' c' P' l' 32 64 [(0, [97])] 7) := lg_append (hl.later (below_new _ _) hl.base_le) _ 1 [97] (by simp) (brow_lit w2 [97] (1, 2)) (by decide) (by decide) (by decide); clear hl)
    | (go_at_call 15; clear M1; refine kA.mono ?_; rintro e w3 ⟨rfl, t3, m3, c3, P3, l3, hp3, _, hl3⟩; clear kA; have kB : Calls Tryz.prog 15 #[.pointer (some ⟨l3.p, 0, none⟩), .slice (some ⟨w3.heap.size, 0, none⟩) 2 2] (w3.alloc (.cells #[.int .u8 98, .int .u8 99] 5 (2, 3))) (fun e w' => e = .returned (.tuple #[.int .i64 7, .int .i64 0]) ∧ ∃ t' m' c' P' l', l'.p = l3.p ∧ m'.p = m3.p ∧ Lg w.heap.size t' w w' m' c' P' l' 32 64 [(0, [97]), (7, [98, 99])] 15) := lg_append (hl3.later (below_new _ _) hl3.base_le) _ 2 [98, 99] (by simp) (brow_lit w3 [98, 99] (2, 3)) (by decide) (by decide) (by decide); rw [hp3] at kB; clear hl3 hp3)
    | (go_at_call 15; clear M2; refine kB.mono ?_; rintro e w4 ⟨rfl, t4, m4, c4, P4, l4, hp4, _, hl4⟩; clear kB; have kE : Calls Tryz.prog 26 #[.pointer (some ⟨l4.p, 0, none⟩)] w4 (fun e w' => e = .returned (.int .i64 15) ∧ w4 = w') := (by have := end_any hl4.ml.la; rw [hl4.len] at this; exact this); have kS : Calls Tryz.prog 18 #[.pointer (some ⟨l4.p, 0, none⟩)] w4 (fun e w' => e = .returned (.int .i64 0) ∧ ∃ t' m' c' P' l', l'.p = l4.p ∧ m'.p = m4.p ∧ Lg w.heap.size t' w w' m' c' P' l' 32 64 [(0, [97]), (7, [98, 99])] 64) := lg_sync hl4; rw [hp4] at kE; have kS := lg_at hp4 kS; have HP4 := hidV hp4; clear hl4 hp4)
    | (go_at_call 26; clear M3; refine kE.mono ?_; rintro e w' ⟨rfl, rfl⟩)
    | (go_at_call 18; refine kS.mono ?_; rintro e w5 ⟨rfl, t5, m5, c5, P5, l5, hp5, _, hl5⟩; clear kS; have hp6 := hp5.trans HP4.out; have kR : Calls Tryz.prog 20 #[.pointer (some ⟨l5.p, 0, none⟩), .int .i64 7] w5 (fun e w' => ∃ v, e = .returned (.tuple #[v, .int .i64 0]) ∧ Own w5 w' v [98, 99]) := read_yes hl5.ml 7 (7, [98, 99]) (by rw [hl5.fs]; rfl) rfl; rw [hp6] at kR; have H5 := hidV (show Lg w.heap.size t5 w w5 m5 c5 P5 l5 32 64 [(0, [97]), (7, [98, 99])] 64 from hl5); have HP6 := hidV hp6; clear hp5 hp6 hl5)
    | (go_at_call 20; refine kR.mono ?_; rintro e w6 ⟨v, rfl, ho⟩; clear kR; obtain ⟨a6, k6, rfl, hr6, _⟩ := ho.row; have hcv : (convert 39 9 (.slice a6 2 k6)).run Tryz.prog w6 = .ok (.string ⟨#[98, 99]⟩) w6 := (conv_row k6 hr6).trans (by rw [show bstr [98, 99] = ⟨#[98, 99]⟩ by rfl]); have H6 := hidV (H5.out.later ho.2 H5.out.base_le); have kE2 : Calls Tryz.prog 26 #[.pointer (some ⟨l5.p, 0, none⟩)] w6 (fun e w' => e = .returned (.int .i64 64) ∧ w6 = w') := (by have := end_any H6.out.ml.la; rw [H6.out.len] at this; exact this); rw [HP6.out] at kE2; have kFr := frames_any H6.out.ml; rw [HP6.out] at kFr; clear ho hr6)
    | (go_at_call 26; refine kE2.mono ?_; rintro e w' ⟨rfl, rfl⟩)
    | (go_at_call 24; refine kFr.mono ?_; rintro e w7 ⟨v7, rfl, hf7, hb7⟩; clear kFr; obtain ⟨a7, k7, rfl⟩ := fbk_len hf7; have hl7 : l5.fs.length = 2 := (by rw [H6.out.fs]; rfl); rw [hl7]; have H7 := hidV (H6.out.later hb7 H6.out.base_le); have kBr := broken_any H7.out.ml.ms H7.out.ml.la H7.out.ml.mp; rw [H7.out.sp, HP6.out] at kBr; clear hf7 hb7 hl7)
    | (go_at_call 27; refine kBr.mono ?_; rintro e w8 ⟨rfl, hb8⟩; have H8 := hidV (H7.out.later hb8 H7.out.base_le); clear hb8)
    )
  go_ret
  exact ⟨rfl, H8.out.bl⟩
end Go.Proofs.YteodcjbbkekidaaGreatDoor
