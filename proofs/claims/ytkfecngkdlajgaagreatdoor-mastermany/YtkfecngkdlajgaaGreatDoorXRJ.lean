/-
  A new manager, as the master's statements make it.
  A master's home as the statements drive it: Create, Save, Open, and that the chip was never used wrongly.
  The chapter's example, as the master's statements ask for it.
-/
import Derived.Test.YtkfecngkdlajgaaGreatDoorQL
import Derived.Test.YtkfecngkdlajgaaGreatDoorXRI
namespace Go.Proofs.YtkfecngkdlajgaaGreatDoor
open Go.RowKit Go.Extern.Stop Go.Stop Go.Extern
set_option maxRecDepth 10000

set_option maxHeartbeats 2000000 in
theorem fresh_yes (gb gp gz gr : Nat) (w : World) (hr : rightB gb gp gz gr = true) (hG : Hd.Glb w) (hT : Typed w) (h1 : 0 < w.heap.size) (h2 : 1 < w.heap.size) :
    Calls Tryz.prog 6 #[.agg #[.int .i64 gb, .int .i64 gp, .int .i64 gz, .int .i64 gr]] w fun e w' => ∃ m c P, e = .returned (.pointer (some ⟨m.p, 0, none⟩)) ∧ New w gb gp gz gr m c P w' := by
  have hb0 := below_new w (.cells #[.int .i64 gb, .int .i64 gp, .int .i64 gz, .int .i64 gr] 23)
  have HB0 := hidV hb0
  have cN := fun W => new_chip gb gp gz gr W hr
  have HF : Hid (∀ c W, Lies w.heap.size W c → Fresh c → Below w.heap.size w W → Calls Tryz.prog 25 #[.pointer (some ⟨c.p, 0, none⟩)] W fun e w' => ∃ m c' P, e = .returned (.tuple #[.pointer (some ⟨m.p, 0, none⟩), .int .i64 0]) ∧ Al w.heap.size 1 w c.gz w' m c' P (fun _ => none) ∧ Gm c c' ∧ c'.fs = []) := fun c W hl hf hb =>
    format_al hl hf (hG.later hb) h1 (hT.later hb) h2 ⟨hb.os, hb.tape, hb.output, hb.size, fun k hk _ => hb.block k hk⟩
  clear hG hT h1 h2 hb0 hr
  go_enter Tryz.func6, Tryz.ntmps6
  go_wp2_with (first
    | (go_at_call 24; refine (cN _).mono ?_; rintro e w1 ⟨c, rfl, hl, hf, hn1, hn2, hn3, hn4, hb1⟩; have HN := hidV (show c.gb = gb ∧ c.gp = gp ∧ c.gz = gz ∧ c.gr = gr from ⟨hn1, hn2, hn3, hn4⟩); have HL : Hid (Lies w.heap.size w1 c ∧ Fresh c ∧ Below w.heap.size w w1) := ⟨lies_low hl HB0.out.size, hf, Below.after HB0.out hb1⟩; clear hl hf hn1 hn2 hn3 hn4 hb1)
    | (go_at_call 25; refine (HF.out c _ HL.out.1 HL.out.2.1 HL.out.2.2).mono ?_; rintro e w2 ⟨m, c', P, rfl, ha, hgm, hfs⟩; have HA := hidV (show New w gb gp gz gr m c' P w2 from ⟨by rw [hgm.gz]; exact ha, ⟨hgm.gb.trans HN.out.1, hgm.gp.trans HN.out.2.1, hgm.gz.trans HN.out.2.2.1, hgm.gr.trans HN.out.2.2.2⟩, ⟨ha.kp.os, ha.kp.tape, ha.kp.output, ha.kp.size, fun k hk => ha.kp.block k hk (by omega)⟩, hfs⟩); clear ha hgm hfs))
  go_ret
  exact ⟨m, c', P, rfl, HA.out⟩
theorem fresh_no (b p z r : Int) (w : World) (hr : rightB b p z r = false) :
    Calls Tryz.prog 6 #[.agg #[.int .i64 b, .int .i64 p, .int .i64 z, .int .i64 r]] w fun e w' => e = .returned (.pointer none) ∧ Below w.heap.size w w' := by
  have HB0 := hidV (below_new w (.cells #[.int .i64 b, .int .i64 p, .int .i64 z, .int .i64 r] 23))
  have cN := fun W => new_c0 b p z r W hr
  clear hr
  go_enter Tryz.func6, Tryz.ntmps6
  go_wp2_with (go_at_call 24; refine (cN _).mono ?_; rintro e w1 ⟨rfl, hb1⟩; have HB1 := hidV (Below.after HB0.out hb1); clear hb1)
  go_ret
  exact ⟨rfl, HB1.out⟩
end Go.Proofs.YtkfecngkdlajgaaGreatDoor
namespace Go.Proofs.YtkfecngkdlajgaaGreatDoor
open Go.RowKit Go.Extern.Stop Go.Stop Go.Extern
set_option maxRecDepth 10000

theorem str_of (S : ByteArray) : ∃ T : List Nat, S = bstr T ∧ (∀ x ∈ T, x < 256) ∧ T.length = S.size := by
  refine ⟨S.data.toList.map UInt8.toNat, ?_, ?_, ?_⟩
  · unfold bstr strOfNums
    rw [List.map_map, List.map_map]
    have : (S.data.toList.map ((fun n : Int => UInt8.ofNat n.toNat) ∘ (fun x : Nat => (x:Int)) ∘ UInt8.toNat)) = S.data.toList := by
      have h2 := List.map_congr_left (l := S.data.toList) (f := ((fun n : Int => UInt8.ofNat n.toNat) ∘ (fun x : Nat => (x:Int)) ∘ UInt8.toNat)) (g := id) (fun x _ => by simp)
      rw [h2, List.map_id]
    have h3 : ((fun n : Int => UInt8.ofNat n.toNat) ∘ (fun x : Nat => (x:Int))) ∘ UInt8.toNat = ((fun n : Int => UInt8.ofNat n.toNat) ∘ (fun x : Nat => (x:Int)) ∘ UInt8.toNat) := rfl
    rw [h3, this]
  · intro x hx
    obtain ⟨y, _, rfl⟩ := List.mem_map.1 hx
    exact UInt8.toNat_lt y
  · rw [List.length_map]; rfl
/-- The superblock of a chip of these numbers. -/
def wtN (gb gp gz gr : Nat) : List Nat := supN [(gb : Int), gp, gz, gr] 4
/-- A manager over a master's home, behind a world W0 that it lies above; at most t operations were made. -/
structure Mr (base : Nat) (W0 w : World) (gb gp gz gr mp t : Nat) (d : List Nat) (e : Nat) (T : List Nat) (k : Nat) : Prop where
  ex : ∃ t' m c P, t' ≤ t ∧ Hs base t' w m c P (wtN gb gp gz gr) d e T k ∧ m.p = mp ∧ (c.gb = gb ∧ c.gp = gp ∧ c.gz = gz ∧ c.gr = gr)
  gl : Hd.Glb w
  hb : 0 < base
  bl : Below base W0 w
theorem Mr.base_le {base : Nat} {W0 w : World} {gb gp gz gr mp t : Nat} {d : List Nat} {e : Nat} {T : List Nat} {k : Nat} (h : Mr base W0 w gb gp gz gr mp t d e T k) : base ≤ w.heap.size := by
  obtain ⟨t', m, c, P, _, h2, _, _⟩ := h.ex
  exact h2.ms.base_le
theorem Mr.later {base : Nat} {W0 w w' : World} {gb gp gz gr mp t : Nat} {d : List Nat} {e : Nat} {T : List Nat} {k : Nat} (h : Mr base W0 w gb gp gz gr mp t d e T k) (hb : Below w.heap.size w w') : Mr base W0 w' gb gp gz gr mp t d e T k := by
  obtain ⟨t', m, c, P, h1, h2, h3, h4⟩ := h.ex
  exact ⟨⟨t', m, c, P, h1, h2.later hb, h3, h4⟩, h.gl.later hb, h.hb, h.bl.trans (hb.mono h2.ms.base_le)⟩
/-- Behind a write to the manager's own blocks and to one that lies at base or above. -/
theorem mr_kept {S : Nat → Prop} {base : Nat} {W0 w w' : World} {gb gp gz gr mp t : Nat} {d : List Nat} {e : Nat} {T : List Nat} {k t' : Nat} {m : Mg} {c : CS} {P : List (List (List Nat))} (gl : Hd.Glb w) (hb : 0 < base) (bl : Below base W0 w) (hw : base ≤ w.heap.size)
    (hk : Kept S w w') (hS : ∀ k, S k → base ≤ k) (hs : Hs base t' w' m c P (wtN gb gp gz gr) d e T k) (ht : t' ≤ t) (hm : m.p = mp) (hn : c.gb = gb ∧ c.gp = gp ∧ c.gz = gz ∧ c.gr = gr) : Mr base W0 w' gb gp gz gr mp t d e T k :=
  ⟨⟨t', m, c, P, ht, hs, hm, hn⟩, Glb.kp gl hk (fun q => by have := hS _ q; omega), hb, bl.trans (hk.below hw hS)⟩
theorem gm_nums {c c' : CS} {gb gp gz gr : Nat} (h : Gm c c') (hn : c.gb = gb ∧ c.gp = gp ∧ c.gz = gz ∧ c.gr = gr) : c'.gb = gb ∧ c'.gp = gp ∧ c'.gz = gz ∧ c'.gr = gr :=
  ⟨h.gb.trans hn.1, h.gp.trans hn.2.1, h.gz.trans hn.2.2.1, h.gr.trans hn.2.2.2⟩
theorem mr_save {base : Nat} {W0 w : World} {gb gp gz gr mp t : Nat} {d : List Nat} {e : Nat} {T : List Nat} {k : Nat} (h : Mr base W0 w gb gp gz gr mp t d e T k) {xp e0 k0 : Nat} {S0 : ByteArray} (hx : XAt w xp mp e0 S0 k0) (hxb : base ≤ xp) (ht : t < 1800000000) (hk : k < 1000000000000) (n : Nat) (T' : List Nat) (hok : okR n T') :
    Calls Tryz.prog 15 #[.pointer (some ⟨xp, 0, none⟩), .agg #[.int .u64 (n : Nat), .string (bstr T')]] w fun r w' => r = .returned (.int .i64 0) ∧ Mr base W0 w' gb gp gz gr mp (t + 130) (nxD gz ((gp - 2) * gz) (wtN gb gp gz gr) d n T') n T' (nxK ((gp - 2) * gz) d T' k) ∧ XAt w' xp mp n (bstr T') (nxK ((gp - 2) * gz) d T' k) ∧ Kept (fun q => base ≤ q) w w' := by
  obtain ⟨t', m, c, P, h1, h2, rfl, h4⟩ := h.ex
  have kS := saveM_any h2 hx hxb (by omega) hk n T' hok
  rw [h4.2.1, h4.2.2.1] at kS
  refine kS.mono ?_
  rintro r w' ⟨rfl, t2, m2, c2, P2, g1, g2, g3, g4, g5, g6⟩
  have hS : ∀ q, MFoot m c q ∨ q = xp → base ≤ q := fun q e => e.elim (fun e => h2.ms.ml.foot_ge q e) (fun e => by omega)
  exact ⟨rfl, mr_kept h.gl h.hb h.bl h.base_le g5 hS g2 (by omega) g4 (gm_nums g3 h4), g6, g5.mono hS⟩
theorem mr_open {base : Nat} {W0 w : World} {gb gp gz gr mp t : Nat} {d : List Nat} {e : Nat} {T : List Nat} {k : Nat} (h : Mr base W0 w gb gp gz gr mp t d e T k) :
    Calls Tryz.prog 11 #[.pointer (some ⟨mp, 0, none⟩)] w fun r w' => ∃ xp, r = .returned (.tuple #[.pointer (some ⟨xp, 0, none⟩), .int .i64 0]) ∧ Mr base W0 w' gb gp gz gr mp t d e T k ∧ XAt w' xp mp e (bstr T) k ∧ base ≤ xp ∧ w.heap.size ≤ xp ∧ Kept (fun q => base ≤ q) w w' := by
  obtain ⟨t', m, c, P, h1, h2, rfl, h4⟩ := h.ex
  refine (open_home h2).mono ?_
  rintro r w' ⟨xp, rfl, g1, g2, g3, g4⟩
  have hS : ∀ q, q = m.p → base ≤ q := fun q e => by rw [e]; exact h2.ms.ml.foot_ge m.p (.inl rfl)
  exact ⟨xp, rfl, mr_kept h.gl h.hb h.bl h.base_le g2 hS g1 h1 rfl h4, g3, Nat.le_trans h.base_le g4, g4, g2.mono hS⟩
theorem mr_chip {base : Nat} {W0 w : World} {gb gp gz gr mp t : Nat} {d : List Nat} {e : Nat} {T : List Nat} {k : Nat} (h : Mr base W0 w gb gp gz gr mp t d e T k) :
    Calls Tryz.prog 9 #[.pointer (some ⟨mp, 0, none⟩)] w fun e w' => ∃ cp, e = .returned (.pointer (some ⟨cp, 0, none⟩)) ∧ w = w' ∧ Calls Tryz.prog 19 #[.pointer (some ⟨cp, 0, none⟩)] w fun e w' => e = .returned (.int .i64 0) ∧ w = w' := by
  obtain ⟨t', m, c, P, h1, h2, rfl, h4⟩ := h.ex
  refine (mchip_any h2.ms.ml).mono ?_
  rintro e w' ⟨rfl, rfl⟩
  refine ⟨c.p, rfl, rfl, ?_⟩
  have := wrong_any h2.ms.ml.chip
  rw [h2.ms.rp.wrong] at this
  exact this
/-- A manager of which nothing is known but that it is right. -/
structure Mz (base : Nat) (W0 w : World) (gb gp gz gr mp t : Nat) : Prop where
  ex : ∃ t' m c P, t' ≤ t ∧ Ms base t' w m c P ∧ m.p = mp ∧ (c.gb = gb ∧ c.gp = gp ∧ c.gz = gz ∧ c.gr = gr)
  gl : Hd.Glb w
  hb : 0 < base
  bl : Below base W0 w
  leb : gr + 2 < gb
theorem Mz.new {w w' : World} {gb gp gz gr : Nat} {m : Mg} {c : CS} {P : List (List (List Nat))} (h : New w gb gp gz gr m c P w') (hE : 0 < w.heap.size) (hl : gr + 2 < gb) : Mz w.heap.size w w' gb gp gz gr m.p 1 :=
  ⟨⟨1, m, c, P, Nat.le_refl _, h.al.ms, rfl, h.num⟩, h.al.gl, hE, h.bl, hl⟩
theorem mz_create {base : Nat} {W0 w : World} {gb gp gz gr mp t : Nat} (h : Mz base W0 w gb gp gz gr mp t) (ht : t < 1800000000) (n : Nat) (T : List Nat) (hok : okR n T) :
    Calls Tryz.prog 12 #[.pointer (some ⟨mp, 0, none⟩), .agg #[.int .u64 (n : Nat), .string (bstr T)]] w fun r w' => ∃ xp, r = .returned (.tuple #[.pointer (some ⟨xp, 0, none⟩), .int .i64 0]) ∧ Mr base W0 w' gb gp gz gr mp (t + 130) (anD gz (wtN gb gp gz gr) n T) n T 1 ∧ XAt w' xp mp n (bstr T) 1 ∧ base ≤ xp ∧ w.heap.size ≤ xp ∧ Kept (fun q => base ≤ q) w w' := by
  obtain ⟨t', m, c, P, h1, h2, rfl, h4⟩ := h.ex
  have hw : wtN gb gp gz gr = supN [(c.gb : Int), c.gp, c.gz, c.gr] 4 := by rw [h4.1, h4.2.1, h4.2.2.1, h4.2.2.2]; rfl
  refine (create_yes h2 (by have := h.leb; omega) hw (by omega) n T hok).mono ?_
  rintro r w' ⟨xp, rfl, ⟨t2, m2, c2, P2, g1, g2, g3, g4, g5, g6⟩, g7, g8⟩
  have hS : ∀ q, MFoot m c q → base ≤ q := fun q e => h2.ml.foot_ge q e
  rw [h4.2.2.1] at g2
  exact ⟨xp, rfl, mr_kept h.gl h.hb h.bl h2.base_le g6 hS g2 (by omega) g4 (gm_nums g3 h4), g7, Nat.le_trans h2.base_le g8, g8, g6.mono hS⟩
end Go.Proofs.YtkfecngkdlajgaaGreatDoor
namespace Go.Proofs.YtkfecngkdlajgaaGreatDoor
open Go.RowKit Go.Extern.Stop Go.Stop Go.Extern
set_option maxRecDepth 10000

theorem wtN_length (gb gp gz gr : Nat) : (wtN gb gp gz gr).length = 15 := supN_length _ 4 (by simp)
theorem anD_length {gz : Nat} (hz : 64 ≤ gz) {WT : List Nat} (hw : WT.length = 15) (n : Nat) (T : List Nat) : (anD gz WT n T).length = rup gz (21 + (15 + T.length)) := by
  have h1 : (appD gz [] WT).length = 21 := by rw [appD_length, hw]; exact bgn_21 hz
  unfold anD
  rw [synD_length (by omega), appD_length, h1, recL_length, rup_bgn (by omega)]
  congr 1
  omega
theorem rcf0 (a b : Value) (W : World) : (Instr.field 40 (.agg #[a, b]) 0).run Tryz.prog W = .ok a W := by kernel_rfl
theorem rcf1 (a b : Value) (W : World) : (Instr.field 40 (.agg #[a, b]) 1).run Tryz.prog W = .ok b W := by kernel_rfl
set_option maxHeartbeats 4000000 in
theorem aliveX_any (w : World) (hG : Hd.Glb w) (hT : Typed w) (h1 : 0 < w.heap.size) (h2 : 1 < w.heap.size) :
    Calls Tryz.prog 8 #[] w fun e w' => e = .returned (.bool true) ∧ Below w.heap.size w w' := by
  have kF : Calls Tryz.prog 6 #[.agg #[.int .i64 16, .int .i64 32, .int .i64 64, .int .i64 0]] w fun e w' => ∃ m c P, e = .returned (.pointer (some ⟨m.p, 0, none⟩)) ∧ New w 16 32 64 0 m c P w' := fresh_yes 16 32 64 0 w (by kernel_rfl) hG hT h1 h2
  have HE := (show Hid (0 < w.heap.size) from h1)
  have ok1 : okR 1 [97] := ⟨by decide, by simp, by decide⟩
  have ok2 : okR 2 [98] := ⟨by decide, by simp, by decide⟩
  have HOk := (show Hid (okR 1 [97] ∧ okR 2 [98] ∧ nxK ((32 - 2) * 64) (anD 64 (wtN 16 32 64 0) 1 [97]) [98] 1 = 2) from ⟨ok1, ok2, by
    unfold nxK fitB
    rw [anD_length (by decide) (wtN_length _ _ _ _)]
    rfl⟩)
  have q0 := rcf0
  have q1 := rcf1
  clear hG hT h1 h2 ok1 ok2
  go_enter Tryz.func8, Tryz.ntmps8
  go_wp2_with (first
    | (go_at_call 6; refine kF.mono ?_; rintro e w1 ⟨m, c, P, rfl, hn⟩; clear kF; have hz := Mz.new hn HE.out (by decide); obtain ⟨mp, hmp⟩ : ∃ mp, mp = m.p := ⟨_, rfl⟩; rw [← hmp] at hz; rw [← hmp]; have HZ := (show Hid (Mz w.heap.size w w1 16 32 64 0 mp 1) from hz); clear hn hz hmp)
    | (go_at_call 12; refine (mz_create HZ.out (by decide) 1 [97] HOk.out.1).mono ?_; rintro e w2 ⟨xp, rfl, hm2, hx2, hb2, _, _⟩; have HM2 := (show Hid (Mr w.heap.size w w2 16 32 64 0 mp (1 + 130) (anD 64 (wtN 16 32 64 0) 1 [97]) 1 [97] 1 ∧ XAt w2 xp mp 1 (bstr [97]) 1 ∧ w.heap.size ≤ xp) from ⟨hm2, hx2, hb2⟩); clear hm2 hx2 hb2)
    | (go_at_call 15; refine (mr_save HM2.out.1 HM2.out.2.1 HM2.out.2.2 (by decide) (by decide) 2 [98] HOk.out.2.1).mono ?_; rintro e w3 ⟨rfl, hm3, hx3, _⟩; rw [HOk.out.2.2] at hm3; have HM3 := (show Hid (Mr w.heap.size w w3 16 32 64 0 mp (1 + 130 + 130) _ 2 [98] 2) from hm3); clear hm3 hx3)
    | (go_at_call 11; refine (mr_open HM3.out).mono ?_; rintro e w4 ⟨yp, rfl, hm4, hx4, _, _, _⟩; have HM4 := (show Hid (Mr w.heap.size w w4 16 32 64 0 mp (1 + 130 + 130) _ 2 [98] 2) from hm4); have HX4 := (show Hid (∀ X, Below w4.heap.size w4 X → XAt X yp mp 2 ⟨#[98]⟩ 2) from fun X hb => Row.later hx4 hb); have hb4 := Below.refl w4.heap.size w4; clear hm4 hx4)
    | (go_at_call 17; refine (record_at (HX4.out _ hb4)).mono ?_; rintro e w5 ⟨rfl, hb5⟩; replace hb4 := Below.after hb4 hb5; clear hb5)
    | (go_at_call 18; refine (saves_any (HX4.out _ hb4)).mono ?_; rintro e w6 ⟨rfl, rfl⟩))
  go_ret
  exact ⟨rfl, (HM4.out.later hb4).bl⟩
end Go.Proofs.YtkfecngkdlajgaaGreatDoor
