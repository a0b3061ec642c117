/-
  The example that must come at any rate: the elder manager's logical blocks, Unmap, two pages alike.
  The example that must come at any rate.
  What comes in, as the walks are told of it.
  A logical block takes as many pages as it has: what the walk of EbmFull needs besides.
-/
import Derived.Test.YtfcmkkkdccnhgaaGreatDoorKQ
import Derived.Test.YtfcmkkkdccnhgaaGreatDoorGI
import Derived.ProofKit
import Derived.OpenShut
import Derived.ShutString
import Derived.ChangeOld
import Derived.SizedLaws
namespace Go.Proofs.YtfcmkkkdccnhgaaGreatDoor
open Go.RowKit
set_option maxRecDepth 10000

/-- A manager's first cell, its chip; nothing that S says is written is that box. -/
structure MOwn (S : Nat → Prop) (w : World) (p q : Nat) : Prop where
  cell : w.cell? ⟨p, 0, none⟩ = some (.pointer (some ⟨q, 0, none⟩))
  no : ¬ S p
theorem MOwn.kept {S : Nat → Prop} {w w' : World} {p q : Nat} (h : MOwn S w p q) (hk : Kept S w w') : MOwn S w' p q := ⟨cell_kept hk h.no h.cell, h.no⟩
theorem own_fresh {base : Nat} {w w' : World} {m m' : Mg} {c : CS} (h : MLies base w m c) (hk : Kept c.foot w w') (hp : w.heap.size ≤ m'.p) (hb : w.heap.size ≤ m'.bb) : MOwn (MFoot m' c) w' m.p c.p := by
  have hn := h.chip.apart h.box (by decide) (by decide) (by decide)
  have hlt := h.box.lt
  refine ⟨cell_kept hk hn h.cells.1, ?_⟩
  rintro (e | e | e)
  · omega
  · omega
  · exact hn e
theorem mchip_at {w : World} {p q : Nat} (c0 : w.cell? ⟨p, 0, none⟩ = some (.pointer (some ⟨q, 0, none⟩))) :
    Calls Tryz.prog 37 #[.pointer (some ⟨p, 0, none⟩)] w fun e w' => e = .returned (.pointer (some ⟨q, 0, none⟩)) ∧ w = w' := by
  go_enter Tryz.func37, Tryz.ntmps37
  go_wp2
  go_ret
  exact ⟨rfl, rfl⟩
theorem mlebs_at {base : Nat} {w : World} {p : Nat} {c : CS} (c0 : w.cell? ⟨p, 0, none⟩ = some (.pointer (some ⟨c.p, 0, none⟩))) (h : Lies base w c) :
    Calls Tryz.prog 25 #[.pointer (some ⟨p, 0, none⟩)] w fun e w' => e = .returned (.int .i64 (lebsI c.gb c.gp c.gz c.gr)) ∧ Below w.heap.size w w' := by
  have k1 := mchip_at c0
  have k2 := geometry_any h
  have k3 := fun W => lebs_any (c.gb : Nat) (c.gp : Nat) (c.gz : Nat) (c.gr : Nat) W
  clear h c0
  go_enter Tryz.func25, Tryz.ntmps25
  go_wp2_with (first
    | (go_at_call 37; refine k1.mono ?_; rintro e w1 ⟨rfl, rfl⟩)
    | (go_at_call 59; refine k2.mono ?_; rintro e w1 ⟨rfl, hb⟩)
    | (go_at_call 58; refine (k3 _).mono ?_; rintro e w2 ⟨rfl, hb2⟩))
  go_ret
  exact ⟨rfl, Below.after hb hb2⟩
theorem al_unmap {base t : Nat} {w0 : World} {gz : Nat} {W : World} {m : Mg} {c : CS} {P : List (List (List Nat))} {f : Int → Option (List (List Nat))} (h : Al base t w0 gz W m c P f) (hg : (c.gr : Int) + 2 < c.gb) (ht : t < 1000) :
    Calls Tryz.prog 24 #[.pointer (some ⟨m.p, 0, none⟩), .int .i64 0] W fun e w' => e = .returned (.int .i64 0) ∧ ∃ m' c' P', Al base (t + 1) w0 gz w' m' c' P' (fun l => if l = 0 then none else f l) ∧ Gm c c' ∧ m'.p = m.p ∧ MFoot m' c' = MFoot m c ∧ Kept (MFoot m c) W w' := by
  refine (unmap_go h.ms 0 (by omega) (by omega) (by omega)).mono ?_
  rintro e w' ⟨rfl, hd⟩
  obtain ⟨m', c', P', h1, h2, h3, h4, h5⟩ := h.done hd
  refine ⟨rfl, m', c', P', ⟨h1.ms, h1.gl, fun l => ?_, h1.kp, h1.hb, h1.z⟩, h2, h3, h4, h5⟩
  rw [h1.fn l]
  show (if l = 0 then none else cont m.bl P l) = _
  rw [h.fn l]
theorem same_dt {S : Nat → Prop} {w : World} {a b : Option Addr} {gz x : Nat} {c1 c2 : Nat} (ha : Dt S w a (fillP gz [x])) (hb : Dt S w b (fillP gz [x])) (hz : gz = 128) :
    Calls Tryz.prog 23 #[.slice a 128 c1, .slice b 128 c2] w fun e w' => e = .returned (.bool true) ∧ w = w' := by
  have := same_any a c1 _ b c2 _ w ha.lt hb.lt ha.brow hb.brow
  rw [decide_eq_true rfl, fillP_length (by simp; omega), hz] at this
  exact this
end Go.Proofs.YtfcmkkkdccnhgaaGreatDoor
namespace Go.Proofs.YtfcmkkkdccnhgaaGreatDoor
open Go.RowKit
set_option maxRecDepth 10000

set_option maxHeartbeats 8000000 in
theorem alive_any (w : World) (hg : Hd.Glb w) (ht : Typed w) : Calls Tryz.prog 5 #[] w fun e w' => e = .returned (.bool true) ∧ Below w.heap.size w w' := by
  have M1 : Hid True := trivial
  have M2 : Hid True := trivial
  have M3 : Hid True := trivial
  have M4 : Hid True := trivial
  have HGe : Hid (∀ {c0 c : CS} {X : World} {b : Nat} {X2 : World}, (Lies b X c0 ∧ Fresh c0 ∧ c0.gb = 16 ∧ c0.gp = 16 ∧ c0.gz = 128 ∧ c0.gr = 2 ∧ Below X2.heap.size X2 X) → Gm c0 c → (c.gr : Int) + 2 < c.gb ∧ 2 + (((fun _ => none : Int → Option (List (List Nat))) 0).getD []).length < c.gp) := fun h g => by
    obtain ⟨_, _, h1, h2, h3, h4, _⟩ := h
    rw [g.gr, g.gb, g.gp, h1, h2, h4]
    exact ⟨by decide, by decide⟩
  have HGe2 : Hid (∀ {c0 c : CS} {X : World} {b : Nat} {X2 : World}, (Lies b X c0 ∧ Fresh c0 ∧ c0.gb = 16 ∧ c0.gp = 16 ∧ c0.gz = 128 ∧ c0.gr = 2 ∧ Below X2.heap.size X2 X) → Gm c0 c → 2 + (((fun l => if l = 0 then some ([] ++ [fillP c0.gz [97]]) else none : Int → Option (List (List Nat))) 0).getD []).length < c.gp) := fun h g => by
    obtain ⟨_, _, h1, h2, h3, h4, _⟩ := h
    rw [g.gp, h2]
    simp
  have HG : Hid (Hd.Glb w ∧ Typed w) := ⟨hg, ht⟩
  clear hg ht
  have hc : ∀ (x : Nat) (W : World), (convert 36 36 (.slice (some ⟨W.heap.size, 0, none⟩) 1 1)).run Tryz.prog (W.alloc (.cells #[.int .u8 (x : Int)] 5)) = .ok (.slice (some ⟨W.heap.size, 0, none⟩) 1 1) (W.alloc (.cells #[.int .u8 (x : Int)] 5 (1, 2))) := fun x W => Lib.run_convert_bytes_const W 36 5 #[.int .u8 (x : Int)] 1 1 Tryz.underlying36 Tryz.underlying5
  have hc97 := fun W => hc 97 W
  have hc98 := fun W => hc 98 W
  have hc99 := fun W => hc 99 W
  clear hc
  simp only [show ((97 : Nat) : Int) = 97 from rfl, show ((98 : Nat) : Int) = 98 from rfl, show ((99 : Nat) : Int) = 99 from rfl] at hc97 hc98 hc99
  go_enter Tryz.func5, Tryz.ntmps5
  go_wp2_with (first
    | (go_at_call 18; refine (small_any _).mono ?_; rintro e w1 ⟨rfl, hb1⟩; have HB1 : Hid (Below w.heap.size w w1) := hb1; clear hb1)
    | (go_at_call 6; refine (new_chip 16 16 128 2 w1 (by decide +kernel)).mono ?_; rintro e w2 ⟨c0, rfl, hl2, hf2, g1, g2, g3, g4, hb2⟩; have HC0 : Hid (Lies w1.heap.size w2 c0 ∧ Fresh c0 ∧ c0.gb = 16 ∧ c0.gp = 16 ∧ c0.gz = 128 ∧ c0.gr = 2 ∧ Below w1.heap.size w1 w2) := ⟨hl2, hf2, g1, g2, g3, g4, hb2⟩; have kF := format_al (w0 := w1) hl2 hf2 ((HG.out.1.later HB1.out).later hb2) (Nat.lt_of_lt_of_le HG.out.1.lt HB1.out.size) ((HG.out.2.later HB1.out).later hb2) (Nat.lt_of_lt_of_le HG.out.2.pos HB1.out.size) (.of_below hb2); clear hl2 hf2 g1 g2 g3 g4 hb2)
    | (go_at_call 7; refine kF.mono ?_; rintro e w3 ⟨m0, c1, P1, rfl, ha3, hgm3, _⟩; have HA3 : Hid (Al w1.heap.size 1 w1 c0.gz w3 m0 c1 P1 (fun _ => none) ∧ Gm c0 c1) := ⟨ha3, hgm3⟩; clear kF ha3 hgm3)
    | (go_at_call 19; clear M1; refine (al_write HA3.out.1 97 (by decide) (HGe.out HC0.out HA3.out.2).1 (HGe.out HC0.out HA3.out.2).2 (by decide)).mono ?_; rintro e w4 ⟨rfl, m4, c4, P4, ha4, hg4, hp4, _, _⟩; have HA4 : Hid (Al w1.heap.size 2 w1 c0.gz w4 m4 c4 P4 (fun l => if l = 0 then some ([] ++ [fillP c0.gz [97]]) else none) ∧ Gm c0 c4 ∧ m4.p = m0.p) := ⟨ha4, HA3.out.2.trans hg4, hp4⟩; clear ha4 hg4 hp4)
    | (go_at_call 19; have kW := al_write HA4.out.1 98 (by decide) (HGe.out HC0.out HA4.out.2.1).1 (HGe2.out HC0.out HA4.out.2.1) (by decide); rw [HA4.out.2.2] at kW; refine kW.mono ?_; rintro e w5 ⟨rfl, m5, c5, P5, ha5, hg5, hp5, _, _⟩; have HA5 : Hid (Al w1.heap.size 3 w1 c0.gz w5 m5 c5 P5 (fun l => if l = 0 then some ([fillP c0.gz [97]] ++ [fillP c0.gz [98]]) else if l = 0 then some ([] ++ [fillP c0.gz [97]]) else none) ∧ Gm c0 c5 ∧ m5.p = m0.p ∧ c5.gz = 128 ∧ c5.gz = c0.gz) := ⟨ha5, HA4.out.2.1.trans hg5, hp5, (HA4.out.2.1.trans hg5).gz.trans HC0.out.2.2.2.2.1, (HA4.out.2.1.trans hg5).gz⟩; clear ha5 hg5 hp5 kW)
    | (go_at_call 20; clear M2; have kR := al_read HA5.out.1 1 (HGe.out HC0.out HA5.out.2.1).1 [fillP c0.gz [97], fillP c0.gz [98]] rfl (fillP c0.gz [98]) rfl; rw [HA5.out.2.2.1] at kR; refine kR.mono ?_; rintro e w6 ⟨a6, n6, k6, rfl, hr6, ha6⟩; rw [← HA5.out.2.2.2.2] at hr6; obtain ⟨rfl, b6, o6, rfl, hd6, _⟩ := rd_open hr6 HA5.out.1.ms.ml (by decide) HA5.out.2.2.2.1; have HA6 : Hid (Al w1.heap.size 3 w1 c0.gz w6 m5 c5 P5 (fun l => if l = 0 then some ([fillP c0.gz [97]] ++ [fillP c0.gz [98]]) else if l = 0 then some ([] ++ [fillP c0.gz [97]]) else none) ∧ Dt (MFoot m5 c5) w6 (some ⟨b6, o6, none⟩) (fillP c5.gz [98])) := ⟨ha6, hd6⟩; have kU := used_go ha6.ms 0; rw [HA5.out.2.2.1, ha6.fn 0] at kU; clear hr6 ha6 kR hd6)
    | (go_at_call 21; clear M3; refine kU.mono ?_; rintro e w7 ⟨rfl, hb7⟩; have HA7 : Hid (Al w1.heap.size 3 w1 c0.gz w7 m5 c5 P5 (fun l => if l = 0 then some ([fillP c0.gz [97]] ++ [fillP c0.gz [98]]) else if l = 0 then some ([] ++ [fillP c0.gz [97]]) else none) ∧ Dt (MFoot m5 c5) w7 (some ⟨b6, o6, none⟩) (fillP c5.gz [98])) := ⟨HA6.out.1.later hb7, HA6.out.2.kept (.of_below hb7)⟩; clear hb7 kU)
    | (go_at_call 22; have kC := al_change HA7.out.1 99 (by decide) (HGe.out HC0.out HA5.out.2.1).1 (by decide); rw [HA5.out.2.2.1] at kC; refine kC.mono ?_; rintro e w8 ⟨rfl, m8, c8, P8, ha8, hg8, hp8, hm8, hk8⟩; have HA8 : Hid (Al w1.heap.size 4 w1 c0.gz w8 m8 c8 P8 (fun l => if l = 0 then some [fillP c0.gz [99]] else if l = 0 then some ([fillP c0.gz [97]] ++ [fillP c0.gz [98]]) else if l = 0 then some ([] ++ [fillP c0.gz [97]]) else none) ∧ Gm c0 c8 ∧ m8.p = m0.p ∧ Dt (MFoot m8 c8) w8 (some ⟨b6, o6, none⟩) (fillP c5.gz [98]) ∧ c8.gz = 128 ∧ c8.gz = c0.gz) := ⟨ha8, HA5.out.2.1.trans hg8, hp8, by rw [hm8]; exact HA7.out.2.kept hk8, (HA5.out.2.1.trans hg8).gz.trans HC0.out.2.2.2.2.1, (HA5.out.2.1.trans hg8).gz⟩; clear ha8 hg8 hp8 kC hm8 hk8)
    | (go_at_call 20; clear M4; have kR := al_read HA8.out.1 0 (HGe.out HC0.out HA8.out.2.1).1 [fillP c0.gz [99]] rfl (fillP c0.gz [99]) rfl; rw [HA8.out.2.2.1] at kR; refine kR.mono ?_; rintro e w9 ⟨a9, n9, k9, rfl, hr9, ha9⟩; rw [← HA8.out.2.2.2.2.2] at hr9; obtain ⟨rfl, b9, o9, rfl, hd9, _⟩ := rd_open hr9 HA8.out.1.ms.ml (by decide) HA8.out.2.2.2.2.1; have HA9 : Hid (Al w1.heap.size 4 w1 c0.gz w9 m8 c8 P8 (fun l => if l = 0 then some [fillP c0.gz [99]] else if l = 0 then some ([fillP c0.gz [97]] ++ [fillP c0.gz [98]]) else if l = 0 then some ([] ++ [fillP c0.gz [97]]) else none) ∧ Dt (MFoot m8 c8) w9 (some ⟨b6, o6, none⟩) (fillP c5.gz [98]) ∧ Dt (MFoot m8 c8) w9 (some ⟨b9, o9, none⟩) (fillP c8.gz [99])) := ⟨ha9, HA8.out.2.2.2.1.kept (kp_mp hr9.kp), hd9⟩; have kT := al_attach ha9; rw [HA8.out.2.1.p] at kT; clear hr9 ha9 kR hd9)
    | (go_at_call 11; refine kT.mono ?_; rintro e w10 ⟨m10, rfl, ha10, hk10, hp10, hb10⟩; have HA10 : Hid (Al w1.heap.size 4 w1 c0.gz w10 m10 c8 P8 (fun l => if l = 0 then some [fillP c0.gz [99]] else if l = 0 then some ([fillP c0.gz [97]] ++ [fillP c0.gz [98]]) else if l = 0 then some ([] ++ [fillP c0.gz [97]]) else none) ∧ Dt (MFoot m10 c8) w10 (some ⟨b6, o6, none⟩) (fillP c5.gz [98]) ∧ Dt (MFoot m10 c8) w10 (some ⟨b9, o9, none⟩) (fillP c8.gz [99])) := ⟨ha10, dt_fresh HA9.out.2.1 hk10 hp10 hb10, dt_fresh HA9.out.2.2 hk10 hp10 hb10⟩; have HO10 : Hid (MOwn (MFoot m10 c8) w10 m0.p c8.p) := (by have := own_fresh HA9.out.1.ms.ml hk10 hp10 hb10; rw [HA8.out.2.2.1] at this; exact this); have kR := al_read ha10 0 (HGe.out HC0.out HA8.out.2.1).1 [fillP c0.gz [99]] rfl (fillP c0.gz [99]) rfl; clear ha10 hk10 hp10 hb10 kT)
    | (go_at_call 20; refine kR.mono ?_; rintro e w11 ⟨a11, n11, k11, rfl, hr11, ha11⟩; rw [← HA8.out.2.2.2.2.2] at hr11; obtain ⟨rfl, b11, o11, rfl, hd11, _⟩ := rd_open hr11 HA10.out.1.ms.ml (by decide) HA8.out.2.2.2.2.1; have hp11 := HA10.out.2.1.kept (kp_mp hr11.kp); have hq11 := HA10.out.2.2.kept (kp_mp hr11.kp); have HA11 : Hid (Al w1.heap.size 4 w1 c0.gz w11 m10 c8 P8 (fun l => if l = 0 then some [fillP c0.gz [99]] else if l = 0 then some ([fillP c0.gz [97]] ++ [fillP c0.gz [98]]) else if l = 0 then some ([] ++ [fillP c0.gz [97]]) else none) ∧ Dt (MFoot m10 c8) w11 (some ⟨b6, o6, none⟩) (fillP c5.gz [98]) ∧ Dt (MFoot m10 c8) w11 (some ⟨b9, o9, none⟩) (fillP c8.gz [99]) ∧ Dt (MFoot m10 c8) w11 (some ⟨b11, o11, none⟩) (fillP c8.gz [99])) := ⟨ha11, hp11, hq11, hd11⟩; have HO11 : Hid (MOwn (MFoot m10 c8) w11 m0.p c8.p) := HO10.out.kept (kp_mp hr11.kp); have x6 := dt_cell hp11 HA5.out.2.2.2.1; have x9 := dt_cell hq11 HA8.out.2.2.2.2.1; clear hr11 ha11 kR hd11 hp11 hq11)
    | (go_at_call 23; (first | refine (same_dt HA11.out.2.2.1 HA11.out.2.2.2 HA8.out.2.2.2.2.1).mono ?_ | refine (same_dt HA11.out.2.2.2 HA11.out.2.2.1 HA8.out.2.2.2.2.1).mono ?_); rintro e w12 ⟨rfl, rfl⟩)
    | (go_at_call 24; refine (al_unmap HA11.out.1 (HGe.out HC0.out HA8.out.2.1).1 (by decide)).mono ?_; rintro e w13 ⟨rfl, m13, c13, P13, ha13, hg13, hp13, _, hk13⟩; have HA13 : Hid (Al w1.heap.size 5 w1 c0.gz w13 m13 c13 P13 (fun l => if l = 0 then none else (fun l => if l = 0 then some [fillP c0.gz [99]] else if l = 0 then some ([fillP c0.gz [97]] ++ [fillP c0.gz [98]]) else if l = 0 then some ([] ++ [fillP c0.gz [97]]) else none) l) ∧ w13.cell? ⟨m0.p, 0, none⟩ = some (.pointer (some ⟨c13.p, 0, none⟩)) ∧ lebsI c13.gb c13.gp c13.gz c13.gr = 12) := ⟨ha13, by rw [hg13.p]; exact (HO11.out.kept hk13).cell, by rw [ha13.ms.lebs, hg13.gb, hg13.gr, HA8.out.2.1.gb, HA8.out.2.1.gr, HC0.out.2.2.1, HC0.out.2.2.2.2.2.1]; decide⟩; have kU := used_go ha13.ms 0; rw [hp13, ha13.fn 0] at kU; clear ha13 hg13 hp13 hk13)
    | (go_at_call 21; refine kU.mono ?_; rintro e w14 ⟨rfl, hb14⟩; have HA14 : Hid (Below w1.heap.size w1 w14) := (HA13.out.1.later hb14).below (Nat.le_refl _); have kL := mlebs_at (cell_kept (Kept.of_below (S := fun _ => False) hb14) id HA13.out.2.1) (HA13.out.1.ms.ml.chip.later hb14); rw [HA13.out.2.2] at kL; clear hb14 kU)
    | (go_at_call 25; refine kL.mono ?_; rintro e w15 ⟨rfl, hb15⟩))
  go_ret
  exact ⟨rfl, Below.after (Below.after HB1.out HA14.out) hb15⟩
end Go.Proofs.YtfcmkkkdccnhgaaGreatDoor
namespace Go.Proofs.YtfcmkkkdccnhgaaGreatDoor
open Go.ChangeShapes Go.WideShapes Go.ChangeAt Go.RowKit

theorem own : ownKnob Tryz.prog.godebug = none := by kernel_rfl
theorem laidOut : laidOutB Tryz.prog = true := by kernel_rfl
theorem bytes8 : Tryz.prog.bytesOf 5 = 1 := by kernel_rfl
/-- The slice's elements are the bytes l; a nil one has none. -/
structure BArg (w : World) (a : Option Addr) (len cap : Nat) (l : List Nat) : Prop where
  len_eq : len = l.length
  le : len ≤ cap
  max : cap ≤ maxLen
  lt : ∀ x ∈ l, x < 256
  row : BRow w a l
  nil : a = none → len = 0 ∧ cap = 0

theorem toNats (zs : List Int) (hwz : ∀ n ∈ zs, (Lit.int .u8 n).wf = true) (i : Nat) (hi : i < zs.length) : (((zs.map Int.toNat).getD i 0 : Nat) : Int) = zs.getD i 0 := by
  have hb := bounds_u8 (hwz zs[i] (List.getElem_mem hi))
  simp [List.getD, hi]
  omega

theorem barg_mk {w : World} {x : Addr} {len cap : Nat} {zs : List Int} (hl : len ≤ cap) (hm : cap ≤ maxLen) (hz : zs.length = cap)
    (hcell : ∀ i, i < zs.length → w.cell? (x.add i) = some (.int .u8 (zs.getD i 0))) (hwz : ∀ n ∈ zs, (Lit.int .u8 n).wf = true) :
    BArg w (some x) len cap ((zs.take len).map Int.toNat) where
  len_eq := by simp; omega
  le := hl
  max := hm
  lt := by
    intro y hy
    simp only [List.mem_map] at hy
    obtain ⟨z, hz1, rfl⟩ := hy
    have := bounds_u8 (hwz z (List.mem_of_mem_take hz1))
    omega
  row := by
    by_cases h0 : len = 0
    · exact .inl (by simp [h0])
    · obtain ⟨b, off, spot⟩ := x
      have hc := hcell 0 (by omega)
      have hspot : spot = none := by simpa [Addr.add] using World.cell?_spot hc
      subst hspot
      refine .inr ⟨b, off, rfl, fun i hi => ?_⟩
      have hil : i < len := by simp at hi; omega
      have h1 := hcell i (by omega)
      have e : (⟨b, off, none⟩ : Addr).add i = ⟨b, off + i, none⟩ := by unfold Addr.add; split <;> simp_all
      rw [e] at h1
      rw [h1, toNats (zs.take len) (fun n hn => hwz n (List.mem_of_mem_take hn)) i (by simp; omega)]
      simp [List.getD, hil]
  nil := by intro h; cases h

theorem barg_open_sized {H : Type} {enc : TypeId × Value → H} {w : World} {a : Option Addr} {len cap fuel : Nat} {d : DataW H} {p : List MemPlace}
    (hf : DataW.trod enc Tryz.prog w 0 (fun _ => true) true fuel 36 (Value.slice a len cap).cells.toList = some (d, p)) :
    ∃ l, BArg w a len cap l ∧ (cap = 0 ∨ ∃ elems spare, d = .slice elems spare ∧ elems.length + spare.length = cap) := by
  rcases open_ints Tryz.underlying36 Tryz.underlying5 (by kernel_rfl) hf with ⟨hcs, _⟩ | ⟨x, l, c, zs, hcs, _, hl, hm, hz, hx, hcell, hwz⟩
  · simp [Value.cells] at hcs
    obtain ⟨rfl, rfl, rfl⟩ := hcs
    exact ⟨[], ⟨rfl, Nat.le_refl _, by decide, by simp, .inl rfl, fun _ => ⟨rfl, rfl⟩⟩, .inl rfl⟩
  · simp [Value.cells] at hcs
    obtain ⟨rfl, rfl, rfl⟩ := hcs
    have hz' : zs.length = cap := by simpa using hz
    refine ⟨_, barg_mk hl hm hz' hcell hwz, .inr ⟨_, _, (Prod.mk.inj hx).1, ?_⟩⟩
    simp [lits]
    omega
theorem barg_open {H : Type} {enc : TypeId × Value → H} {w : World} {a : Option Addr} {len cap fuel : Nat} {d : DataW H} {p : List MemPlace}
    (hf : DataW.trod enc Tryz.prog w 0 (fun _ => true) true fuel 36 (Value.slice a len cap).cells.toList = some (d, p)) :
    ∃ l, BArg w a len cap l := by
  obtain ⟨l, h, _⟩ := barg_open_sized hf
  exact ⟨l, h⟩
end Go.Proofs.YtfcmkkkdccnhgaaGreatDoor
namespace Go.Proofs.YtfcmkkkdccnhgaaGreatDoor
open Go.RowKit Go.ChangeShapes Go.WideShapes Go.ChangeAt
set_option maxRecDepth 10000

set_option maxRecDepth 100000 in
theorem garg_open {H : Type} {enc : TypeId × Value → H} {w : World} {cs : Array Value} {fuel : Nat} {x : DataW H × List MemPlace} (hsz : cs.size = Tryz.prog.cellsOf 23)
    (hf : DataW.trod enc Tryz.prog w 0 (fun _ => true) true fuel 23 (Value.agg cs).cells.toList = some x) : ∃ b p z r, cs = #[.int .i64 b, .int .i64 p, .int .i64 z, .int .i64 r] := by
  rw [show Tryz.prog.cellsOf 23 = 4 by kernel_rfl] at hsz
  obtain ⟨xs, k, hk, hxy, _, hxl, hff⟩ := DataW.trod_struct Tryz.underlying23 hf
  obtain ⟨v0, v1, v2, v3, rfl⟩ : ∃ v0 v1 v2 v3, cs = #[v0, v1, v2, v3] := by
    obtain ⟨l⟩ := cs
    match l, hsz with
    | [v0, v1, v2, v3], _ => exact ⟨v0, v1, v2, v3, rfl⟩
  match xs, hxl with
  | [y0, y1, y2, y3], _ =>
    have g0 := hff 0 _ rfl
    have g1 := hff 1 _ rfl
    have g2 := hff 2 _ rfl
    have g3 := hff 3 _ rfl
    have ci : Tryz.prog.cellsOf 3 = 1 := by kernel_rfl
    simp [ci, Value.cells] at g0 g1 g2 g3
    obtain ⟨z0, e0, _, _⟩ := DataW.trod_int Tryz.underlying3 g0
    obtain ⟨z1, e1, _, _⟩ := DataW.trod_int Tryz.underlying3 g1
    obtain ⟨z2, e2, _, _⟩ := DataW.trod_int Tryz.underlying3 g2
    obtain ⟨z3, e3, _, _⟩ := DataW.trod_int Tryz.underlying3 g3
    simp at e0 e1 e2 e3
    exact ⟨z0, z1, z2, z3, by rw [e0, e1, e2, e3]⟩
theorem right_nums {b p z r : Int} (h : rightB b p z r = true) : ∃ gb gp gz gr : Nat, b = gb ∧ p = gp ∧ z = gz ∧ r = gr ∧ 1 ≤ gb ∧ gb ≤ 256 ∧ 1 ≤ gp ∧ gp ≤ 64 ∧ 1 ≤ gz ∧ gz ≤ 512 := by
  unfold rightB at h
  simp only [Bool.and_eq_true, decide_eq_true_eq] at h
  obtain ⟨h1, h2, _, h3, _, _, h4⟩ := h
  exact ⟨b.toNat, p.toNat, z.toNat, r.toNat, by omega, by omega, by omega, by omega, by omega, by omega, by omega, by omega, by omega, by omega⟩
theorem plan_nil : (0 : Nat) ≤ 256 ∧ planOk [] := ⟨by decide, by simp [planOk]⟩
theorem new_c0 (b p z r : Int) (W : World) (h : rightB b p z r = false) :
    Calls Tryz.prog 6 #[.agg #[.int .i64 b, .int .i64 p, .int .i64 z, .int .i64 r], .slice none 0 0] W fun e w' => e = .returned (.tuple #[.pointer none, .int .i64 22]) ∧ Below W.heap.size W w' :=
  new_shape b p z r none 0 0 [] W rfl (.inl rfl) plan_nil h
set_option maxHeartbeats 1000000 in
theorem mwrite_no {base : Nat} {w : World} {m : Mg} {c : CS} (h : MLies base w m c) (leb : Int) (a : Option Addr) (n dc : Nat) (hh : hasB c leb = false) :
    Calls Tryz.prog 19 #[.pointer (some ⟨m.p, 0, none⟩), .int .i64 leb, .slice a n dc] w fun e w' => e = .returned (.int .i64 22) ∧ Below w.heap.size w w' := by
  obtain ⟨W3, hW3, hb3, r0, r1, r2⟩ := box3 w (.pointer (some ⟨m.p, 0, none⟩)) (.int .i64 leb) (.slice a n dc) 33 3 36
  have HM : Hid (∀ X, Below w.heap.size w X → MLies base X m c) := fun X hb => h.later hb
  have HB3 : Hid (Below w.heap.size w W3 ∧ Row W3 w.heap.size [.pointer (some ⟨m.p, 0, none⟩)] 33 ∧ Row W3 (w.heap.size + 1) [.int .i64 leb] 3 ∧ Row W3 (w.heap.size + 1 + 1) [.slice a n dc] 36) := ⟨hb3, r0, r1, r2⟩
  have p0 : W3.cell? ⟨w.heap.size, 0, none⟩ = some (.pointer (some ⟨m.p, 0, none⟩)) := r0.cell (i := 0) rfl
  have ne := Wd.non W3
  have z0 : ∀ p : Wd W3, p.v.cell? ⟨w.heap.size, 0, none⟩ = some (.pointer (some ⟨m.p, 0, none⟩)) := fun p => (HB3.out.2.1.later p.h).cell (i := 0) rfl
  have z1 : ∀ p : Wd W3, p.v.cell? ⟨w.heap.size + 1, 0, none⟩ = some (.int .i64 leb) := fun p => (HB3.out.2.2.1.later p.h).cell (i := 0) rfl
  have z2 : ∀ p : Wd W3, p.v.cell? ⟨w.heap.size + 1 + 1, 0, none⟩ = some (.slice a n dc) := fun p => (HB3.out.2.2.2.later p.h).cell (i := 0) rfl
  have cH := fun p : Wd W3 => quiet_call p (by have := mhas_any (HM.out p.v (Below.after hb3 p.h)) leb; rw [hh] at this; exact this)
  clear h hh hb3 r0 r1 r2
  go_enter Tryz.func19, Tryz.ntmps19
  go_wp2_with fail
  rw [← hW3]
  clear hW3
  refine quiet_below (by kernel_rfl) ?_
  repeat (first | go_big_quiet_skip | go_big_quiet_step (first
    | (go_at_call 44; exact cH _)))
  refine wpQuiet_nil ?_
  rintro _ ⟨p4, rfl⟩
  obtain ⟨w4, hw4⟩ : ∃ W, W = p4.v := ⟨_, rfl⟩
  have HB4 : Hid (Below w.heap.size w w4) := by rw [hw4]; exact Below.after HB3.out.1 p4.h
  rw [← hw4]
  clear hw4
  clear p4
  go_wp2
  go_ret
  exact ⟨rfl, HB4.out⟩
theorem dt_arg {base : Nat} {w W : World} {m : Mg} {c : CS} {a : Option Addr} {l : List Nat} (hl : ∀ x ∈ l, x < 256) (hr : BRow w a l) (hb : w.heap.size ≤ base) (hk : Kept (fun k => base ≤ k) w W) (h : MLies base W m c) : Dt (MFoot m c) W a l := by
  refine ⟨hl, ?_⟩
  rcases hr with e | ⟨b, off, e, hc⟩
  · exact .inl e
  · by_cases hd : l = []
    · exact .inl hd
    · have hlt : b < w.heap.size := World.block_lt_of_cell? w _ (hc 0 (List.length_pos_iff.2 hd))
      exact .inr ⟨b, off, e, fun hf => (by have := h.foot_ge _ hf; omega), fun i hi => cell_kept hk (show ¬ base ≤ b by omega) (hc i hi)⟩
/-- A manager with k pages in one logical block, and none in the others. -/
structure Fu (base k t : Nat) (w0 : World) (leb : Int) (c0 : CS) (w : World) (m : Mg) (c : CS) (P : List (List (List Nat))) (f : Int → Option (List (List Nat))) : Prop where
  al : Al base t w0 c0.gz w m c P f
  gm : Gm c0 c
  num : ((f leb).getD []).length = k
  els : ∀ l, l ≠ leb → f l = none
theorem Fu.later {base k t : Nat} {w0 : World} {leb : Int} {c0 : CS} {w w' : World} {m : Mg} {c : CS} {P : List (List (List Nat))} {f : Int → Option (List (List Nat))} (h : Fu base k t w0 leb c0 w m c P f) (hb : Below w.heap.size w w') : Fu base k t w0 leb c0 w' m c P f := ⟨h.al.later hb, h.gm, h.num, h.els⟩
theorem fu_write {base k t : Nat} {w0 : World} {leb : Int} {c0 : CS} {W : World} {m : Mg} {c : CS} {P : List (List (List Nat))} {f : Int → Option (List (List Nat))} (h : Fu base k t w0 leb c0 W m c P f) (a : Option Addr) (l : List Nat) (dc : Nat) (h0 : 0 ≤ leb) (h1 : leb + c.gr + 2 < c.gb) (hr : BRow w0 a l) (hl : ∀ x ∈ l, x < 256) (hb : w0.heap.size ≤ base) (hz : l.length ≤ c.gz) (hk : 2 + k < c.gp) (ht : t < 1000) :
    Calls Tryz.prog 19 #[.pointer (some ⟨m.p, 0, none⟩), .int .i64 leb, .slice a l.length dc] W fun e w' => e = .returned (.int .i64 0) ∧ ∃ m' c' P' f', Fu base (k + 1) (t + 1) w0 leb c0 w' m' c' P' f' ∧ m'.p = m.p := by
  obtain ⟨n, rfl⟩ : ∃ n : Nat, leb = n := ⟨leb.toNat, by omega⟩
  have hA := h.al
  have hfn := hA.fn n
  have hd := dt_arg hl hr hb hA.kp hA.ms.ml
  refine Calls.mono (write_go hA.ms n dc a l hd h1 hz (by rw [hfn, h.num]; exact hk) (by omega)) ?_
  rintro e w' ⟨rfl, hd⟩
  obtain ⟨m', c', P', q1, q2, q3, q4, q5⟩ := hA.done hd
  refine ⟨rfl, m', c', P', _, ⟨q1, h.gm.trans q2, ?_, fun l hl => ?_⟩, q3⟩
  · simp only [if_true]
    rw [hfn]
    simp [h.num]
  · simp only [if_neg hl]
    rw [hA.fn l]
    exact h.els l hl
theorem fu_full {base k t : Nat} {w0 : World} {leb : Int} {c0 : CS} {W : World} {m : Mg} {c : CS} {P : List (List (List Nat))} {f : Int → Option (List (List Nat))} (h : Fu base k t w0 leb c0 W m c P f) (a : Option Addr) (l : List Nat) (dc : Nat) (h0 : 0 ≤ leb) (h1 : leb + c.gr + 2 < c.gb) (hz : l.length ≤ c.gz) (hk : 2 + k = c.gp) (hk0 : 0 < k) :
    Calls Tryz.prog 19 #[.pointer (some ⟨m.p, 0, none⟩), .int .i64 leb, .slice a l.length dc] W fun e w' => e = .returned (.int .i64 28) ∧ ∃ m' c' P' f', Fu base k t w0 leb c0 w' m' c' P' f' ∧ m'.p = m.p := by
  obtain ⟨n, rfl⟩ : ∃ n : Nat, leb = n := ⟨leb.toNat, by omega⟩
  have hA := h.al
  have hfn := hA.fn n
  have hnum := h.num
  cases hp : f n with
  | none => rw [hp] at hnum; simp at hnum; omega
  | some p =>
    rw [hp] at hnum
    simp only [Option.getD_some] at hnum
    refine Calls.mono (write_full hA.ms n dc a l h1 hz p (by rw [hfn, hp]) (by omega)) ?_
    rintro e w' ⟨rfl, hd⟩
    obtain ⟨m', c', P', q1, q2, q3, q4, q5⟩ := hA.done hd
    refine ⟨rfl, m', c', P', _, ⟨q1, h.gm.trans q2, ?_, fun l hl => ?_⟩, q3⟩
    · rw [hfn]; exact h.num
    · rw [hA.fn l]; exact h.els l hl
theorem fu_used {base k t : Nat} {w0 : World} {leb : Int} {c0 : CS} {W : World} {m : Mg} {c : CS} {P : List (List (List Nat))} {f : Int → Option (List (List Nat))} (h : Fu base k t w0 leb c0 W m c P f) :
    Calls Tryz.prog 21 #[.pointer (some ⟨m.p, 0, none⟩), .int .i64 leb] W fun e w' => e = .returned (.int .i64 (k : Nat)) ∧ Below W.heap.size W w' := by
  have := used_go h.al.ms leb
  rw [h.al.fn leb, h.num] at this
  exact this
theorem Fu.other {base k t : Nat} {w0 : World} {leb : Int} {c0 : CS} {W : World} {m : Mg} {c : CS} {P : List (List (List Nat))} {f : Int → Option (List (List Nat))} (h : Fu base k t w0 leb c0 W m c P f) (o : Int) (ho : o ≠ leb) (a : Option Addr) (l : List Nat) (dc : Nat) (h0 : 0 ≤ o) (h1 : o + c.gr + 2 < c.gb) (hr : BRow w0 a l) (hl : ∀ x ∈ l, x < 256) (hb : w0.heap.size ≤ base) (hz : l.length ≤ c.gz) (ht : t < 1000) :
    Calls Tryz.prog 19 #[.pointer (some ⟨m.p, 0, none⟩), .int .i64 o, .slice a l.length dc] W fun e w' => e = .returned (.int .i64 0) ∧ ∃ m' c' P' f', Al base (t + 1) w0 c0.gz w' m' c' P' f' ∧ m'.p = m.p ∧ ((f' o).getD []).length = 1 := by
  obtain ⟨n, rfl⟩ : ∃ n : Nat, o = n := ⟨o.toNat, by omega⟩
  have hA := h.al
  have hfn := hA.fn n
  have hd := dt_arg hl hr hb hA.kp hA.ms.ml
  have hg := hA.ms.rp.rb.geo
  refine Calls.mono (write_go hA.ms n dc a l hd h1 hz (by rw [hfn, h.els _ ho]; simp; omega) (by omega)) ?_
  rintro e w' ⟨rfl, hd⟩
  obtain ⟨m', c', P', q1, q2, q3, q4, q5⟩ := hA.done hd
  refine ⟨rfl, m', c', P', _, q1, q3, ?_⟩
  simp only [if_true]
  rw [hfn, h.els _ ho]
  rfl
end Go.Proofs.YtfcmkkkdccnhgaaGreatDoor
