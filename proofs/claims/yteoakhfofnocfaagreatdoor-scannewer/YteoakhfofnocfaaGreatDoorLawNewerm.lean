/-
  For all numbers: ScanNewer answers true (of two copies of a logical block the newer one counts, but only if it is whole), and leaves its arguments as they were; given that the package's error variable holds what its initialiser lays (the card ties it). No other condition.
-/
import Derived.Test.YteoakhfofnocfaaGreatDoorGT
import Derived.Test.YteoakhfofnocfaaGreatDoorGS
import Derived.Test.YteoakhfofnocfaaGreatDoorGG
namespace Go.Proofs.YteoakhfofnocfaaGreatDoor.scanNewer
open Go.ChangeShapes Go.WideShapes Go.ChangeAt Go.RowKit
open Hd (laid laidWorld laid_met laid_os glb_of)
set_option maxRecDepth 10000

theorem scan_nine {w W : World} {p old fr pg t : Nat} {c : CS} (hx : Nine p old fr pg t c) (h : Hs w W c) (hg : Hd.Glb w) (ho : old < 18446744073709551616) (hf : fr < 18446744073709551616) (hp : pg ≤ 14) (ht : t ≤ 14) : Calls Tryz.prog 14 #[.pointer (some ⟨p, 0, none⟩)] W (ScanPost W 16 (resN old fr pg t)) := by
  obtain ⟨h1, h2, h3⟩ := hx.scan ho hf hp ht
  have := scan_on h.lies p hx.p h2 (hg.later h.bel)
  rw [h3, h1] at this
  exact this
set_option maxHeartbeats 4000000 in
/-- Numbers that are not asked. -/
theorem early (old fr pages there : Int) (w : World) (hg : Hd.Glb w) (h : pages < 0 ∨ 14 < pages ∨ there < 0 ∨ 14 < there ∨ old = fr) :
    Calls Tryz.prog 6 #[.int .u64 old, .int .u64 fr, .int .i64 pages, .int .i64 there] w fun e w' => e = .returned (.bool true) ∧ Below w.heap.size w w' := by
  have cA := alive_any w hg
  clear hg
  by_cases h1 : pages < 0
  · clear h
    go_enter Tryz.func6, Tryz.ntmps6
    go_wp2_with (go_at_call 11; refine cA.mono ?_; rintro e w' ⟨rfl, hb⟩)
    go_ret
    exact ⟨rfl, hb⟩
  by_cases h2 : 14 < pages
  · clear h
    go_enter Tryz.func6, Tryz.ntmps6
    go_wp2_with (go_at_call 11; refine cA.mono ?_; rintro e w' ⟨rfl, hb⟩)
    go_ret
    exact ⟨rfl, hb⟩
  by_cases h3 : there < 0
  · clear h
    go_enter Tryz.func6, Tryz.ntmps6
    go_wp2_with (go_at_call 11; refine cA.mono ?_; rintro e w' ⟨rfl, hb⟩)
    go_ret
    exact ⟨rfl, hb⟩
  by_cases h4 : 14 < there
  · clear h
    go_enter Tryz.func6, Tryz.ntmps6
    go_wp2_with (go_at_call 11; refine cA.mono ?_; rintro e w' ⟨rfl, hb⟩)
    go_ret
    exact ⟨rfl, hb⟩
  have h5 : (old == fr) = true := by simp; omega
  clear h
  go_enter Tryz.func6, Tryz.ntmps6
  go_wp2_with (go_at_call 11; refine cA.mono ?_; rintro e w' ⟨rfl, hb⟩)
  go_ret
  exact ⟨rfl, hb⟩
set_option maxHeartbeats 8000000 in
theorem main (old fr pg t : Nat) (w : World) (hg : Hd.Glb w) (ho : old < 18446744073709551616) (hf : fr < 18446744073709551616) (hp : pg ≤ 14) (ht : t ≤ 14) (hne : old ≠ fr) :
    Calls Tryz.prog 6 #[.int .u64 (old : Int), .int .u64 (fr : Int), .int .i64 (pg : Int), .int .i64 (t : Int)] w fun e w' => e = .returned (.bool true) ∧ Below w.heap.size w w' := by
  have n1 : ¬ (pg : Int) < 0 := by omega
  have n2 : ¬ (14 : Int) < (pg : Int) := by omega
  have n3 : ¬ (t : Int) < 0 := by omega
  have n4 : ¬ (14 : Int) < (t : Int) := by omega
  have n5 : ((old : Int) == (fr : Int)) = false := by simp; omega
  have M1 : Hid True := trivial
  have M2 : Hid True := trivial
  have M3 : Hid True := trivial
  have M4 : Hid True := trivial
  have HG : Hid (Hd.Glb w) := hg
  have HO : Hid (old < 18446744073709551616) := ho
  have HF : Hid (fr < 18446744073709551616) := hf
  clear hg hne
  go_enter Tryz.func6, Tryz.ntmps6
  go_wp2_with (first
    | (go_at_call 29; refine (small_any _).mono ?_; rintro e w1 ⟨rfl, hb1⟩)
    | (go_at_call 7; refine (new_small' w w1 hb1).mono ?_; rintro e w2 ⟨p, q, rs, rfl, hrs, hl2, hb2⟩; obtain ⟨c1, c2, c3, c4, hex⟩ := exN_small p q old fr pg rs hrs.out; generalize smallC p q rs = c0 at *; have HX : Hid (ExN p old fr pg c0 c1 c2 c3 c4) := hex; have HS2 : Hid (Hs w w2 c0) := ⟨hl2, hb2⟩; clear hb1 hl2 hb2 hex hrs)
    | (go_at_call 30; refine (count5 _ 3 (by decide)).mono ?_; rintro e w3 ⟨a1, k1, rfl, hr1, hk1, hm1, hb3, hf1⟩; have HS3 : Hid (Hs w w3 c0) := HS2.out.later hb3; have HA3 : Hid (Apt w3 c0 a1 (cImg 3)) := apt_fresh HS2.out.lies hr1 (cImg_lt 3) hf1; clear hr1 hf1 hb3)
    | (go_at_call 31; clear M1; refine (map5 _ 5 old 0 (by decide) HO.out (by decide)).mono ?_; rintro e w4 ⟨a2, k2, rfl, hr2, hk2, hm2, hb4, hf2⟩; have HS4 : Hid (Hs w w4 c0) := HS3.out.later hb4; have HA4 : Hid (Apt w4 c0 a1 (cImg 3)) := HA3.out.later hb4; have HM4 : Hid (Apt w4 c0 a2 (mImg 5 old 0)) := apt_fresh HS3.out.lies hr2 (mImg_lt 5 old 0) hf2; clear hr2 hf2 hb4)
    | (go_at_call 31; refine (map5 _ 5 fr pg (by decide) HF.out (by omega)).mono ?_; rintro e w5 ⟨a3, k3, rfl, hr3, hk3, hm3, hb5, hf3⟩; have HS5 : Hid (Hs w w5 c0) := HS4.out.later hb5; have HA5 : Hid (Apt w5 c0 a1 (cImg 3)) := HA4.out.later hb5; have HM5 : Hid (Apt w5 c0 a2 (mImg 5 old 0)) := HM4.out.later hb5; have HN5 : Hid (Apt w5 c0 a3 (mImg 5 fr pg)) := apt_fresh HS4.out.lies hr3 (mImg_lt 5 fr pg) hf3; clear hr3 hf3 hb5)
    | (go_at_call 32; clear M2; go_must (refine (program_at HS5.out.lies p HX.out.p0 2 0 0 a1 128 k1 (cImg 3) (cImg_length 3).symm HA5.out.row HA5.out.lt (.inr HA5.out.apart) HX.out.one).mono ?_); rintro e w6 ⟨rfl, hl, hk, hf⟩; have HS6 : Hid (Hs w w6 c1) := HS5.out.step hl hk; have HA6 : Hid (Apt w6 c1 a1 (cImg 3)) := HA5.out.step hk hf.out; have HM6 : Hid (Apt w6 c1 a2 (mImg 5 old 0)) := HM5.out.step hk hf.out; have HN6 : Hid (Apt w6 c1 a3 (mImg 5 fr pg)) := HN5.out.step hk hf.out; clear hl hk hf)
    | (go_at_call 32; clear M3; go_must (refine (program_at HS6.out.lies p HX.out.p1 2 1 0 a2 128 k2 (mImg 5 old 0) (mImg_length 5 old 0).symm HM6.out.row HM6.out.lt (.inr HM6.out.apart) HX.out.two).mono ?_); rintro e w7 ⟨rfl, hl, hk, hf⟩; have HS7 : Hid (Hs w w7 c2) := HS6.out.step hl hk; have HA7 : Hid (Apt w7 c2 a1 (cImg 3)) := HA6.out.step hk hf.out; have HN7 : Hid (Apt w7 c2 a3 (mImg 5 fr pg)) := HN6.out.step hk hf.out; clear hl hk hf)
    | (go_at_call 32; clear M4; go_must (refine (program_at HS7.out.lies p HX.out.p2 9 0 0 a1 128 k1 (cImg 3) (cImg_length 3).symm HA7.out.row HA7.out.lt (.inr HA7.out.apart) HX.out.three).mono ?_); rintro e w8 ⟨rfl, hl, hk, hf⟩; have HS8 : Hid (Hs w w8 c3) := HS7.out.step hl hk; have HA8 : Hid (Apt w8 c3 a1 (cImg 3)) := HA7.out.step hk hf.out; have HN8 : Hid (Apt w8 c3 a3 (mImg 5 fr pg)) := HN7.out.step hk hf.out; clear hl hk hf)
    | (go_at_call 32; go_must (refine (program_at HS8.out.lies p HX.out.p3 9 1 0 a3 128 k3 (mImg 5 fr pg) (mImg_length 5 fr pg).symm HN8.out.row HN8.out.lt (.inr HN8.out.apart) HX.out.four).mono ?_); rintro e w9 ⟨rfl, hl, hk, hf⟩; have HS9 : Hid (Hs w w9 c4) := HS8.out.step hl hk; have HA9 : Hid (Apt w9 c4 a1 (cImg 3)) := HA8.out.step hk hf.out; clear hl hk hf))
  have HQ : Hid (Nine p old fr pg 0 c4) := HX.out.nine
  clear HX
  go_loopw [17] (fun i wr => ∃ (k : Nat) (c : CS), i = .int .i64 (k : Int) ∧ k ≤ t ∧ Hid (Nine p old fr pg k c) ∧ Hid (Hs w wr c) ∧ Hid (Apt wr c a1 (cImg 3))) (fun i _ => t - (intOf i).toNat)
  case atStart => exact ⟨0, c4, rfl, by omega, HQ, HS9, HA9⟩
  case round =>
    clear HQ HS9 HA9
    obtain ⟨k, c, rfl, hk, HQ, HS, HA⟩ := hrel
    by_cases hlt : k < t
    · obtain ⟨c', e', hn'⟩ := HQ.out.more (by omega)
      have HE : Hid (c.program 9 (2 + (k : Int)) (cImg 3) = (0, c')) := e'
      have HN : Hid (Nine p old fr pg (k + 1) c') := hn'
      clear e' hn'
      go_wp2_with (go_at_call 32; go_must (refine (program_at HS.out.lies p HQ.out.p 9 (2 + (k : Int)) 0 a1 128 k1 (cImg 3) (cImg_length 3).symm HA.out.row HA.out.lt (.inr HA.out.apart) HE.out).mono ?_); rintro e w6 ⟨rfl, hl, hk', hf⟩; have HS6 : Hid (Hs w w6 c') := HS.out.step hl hk'; have HA6 : Hid (Apt w6 c' a1 (cImg 3)) := HA.out.step hk' hf.out; clear hl hk' hf)
      go_roundw
      case rel => exact ⟨k + 1, c', by go_num, by omega, HN, HS6, HA6⟩
      case measure => simp [intOf]; omega
    · have hkt : k = t := by omega
      subst hkt
      have cS := scan_nine HQ.out HS.out HG.out HO.out HF.out hp ht
      have hrl := resN_length old fr pg k
      by_cases hc : pg ≤ k ∧ old < fr
      · obtain ⟨hfi, hsp⟩ := resN_yes hc
        have q1 : (pg : Int) ≤ (k : Int) := by omega
        have q2 : (old : Int) < (fr : Int) := by omega
        generalize resN old fr pg k = res at cS hrl hfi hsp
        have HRL : Hid (16 = res.length) := hrl.symm
        have HFI : Hid (findI res 5 = 9) := hfi
        have HSP : Hid (res[2]? = some spS) := hsp
        have HSB : Hid (Below w.heap.size w wr) := HS.out.bel
        clear hrl hfi hsp hc HQ HS HA
        go_wp2_with (first
          | (go_at_call 14; refine cS.mono ?_; rintro e w9 ⟨g, cap, rfl, ho9, hb9⟩; have HO9 : Hid (OwnL wr.heap.size w9 g 16 cap res) := ho9; have HB9 : Hid (Below w.heap.size w w9) := Below.after HSB.out hb9; clear ho9 hb9)
          | (go_at_call 19; have cF := find_any 16 cap res (some ⟨g, 0, none⟩) 5 HRL.out (by decide) w9 HO9.out.row; rw [HFI.out] at cF; refine cF.mono ?_; rintro e w10 ⟨rfl, hb10⟩; have ho10 := HO9.out.later hb10; have z12 : w10.cell? ⟨g, 12, none⟩ = some (.int .i64 3) := (bl_at ho10 (i := 2) HSP.out).c0; have HB10 : Hid (Below w.heap.size w w10) := Below.after HB9.out hb10; clear hb10 cF ho10)
          | (go_at_call 11; refine (alive_any _ (HG.out.later HB10.out)).mono ?_; rintro e w11 ⟨rfl, hb11⟩; have HB11 : Hid (Below w.heap.size w w11) := Below.after HB10.out hb11; clear hb11))
        go_ret
        exact ⟨rfl, HB11.out⟩
      · obtain ⟨hfi, hsp⟩ := resN_no hc
        have q3 : (decide ((pg : Int) ≤ (k : Int)) && decide ((old : Int) < (fr : Int))) = false := by
          by_cases h1 : (pg : Int) ≤ (k : Int)
          · have h2 : ¬ (old : Int) < (fr : Int) := by omega
            simp [h1, h2]
          · simp [h1]
        have q4 : ¬ ((pg : Int) ≤ (k : Int)) ∨ (pg : Int) ≤ (k : Int) ∧ ¬ (old : Int) < (fr : Int) := by omega
        have Q4 : Hid (¬ ((pg : Int) ≤ (k : Int)) ∨ (pg : Int) ≤ (k : Int) ∧ ¬ (old : Int) < (fr : Int)) := q4
        generalize resN old fr pg k = res at cS hrl hfi hsp
        have HRL : Hid (16 = res.length) := hrl.symm
        have HFI : Hid (findI res 5 = 2) := hfi
        have HSP : Hid (res[9]? = some spS) := hsp
        have HSB : Hid (Below w.heap.size w wr) := HS.out.bel
        clear hrl hfi hsp hc HQ HS HA q3 q4
        rcases Q4.out with q1 | ⟨q1, q2⟩
        all_goals clear Q4
        all_goals go_wp2_with (first
          | (go_at_call 14; refine cS.mono ?_; rintro e w9 ⟨g, cap, rfl, ho9, hb9⟩; have HO9 : Hid (OwnL wr.heap.size w9 g 16 cap res) := ho9; have HB9 : Hid (Below w.heap.size w w9) := Below.after HSB.out hb9; clear ho9 hb9)
          | (go_at_call 19; have cF := find_any 16 cap res (some ⟨g, 0, none⟩) 5 HRL.out (by decide) w9 HO9.out.row; rw [HFI.out] at cF; refine cF.mono ?_; rintro e w10 ⟨rfl, hb10⟩; have ho10 := HO9.out.later hb10; have z54 : w10.cell? ⟨g, 54, none⟩ = some (.int .i64 3) := (bl_at ho10 (i := 9) HSP.out).c0; have HB10 : Hid (Below w.heap.size w w10) := Below.after HB9.out hb10; clear hb10 cF ho10)
          | (go_at_call 11; refine (alive_any _ (HG.out.later HB10.out)).mono ?_; rintro e w11 ⟨rfl, hb11⟩; have HB11 : Hid (Below w.heap.size w w11) := Below.after HB10.out hb11; clear hb11))
        all_goals go_ret
        all_goals exact ⟨rfl, HB11.out⟩
theorem walk (a0 a1 a2 a3 : Int) (w : World) (hg : Hd.Glb w) (h0 : 0 ≤ a0 ∧ a0 ≤ 18446744073709551615) (h1 : 0 ≤ a1 ∧ a1 ≤ 18446744073709551615) (_ : -9223372036854775808 ≤ a2 ∧ a2 ≤ 9223372036854775807) (_ : -9223372036854775808 ≤ a3 ∧ a3 ≤ 9223372036854775807) :
    Calls Tryz.prog 6 #[.int .u64 a0, .int .u64 a1, .int .i64 a2, .int .i64 a3] w fun e w' => e = .returned (.bool true) ∧ Below w.heap.size w w' := by
  by_cases h : a2 < 0 ∨ 14 < a2 ∨ a3 < 0 ∨ 14 < a3 ∨ a0 = a1
  · exact early a0 a1 a2 a3 w hg h
  · obtain ⟨x0, rfl⟩ : ∃ n : Nat, a0 = n := ⟨a0.toNat, by omega⟩
    obtain ⟨x1, rfl⟩ : ∃ n : Nat, a1 = n := ⟨a1.toNat, by omega⟩
    obtain ⟨x2, rfl⟩ : ∃ n : Nat, a2 = n := ⟨a2.toNat, by omega⟩
    obtain ⟨x3, rfl⟩ : ∃ n : Nat, a3 = n := ⟨a3.toNat, by omega⟩
    exact main x0 x1 x2 x3 w hg (by omega) (by omega) (by omega) (by omega) (fun e => by omega)

set_option maxRecDepth 100000 in
theorem contract (H : Type) (enc : TypeId × Value → H) (W : World) (base : Nat) (args : Array Value) (ds gs : List (DataW H)) (before : List MemPlace)
    (hval : ∀ (j : Nat) t v, Tryz.f6.params[j]? = some t → args[j]? = some v → Value.okWide Tryz.prog W .any base t v)
    (hW : DataW.Whole enc Tryz.prog Tryz.f6.params.toList Rows.scanNewerSpec.vars false W args.toList ds gs before) (hL : laidMetH Tryz.prog laid W)
    : Calls Tryz.prog 6 args W fun e W' => ∃ v, e = .returned v ∧ Rows.scanNewerSpec.post enc Tryz.prog Tryz.f6 false true false false W args v W' := by
  have hW' := hW
  obtain ⟨p, q, hA0, hV, rfl, hfz, hnd⟩ := hW
  have hA : DataW.TrodAll enc Tryz.prog W 0 (fun _ => true) true Tryz.f6.params.toList args.toList ds p := hA0
  rw [Tryz.params6] at hA hval
  obtain ⟨v0, vs0, d0, ds0, p0, q0, hargs, rfl, rfl, h0, r0⟩ := trodAll_cons hA
  obtain ⟨v1, vs1, d1, ds1, p1, q1, rfl, rfl, rfl, h1, r1⟩ := trodAll_cons r0
  obtain ⟨v2, vs2, d2, ds2, p2, q2, rfl, rfl, rfl, h2, r2⟩ := trodAll_cons r1
  obtain ⟨v3, vs3, d3, ds3, p3, q3, rfl, rfl, rfl, h3, r3⟩ := trodAll_cons r2
  obtain ⟨rfl, rfl, rfl⟩ := trodAll_nil r3
  obtain rfl : args = #[v0, v1, v2, v3] := by cases args; simp_all
  obtain ⟨rfl, rfl⟩ := trodVars_none hV
  obtain ⟨a0, rfl, rfl, rfl, w0⟩ := open_int Tryz.underlying55 (hval 0 55 v0 rfl rfl) h0
  obtain ⟨a1, rfl, rfl, rfl, w1⟩ := open_int Tryz.underlying55 (hval 1 55 v1 rfl rfl) h1
  obtain ⟨a2, rfl, rfl, rfl, w2⟩ := open_int Tryz.underlying3 (hval 2 3 v2 rfl rfl) h2
  obtain ⟨a3, rfl, rfl, rfl, w3⟩ := open_int Tryz.underlying3 (hval 3 3 v3 rfl rfl) h3
  clear hA0
  refine (walk a0 a1 a2 a3 W (glb_of hL) (bounds_u64 w0) (bounds_u64 w1) (bounds_i64 w2) (bounds_i64 w3)).mono fun e W' ⟨he, bel⟩ => ?_
  subst he
  exact ⟨_, rfl, _, _, _, [], _, [], hW', trodAll_mk1 (shut_bool Tryz.underlying4 _), (trodAll_cons_mk (shut_int Tryz.underlying55 w0) (trodAll_cons_mk (shut_int Tryz.underlying55 w1) (trodAll_cons_mk (shut_int Tryz.underlying3 w2) (trodAll_cons_mk (shut_int Tryz.underlying3 w3) trodAll_mk0)))), rfl, bel.frame _, fun h => by cases h⟩

theorem reads (os : Os) {H : Type} (enc : TypeId × Value → H) : ∃ places, DataW.whole enc Tryz.prog ((laidWorld os).forCall (fun _ _ => 0) ⟨#[], #[.int .u64 0, .int .u64 0, .int .i64 0, .int .i64 0], []⟩).memory Tryz.f6.params.toList Rows.scanNewerSpec.vars false (#[.int .u64 0, .int .u64 0, .int .i64 0, .int .i64 0] : Array Value).toList 8 = some ([.lit (.int .u64 0), .lit (.int .u64 0), .lit (.int .i64 0), .lit (.int .i64 0)], [], places) :=
  ⟨[], by kernel_rfl⟩
set_option maxRecDepth 100000 in
theorem lifted (os : Os) (started : os.Started) (H : Type) (enc : TypeId × Value → H) (F : Stop.Interp) :
    ReturnsInHanded {} Tryz.checked os 6 .any ((OpenSpec.ofChange Rows.scanNewerSpec).preRow enc Tryz.prog Tryz.f6 Rows.scanNewerRow.domain false Rows.scanNewerRow.laid) (((OpenSpec.ofChange Rows.scanNewerSpec).at F).post enc Tryz.prog Tryz.f6 false true false false) := by
  obtain ⟨places, hx⟩ := reads os enc
  refine returnsInHanded_of_row (C := Tryz.checked) (s := OpenSpec.ofChange Rows.scanNewerSpec) Hd.own started (by kernel_rfl) Tryz.func6
    (witness_row_at (enc := enc) (C := Tryz.checked) false (laidWorld os) #[.int .u64 0, .int .u64 0, .int .i64 0, .int .i64 0] (laid_os os) (by kernel_rfl) (by kernel_rfl) (by kernel_rfl)
      (OpenSpec.preRow_of_cond 8 hx (by kernel_rfl) (fun k hk => by cases hk) (by kernel_rfl) (laid_met os _))) ?_
  intro W base args ds gs before hval hW _ _ hsz hL _ _
  exact contract H enc W base args ds gs before hval hW hL
theorem said : Rows.ScanNewerSaid :=
  OpenClaim.holds_of_cond 6 Tryz.f6 rfl rfl rfl rfl rfl rfl rfl ⟨rfl, rfl, rfl, rfl, rfl⟩ rfl rfl rfl rfl rfl (by kernel_rfl) Tryz.func6 (by kernel_rfl)
    (of_decide_eq_true (by kernel_rfl)) (by unfold Func.isWrapper; first | (rw [if_pos (by decide +kernel)]; kernel_rfl) | (rw [if_neg (by decide +kernel)]; exact ⟨rfl, rfl⟩))
    (fun os started H enc _ F => by rw [OpenClaim.pre_eq_preRow]; exact lifted os started H enc F)
set_option maxRecDepth 100000 in
theorem plain (f : FuncId) (fn : Func) (hf : Tryz.pinned.checked.prog.funcNamed "pumice/pumicelaw07.ScanNewer" = some f) (hfn : Tryz.pinned.checked.prog.funcs[f]? = some fn) :
    false = Tryz.pinned.checked.prog.looks [] ∧ ∀ (j : Nat) t, fn.params[j]? = some t → Tryz.pinned.checked.prog.wantsStandIn t = false := by
  obtain rfl : f = 6 := Option.some.inj ((show Tryz.prog.funcNamed "pumice/pumicelaw07.ScanNewer" = some 6 by kernel_rfl).symm.trans hf) |>.symm
  obtain rfl : fn = Tryz.f6 := (Option.some.inj (Tryz.func6.symm.trans hfn)).symm
  refine ⟨by kernel_rfl, fun j t ht => ?_⟩
  rw [Tryz.params6] at ht
  have hm : t = 55 ∨ t = 55 ∨ t = 3 ∨ t = 3 := by simpa using Array.mem_of_getElem? ht
  rcases hm with rfl | rfl | rfl | rfl
  · exact (show Tryz.prog.wantsStandIn 55 = false by kernel_rfl)
  · exact (show Tryz.prog.wantsStandIn 55 = false by kernel_rfl)
  · exact (show Tryz.prog.wantsStandIn 3 = false by kernel_rfl)
  · exact (show Tryz.prog.wantsStandIn 3 = false by kernel_rfl)
theorem card : Rows.ScanNewerCardSaid :=
  Claim7.holds_tied_plain_at .later [] _ _ _ _ said (fun _ h => by cases h) (by kernel_rfl) (fun _ h => by cases h) scanNewer_row_tie rfl ⟨rfl, rfl⟩ (by kernel_rfl) rfl plain (by kernel_rfl)
end Go.Proofs.YteoakhfofnocfaaGreatDoor.scanNewer

namespace Go.Proofs.YteoakhfofnocfaaGreatDoor
theorem scanNewer_holds : Rows.ScanNewerCardSaid := scanNewer.card
#print axioms scanNewer_holds
end Go.Proofs.YteoakhfofnocfaaGreatDoor
