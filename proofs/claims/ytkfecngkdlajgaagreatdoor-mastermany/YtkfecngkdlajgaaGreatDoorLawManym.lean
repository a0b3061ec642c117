/-
  For all geometries, texts and numbers: MasterMany answers true (records can be saved one behind the other, and the last one is the one that is opened; or the chapter's example holds), and leaves its arguments as they were; given that the two variables that it reaches hold what their initialisers lay (the card ties them). No other condition.
-/
import Derived.Test.YtkfecngkdlajgaaGreatDoorXRJ
import Derived.Test.YtkfecngkdlajgaaGreatDoorKQ
namespace Go.Proofs.YtkfecngkdlajgaaGreatDoor.masterMany
open Go.ChangeShapes Go.WideShapes Go.ChangeAt Go.RowKit
set_option maxRecDepth 10000

set_option maxHeartbeats 2000000 in
theorem walk_no (b p z r : Int) (S : ByteArray) (many : Int) (w : World) (hg : Hd.Glb w) (ht : Typed w) (h1 : 0 < w.heap.size ∧ 1 < w.heap.size) (hR : rightB b p z r = false) :
    Calls Tryz.prog 5 #[.agg #[.int .i64 b, .int .i64 p, .int .i64 z, .int .i64 r], .string S, .int .i64 many] w fun e w' => e = .returned (.bool true) ∧ Below w.heap.size w w' := by
  have hb0 := below_new w (.cells #[.int .i64 b, .int .i64 p, .int .i64 z, .int .i64 r] 23)
  have kF := fresh_no b p z r (w.alloc (.cells #[.int .i64 b, .int .i64 p, .int .i64 z, .int .i64 r] 23)) hR
  have HA : Hid (∀ X, Below w.heap.size w X → Calls Tryz.prog 8 #[] X fun e w' => e = .returned (.bool true) ∧ Below X.heap.size X w') := fun X hb => aliveX_any X (hg.later hb) (ht.later hb) (by have := hb.size; omega) (by have := hb.size; omega)
  have HB0 := (show Hid (Below w.heap.size w _) from hb0)
  clear hg ht h1 hR hb0
  go_enter Tryz.func5, Tryz.ntmps5
  go_wp2_with (first
    | (go_at_call 6; refine kF.mono ?_; rintro e w1 ⟨rfl, hb1⟩; have HB1 := (show Hid (Below w.heap.size w w1) from Below.after HB0.out hb1); clear hb1)
    | (go_at_call 8; refine (HA.out _ HB1.out).mono ?_; rintro e w2 ⟨rfl, hb2⟩; have HB2 := (show Hid (Below w.heap.size w w2) from Below.after HB1.out hb2); clear hb2))
  go_ret
  exact ⟨rfl, HB2.out⟩
set_option maxHeartbeats 8000000 in
theorem walk_else (gb gp gz gr : Nat) (S : ByteArray) (many : Int) (w : World) (hg : Hd.Glb w) (ht : Typed w) (h1 : 0 < w.heap.size ∧ 1 < w.heap.size) (hR : rightB gb gp gz gr = true) (hc : (512 : Int) < (S.size : Nat) ∨ many < 0 ∨ 200 < many) :
    Calls Tryz.prog 5 #[.agg #[.int .i64 gb, .int .i64 gp, .int .i64 gz, .int .i64 gr], .string S, .int .i64 many] w fun e w' => e = .returned (.bool true) ∧ Below w.heap.size w w' := by
  obtain ⟨W0, hW0⟩ : ∃ W0, W0 = w.alloc (.cells #[.int .i64 gb, .int .i64 gp, .int .i64 gz, .int .i64 gr] 23) := ⟨_, rfl⟩
  have hb0 : Below w.heap.size w W0 := by rw [hW0]; exact below_new w _
  have cg : ∀ i v, [Value.int .i64 gb, .int .i64 gp, .int .i64 gz, .int .i64 gr][i]? = some v → W0.cell? ⟨w.heap.size, i, none⟩ = some v := fun i v hv => by rw [hW0]; exact (Row.new w [.int .i64 gb, .int .i64 gp, .int .i64 gz, .int .i64 gr] 23).cell hv
  have g0 := cg 0 _ rfl
  have g1 := cg 1 _ rfl
  have g2 := cg 2 _ rfl
  have g3 := cg 3 _ rfl
  have hE : 0 < W0.heap.size := by have := hb0.size; omega
  have kF := fresh_yes gb gp gz gr W0 hR (hg.later hb0) (ht.later hb0) hE (by have := hb0.size; omega)
  have HA : Hid (∀ X, Below W0.heap.size W0 X → Calls Tryz.prog 8 #[] X fun e w' => e = .returned (.bool true) ∧ Below X.heap.size X w') := fun X hb => aliveX_any X ((hg.later hb0).later hb) ((ht.later hb0).later hb) (by have := hb.size; omega) (by have := hb.size; have := hb0.size; omega)
  have HB0 := (show Hid (Below w.heap.size w W0) from hb0)
  clear hg ht h1 hR hb0 cg hE
  rcases hc with hc | hc
  · go_enter Tryz.func5, Tryz.ntmps5
    go_wp2_with fail
    rw [← hW0]
    clear hW0
    go_wp2_with (first
      | (go_at_call 6; refine kF.mono ?_; rintro e w1 ⟨m, c, P, rfl, hn1⟩; have HB1 := (show Hid (Below W0.heap.size W0 w1) from hn1.bl); clear hn1 kF)
      | (go_at_call 8; refine (HA.out _ HB1.out).mono ?_; rintro e w2 ⟨rfl, hb2⟩; have HB2 := (show Hid (Below w.heap.size w w2) from Below.after HB0.out (Below.after HB1.out hb2)); clear hb2))
    go_ret
    exact ⟨rfl, HB2.out⟩
  · by_cases hs : (512 : Int) < (S.size : Nat)
    · go_enter Tryz.func5, Tryz.ntmps5
      go_wp2_with fail
      rw [← hW0]
      clear hW0
      go_wp2_with (first
        | (go_at_call 6; refine kF.mono ?_; rintro e w1 ⟨m, c, P, rfl, hn1⟩; have HB1 := (show Hid (Below W0.heap.size W0 w1) from hn1.bl); clear hn1 kF)
        | (go_at_call 8; refine (HA.out _ HB1.out).mono ?_; rintro e w2 ⟨rfl, hb2⟩; have HB2 := (show Hid (Below w.heap.size w w2) from Below.after HB0.out (Below.after HB1.out hb2)); clear hb2))
      go_ret
      exact ⟨rfl, HB2.out⟩
    · by_cases hm : many < 0
      · go_enter Tryz.func5, Tryz.ntmps5
        go_wp2_with fail
        rw [← hW0]
        clear hW0
        go_wp2_with (first
          | (go_at_call 6; refine kF.mono ?_; rintro e w1 ⟨m, c, P, rfl, hn1⟩; have HB1 := (show Hid (Below W0.heap.size W0 w1) from hn1.bl); clear hn1 kF)
          | (go_at_call 8; refine (HA.out _ HB1.out).mono ?_; rintro e w2 ⟨rfl, hb2⟩; have HB2 := (show Hid (Below w.heap.size w w2) from Below.after HB0.out (Below.after HB1.out hb2)); clear hb2))
        go_ret
        exact ⟨rfl, HB2.out⟩
      · have h200 : 200 < many := hc.resolve_left hm
        go_enter Tryz.func5, Tryz.ntmps5
        go_wp2_with fail
        rw [← hW0]
        clear hW0
        go_wp2_with (first
          | (go_at_call 6; refine kF.mono ?_; rintro e w1 ⟨m, c, P, rfl, hn1⟩; have HB1 := (show Hid (Below W0.heap.size W0 w1) from hn1.bl); clear hn1 kF)
          | (go_at_call 8; refine (HA.out _ HB1.out).mono ?_; rintro e w2 ⟨rfl, hb2⟩; have HB2 := (show Hid (Below w.heap.size w w2) from Below.after HB0.out (Below.after HB1.out hb2)); clear hb2))
        go_ret
        exact ⟨rfl, HB2.out⟩
set_option maxHeartbeats 8000000 in
theorem walk_yes (gb gp gz gr : Nat) (S : ByteArray) (T : List Nat) (hS : S = bstr T) (hT : ∀ x ∈ T, x < 256) (hTl : T.length ≤ 512) (M : Nat) (hM : M ≤ 200) (w : World) (hg : Hd.Glb w) (ht : Typed w) (h1 : 0 < w.heap.size ∧ 1 < w.heap.size) (hR : rightB gb gp gz gr = true) :
    Calls Tryz.prog 5 #[.agg #[.int .i64 gb, .int .i64 gp, .int .i64 gz, .int .i64 gr], .string S, .int .i64 (M : Nat)] w fun e w' => e = .returned (.bool true) ∧ Below w.heap.size w w' := by
  obtain ⟨W0, hW0⟩ : ∃ W0, W0 = w.alloc (.cells #[.int .i64 gb, .int .i64 gp, .int .i64 gz, .int .i64 gr] 23) := ⟨_, rfl⟩
  have hb0 : Below w.heap.size w W0 := by rw [hW0]; exact below_new w _
  have cg : ∀ i v, [Value.int .i64 gb, .int .i64 gp, .int .i64 gz, .int .i64 gr][i]? = some v → W0.cell? ⟨w.heap.size, i, none⟩ = some v := fun i v hv => by rw [hW0]; exact (Row.new w [.int .i64 gb, .int .i64 gp, .int .i64 gz, .int .i64 gr] 23).cell hv
  have g0 := cg 0 _ rfl
  have g1 := cg 1 _ rfl
  have g2 := cg 2 _ rfl
  have g3 := cg 3 _ rfl
  have hE : 0 < W0.heap.size := by have := hb0.size; omega
  have kF := fresh_yes gb gp gz gr W0 hR (hg.later hb0) (ht.later hb0) hE (by have := hb0.size; omega)
  have hlb := right_leb hR
  have HA : Hid (∀ X, Below W0.heap.size W0 X → Calls Tryz.prog 8 #[] X fun e w' => e = .returned (.bool true) ∧ Below X.heap.size X w') := fun X hb => aliveX_any X ((hg.later hb0).later hb) ((ht.later hb0).later hb) (by have := hb.size; omega) (by have := hb.size; have := hb0.size; omega)
  have HB0 := (show Hid (Below w.heap.size w W0 ∧ 0 < W0.heap.size ∧ gr + 2 < gb ∧ M ≤ 200 ∧ S = bstr T) from ⟨hb0, hE, by omega, hM, hS⟩)
  have HOk := (show Hid (∀ n, n < 18446744073709551616 → okR n T) from fun n hn => ⟨hn, hT, hTl⟩)
  have hs : ¬ (512 : Int) < (S.size : Nat) := by rw [hS, bstr_size]; omega
  have hm0 : ¬ ((M : Nat) : Int) < 0 := by omega
  have hm1 : ¬ (200 : Int) < ((M : Nat) : Int) := by omega
  have hm2 : ((M : Nat) : Int) ≤ 200 := by omega
  have q0 := rcf0
  have q1 := rcf1
  clear hg ht h1 hR hb0 cg hE hlb hS hT hTl
  go_enter Tryz.func5, Tryz.ntmps5
  go_wp2_with fail
  rw [← hW0]
  clear hW0
  go_wp2_with (first
    | (go_at_call 6; refine kF.mono ?_; rintro e w1 ⟨m, c, P, rfl, hn1⟩; clear kF; have hz := Mz.new hn1 HB0.out.2.1 HB0.out.2.2.1; obtain ⟨mp, hmp⟩ : ∃ mp, mp = m.p := ⟨_, rfl⟩; rw [← hmp] at hz; rw [← hmp]; have HZ := (show Hid (Mz W0.heap.size W0 w1 gb gp gz gr mp 1) from hz); clear hn1 hz hmp)
    | (go_at_call 12; have kC := mz_create HZ.out (by decide) 0 T (HOk.out 0 (by decide)); rw [← HB0.out.2.2.2.2] at kC; refine kC.mono ?_; clear kC; rintro e w2 ⟨xp, rfl, hm2, hx2, hb2, _, _⟩; have H2 : Hid (∃ d k, Mr W0.heap.size W0 w2 gb gp gz gr mp (131 + 130 * 0) d 0 T k ∧ XAt w2 xp mp 0 S k ∧ W0.heap.size ≤ xp ∧ 1 ≤ k ∧ k ≤ 0 + 1) := ⟨_, 1, hm2, hx2, hb2, Nat.le_refl _, Nat.le_refl _⟩; clear hm2 hx2 hb2))
  go_loopg [10] M (fun kx s7 wr => ∃ i : Nat, i + kx = M ∧ s7 = .int .i64 ((i + 1 : Nat) : Int) ∧ Hid (∃ d k, Mr W0.heap.size W0 wr gb gp gz gr mp (131 + 130 * i) d i T k ∧ XAt wr xp mp i S k ∧ W0.heap.size ≤ xp ∧ 1 ≤ k ∧ k ≤ i + 1))
  case atStart => exact ⟨0, by omega, rfl, H2.out⟩
  case round =>
    obtain ⟨i, hi, rfl, I⟩ := hrel
    obtain ⟨d, k, i1, i2, i3, i4, i5⟩ := id I.out
    by_cases hlt : i < M
    · have kS := mr_save i1 i2 i3 (by have := HB0.out.2.2.2.1; omega) (by omega) (i + 1) T (HOk.out (i + 1) (by omega))
      rw [← HB0.out.2.2.2.2] at kS
      have hnk : 1 ≤ nxK ((gp - 2) * gz) d T k ∧ nxK ((gp - 2) * gz) d T k ≤ i + 1 + 1 := by unfold nxK; split <;> omega
      obtain ⟨k', hk'⟩ : ∃ k', k' = nxK ((gp - 2) * gz) d T k := ⟨_, rfl⟩
      obtain ⟨d', hd'⟩ : ∃ d', d' = nxD gz ((gp - 2) * gz) (wtN gb gp gz gr) d (i + 1) T := ⟨_, rfl⟩
      rw [← hk', ← hd'] at kS
      rw [← hk'] at hnk
      have HK := (show Hid (131 + 130 * i + 130 = 131 + 130 * (i + 1) ∧ W0.heap.size ≤ xp) from ⟨by omega, i3⟩)
      have j0 : ((i + 1 : Nat) : Int) ≤ ((M : Nat) : Int) := by omega
      have j1 : ¬ (k' : Int) < 1 := by omega
      have HNk := (show Hid (1 ≤ k' ∧ k' ≤ i + 1 + 1) from hnk)
      clear i1 i2 i3 i4 i5 hk' hd' hnk I
      go_wp2_with (first
        | (go_at_call 15; refine kS.mono ?_; rintro e w3 ⟨rfl, hm3, hx3, _⟩; have kV := saves_any hx3; have H3 : Hid (∃ d k, Mr W0.heap.size W0 w3 gb gp gz gr mp (131 + 130 * (i + 1)) d (i + 1) T k ∧ XAt w3 xp mp (i + 1) S k ∧ W0.heap.size ≤ xp ∧ 1 ≤ k ∧ k ≤ i + 1 + 1) := ⟨d', k', by rw [← HK.out.1]; exact hm3, hx3, HK.out.2, HNk.out⟩; clear hm3 hx3 kS)
        | (go_at_call 18; refine kV.mono ?_; rintro e w4 ⟨rfl, rfl⟩))
      go_roundg (M - (i + 1))
      case measure => omega
      case rel => exact ⟨i + 1, by omega, by go_num, H3.out⟩
    · have hiM : i = M := by omega
      clear hi hlt I
      subst hiM
      have j0 : ¬ ((i + 1 : Nat) : Int) ≤ ((i : Nat) : Int) := by omega
      have kO := mr_open i1
      rw [← HB0.out.2.2.2.2] at kO
      clear i1 i2 i3 i4 i5
      go_wp2_with (first
        | (go_at_call 11; refine kO.mono ?_; rintro e w4 ⟨yp, rfl, hm4, hx4, _, _, _⟩; clear kO; have HM4 := (show Hid (Mr W0.heap.size W0 w4 gb gp gz gr mp (131 + 130 * i) d i T k) from hm4); have HX4 := (show Hid (∀ X, Below w4.heap.size w4 X → XAt X yp mp i S k) from fun X hb => Row.later hx4 hb); have hb4 := Below.refl w4.heap.size w4; clear hm4 hx4)
        | (go_at_call 17; refine (record_at (HX4.out _ hb4)).mono ?_; rintro e w5 ⟨rfl, hb5⟩; replace hb4 := Below.after hb4 hb5; clear hb5)
        | (go_at_call 9; refine (mr_chip (HM4.out.later hb4)).mono ?_; rintro e w6 ⟨cp, rfl, rfl, kW⟩)
        | (go_at_call 19; refine kW.mono ?_; rintro e w7 ⟨rfl, rfl⟩)
        | (go_at_call 8; refine (HA.out _ (HM4.out.later hb4).bl).mono ?_; rintro e w8 ⟨rfl, hb8⟩; have HB8 := (show Hid (Below w.heap.size w w8) from Below.after HB0.out.1 (Below.after (HM4.out.later hb4).bl hb8)); clear hb8))
      go_ret
      exact ⟨rfl, HB8.out⟩
theorem walk (b p z r : Int) (S : ByteArray) (many : Int) (w : World) (hg : Hd.Glb w) (ht : Typed w) :
    Calls Tryz.prog 5 #[.agg #[.int .i64 b, .int .i64 p, .int .i64 z, .int .i64 r], .string S, .int .i64 many] w fun e w' => e = .returned (.bool true) ∧ Below w.heap.size w w' := by
  have h1 : 0 < w.heap.size ∧ 1 < w.heap.size := by
    obtain ⟨v, hv⟩ := hg
    exact ⟨World.block_lt_of_cell? w _ hv, World.block_lt_of_cell? w _ ht⟩
  cases hR : rightB b p z r with
  | false => exact walk_no b p z r S many w hg ht h1 hR
  | true =>
    obtain ⟨gb, gp, gz, gr, rfl, rfl, rfl, rfl, _⟩ := right_nums hR
    by_cases hc : (512 : Int) < (S.size : Nat) ∨ many < 0 ∨ 200 < many
    · exact walk_else gb gp gz gr S many w hg ht h1 hR hc
    · obtain ⟨T, hS, hT, hl⟩ := str_of S
      obtain ⟨M, rfl⟩ : ∃ M : Nat, many = M := ⟨many.toNat, by omega⟩
      exact walk_yes gb gp gz gr S T hS hT (by omega) M (by omega) w hg ht h1 hR

set_option maxRecDepth 100000 in
theorem contract (H : Type) (enc : TypeId × Value → H) (W : World) (base : Nat) (args : Array Value) (ds gs : List (DataW H)) (before : List MemPlace)
    (hval : ∀ (j : Nat) t v, Tryz.f5.params[j]? = some t → args[j]? = some v → Value.okWide Tryz.prog W .any base t v)
    (hW : DataW.Whole enc Tryz.prog Tryz.f5.params.toList Rows.masterManySpec.vars false W args.toList ds gs before) (hL : laidMetH Tryz.prog laid W)
    : Calls Tryz.prog 5 args W fun e W' => ∃ v, e = .returned v ∧ Rows.masterManySpec.post enc Tryz.prog Tryz.f5 false true false false W args v W' := by
  have hW' := hW
  obtain ⟨p, q, hA0, hV, rfl, hfz, hnd⟩ := hW
  have hA : DataW.TrodAll enc Tryz.prog W 0 (fun _ => true) true Tryz.f5.params.toList args.toList ds p := hA0
  rw [Tryz.params5] at hA hval
  obtain ⟨v0, vs0, d0, ds0, p0, q0, hargs, rfl, rfl, h0, r0⟩ := trodAll_cons hA
  obtain ⟨v1, vs1, d1, ds1, p1, q1, rfl, rfl, rfl, h1, r1⟩ := trodAll_cons r0
  obtain ⟨v2, vs2, d2, ds2, p2, q2, rfl, rfl, rfl, h2, r2⟩ := trodAll_cons r1
  obtain ⟨rfl, rfl, rfl⟩ := trodAll_nil r2
  obtain rfl : args = #[v0, v1, v2] := by cases args; simp_all
  obtain ⟨rfl, rfl⟩ := trodVars_none hV
  obtain ⟨cs0, rfl, sz0⟩ := okWide_struct Tryz.underlying23 (hval 0 23 v0 rfl rfl)
  have k0 := h0
  have lt0 : ∀ x ∈ p0, x.block < W.heap.size := by obtain ⟨m, hm⟩ := k0; exact DataW.trod_lt m _ _ _ hm
  obtain ⟨gb0, gp0, gz0, gr0, rfl⟩ : ∃ b p z r, cs0 = #[.int .i64 b, .int .i64 p, .int .i64 z, .int .i64 r] := by
    obtain ⟨fuel, hf⟩ := h0
    exact garg_open sz0 hf
  obtain ⟨a1, rfl, rfl, rfl, w1⟩ := Go.ChangeMaps.open_string Tryz.underlying9 (hval 1 9 v1 rfl rfl) h1
  obtain ⟨a2, rfl, rfl, rfl, w2⟩ := open_int Tryz.underlying3 (hval 2 3 v2 rfl rfl) h2
  clear hA0
  refine (walk gb0 gp0 gz0 gr0 a1 a2 W (glb_of hL) (typed_of hL)).mono fun e W' ⟨he, bel⟩ => ?_
  subst he
  exact ⟨_, rfl, _, _, _, [], _, [], hW', trodAll_mk1 (shut_bool Tryz.underlying4 _), (trodAll_cons_mk (Below.trod laidOut (by kernel_rfl) (of_decide_eq_true (by kernel_rfl)) k0 bel lt0) (trodAll_cons_mk (Go.ChangeMaps.shut_string Tryz.underlying9 w1) (trodAll_cons_mk (shut_int Tryz.underlying3 w2) trodAll_mk0))), rfl, bel.frame _, fun h => by cases h⟩

theorem reads (os : Os) {H : Type} (enc : TypeId × Value → H) : ∃ places, DataW.whole enc Tryz.prog ((laidWorld os).forCall (fun _ _ => 0) ⟨#[], #[.agg #[.int .i64 0, .int .i64 0, .int .i64 0, .int .i64 0], .string ⟨#[]⟩, .int .i64 0], []⟩).memory Tryz.f5.params.toList Rows.masterManySpec.vars false (#[.agg #[.int .i64 0, .int .i64 0, .int .i64 0, .int .i64 0], .string ⟨#[]⟩, .int .i64 0] : Array Value).toList 8 = some ([.agg [.lit (.int .i64 0), .lit (.int .i64 0), .lit (.int .i64 0), .lit (.int .i64 0)], .lit (.string []), .lit (.int .i64 0)], [], places) :=
  ⟨[], by kernel_rfl⟩
set_option maxRecDepth 100000 in
theorem lifted (os : Os) (started : os.Started) (H : Type) (enc : TypeId × Value → H) (F : Stop.Interp) :
    ReturnsInHanded {} Tryz.checked os 5 .any ((OpenSpec.ofChange Rows.masterManySpec).preRow enc Tryz.prog Tryz.f5 Rows.masterManyRow.domain false Rows.masterManyRow.laid) (((OpenSpec.ofChange Rows.masterManySpec).at F).post enc Tryz.prog Tryz.f5 false true false false) := by
  obtain ⟨places, hx⟩ := reads os enc
  refine returnsInHanded_of_row (C := Tryz.checked) (s := OpenSpec.ofChange Rows.masterManySpec) own started (by kernel_rfl) Tryz.func5
    (witness_row_at (enc := enc) (C := Tryz.checked) false (laidWorld os) #[.agg #[.int .i64 0, .int .i64 0, .int .i64 0, .int .i64 0], .string ⟨#[]⟩, .int .i64 0] (laid_os os) (by kernel_rfl) (by kernel_rfl) (by kernel_rfl)
      (OpenSpec.preRow_of_cond 8 hx (by kernel_rfl) (fun k hk => by cases hk) (by kernel_rfl) (laid_met os _))) ?_
  intro W base args ds gs before hval hW _ _ hsz hL _ _
  exact contract H enc W base args ds gs before hval hW hL
theorem said : Rows.MasterManySaid :=
  OpenClaim.holds_of_cond 5 Tryz.f5 rfl rfl rfl rfl rfl rfl rfl ⟨rfl, rfl, rfl, rfl, rfl⟩ rfl rfl rfl rfl rfl (by kernel_rfl) Tryz.func5 (by kernel_rfl)
    (of_decide_eq_true (by kernel_rfl)) (by unfold Func.isWrapper; first | (rw [if_pos (by decide +kernel)]; kernel_rfl) | (rw [if_neg (by decide +kernel)]; exact ⟨rfl, rfl⟩))
    (fun os started H enc _ F => by rw [OpenClaim.pre_eq_preRow]; exact lifted os started H enc F)
set_option maxRecDepth 100000 in
theorem plain (f : FuncId) (fn : Func) (hf : Tryz.pinned.checked.prog.funcNamed "pumice/pumicelaw13.MasterMany" = some f) (hfn : Tryz.pinned.checked.prog.funcs[f]? = some fn) :
    true = Tryz.pinned.checked.prog.looks [] ∧ ∀ (j : Nat) t, fn.params[j]? = some t → Tryz.pinned.checked.prog.wantsStandIn t = false := by
  obtain rfl : f = 5 := Option.some.inj ((show Tryz.prog.funcNamed "pumice/pumicelaw13.MasterMany" = some 5 by kernel_rfl).symm.trans hf) |>.symm
  obtain rfl : fn = Tryz.f5 := (Option.some.inj (Tryz.func5.symm.trans hfn)).symm
  refine ⟨by kernel_rfl, fun j t ht => ?_⟩
  rw [Tryz.params5] at ht
  have hm : t = 23 ∨ t = 9 ∨ t = 3 := by simpa using Array.mem_of_getElem? ht
  rcases hm with rfl | rfl | rfl
  · exact (show Tryz.prog.wantsStandIn 23 = false by kernel_rfl)
  · exact (show Tryz.prog.wantsStandIn 9 = false by kernel_rfl)
  · exact (show Tryz.prog.wantsStandIn 3 = false by kernel_rfl)
theorem card : Rows.MasterManyCardSaid :=
  Claim7.holds_tied_plain_at .later [] _ _ _ _ said (fun _ h => by cases h) (by kernel_rfl) (fun _ h => by cases h) masterMany_row_tie rfl ⟨rfl, rfl⟩ (by kernel_rfl) rfl plain (by kernel_rfl)
end Go.Proofs.YtkfecngkdlajgaaGreatDoor.masterMany

namespace Go.Proofs.YtkfecngkdlajgaaGreatDoor
theorem masterMany_holds : Rows.MasterManyCardSaid := masterMany.card
#print axioms masterMany_holds
end Go.Proofs.YtkfecngkdlajgaaGreatDoor
