/-
  For all geometries and scripts: WbufRoom answers true (a log with so much room takes a frame of that length and none of one byte more; with no room it takes none), and leaves its arguments as they were; given that the two variables that it reaches hold what their initialisers lay (the card ties them). No other condition.
-/
import Derived.Test.YthffehaokndkeaaGreatDoorQR
import Derived.Test.YthffehaokndkeaaGreatDoorKQ
namespace Go.Proofs.YthffehaokndkeaaGreatDoor.wbufRoom
open Go.ChangeShapes Go.WideShapes Go.ChangeAt Go.RowKit
set_option maxRecDepth 10000

set_option maxHeartbeats 2000000 in
theorem walk_no (b p z r : Int) (a : Option Addr) (n cap : Nat) (w : World) (hg : Hd.Glb w) (ht : Typed w) (h1 : 0 < w.heap.size ∧ 1 < w.heap.size) (hR : rightB b p z r = false) :
    Calls Tryz.prog 7 #[.agg #[.int .i64 b, .int .i64 p, .int .i64 z, .int .i64 r], .slice a n cap] w fun e w' => e = .returned (.bool true) ∧ Below w.heap.size w w' := by
  have hb0 := below_new w (.cells #[.int .i64 b, .int .i64 p, .int .i64 z, .int .i64 r] 23)
  have kF := fresh_no b p z r (w.alloc (.cells #[.int .i64 b, .int .i64 p, .int .i64 z, .int .i64 r] 23)) hR
  have HA : Hid (∀ X, Below w.heap.size w X → Calls Tryz.prog 10 #[] X fun e w' => e = .returned (.bool true) ∧ Below X.heap.size X w') := fun X hb => alive_any X (hg.later hb) (ht.later hb) (by have := hb.size; omega) (by have := hb.size; omega)
  have HB0 := hidV hb0
  clear hg ht h1 hR hb0
  go_enter Tryz.func7, Tryz.ntmps7
  go_wp2_with (first
    | (go_at_call 8; refine kF.mono ?_; rintro e w1 ⟨rfl, hb1⟩; have HB1 := hidV (Below.after HB0.out hb1); clear hb1)
    | (go_at_call 10; refine (HA.out _ HB1.out).mono ?_; rintro e w2 ⟨rfl, hb2⟩; have HB2 := hidV (Below.after HB1.out hb2); clear hb2))
  go_ret
  exact ⟨rfl, HB2.out⟩
set_option maxHeartbeats 8000000 in
theorem walk_yes (gb gp gz gr : Nat) (a : Option Addr) (n cap : Nat) (S : List WOp) (w : World) (hg : Hd.Glb w) (ht : Typed w) (h1 : 0 < w.heap.size ∧ 1 < w.heap.size) (hR : rightB gb gp gz gr = true) (hS : WArg w a n cap S) :
    Calls Tryz.prog 7 #[.agg #[.int .i64 gb, .int .i64 gp, .int .i64 gz, .int .i64 gr], .slice a n cap] w fun e w' => e = .returned (.bool true) ∧ Below w.heap.size w w' := by
  obtain ⟨W0, hW0⟩ : ∃ W0, W0 = w.alloc (.cells #[.int .i64 gb, .int .i64 gp, .int .i64 gz, .int .i64 gr] 23) := ⟨_, rfl⟩
  have hb0 : Below w.heap.size w W0 := by rw [hW0]; exact below_new w _
  have cg : ∀ i v, [Value.int .i64 gb, .int .i64 gp, .int .i64 gz, .int .i64 gr][i]? = some v → W0.cell? ⟨w.heap.size, i, none⟩ = some v := fun i v hv => by rw [hW0]; exact (Row.new w [.int .i64 gb, .int .i64 gp, .int .i64 gz, .int .i64 gr] 23).cell hv
  have g0 := cg 0 _ rfl
  have g1 := cg 1 _ rfl
  have g2 := cg 2 _ rfl
  have g3 := cg 3 _ rfl
  have hE : 0 < W0.heap.size := by have := hb0.size; omega
  have kF := fresh_yes gb gp gz gr W0 hR (hg.later hb0) (ht.later hb0) hE (by have := hb0.size; omega)
  have hlb := right_leb hR
  have HA : Hid (∀ X, Below W0.heap.size W0 X → Calls Tryz.prog 10 #[] X fun e w' => e = .returned (.bool true) ∧ Below X.heap.size X w') := fun X hb => alive_any X ((hg.later hb0).later hb) ((ht.later hb0).later hb) (by have := hb.size; omega) (by have := hb.size; have := hb0.size; omega)
  have HB0 := hidV hb0
  have HE := hidV hE
  have HLb := hidV (show ((2 : Nat) : Int) + gr + 2 < gb by omega)
  have HS := hidV (hS.later hb0)
  have hn := hS.len_eq
  have hnm : (n : Int) ≤ 9223372036854775807 := by have := hS.le; have := hS.max; unfold maxLen at this; omega
  have HN := hidV hn
  clear hg ht h1 hR hS hb0 cg hE hlb hn
  go_enter Tryz.func7, Tryz.ntmps7
  go_wp2_with fail
  rw [← hW0]
  clear hW0
  go_wp2_with (first
    | (go_at_call 8; refine kF.mono ?_; rintro e w1 ⟨m, c, P, rfl, hn1⟩; have kO : Calls Tryz.prog 13 #[.pointer (some ⟨m.p, 0, none⟩), .int .i64 2] w1 (fun e w2 => ∃ l, e = .returned (.tuple #[.pointer (some ⟨l.p, 0, none⟩), .int .i64 0]) ∧ Lg W0.heap.size 1 W0 w2 m c P l gp gz [] 0) := lg_open hn1 HE.out 2 HLb.out; clear hn1)
    | (go_at_call 13; refine kO.mono ?_; rintro e w2 ⟨l0, rfl, hl⟩; clear kO; obtain ⟨lp, hlp⟩ : ∃ lp, lp = l0.p := ⟨_, rfl⟩; rw [← hlp]; have H2 : Hid (Any W0.heap.size lp W0 w2 gp gz) := ⟨_, _, _, _, _, _, _, hl, hlp.symm⟩; clear hl hlp))
  go_loopg [8] n (fun kx s8 wr => ∃ k : Nat, k + kx = n ∧ s8 = .int .i64 (k : Nat) ∧ Hid (Any W0.heap.size lp W0 wr gp gz))
  case atStart => exact ⟨0, by omega, rfl, H2.out⟩
  case round =>
    obtain ⟨k, hk, rfl, I⟩ := hrel
    by_cases hlt : k < n
    · obtain ⟨o, ho⟩ : ∃ o, S[k]? = some o := ⟨_, List.getElem?_eq_getElem (by have := HN.out; omega)⟩
      have hI := HS.out.later (I.out.bl)
      obtain ⟨bb, off, rfl, hrow⟩ : ∃ bb off, a = some ⟨bb, off, none⟩ ∧ ∀ i o, S[i]? = some o → wr.cell? ⟨bb, off + i * 2, none⟩ = some (.int .i64 o.kind) ∧ wr.cell? ⟨bb, off + i * 2 + 1, none⟩ = some (.slice o.da o.dl o.dc) := by
        rcases hI.row with e | ⟨bb, off, e, hc⟩
        · rw [e] at ho; simp at ho
        · exact ⟨bb, off, e, hc⟩
      obtain ⟨d0, d1⟩ := hrow k o ho
      have hB := hI.each o (List.mem_of_getElem? ho)
      have kA := any_append_log I.out o.da o.dl o.dc o.data hB.len_eq hB.lt hB.row
      have kS := any_sync_log I.out
      obtain ⟨kd, hkd⟩ : ∃ kd, kd = o.kind := ⟨_, rfl⟩
      rw [← hkd] at d0
      generalize o.da = oa at *
      generalize o.dl = ol at *
      generalize o.dc = oc at *
      clear hI hrow hB ho hkd
      have hkn : (k : Int) < (n : Int) := by omega
      by_cases e1 : kd = 1
      · subst e1
        go_wp2_with (go_at_call 15; refine kA.mono ?_; rintro e w3 ⟨⟨u, v, rfl⟩, h3⟩; have H3 := hidV h3; clear h3)
        go_roundg (n - (k + 1))
        case measure => omega
        case rel => exact ⟨k + 1, by omega, by go_num, H3.out⟩
      · have b1 : (kd == (1 : Int)) = false := by simpa using e1
        by_cases e2 : kd = 2
        · subst e2
          go_wp2_with (go_at_call 18; refine kS.mono ?_; rintro e w3 ⟨rfl, h3⟩; have H3 := hidV h3; clear h3)
          go_roundg (n - (k + 1))
          case measure => omega
          case rel => exact ⟨k + 1, by omega, by go_num, H3.out⟩
        · have b2 : (kd == (2 : Int)) = false := by simpa using e2
          by_cases e3 : kd = 3
          · subst e3
            go_wp2_with (go_at_call 18; refine kS.mono ?_; rintro e w3 ⟨rfl, h3⟩; have H3 := hidV h3; clear h3)
            go_roundg (n - (k + 1))
            case measure => omega
            case rel => exact ⟨k + 1, by omega, by go_num, H3.out⟩
          · have b3 : (kd == (3 : Int)) = false := by simpa using e3
            clear kA kS
            go_wp2_with fail
            go_roundg (n - (k + 1))
            case measure => omega
            case rel => exact ⟨k + 1, by omega, by go_num, I.out⟩
    · have hkn : k = n := by omega
      clear hk
      subst hkn
      obtain ⟨t, m, c, P, l, fs, nn, hL, rfl⟩ := I.out
      clear I kF HN HS
      obtain ⟨rn, hrn, hr0⟩ : ∃ rn : Nat, roomI l = (rn : Int) ∧ rn ≤ 1024 := by
        have : 0 ≤ roomI l ∧ roomI l ≤ 1024 := by unfold roomI; rw [hL.sp]; simp only [Bool.false_eq_true, if_false]; omega
        exact ⟨(roomI l).toNat, by omega, by omega⟩
      have kR := room_any hL.ml
      rw [hrn] at kR
      have HL : Hid (∀ X, Below wr.heap.size wr X → Lg W0.heap.size t W0 X m c P l gp gz fs nn) := fun X hb => hL.later hb hL.base_le
      have HBl : Hid (∀ X, Below wr.heap.size wr X → Below W0.heap.size W0 X) := fun X hb => (hL.later hb hL.base_le).bl
      have hfl : fs.length ≤ 31744 := by have := hL.ml.fr.count; have := hL.ml.size; have := hL.fs; rw [← hL.fs]; omega
      obtain ⟨many, hmany⟩ : ∃ many, many = fs.length := ⟨_, rfl⟩
      have HMn := hidV hmany
      have i0 : (0 : Int) ≤ (rn : Int) := by omega
      have i1 : (rn : Int) ≤ 1024 := by omega
      have mk1 : ∀ W : World, (Instr.makeSlice 39 (.int .i64 ((rn : Int) + 1)) (.int .i64 ((rn : Int) + 1))).run Tryz.prog W = .ok (.slice (some ⟨W.heap.size, 0, none⟩) (rn + 1) (rn + 1)) (W.alloc (.cells ((List.replicate (rn + 1) 0).map u8v).toArray 5)) := fun W => by have := make_zeros (rn + 1) (by omega) W; rw [show (((rn + 1 : Nat)) : Int) = (rn : Int) + 1 by omega] at this; exact this
      have mk2 := fun W => make_zeros rn (by omega) W
      have HFr : Hid (∀ X, Below wr.heap.size wr X → Calls Tryz.prog 24 #[.pointer (some ⟨l.p, 0, none⟩)] X fun e w' => ∃ a k, e = .returned (.slice a many k) ∧ Below X.heap.size X w') := fun X hb => (frames_any (HL.out X hb).ml).mono fun e w' ⟨v, e1, e2, e3⟩ => by
        obtain ⟨a, k, e4⟩ := fbk_len e2
        rw [(HL.out X hb).fs, ← HMn.out] at e4
        exact ⟨a, k, by rw [e1, e4], e3⟩
      have m1 : (many : Int) ≤ 31744 := by omega
      have M1 : Hid True := trivial
      have HRn := hidV hrn
      have hA1 : Hid (∀ W, Below wr.heap.size wr W → Calls Tryz.prog 15 #[.pointer (some ⟨l.p, 0, none⟩), .slice (some ⟨W.heap.size, 0, none⟩) (rn + 1) (rn + 1)] (W.alloc (.cells ((List.replicate (rn + 1) 0).map u8v).toArray 5)) fun e w' => e = .returned (.tuple #[.int .i64 0, .int .i64 (if rn < 1024 then 28 else 22)]) ∧ Below W.heap.size W w') := fun W hb => by
        have hb2 := Below.after hb (below_new W (.cells ((List.replicate (rn + 1) 0).map u8v).toArray 5))
        by_cases hlt : rn < 1024
        · rw [if_pos hlt]
          have k := append_full (HL.out _ hb2).ml (some ⟨W.heap.size, 0, none⟩) (rn + 1) (List.replicate (rn + 1) 0) (by simp) (zeros_row W (rn + 1)) (by simp) (by simp; omega) (by rw [HRn.out]; simp; omega)
          rw [List.length_replicate] at k
          exact k.mono fun e w' ⟨h1, h2⟩ => ⟨h1, Below.after (below_new W _) h2⟩
        · rw [if_neg hlt]
          exact (append_bad l.p (some ⟨W.heap.size, 0, none⟩) (rn + 1) (rn + 1) (W.alloc (.cells ((List.replicate (rn + 1) 0).map u8v).toArray 5)) (.inr (by omega))).mono fun e w' ⟨h1, h2⟩ => ⟨h1, Below.after (below_new W _) h2⟩
      have hA2 : Hid (1 ≤ rn → ∀ W, Below wr.heap.size wr W → Calls Tryz.prog 15 #[.pointer (some ⟨l.p, 0, none⟩), .slice (some ⟨W.heap.size, 0, none⟩) rn rn] (W.alloc (.cells ((List.replicate rn 0).map u8v).toArray 5)) fun e w' => (∃ u, e = .returned (.tuple #[u, .int .i64 0])) ∧ Below W0.heap.size W0 w' ∧ Calls Tryz.prog 24 #[.pointer (some ⟨l.p, 0, none⟩)] w' fun e w2 => ∃ a k, e = .returned (.slice a (many + 1) k) ∧ Below W0.heap.size W0 w2) := fun h1 W hb => by
        have hb2 := Below.after hb (below_new W (.cells ((List.replicate rn 0).map u8v).toArray 5))
        have hLL := HL.out _ hb2
        have hs := hLL.ml.size
        have k := lg_append hLL (some ⟨W.heap.size, 0, none⟩) rn (List.replicate rn 0) (by simp) (zeros_row W rn) (by simp; omega) (by simp; omega) (by
          have e0 := HRn.out
          unfold roomI at e0
          rw [hLL.sp] at e0
          simp only [Bool.false_eq_true, if_false] at e0
          have e1 := hLL.ml.cap
          rw [hLL.num.1, hLL.num.2] at e1
          have e2 := hLL.len
          rw [List.length_replicate]
          omega)
        rw [List.length_replicate] at k
        refine k.mono ?_
        rintro e w' ⟨rfl, t', m', c', P', l', e1, _, h2⟩
        refine ⟨⟨_, rfl⟩, h2.bl, ?_⟩
        refine lg_at e1 ((frames_any h2.ml).mono fun e w2 ⟨v, q1, q2, q3⟩ => ?_)
        obtain ⟨a, k, e4⟩ := fbk_len q2
        rw [h2.fs, List.length_append, List.length_singleton, ← HMn.out] at e4
        exact ⟨a, k, by rw [q1, e4], (h2.later q3 h2.base_le).bl⟩
      obtain ⟨Z1, hZ1⟩ : ∃ Z1 : Array Value, Z1 = ((List.replicate (rn + 1) 0).map u8v).toArray := ⟨_, rfl⟩
      obtain ⟨Z2, hZ2⟩ : ∃ Z2 : Array Value, Z2 = ((List.replicate rn 0).map u8v).toArray := ⟨_, rfl⟩
      rw [← hZ1] at mk1 hA1
      rw [← hZ2] at mk2 hA2
      clear hL hrn hfl hmany hZ1 hZ2
      by_cases hz : rn = 0
      · have b0 : ((rn : Int) == 0) = true := by simp [hz]
        have b1 : (rn : Int) < 1024 := by omega
        simp only [if_pos (show rn < 1024 by omega)] at hA1
        clear hA2 hz
        go_wp2_with (first
          | (go_at_call 25; refine kR.mono ?_; rintro e w3 ⟨rfl, hb3⟩; have HB3 := hidV hb3; clear hb3)
          | (go_at_call 10; refine (HA.out _ (HBl.out _ HB3.out)).mono ?_; rintro e w4 ⟨rfl, hb4⟩; have HB4 := hidV (Below.after HB3.out hb4); clear hb4)
          | (go_at_call 15; refine (hA1.out w4 HB4.out).mono ?_; rintro e w5 ⟨rfl, hb5⟩; have HB5 := hidV (Below.after HB4.out hb5); clear hb5)
          | (go_at_call 24; refine (HFr.out _ HB5.out).mono ?_; rintro e w6 ⟨a6, k6, rfl, hb6⟩; have HB6 := hidV (Below.after HB5.out hb6); clear hb6))
        go_ret
        exact ⟨rfl, Below.after HB0.out (HBl.out _ HB6.out)⟩
      · have hA3 := hidV (hA2.out (by omega))
        have j0 : (rn : Int) ≠ 0 := by omega
        have j1 : ((rn : Int) == 0) = false := by simpa using hz
        clear hA2
        by_cases hlt : rn < 1024
        · have j2 : (rn : Int) < 1024 := by omega
          simp only [if_pos hlt] at hA1
          clear hz
          go_wp2_with (first
            | (go_at_call 25; refine kR.mono ?_; rintro e w3 ⟨rfl, hb3⟩; have HB3 := hidV hb3; clear hb3)
            | (go_at_call 10; refine (HA.out _ (HBl.out _ HB3.out)).mono ?_; rintro e w4 ⟨rfl, hb4⟩; have HB4 := hidV (Below.after HB3.out hb4); clear hb4)
            | (go_at_call 15; clear M1; refine (hA1.out w4 HB4.out).mono ?_; rintro e w5 ⟨rfl, hb5⟩; have HB5 := hidV (Below.after HB4.out hb5); clear hb5)
            | (go_at_call 24; refine (HFr.out _ HB5.out).mono ?_; rintro e w6 ⟨a6, k6, rfl, hb6⟩; have HB6 := hidV (Below.after HB5.out hb6); clear hb6 HFr)
            | (go_at_call 15; refine (hA3.out w6 HB6.out).mono ?_; rintro e w7 ⟨⟨u7, rfl⟩, hb7, kF7⟩; have HB7 := hidV hb7; clear hb7)
            | (go_at_call 24; refine kF7.mono ?_; rintro e w8 ⟨a8, k8, rfl, hb8⟩; have HB8 := hidV hb8; clear hb8))
          go_ret
          exact ⟨rfl, Below.after HB0.out HB8.out⟩
        · have j2 : ¬ (rn : Int) < 1024 := by omega
          have j3 : ((rn : Int) == 1024) = true := by have : rn = 1024 := by omega
                                                      simp [this]
          simp only [if_neg hlt] at hA1
          clear hz hlt
          go_wp2_with (first
            | (go_at_call 25; refine kR.mono ?_; rintro e w3 ⟨rfl, hb3⟩; have HB3 := hidV hb3; clear hb3)
            | (go_at_call 10; refine (HA.out _ (HBl.out _ HB3.out)).mono ?_; rintro e w4 ⟨rfl, hb4⟩; have HB4 := hidV (Below.after HB3.out hb4); clear hb4)
            | (go_at_call 15; clear M1; refine (hA1.out w4 HB4.out).mono ?_; rintro e w5 ⟨rfl, hb5⟩; have HB5 := hidV (Below.after HB4.out hb5); clear hb5)
            | (go_at_call 24; refine (HFr.out _ HB5.out).mono ?_; rintro e w6 ⟨a6, k6, rfl, hb6⟩; have HB6 := hidV (Below.after HB5.out hb6); clear hb6 HFr)
            | (go_at_call 15; refine (hA3.out w6 HB6.out).mono ?_; rintro e w7 ⟨⟨u7, rfl⟩, hb7, kF7⟩; have HB7 := hidV hb7; clear hb7)
            | (go_at_call 24; refine kF7.mono ?_; rintro e w8 ⟨a8, k8, rfl, hb8⟩; have HB8 := hidV hb8; clear hb8))
          go_ret
          exact ⟨rfl, Below.after HB0.out HB8.out⟩
theorem walk (b p z r : Int) (a : Option Addr) (n cap : Nat) (S : List WOp) (w : World) (hg : Hd.Glb w) (ht : Typed w) (hS : WArg w a n cap S) :
    Calls Tryz.prog 7 #[.agg #[.int .i64 b, .int .i64 p, .int .i64 z, .int .i64 r], .slice a n cap] w fun e w' => e = .returned (.bool true) ∧ Below w.heap.size w w' := by
  have h1 : 0 < w.heap.size ∧ 1 < w.heap.size := by
    obtain ⟨v, hv⟩ := hg
    exact ⟨World.block_lt_of_cell? w _ hv, World.block_lt_of_cell? w _ ht⟩
  cases hR : rightB b p z r with
  | false => exact walk_no b p z r a n cap w hg ht h1 hR
  | true =>
    obtain ⟨gb, gp, gz, gr, rfl, rfl, rfl, rfl, _⟩ := right_nums hR
    exact walk_yes gb gp gz gr a n cap S w hg ht h1 hR hS

set_option maxRecDepth 100000 in
theorem contract (H : Type) (enc : TypeId × Value → H) (W : World) (base : Nat) (args : Array Value) (ds gs : List (DataW H)) (before : List MemPlace)
    (hval : ∀ (j : Nat) t v, Tryz.f7.params[j]? = some t → args[j]? = some v → Value.okWide Tryz.prog W .any base t v)
    (hW : DataW.Whole enc Tryz.prog Tryz.f7.params.toList Rows.wbufRoomSpec.vars false W args.toList ds gs before) (hL : laidMetH Tryz.prog laid W)
    : Calls Tryz.prog 7 args W fun e W' => ∃ v, e = .returned v ∧ Rows.wbufRoomSpec.post enc Tryz.prog Tryz.f7 false true false false W args v W' := by
  have hW' := hW
  obtain ⟨p, q, hA0, hV, rfl, hfz, hnd⟩ := hW
  have hA : DataW.TrodAll enc Tryz.prog W 0 (fun _ => true) true Tryz.f7.params.toList args.toList ds p := hA0
  rw [Tryz.params7] at hA hval
  obtain ⟨v0, vs0, d0, ds0, p0, q0, hargs, rfl, rfl, h0, r0⟩ := trodAll_cons hA
  obtain ⟨v1, vs1, d1, ds1, p1, q1, rfl, rfl, rfl, h1, r1⟩ := trodAll_cons r0
  obtain ⟨rfl, rfl, rfl⟩ := trodAll_nil r1
  obtain rfl : args = #[v0, v1] := by cases args; simp_all
  obtain ⟨rfl, rfl⟩ := trodVars_none hV
  obtain ⟨cs0, rfl, sz0⟩ := okWide_struct Tryz.underlying23 (hval 0 23 v0 rfl rfl)
  have k0 := h0
  have lt0 : ∀ x ∈ p0, x.block < W.heap.size := by obtain ⟨m, hm⟩ := k0; exact DataW.trod_lt m _ _ _ hm
  obtain ⟨gb0, gp0, gz0, gr0, rfl⟩ : ∃ b p z r, cs0 = #[.int .i64 b, .int .i64 p, .int .i64 z, .int .i64 r] := by
    obtain ⟨fuel, hf⟩ := h0
    exact garg_open sz0 hf
  obtain ⟨a1, len1, cap1, rfl⟩ := okWide_slice Tryz.underlying25 (hval 1 25 v1 rfl rfl)
  have k1 := h1
  have lt1 : ∀ x ∈ p1, x.block < W.heap.size := by obtain ⟨m, hm⟩ := k1; exact DataW.trod_lt m _ _ _ hm
  obtain ⟨l1, w1⟩ : ∃ l, WArg W a1 len1 cap1 l := by
    obtain ⟨fuel, hf⟩ := h1
    exact warg_open hf
  clear hA0
  refine (walk gb0 gp0 gz0 gr0 a1 len1 cap1 l1 W (glb_of hL) (typed_of hL) w1).mono fun e W' ⟨he, bel⟩ => ?_
  subst he
  exact ⟨_, rfl, _, _, _, [], _, [], hW', trodAll_mk1 (shut_bool Tryz.underlying4 _), (trodAll_cons_mk (Below.trod laidOut (by kernel_rfl) (of_decide_eq_true (by kernel_rfl)) k0 bel lt0) (trodAll_cons_mk (Below.trod laidOut (by kernel_rfl) (of_decide_eq_true (by kernel_rfl)) k1 bel lt1) trodAll_mk0)), rfl, bel.frame _, fun h => by cases h⟩

theorem reads (os : Os) {H : Type} (enc : TypeId × Value → H) : ∃ places, DataW.whole enc Tryz.prog ((laidWorld os).forCall (fun _ _ => 0) ⟨#[], #[.agg #[.int .i64 0, .int .i64 0, .int .i64 0, .int .i64 0], .slice none 0 0], []⟩).memory Tryz.f7.params.toList Rows.wbufRoomSpec.vars false (#[.agg #[.int .i64 0, .int .i64 0, .int .i64 0, .int .i64 0], .slice none 0 0] : Array Value).toList 8 = some ([.agg [.lit (.int .i64 0), .lit (.int .i64 0), .lit (.int .i64 0), .lit (.int .i64 0)], .nil], [], places) :=
  ⟨[], by kernel_rfl⟩
set_option maxRecDepth 100000 in
theorem lifted (os : Os) (started : os.Started) (H : Type) (enc : TypeId × Value → H) (F : Stop.Interp) :
    ReturnsInHanded {} Tryz.checked os 7 .any ((OpenSpec.ofChange Rows.wbufRoomSpec).preRow enc Tryz.prog Tryz.f7 Rows.wbufRoomRow.domain false Rows.wbufRoomRow.laid) (((OpenSpec.ofChange Rows.wbufRoomSpec).at F).post enc Tryz.prog Tryz.f7 false true false false) := by
  obtain ⟨places, hx⟩ := reads os enc
  refine returnsInHanded_of_row (C := Tryz.checked) (s := OpenSpec.ofChange Rows.wbufRoomSpec) own started (by kernel_rfl) Tryz.func7
    (witness_row_at (enc := enc) (C := Tryz.checked) false (laidWorld os) #[.agg #[.int .i64 0, .int .i64 0, .int .i64 0, .int .i64 0], .slice none 0 0] (laid_os os) (by kernel_rfl) (by kernel_rfl) (by kernel_rfl)
      (OpenSpec.preRow_of_cond 8 hx (by kernel_rfl) (fun k hk => by cases hk) (by kernel_rfl) (laid_met os _))) ?_
  intro W base args ds gs before hval hW _ _ hsz hL _ _
  exact contract H enc W base args ds gs before hval hW hL
theorem said : Rows.WbufRoomSaid :=
  OpenClaim.holds_of_cond 7 Tryz.f7 rfl rfl rfl rfl rfl rfl rfl ⟨rfl, rfl, rfl, rfl, rfl⟩ rfl rfl rfl rfl rfl (by kernel_rfl) Tryz.func7 (by kernel_rfl)
    (of_decide_eq_true (by kernel_rfl)) (by unfold Func.isWrapper; first | (rw [if_pos (by decide +kernel)]; kernel_rfl) | (rw [if_neg (by decide +kernel)]; exact ⟨rfl, rfl⟩))
    (fun os started H enc _ F => by rw [OpenClaim.pre_eq_preRow]; exact lifted os started H enc F)
set_option maxRecDepth 100000 in
theorem plain (f : FuncId) (fn : Func) (hf : Tryz.pinned.checked.prog.funcNamed "pumice/pumicelaw11.WbufRoom" = some f) (hfn : Tryz.pinned.checked.prog.funcs[f]? = some fn) :
    true = Tryz.pinned.checked.prog.looks [] ∧ ∀ (j : Nat) t, fn.params[j]? = some t → Tryz.pinned.checked.prog.wantsStandIn t = false := by
  obtain rfl : f = 7 := Option.some.inj ((show Tryz.prog.funcNamed "pumice/pumicelaw11.WbufRoom" = some 7 by kernel_rfl).symm.trans hf) |>.symm
  obtain rfl : fn = Tryz.f7 := (Option.some.inj (Tryz.func7.symm.trans hfn)).symm
  refine ⟨by kernel_rfl, fun j t ht => ?_⟩
  rw [Tryz.params7] at ht
  have hm : t = 23 ∨ t = 25 := by simpa using Array.mem_of_getElem? ht
  rcases hm with rfl | rfl
  · exact (show Tryz.prog.wantsStandIn 23 = false by kernel_rfl)
  · exact (show Tryz.prog.wantsStandIn 25 = false by kernel_rfl)
theorem card : Rows.WbufRoomCardSaid :=
  Claim7.holds_tied_plain_at .later [] _ _ _ _ said (fun _ h => by cases h) (by kernel_rfl) (fun _ h => by cases h) wbufRoom_row_tie rfl ⟨rfl, rfl⟩ (by kernel_rfl) rfl plain (by kernel_rfl)
end Go.Proofs.YthffehaokndkeaaGreatDoor.wbufRoom

namespace Go.Proofs.YthffehaokndkeaaGreatDoor
theorem wbufRoom_holds : Rows.WbufRoomCardSaid := wbufRoom.card
#print axioms wbufRoom_holds
end Go.Proofs.YthffehaokndkeaaGreatDoor
