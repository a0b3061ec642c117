/-
  For all geometries, plans, scripts and places: WbufPlays answers true (a log holds the frames that were appended, at the places that the document tells, whatever fails beneath within the reserve, also where it is opened anew), and leaves its arguments as they were; given that the two variables that it reaches hold what their initialisers lay (the card ties them). No other condition.
-/
import Derived.Test.YteodcjbbkekidaaGreatDoorZQY
import Derived.Test.YteodcjbbkekidaaGreatDoorZKQ
namespace Go.Proofs.YteodcjbbkekidaaGreatDoor.wbufPlays
open Go.ChangeShapes Go.WideShapes Go.ChangeAt Go.RowKit
set_option maxRecDepth 10000

theorem i64_and7 (n : Int) : bits .and .i64 n 7 = n % 8 := by
  have h7 : (BitVec.ofInt 64 7).toNat = 2 ^ 3 - 1 := by decide
  have key : (BitVec.ofInt 64 n &&& BitVec.ofInt 64 7).toNat = (n % ((2 ^ 64 : Nat) : Int)).toNat % 2 ^ 3 := by
    rw [BitVec.toNat_and, BitVec.toNat_ofInt, h7, Nat.and_two_pow_sub_one_eq_mod]
  show IntKind.i64.wrap ((BitVec.ofInt 64 n &&& BitVec.ofInt 64 7).toNat : Nat) = n % 8
  rw [key, IntKind.wrap_i64]
  omega
theorem FArg.later {w w' : World} {a : Option Addr} {n cap : Nat} {l : List Flt} (h : FArg w a n cap l) (hb : Below w.heap.size w w') : FArg w' a n cap l := ⟨h.len_eq, h.le, h.max, frow_later h.row hb, h.nil⟩
theorem New.later {w w' w2 : World} {gb gp gz gr : Nat} {m : Mg} {c : CS} {P : List (List (List Nat))} (h : New w gb gp gz gr m c P w') (hb : Below w'.heap.size w' w2) : New w gb gp gz gr m c P w2 := ⟨h.al.later hb, h.num, h.bl.trans (hb.mono h.bl.size), h.fs⟩
theorem Al.low {t : Nat} {w0 : World} {gz : Nat} {w : World} {m : Mg} {c : CS} {P : List (List (List Nat))} {f : Int → Option (List (List Nat))} (h : Al w0.heap.size t w0 gz w m c P f) : Below w0.heap.size w0 w :=
  ⟨h.kp.os, h.kp.tape, h.kp.output, h.kp.size, fun k hk => h.kp.block k hk (by omega)⟩
set_option maxHeartbeats 2000000 in
theorem walk_no (b p z r : Int) (pa : Option Addr) (pn pc : Nat) (a : Option Addr) (n cap : Nat) (at_ : Int) (w : World) (hg : Hd.Glb w) (ht : Typed w) (h1 : 0 < w.heap.size ∧ 1 < w.heap.size) (hR : rightB b p z r = false) :
    Calls Tryz.prog 3 #[.agg #[.int .i64 b, .int .i64 p, .int .i64 z, .int .i64 r], .slice pa pn pc, .slice a n cap, .int .i64 at_] w fun e w' => e = .returned (.bool true) ∧ Below w.heap.size w w' := by
  have hb0 := below_new w (.cells #[.int .i64 b, .int .i64 p, .int .i64 z, .int .i64 r] 23)
  have kF := fresh_no b p z r (w.alloc (.cells #[.int .i64 b, .int .i64 p, .int .i64 z, .int .i64 r] 23)) hR
  have HA : Hid (∀ X, Below w.heap.size w X → Calls Tryz.prog 10 #[] X fun e w' => e = .returned (.bool true) ∧ Below X.heap.size X w') := fun X hb => alive_any X (hg.later hb) (ht.later hb) (by have := hb.size; omega) (by have := hb.size; omega)
  have HB0 := hidV hb0
  clear hg ht h1 hR hb0
  go_enter Tryz.func3, Tryz.ntmps3
  go_wp2_with (first
    | (go_at_call 8; refine kF.mono ?_; rintro e w1 ⟨rfl, hb1⟩; have HB1 := hidV (Below.after HB0.out hb1); clear hb1)
    | (go_at_call 10; refine (HA.out _ HB1.out).mono ?_; rintro e w2 ⟨rfl, hb2⟩; have HB2 := hidV (Below.after HB1.out hb2); clear hb2))
  go_ret
  exact ⟨rfl, HB2.out⟩
/-- A step of a script, read where it lies. -/
theorem op_at {w : World} {a : Option Addr} {n cap : Nat} {S : List WOp} (h : WArg w a n cap S) {k : Nat} (hk : k < n) : ∃ bb off o, a = some ⟨bb, off, none⟩ ∧ S[k]? = some o ∧ w.cell? ⟨bb, off + k * 2, none⟩ = some (.int .i64 o.kind) ∧ w.cell? ⟨bb, off + k * 2 + 1, none⟩ = some (.slice o.da o.dl o.dc) ∧ BArg w o.da o.dl o.dc o.data := by
  obtain ⟨o, ho⟩ : ∃ o, S[k]? = some o := ⟨_, List.getElem?_eq_getElem (by have := h.len_eq; omega)⟩
  rcases h.row with e | ⟨bb, off, e, hc⟩
  · rw [e] at ho; simp at ho
  · obtain ⟨q0, q1⟩ := hc k o ho
    exact ⟨bb, off, o, e, ho, q0, q1, h.each o (List.mem_of_getElem? ho)⟩
set_option maxRecDepth 100000 in
set_option maxHeartbeats 8000000 in
theorem walk_yes (gb gp gz gr : Nat) (pa : Option Addr) (pn pc : Nat) (pl : List Flt) (a : Option Addr) (n cap : Nat) (S : List WOp) (at_ : Int) (w : World) (hg : Hd.Glb w) (ht : Typed w) (h1 : 0 < w.heap.size ∧ 1 < w.heap.size) (hR : rightB gb gp gz gr = true) (hF : FArg w pa pn pc pl) (hS : WArg w a n cap S) :
    Calls Tryz.prog 3 #[.agg #[.int .i64 gb, .int .i64 gp, .int .i64 gz, .int .i64 gr], .slice pa pn pc, .slice a n cap, .int .i64 at_] w fun e w' => e = .returned (.bool true) ∧ Below w.heap.size w w' := by
  obtain ⟨W0, hW0⟩ : ∃ W0, W0 = w.alloc (.cells #[.int .i64 gb, .int .i64 gp, .int .i64 gz, .int .i64 gr] 23) := ⟨_, rfl⟩
  have hb0 : Below w.heap.size w W0 := by rw [hW0]; exact below_new w _
  have hrow : Row W0 w.heap.size [Value.int .i64 gb, .int .i64 gp, .int .i64 gz, .int .i64 gr] 23 := by rw [hW0]; exact Row.new w [.int .i64 gb, .int .i64 gp, .int .i64 gz, .int .i64 gr] 23
  have g0 := hrow.cell (i := 0) rfl
  have g1 := hrow.cell (i := 1) rfl
  have g2 := hrow.cell (i := 2) rfl
  have g3 := hrow.cell (i := 3) rfl
  have hE : 0 < W0.heap.size := by have := hb0.size; omega
  have kF := fresh_fine gb gp gz gr W0 hR (hg.later hb0) (ht.later hb0) hE (by have := hb0.size; omega)
  have hlb := right_leb hR
  have hgeo := right_geo hR
  have HA : Hid (∀ X, Below W0.heap.size W0 X → Calls Tryz.prog 10 #[] X fun e w' => e = .returned (.bool true) ∧ Below X.heap.size X w') := fun X hb => alive_any X ((hg.later hb0).later hb) ((ht.later hb0).later hb) (by have := hb.size; omega) (by have := hb.size; have := hb0.size; omega)
  have HB0 := hidV hb0
  have HR := hidV hrow
  have HLb := hidV hlb
  have HS := hidV (hS.later hb0)
  have HFa := hidV (FArg.later hF hb0)
  have hnm : (n : Int) ≤ 9223372036854775807 := by have := hS.le; have := hS.max; unfold maxLen at this; omega
  have HGe := hidV hgeo
  have gp2 : 2 ≤ (gp : Int) := by omega
  have gpm : (gp : Int) ≤ 64 := by omega
  have h7 := i64_and7 at_
  obtain ⟨lb, hlb7⟩ : ∃ lb : Nat, (lb : Int) = at_ % 8 ∧ lb ≤ 7 := ⟨(at_ % 8).toNat, by omega, by omega⟩
  rw [← hlb7.1] at h7
  have HL7 := hidV hlb7.2
  clear hg ht h1 hR hS hF hb0 hE hlb hrow hgeo hlb7
  go_enter Tryz.func3, Tryz.ntmps3
  go_wp2_with fail
  rw [← hW0]
  clear hW0
  go_wp2_with (go_at_call 8; refine kF.mono ?_; rintro e w1 ⟨m, c, P, rfl, hn1, hfi⟩; have HN1 := hidV (And.intro hn1 hfi); have y0 := (HR.out.later hn1.bl).cell (i := 0) rfl; have y1 := (HR.out.later hn1.bl).cell (i := 1) rfl; have y2 := (HR.out.later hn1.bl).cell (i := 2) rfl; have y3 := (HR.out.later hn1.bl).cell (i := 3) rfl; clear hn1 hfi)
  refine (mild_any gb gp gz gr pa pn pc pl w1 (FArg.later HFa.out HN1.out.1.bl)).mono ?_
  rintro e w2 ⟨Bm, rfl, hB, hb2⟩
  have HN2 := hidV (New.later HN1.out.1 hb2)
  clear y0 y1 y2 y3 hb2 kF g0 g1 g2 g3
  cases Bm with
  | false =>
    go_wp2_with (go_at_call 10; refine (HA.out _ HN2.out.bl).mono ?_; rintro e w3 ⟨rfl, hb3⟩; have HB3 := hidV (Below.after HN2.out.bl hb3); clear hb3)
    go_ret
    exact ⟨rfl, Below.after HB0.out HB3.out⟩
  | true =>
    have HMi := hidV (hB rfl)
    clear hB
    have kC := mchip_any HN2.out.al.ms.ml
    have kA := New.arm HN2.out HN1.out.2 pa pn pc pl (FArg.later HFa.out HN2.out.bl) HMi.out.1 HMi.out.2.1 HMi.out.2.2
    have HP : Hid (∀ X N, Calls Tryz.prog 14 #[.slice none 0 0, .bool false, .int .i64 (gz : Nat), .int .i64 ((gp : Int) - 2)] X fun e w' => ∃ d, e = .returned (.pointer (some ⟨d.p, 0, none⟩)) ∧ (d.page = gz ∧ d.pages = gp - 2 ∧ d.fs = [] ∧ d.e = 0 ∧ d.br = false) ∧ d.no = N ∧ DAt X.heap.size w' d ∧ Below X.heap.size X w') := fun X N => by
      have k := dopen_nil gz (gp - 2) X N (by have := HGe.out; omega) (by have := HGe.out; omega)
      rw [show (((gp - 2 : Nat)) : Int) = (gp : Int) - 2 by have := HGe.out; omega] at k
      exact k.mono fun e w' ⟨d, q1, q2, q3, q4, q5, q6, qn, q7, q8⟩ => ⟨d, q1, ⟨q2, q3, q4, q5, q6⟩, qn, q7, q8⟩
    go_wp2_with (first
      | (go_at_call 11; refine kC.mono ?_; rintro e w3 ⟨rfl, rfl⟩; clear kC)
      | (go_at_call 12; refine kA.mono ?_; rintro e w4 ⟨rfl, c5, _, hn5, hA5⟩; have H5 := hidV (And.intro hn5 hA5); clear kA hn5 hA5)
      | (go_at_call 10; refine (HA.out _ (Al.low H5.out.2)).mono ?_; rintro e w5 ⟨rfl, hb5⟩; have H6 := hidV (H5.out.2.later hb5); have kO : Calls Tryz.prog 13 #[.pointer (some ⟨m.p, 0, none⟩), .int .i64 (lb : Nat)] w5 (fun e w' => ∃ l, e = .returned (.tuple #[.pointer (some ⟨l.p, 0, none⟩), .int .i64 0]) ∧ OpenP W0.heap.size 257 w5 m c5 P lb l w') := open_any H6.out.ms lb (by rw [H5.out.1.1, H5.out.1.2.2.2]; have := HLb.out; have := HL7.out; omega); clear hb5)
      | (go_at_call 13; refine kO.mono ?_; rintro e w6 ⟨l, rfl, ho⟩; have HO := hidV ho; have hbl6 : Below W0.heap.size W0 w6 := (Al.low H6.out).trans ⟨ho.kp.os, ho.kp.tape, ho.kp.output, ho.kp.size, fun k hk => ho.kp.block k (by have := (Al.low H6.out).size; omega) (by have := H6.out.ms.ml.low.1; omega)⟩; have y1 := (HR.out.later hbl6).cell (i := 1) rfl; have y2 := (HR.out.later hbl6).cell (i := 2) rfl; clear ho kO)
      | (go_at_call 14; refine (HP.out _ (fun k => k = l.db)).mono ?_; rintro e w7 ⟨d, rfl, hgd, hno, hd, hb7⟩; have HT := hidV (PW.made H6.out (by decide) H5.out.1.2.1 HO.out hd hb7 hno hgd); clear hgd hno hd hb7))
    generalize w6.heap.size = B at HT
    generalize l.p = lp at *
    generalize d.p = dp at *
    generalize m.p = mp at *
    clear H5 H6 HO HP hbl6 y1 y2 HN2 HN1
    go_loopg [11, 12, 14] n (fun kx s11 s12 s14 wr => ∃ k lp X, k + kx = n ∧ s14 = .int .i64 (k : Nat) ∧ s11 = .pointer (some ⟨lp, 0, none⟩) ∧ Hid (PW W0.heap.size B W0 wr gp gz lb mp lp dp X X))
    case atStart => exact ⟨0, lp, _, by omega, rfl, rfl, HT.out⟩
    case round =>
      clear HT
      obtain ⟨k, lx, X, hk, rfl, rfl, HT⟩ := hrel
      by_cases hlt : k < n
      · have hI := fun W (hb : Below W0.heap.size W0 W) => op_at (HS.out.later hb) hlt
        obtain ⟨ba, oa, o, rfl, ho0, _⟩ := hI W0 (Below.refl _ _)
        have ho : ∀ W, Below W0.heap.size W0 W → W.cell? ⟨ba, oa + k * 2, none⟩ = some (.int .i64 o.kind) ∧ W.cell? ⟨ba, oa + k * 2 + 1, none⟩ = some (.slice o.da o.dl o.dc) ∧ BArg W o.da o.dl o.dc o.data := fun W hb => by
          obtain ⟨bb', off', o', e1', e2', r⟩ := hI W hb
          rw [ho0] at e2'
          cases e1'
          cases e2'
          exact r
        have hk1 : (k : Int) < (n : Int) := by omega
        obtain ⟨kd, hkd⟩ : ∃ kd, kd = o.kind := ⟨_, rfl⟩
        have C1 : Hid (∀ W, Below W0.heap.size W0 W → W.cell? ⟨ba, oa + k * 2, none⟩ = some (.int .i64 kd) ∧ W.cell? ⟨ba, oa + k * 2 + 1, none⟩ = some (.slice o.da o.dl o.dc) ∧ BArg W o.da o.dl o.dc o.data) := by rw [hkd]; exact ho
        generalize o.da = oda at *
        generalize o.dl = odl at *
        generalize o.dc = odc at *
        generalize o.data = od at *
        clear ho hkd hI ho0
        have u0 := (C1.out wr HT.out.bl).1
        have u1 := (C1.out wr HT.out.bl).2.1
        have hrm : ∀ q, rup gz q % gz = 0 := fun q => rup_mod (by have := HGe.out; omega) q
        have HRm := hidV hrm
        clear hrm
        by_cases e1 : kd = 1
        · subst e1
          obtain ⟨Y, hY⟩ : ∃ Y, Y = stp ((gp - 2) * gz) gz X od := ⟨_, rfl⟩
          obtain ⟨r1, hr1⟩ : ∃ r1, r1 = (aps ((gp - 2) * gz) X od).1 := ⟨_, rfl⟩
          obtain ⟨r2, hr2⟩ : ∃ r2, r2 = (aps ((gp - 2) * gz) X od).2 := ⟨_, rfl⟩
          have HAp : Hid (∀ W, PW W0.heap.size B W0 W gp gz lb mp lx dp X X → Calls Tryz.prog 15 #[.pointer (some ⟨lx, 0, none⟩), .slice oda odl odc] W fun e w' => e = .returned (.tuple #[.int .i64 (r1 : Nat), .int .i64 r2]) ∧ PW W0.heap.size B W0 w' gp gz lb mp lx dp Y X) := fun W h => by
            rw [hY, hr1, hr2]
            exact pw_append h oda odl odc od (C1.out _ h.bl).2.2
          have HDp : Hid (∀ W, PW W0.heap.size B W0 W gp gz lb mp lx dp Y X → Calls Tryz.prog 16 #[.pointer (some ⟨dp, 0, none⟩), .slice oda odl odc] W fun e w' => e = .returned (.tuple #[.int .i64 (r1 : Nat), .int .i64 r2]) ∧ PW W0.heap.size B W0 w' gp gz lb mp lx dp Y Y) := fun W h => by
            have := pw_dappend h oda odl odc od (C1.out _ h.bl).2.2
            rw [← hY, ← hr1, ← hr2] at this
            exact this
          clear hY hr1 hr2
          go_wp2_with (first
                      | (go_at_call 15; refine (HAp.out _ HT.out).mono ?_; rintro e w5 ⟨rfl, h5⟩; clear HT; have HT := hidV h5; clear h5; (try clear u0 u1); have u0 := (C1.out _ HT.out.bl).1; have u1 := (C1.out _ HT.out.bl).2.1)
                      | (go_at_call 16; refine (HDp.out _ HT.out).mono ?_; rintro e w5 ⟨rfl, h5⟩; clear HT; have HT := hidV h5; clear h5; (try clear u0 u1); have u0 := (C1.out _ HT.out.bl).1; have u1 := (C1.out _ HT.out.bl).2.1)
                      | (go_at_call 19; refine (pw_same HT.out rfl).mono ?_; rintro e w5 ⟨rfl, h5⟩; clear HT; have HT := hidV h5; clear h5)
                      | (go_at_call 20; refine (pw_read HT.out at_).mono ?_; rintro e w5 ⟨v5, rfl, h5⟩; clear HT; have HT := hidV h5; clear h5)
                      | (go_at_call 21; refine (pw_dread HT.out rfl at_).mono ?_; rintro e w5 ⟨v6, rfl, h5⟩; clear HT; have HT := hidV h5; clear h5))
          go_roundg (n - (k + 1))
          case measure => omega
          case rel => exact ⟨k + 1, lx, _, by omega, by go_num, rfl, HT.out⟩
        · have b1 : (kd == (1 : Int)) = false := by simpa using e1
          by_cases e2 : kd = 2
          · subst e2
            clear b1
            go_wp2_with (first
                      | (go_at_call 17; refine (pw_dsync HT.out).mono ?_; rintro e w5 ⟨rfl, h5⟩; clear HT; have HT := hidV h5; clear h5; (try clear u0 u1); have u0 := (C1.out _ HT.out.bl).1; have u1 := (C1.out _ HT.out.bl).2.1)
                      | (go_at_call 18; refine (pw_sync HT.out).mono ?_; rintro e w5 ⟨rfl, h5⟩; clear HT; have HT := hidV h5; clear h5; (try clear u0 u1); have u0 := (C1.out _ HT.out.bl).1; have u1 := (C1.out _ HT.out.bl).2.1)
                      | (go_at_call 19; refine (pw_same HT.out rfl).mono ?_; rintro e w5 ⟨rfl, h5⟩; clear HT; have HT := hidV h5; clear h5)
                      | (go_at_call 20; refine (pw_read HT.out at_).mono ?_; rintro e w5 ⟨v5, rfl, h5⟩; clear HT; have HT := hidV h5; clear h5)
                      | (go_at_call 21; refine (pw_dread HT.out rfl at_).mono ?_; rintro e w5 ⟨v6, rfl, h5⟩; clear HT; have HT := hidV h5; clear h5))
            go_roundg (n - (k + 1))
            case measure => omega
            case rel => exact ⟨k + 1, lx, _, by omega, by go_num, rfl, HT.out⟩
          · have b2 : (kd == (2 : Int)) = false := by simpa using e2
            by_cases e3 : kd = 3
            · subst e3
              clear b1 b2
              go_wp2_with (first
                      | (go_at_call 17; refine (pw_dsync HT.out).mono ?_; rintro e w5 ⟨rfl, h5⟩; clear HT; have HT := hidV h5; clear h5; (try clear u0 u1); have u0 := (C1.out _ HT.out.bl).1; have u1 := (C1.out _ HT.out.bl).2.1)
                      | (go_at_call 18; refine (pw_sync HT.out).mono ?_; rintro e w5 ⟨rfl, h5⟩; clear HT; have HT := hidV h5; clear h5; (try clear u0 u1); have u0 := (C1.out _ HT.out.bl).1; have u1 := (C1.out _ HT.out.bl).2.1)
                      | (go_at_call 13; refine (pw_open HT.out (HRm.out _)).mono ?_; rintro e w5 ⟨lq, rfl, h5⟩; clear HT; have HT := hidV h5; clear h5; (try clear u0 u1); have u0 := (C1.out _ HT.out.bl).1; have u1 := (C1.out _ HT.out.bl).2.1)
                      | (go_at_call 19; refine (pw_same HT.out rfl).mono ?_; rintro e w5 ⟨rfl, h5⟩; clear HT; have HT := hidV h5; clear h5)
                      | (go_at_call 20; refine (pw_read HT.out at_).mono ?_; rintro e w5 ⟨v5, rfl, h5⟩; clear HT; have HT := hidV h5; clear h5)
                      | (go_at_call 21; refine (pw_dread HT.out rfl at_).mono ?_; rintro e w5 ⟨v6, rfl, h5⟩; clear HT; have HT := hidV h5; clear h5))
              go_roundg (n - (k + 1))
              case measure => omega
              case rel => exact ⟨k + 1, lq, _, by omega, by go_num, rfl, HT.out⟩
            · have b3 : (kd == (3 : Int)) = false := by simpa using e3
              go_wp2_with (first
                      | (go_at_call 19; refine (pw_same HT.out rfl).mono ?_; rintro e w5 ⟨rfl, h5⟩; clear HT; have HT := hidV h5; clear h5)
                      | (go_at_call 20; refine (pw_read HT.out at_).mono ?_; rintro e w5 ⟨v5, rfl, h5⟩; clear HT; have HT := hidV h5; clear h5)
                      | (go_at_call 21; refine (pw_dread HT.out rfl at_).mono ?_; rintro e w5 ⟨v6, rfl, h5⟩; clear HT; have HT := hidV h5; clear h5))
              go_roundg (n - (k + 1))
              case measure => omega
              case rel => exact ⟨k + 1, lx, _, by omega, by go_num, rfl, HT.out⟩
      · have hkn : k = n := by omega
        have hk1 : ¬ (k : Int) < (n : Int) := by omega
        have kC2 := pw_chip HT.out
        go_wp2_with (first
                      | (go_at_call 11; refine kC2.mono ?_; rintro e w5 ⟨cp, rfl, rfl, kW⟩)
                      | (go_at_call 22; refine kW.mono ?_; rintro e w6 ⟨rfl, rfl⟩))
        go_ret
        exact ⟨rfl, Below.after HB0.out HT.out.bl⟩
theorem walk (b p z r : Int) (pa : Option Addr) (pn pc : Nat) (pl : List Flt) (a : Option Addr) (n cap : Nat) (S : List WOp) (at_ : Int) (w : World) (hg : Hd.Glb w) (ht : Typed w) (hF : FArg w pa pn pc pl) (hS : WArg w a n cap S) :
    Calls Tryz.prog 3 #[.agg #[.int .i64 b, .int .i64 p, .int .i64 z, .int .i64 r], .slice pa pn pc, .slice a n cap, .int .i64 at_] w fun e w' => e = .returned (.bool true) ∧ Below w.heap.size w w' := by
  have h1 : 0 < w.heap.size ∧ 1 < w.heap.size := by
    obtain ⟨v, hv⟩ := hg
    exact ⟨World.block_lt_of_cell? w _ hv, World.block_lt_of_cell? w _ ht⟩
  cases hR : rightB b p z r with
  | false => exact walk_no b p z r pa pn pc a n cap at_ w hg ht h1 hR
  | true =>
    obtain ⟨gb, gp, gz, gr, rfl, rfl, rfl, rfl, _⟩ := right_nums hR
    exact walk_yes gb gp gz gr pa pn pc pl a n cap S at_ w hg ht h1 hR hF hS

set_option maxRecDepth 100000 in
theorem contract (H : Type) (enc : TypeId × Value → H) (W : World) (base : Nat) (args : Array Value) (ds gs : List (DataW H)) (before : List MemPlace)
    (hval : ∀ (j : Nat) t v, Tryz.f3.params[j]? = some t → args[j]? = some v → Value.okWide Tryz.prog W .any base t v)
    (hW : DataW.Whole enc Tryz.prog Tryz.f3.params.toList Rows.wbufPlaysSpec.vars false W args.toList ds gs before) (hL : laidMetH Tryz.prog laid W)
    : Calls Tryz.prog 3 args W fun e W' => ∃ v, e = .returned v ∧ Rows.wbufPlaysSpec.post enc Tryz.prog Tryz.f3 false true false false W args v W' := by
  have hW' := hW
  obtain ⟨p, q, hA0, hV, rfl, hfz, hnd⟩ := hW
  have hA : DataW.TrodAll enc Tryz.prog W 0 (fun _ => true) true Tryz.f3.params.toList args.toList ds p := hA0
  rw [Tryz.params3] at hA hval
  obtain ⟨v0, vs0, d0, ds0, p0, q0, hargs, rfl, rfl, h0, r0⟩ := trodAll_cons hA
  obtain ⟨v1, vs1, d1, ds1, p1, q1, rfl, rfl, rfl, h1, r1⟩ := trodAll_cons r0
  obtain ⟨v2, vs2, d2, ds2, p2, q2, rfl, rfl, rfl, h2, r2⟩ := trodAll_cons r1
  obtain ⟨v3, vs3, d3, ds3, p3, q3, rfl, rfl, rfl, h3, r3⟩ := trodAll_cons r2
  obtain ⟨rfl, rfl, rfl⟩ := trodAll_nil r3
  obtain rfl : args = #[v0, v1, v2, v3] := by cases args; simp_all
  obtain ⟨rfl, rfl⟩ := trodVars_none hV
  obtain ⟨cs0, rfl, sz0⟩ := okWide_struct Tryz.underlying23 (hval 0 23 v0 rfl rfl)
  have k0 := h0
  have lt0 : ∀ x ∈ p0, x.block < W.heap.size := by obtain ⟨m, hm⟩ := k0; exact DataW.trod_lt m _ _ _ hm
  obtain ⟨gb0, gp0, gz0, gr0, rfl⟩ : ∃ b p z r, cs0 = #[.int .i64 b, .int .i64 p, .int .i64 z, .int .i64 r] := by
    obtain ⟨fuel, hf⟩ := h0
    exact garg_open sz0 hf
  obtain ⟨a1, len1, cap1, rfl⟩ := okWide_slice Tryz.underlying24 (hval 1 24 v1 rfl rfl)
  have k1 := h1
  have lt1 : ∀ x ∈ p1, x.block < W.heap.size := by obtain ⟨m, hm⟩ := k1; exact DataW.trod_lt m _ _ _ hm
  obtain ⟨l1, w1⟩ : ∃ l, FArg W a1 len1 cap1 l := by
    obtain ⟨fuel, hf⟩ := h1
    exact farg_open hf
  obtain ⟨a2, len2, cap2, rfl⟩ := okWide_slice Tryz.underlying25 (hval 2 25 v2 rfl rfl)
  have k2 := h2
  have lt2 : ∀ x ∈ p2, x.block < W.heap.size := by obtain ⟨m, hm⟩ := k2; exact DataW.trod_lt m _ _ _ hm
  obtain ⟨l2, w2⟩ : ∃ l, WArg W a2 len2 cap2 l := by
    obtain ⟨fuel, hf⟩ := h2
    exact warg_open hf
  obtain ⟨a3, rfl, rfl, rfl, w3⟩ := open_int Tryz.underlying3 (hval 3 3 v3 rfl rfl) h3
  clear hA0
  refine (walk gb0 gp0 gz0 gr0 a1 len1 cap1 l1 a2 len2 cap2 l2 a3 W (glb_of hL) (typed_of hL) w1 w2).mono fun e W' ⟨he, bel⟩ => ?_
  subst he
  exact ⟨_, rfl, _, _, _, [], _, [], hW', trodAll_mk1 (shut_bool Tryz.underlying4 _), (trodAll_cons_mk (Below.trod laidOut (by kernel_rfl) (of_decide_eq_true (by kernel_rfl)) k0 bel lt0) (trodAll_cons_mk (Below.trod laidOut (by kernel_rfl) (of_decide_eq_true (by kernel_rfl)) k1 bel lt1) (trodAll_cons_mk (Below.trod laidOut (by kernel_rfl) (of_decide_eq_true (by kernel_rfl)) k2 bel lt2) (trodAll_cons_mk (shut_int Tryz.underlying3 w3) trodAll_mk0)))), rfl, bel.frame _, fun h => by cases h⟩

theorem reads (os : Os) {H : Type} (enc : TypeId × Value → H) : ∃ places, DataW.whole enc Tryz.prog ((laidWorld os).forCall (fun _ _ => 0) ⟨#[], #[.agg #[.int .i64 0, .int .i64 0, .int .i64 0, .int .i64 0], .slice none 0 0, .slice none 0 0, .int .i64 0], []⟩).memory Tryz.f3.params.toList Rows.wbufPlaysSpec.vars false (#[.agg #[.int .i64 0, .int .i64 0, .int .i64 0, .int .i64 0], .slice none 0 0, .slice none 0 0, .int .i64 0] : Array Value).toList 8 = some ([.agg [.lit (.int .i64 0), .lit (.int .i64 0), .lit (.int .i64 0), .lit (.int .i64 0)], .nil, .nil, .lit (.int .i64 0)], [], places) :=
  ⟨[], by kernel_rfl⟩
set_option maxRecDepth 100000 in
theorem lifted (os : Os) (started : os.Started) (H : Type) (enc : TypeId × Value → H) (F : Stop.Interp) :
    ReturnsInHanded {} Tryz.checked os 3 .any ((OpenSpec.ofChange Rows.wbufPlaysSpec).preRow enc Tryz.prog Tryz.f3 Rows.wbufPlaysRow.domain false Rows.wbufPlaysRow.laid) (((OpenSpec.ofChange Rows.wbufPlaysSpec).at F).post enc Tryz.prog Tryz.f3 false true false false) := by
  obtain ⟨places, hx⟩ := reads os enc
  refine returnsInHanded_of_row (C := Tryz.checked) (s := OpenSpec.ofChange Rows.wbufPlaysSpec) own started (by kernel_rfl) Tryz.func3
    (witness_row_at (enc := enc) (C := Tryz.checked) false (laidWorld os) #[.agg #[.int .i64 0, .int .i64 0, .int .i64 0, .int .i64 0], .slice none 0 0, .slice none 0 0, .int .i64 0] (laid_os os) (by kernel_rfl) (by kernel_rfl) (by kernel_rfl)
      (OpenSpec.preRow_of_cond 8 hx (by kernel_rfl) (fun k hk => by cases hk) (by kernel_rfl) (laid_met os _))) ?_
  intro W base args ds gs before hval hW _ _ hsz hL _ _
  exact contract H enc W base args ds gs before hval hW hL
theorem said : Rows.WbufPlaysSaid :=
  OpenClaim.holds_of_cond 3 Tryz.f3 rfl rfl rfl rfl rfl rfl rfl ⟨rfl, rfl, rfl, rfl, rfl⟩ rfl rfl rfl rfl rfl (by kernel_rfl) Tryz.func3 (by kernel_rfl)
    (of_decide_eq_true (by kernel_rfl)) (by unfold Func.isWrapper; first | (rw [if_pos (by decide +kernel)]; kernel_rfl) | (rw [if_neg (by decide +kernel)]; exact ⟨rfl, rfl⟩))
    (fun os started H enc _ F => by rw [OpenClaim.pre_eq_preRow]; exact lifted os started H enc F)
set_option maxRecDepth 100000 in
theorem plain (f : FuncId) (fn : Func) (hf : Tryz.pinned.checked.prog.funcNamed "pumice/pumicelaw11.WbufPlays" = some f) (hfn : Tryz.pinned.checked.prog.funcs[f]? = some fn) :
    true = Tryz.pinned.checked.prog.looks [] ∧ ∀ (j : Nat) t, fn.params[j]? = some t → Tryz.pinned.checked.prog.wantsStandIn t = false := by
  obtain rfl : f = 3 := Option.some.inj ((show Tryz.prog.funcNamed "pumice/pumicelaw11.WbufPlays" = some 3 by kernel_rfl).symm.trans hf) |>.symm
  obtain rfl : fn = Tryz.f3 := (Option.some.inj (Tryz.func3.symm.trans hfn)).symm
  refine ⟨by kernel_rfl, fun j t ht => ?_⟩
  rw [Tryz.params3] at ht
  have hm : t = 23 ∨ t = 24 ∨ t = 25 ∨ t = 3 := by simpa using Array.mem_of_getElem? ht
  rcases hm with rfl | rfl | rfl | rfl
  · exact (show Tryz.prog.wantsStandIn 23 = false by kernel_rfl)
  · exact (show Tryz.prog.wantsStandIn 24 = false by kernel_rfl)
  · exact (show Tryz.prog.wantsStandIn 25 = false by kernel_rfl)
  · exact (show Tryz.prog.wantsStandIn 3 = false by kernel_rfl)
theorem card : Rows.WbufPlaysCardSaid :=
  Claim7.holds_tied_plain_at .later [] _ _ _ _ said (fun _ h => by cases h) (by kernel_rfl) (fun _ h => by cases h) wbufPlays_row_tie rfl ⟨rfl, rfl⟩ (by kernel_rfl) rfl plain (by kernel_rfl)
end Go.Proofs.YteodcjbbkekidaaGreatDoor.wbufPlays

namespace Go.Proofs.YteodcjbbkekidaaGreatDoor
theorem wbufPlays_holds : Rows.WbufPlaysCardSaid := wbufPlays.card
#print axioms wbufPlays_holds
end Go.Proofs.YteodcjbbkekidaaGreatDoor
