/-
  For all geometries and any two scripts: WbufOthers answers true (two logs of one manager change nothing of each other), and leaves its arguments as they were; given that the two variables that it reaches hold what their initialisers lay (the card ties them). No other condition.
-/
import Derived.Test.YteodcjbbkekidaaGreatDoorQV
import Derived.Test.YteodcjbbkekidaaGreatDoorKQ
namespace Go.Proofs.YteodcjbbkekidaaGreatDoor.wbufOthers
open Go.ChangeShapes Go.WideShapes Go.ChangeAt Go.RowKit
set_option maxRecDepth 10000

set_option maxHeartbeats 2000000 in
theorem walk_no (b p z r : Int) (a : Option Addr) (n cap : Nat) (a2 : Option Addr) (n2 cap2 : Nat) (w : World) (hg : Hd.Glb w) (ht : Typed w) (h1 : 0 < w.heap.size ∧ 1 < w.heap.size) (hR : rightB b p z r = false) :
    Calls Tryz.prog 5 #[.agg #[.int .i64 b, .int .i64 p, .int .i64 z, .int .i64 r], .slice a n cap, .slice a2 n2 cap2] w fun e w' => e = .returned (.bool true) ∧ Below w.heap.size w w' := by
  have hb0 := below_new w (.cells #[.int .i64 b, .int .i64 p, .int .i64 z, .int .i64 r] 23)
  have kF := fresh_no b p z r (w.alloc (.cells #[.int .i64 b, .int .i64 p, .int .i64 z, .int .i64 r] 23)) hR
  have HA : Hid (∀ X, Below w.heap.size w X → Calls Tryz.prog 10 #[] X fun e w' => e = .returned (.bool true) ∧ Below X.heap.size X w') := fun X hb => alive_any X (hg.later hb) (ht.later hb) (by have := hb.size; omega) (by have := hb.size; omega)
  have HB0 := hidV hb0
  clear hg ht h1 hR hb0
  go_enter Tryz.func5, Tryz.ntmps5
  go_wp2_with (first
    | (go_at_call 8; refine kF.mono ?_; rintro e w1 ⟨rfl, hb1⟩; have HB1 := hidV (Below.after HB0.out hb1); clear hb1)
    | (go_at_call 10; refine (HA.out _ HB1.out).mono ?_; rintro e w2 ⟨rfl, hb2⟩; have HB2 := hidV (Below.after HB1.out hb2); clear hb2))
  go_ret
  exact ⟨rfl, HB2.out⟩
/-- A step of a script, read where it lies. -/
theorem op_at {w : World} {a : Option Addr} {n cap : Nat} {S : List WOp} (h : WArg w a n cap S) {k : Nat} (hk : k < n) : ∃ bb off o, a = some ⟨bb, off, none⟩ ∧ S[k]? = some o ∧ w.cell? ⟨bb, off + k * 2, none⟩ = some (.int .i64 o.kind) ∧ w.cell? ⟨bb, off + k * 2 + 1, none⟩ = some (.slice o.da o.dl o.dc) ∧ BArg w o.da o.dl o.dc o.data := by
  obtain ⟨o, ho⟩ : ∃ o, S[k]? = some o := ⟨_, List.getElem?_eq_getElem (by have := h.len_eq; omega)⟩
  rcases h.row with e | ⟨bb, off, e, hc⟩
  · rw [e] at ho; simp at ho
  · obtain ⟨q0, q1⟩ := hc k o ho
    exact ⟨bb, off, o, e, ho, q0, q1, h.each o (List.mem_of_getElem? ho)⟩
set_option maxHeartbeats 8000000 in
theorem walk_yes (gb gp gz gr : Nat) (a : Option Addr) (n cap : Nat) (S : List WOp) (a2 : Option Addr) (n2 cap2 : Nat) (S2 : List WOp) (w : World) (hg : Hd.Glb w) (ht : Typed w) (h1 : 0 < w.heap.size ∧ 1 < w.heap.size) (hR : rightB gb gp gz gr = true) (hS : WArg w a n cap S) (hS2 : WArg w a2 n2 cap2 S2) :
    Calls Tryz.prog 5 #[.agg #[.int .i64 gb, .int .i64 gp, .int .i64 gz, .int .i64 gr], .slice a n cap, .slice a2 n2 cap2] w fun e w' => e = .returned (.bool true) ∧ Below w.heap.size w w' := by
  obtain ⟨W0, hW0⟩ : ∃ W0, W0 = w.alloc (.cells #[.int .i64 gb, .int .i64 gp, .int .i64 gz, .int .i64 gr] 23) := ⟨_, rfl⟩
  have hb0 : Below w.heap.size w W0 := by rw [hW0]; exact below_new w _
  have hrow : Row W0 w.heap.size [Value.int .i64 gb, .int .i64 gp, .int .i64 gz, .int .i64 gr] 23 := by rw [hW0]; exact Row.new w [.int .i64 gb, .int .i64 gp, .int .i64 gz, .int .i64 gr] 23
  have g0 := hrow.cell (i := 0) rfl
  have g1 := hrow.cell (i := 1) rfl
  have g2 := hrow.cell (i := 2) rfl
  have g3 := hrow.cell (i := 3) rfl
  have hE : 0 < W0.heap.size := by have := hb0.size; omega
  have kF := fresh_yes gb gp gz gr W0 hR (hg.later hb0) (ht.later hb0) hE (by have := hb0.size; omega)
  have hlb := right_leb hR
  have hgeo := right_geo hR
  have HA : Hid (∀ X, Below W0.heap.size W0 X → Calls Tryz.prog 10 #[] X fun e w' => e = .returned (.bool true) ∧ Below X.heap.size X w') := fun X hb => alive_any X ((hg.later hb0).later hb) ((ht.later hb0).later hb) (by have := hb.size; omega) (by have := hb.size; have := hb0.size; omega)
  have HB0 := hidV hb0
  have HE := hidV hE
  have HR := hidV hrow
  have HLb := hidV (show ((4 : Nat) : Int) + gr + 2 < gb ∧ ((1 : Nat) : Int) + gr + 2 < gb by omega)
  have HS := hidV (hS.later hb0)
  have HS2 := hidV (hS2.later hb0)
  have hnm : (n : Int) ≤ 9223372036854775807 := by have := hS.le; have := hS.max; unfold maxLen at this; omega
  have hnm2 : (n2 : Int) ≤ 9223372036854775807 := by have := hS2.le; have := hS2.max; unfold maxLen at this; omega
  have HGe := hidV hgeo
  have gp2 : 2 ≤ (gp : Int) := by omega
  have gpm : (gp : Int) ≤ 64 := by omega
  clear hg ht h1 hR hS hS2 hb0 hE hlb hrow hgeo
  go_enter Tryz.func5, Tryz.ntmps5
  go_wp2_with fail
  rw [← hW0]
  clear hW0
  have HP : Hid (∀ X, Calls Tryz.prog 14 #[.slice none 0 0, .bool false, .int .i64 (gz : Nat), .int .i64 ((gp : Int) - 2)] X fun e w' => ∃ d, e = .returned (.pointer (some ⟨d.p, 0, none⟩)) ∧ (d.page = gz ∧ d.pages = gp - 2 ∧ d.fs = [] ∧ d.e = 0 ∧ d.br = false ∧ d.no = fun _ => False) ∧ DAt X.heap.size w' d ∧ Below X.heap.size X w') := fun X => by
    have k := dopen_nil gz (gp - 2) X (fun _ => False) (by have := HGe.out; omega) (by have := HGe.out; omega)
    rw [show (((gp - 2 : Nat)) : Int) = (gp : Int) - 2 by have := HGe.out; omega] at k
    exact k.mono fun e w' ⟨d, q1, q2, q3, q4, q5, q6, qn, q7, q8⟩ => ⟨d, q1, ⟨q2, q3, q4, q5, q6, qn⟩, q7, q8⟩
  have M1 : Hid True := trivial
  go_wp2_with (first
    | (go_at_call 8; refine kF.mono ?_; rintro e w1 ⟨m, c, P, rfl, hn1⟩; have HN1 := hidV hn1; have kO : Calls Tryz.prog 13 #[.pointer (some ⟨m.p, 0, none⟩), .int .i64 1] w1 (fun e w2 => ∃ l, e = .returned (.tuple #[.pointer (some ⟨l.p, 0, none⟩), .int .i64 0]) ∧ l.leb = 1 ∧ Lg W0.heap.size 1 W0 w2 m c P l gp gz [] 0) := open_one hn1 HE.out 1 HLb.out.2; clear hn1)
    | (go_at_call 13; refine kO.mono ?_; rintro e w2 ⟨lx, rfl, hxl, hx⟩; have HXL := hidV hxl; have kO2 : Calls Tryz.prog 13 #[.pointer (some ⟨m.p, 0, none⟩), .int .i64 4] w2 (fun e w2 => ∃ l2, e = .returned (.tuple #[.pointer (some ⟨l2.p, 0, none⟩), .int .i64 0]) ∧ l2.leb = 4 ∧ Lg W0.heap.size 1 W0 w2 m c P lx gp gz [] 0 ∧ Lg W0.heap.size 1 W0 w2 m c P l2 gp gz [] 0 ∧ (∀ k, LFoot lx k → ¬ LFoot l2 k)) := open_two hx 4 (by rw [HN1.out.num.1, HN1.out.num.2.2.2]; exact HLb.out.1) (by rw [HN1.out.al.fn]; rfl); clear kO hx hxl)
    | (go_at_call 13; refine kO2.mono ?_; rintro e w3 ⟨ly, rfl, hyl, hx3, hy3, hap⟩; have H3 : Hid (Lg W0.heap.size 1 W0 w3 m c P lx gp gz [] 0 ∧ Lg W0.heap.size 1 W0 w3 m c P ly gp gz [] 0 ∧ (∀ k, LFoot lx k → ¬ LFoot ly k) ∧ lx.leb ≠ ly.leb) := ⟨hx3, hy3, hap, by rw [HXL.out, hyl]; decide⟩; clear kO2 hyl hx3 hy3 hap)
    | (go_at_call 10; refine (HA.out _ H3.out.1.bl).mono ?_; rintro e w4 ⟨rfl, hb4⟩; have H4 : Hid (Lg W0.heap.size 1 W0 w4 m c P lx gp gz [] 0 ∧ Lg W0.heap.size 1 W0 w4 m c P ly gp gz [] 0 ∧ (∀ k, LFoot lx k → ¬ LFoot ly k) ∧ lx.leb ≠ ly.leb) := ⟨H3.out.1.later hb4 H3.out.1.base_le, H3.out.2.1.later hb4 H3.out.1.base_le, H3.out.2.2⟩; have y1 := (HR.out.later H4.out.1.bl).cell (i := 1) rfl; have y2 := (HR.out.later H4.out.1.bl).cell (i := 2) rfl; clear hb4)
    | (go_at_call 14; clear M1; refine (HP.out _).mono ?_; rintro e w5 ⟨dx, rfl, hgx, hdx, hb5⟩; have H5 := hidV (And.intro hgx (And.intro hdx hb5)); have y3 := (HR.out.later (H4.out.1.bl.trans (H5.out.2.2.mono H4.out.1.base_le))).cell (i := 1) rfl; have y4 := (HR.out.later (H4.out.1.bl.trans (H5.out.2.2.mono H4.out.1.base_le))).cell (i := 2) rfl; clear hgx hdx hb5)
    | (go_at_call 14; refine (HP.out _).mono ?_; rintro e w6 ⟨dy, rfl, hgy, hdy, hb6⟩; have HT := hidV (TW.made H4.out.1 H4.out.2.1 H4.out.2.2.1 H4.out.2.2.2 H5.out.2.1 H5.out.2.2 hdy hb6 H5.out.1 hgy); clear hgy hdy hb6))
  generalize w4.heap.size = B at HT
  generalize lx.p = xp at *
  generalize ly.p = yp at *
  generalize dx.p = pp at *
  generalize dy.p = qp at *
  clear H3 H4 H5 HXL HN1 HP kF g0 g1 g2 g3 y1 y2 y3 y4
  go_loopg [14] (n + n2) (fun kx s wr => ∃ k : Nat, k + kx = n + n2 ∧ s = .int .i64 (k : Nat) ∧ Hid (∃ X Y, TW W0.heap.size B W0 wr gp gz xp yp pp qp X Y X Y))
  case atStart => exact ⟨0, by omega, rfl, _, _, HT.out⟩
  case round =>
    obtain ⟨k, hk, rfl, I⟩ := hrel
    obtain ⟨X, Y, hT⟩ := I.out
    clear HT
    have HT := hidV hT
    clear hT I
    have hI := fun W (hb : Below W0.heap.size W0 W) (h : k < n) => op_at (HS.out.later hb) h
    have hI2 := fun W (hb : Below W0.heap.size W0 W) (h : k < n2) => op_at (HS2.out.later hb) h
    have HO : Hid (k < n → ∃ bb off, ∃ o : WOp, a = some ⟨bb, off, none⟩ ∧ ∀ W, Below W0.heap.size W0 W → W.cell? ⟨bb, off + k * 2, none⟩ = some (.int .i64 o.kind) ∧ W.cell? ⟨bb, off + k * 2 + 1, none⟩ = some (.slice o.da o.dl o.dc) ∧ BArg W o.da o.dl o.dc o.data) := fun h => by
      obtain ⟨bb, off, o, e1, e2, _⟩ := hI W0 (Below.refl _ _) h
      refine ⟨bb, off, o, e1, fun W hb => ?_⟩
      obtain ⟨bb', off', o', e1', e2', r⟩ := hI W hb h
      rw [e1] at e1'
      rw [e2] at e2'
      cases e1'
      cases e2'
      exact r
    have HO2 : Hid (k < n2 → ∃ bb off, ∃ o : WOp, a2 = some ⟨bb, off, none⟩ ∧ ∀ W, Below W0.heap.size W0 W → W.cell? ⟨bb, off + k * 2, none⟩ = some (.int .i64 o.kind) ∧ W.cell? ⟨bb, off + k * 2 + 1, none⟩ = some (.slice o.da o.dl o.dc) ∧ BArg W o.da o.dl o.dc o.data) := fun h => by
      obtain ⟨bb, off, o, e1, e2, _⟩ := hI2 W0 (Below.refl _ _) h
      refine ⟨bb, off, o, e1, fun W hb => ?_⟩
      obtain ⟨bb', off', o', e1', e2', r⟩ := hI2 W hb h
      rw [e1] at e1'
      rw [e2] at e2'
      cases e1'
      cases e2'
      exact r
    clear hI hI2
    have MA : Hid True := trivial
    have MD : Hid True := trivial
    have MS : Hid True := trivial
    have ME : Hid True := trivial
    have MQ : Hid True := trivial
    by_cases h1 : k < n
    · obtain ⟨ba, oa, o, rfl, ho⟩ := HO.out h1
      have hk1 : (k : Int) < (n : Int) := by omega
      obtain ⟨kd, hkd⟩ : ∃ kd, kd = o.kind := ⟨_, rfl⟩
      have C1 : Hid (∀ W, Below W0.heap.size W0 W → W.cell? ⟨ba, oa + k * 2, none⟩ = some (.int .i64 kd) ∧ W.cell? ⟨ba, oa + k * 2 + 1, none⟩ = some (.slice o.da o.dl o.dc) ∧ BArg W o.da o.dl o.dc o.data) := by rw [hkd]; exact ho
      generalize o.da = oda at *
      generalize o.dl = odl at *
      generalize o.dc = odc at *
      generalize o.data = od at *
      clear HO ho hkd
      have u0 := (C1.out wr HT.out.bl).1
      have u1 := (C1.out wr HT.out.bl).2.1
      by_cases h2 : k < n2
      · obtain ⟨ba2, oa2, o2, rfl, ho2⟩ := HO2.out h2
        have hk2 : (k : Int) < (n2 : Int) := by omega
        obtain ⟨kd2, hkd2⟩ : ∃ kd2, kd2 = o2.kind := ⟨_, rfl⟩
        have C2 : Hid (∀ W, Below W0.heap.size W0 W → W.cell? ⟨ba2, oa2 + k * 2, none⟩ = some (.int .i64 kd2) ∧ W.cell? ⟨ba2, oa2 + k * 2 + 1, none⟩ = some (.slice o2.da o2.dl o2.dc) ∧ BArg W o2.da o2.dl o2.dc o2.data) := by rw [hkd2]; exact ho2
        generalize o2.da = oda2 at *
        generalize o2.dl = odl2 at *
        generalize o2.dc = odc2 at *
        generalize o2.data = od2 at *
        clear HO2 ho2 hkd2
        have v0 := (C2.out wr HT.out.bl).1
        have v1 := (C2.out wr HT.out.bl).2.1
        by_cases e1 : kd = 1
        all_goals by_cases e2 : kd2 = 1
        all_goals
          first | (subst e1; clear MS ME) | (clear MA MD; have b1 : (kd == (1 : Int)) = false := by simpa using e1)
          first | subst e2 | (have b2 : (kd2 == (1 : Int)) = false := by simpa using e2)
          go_wp2_with (first
            | (go_at_call 15; clear MA; refine (tw_append HT.out oda odl odc od (C1.out _ HT.out.bl).2.2).mono ?_; rintro e w5 ⟨⟨ux, vx, rfl⟩, h5⟩; clear HT; have HT := hidV h5; clear h5; (try clear u0 u1); (try clear v0 v1); (try (have u0 := (C1.out _ HT.out.bl).1; have u1 := (C1.out _ HT.out.bl).2.1)); (try (have v0 := (C2.out _ HT.out.bl).1; have v1 := (C2.out _ HT.out.bl).2.1)))
            | (go_at_call 15; refine (tw_append HT.out.swap oda2 odl2 odc2 od2 (C2.out _ HT.out.bl).2.2).mono ?_; rintro e w5 ⟨⟨ux, vx, rfl⟩, h5⟩; clear HT; have HT := hidV h5.swap; clear h5; (try clear u0 u1); (try clear v0 v1); (try (have u0 := (C1.out _ HT.out.bl).1; have u1 := (C1.out _ HT.out.bl).2.1)); (try (have v0 := (C2.out _ HT.out.bl).1; have v1 := (C2.out _ HT.out.bl).2.1)))
            | (go_at_call 16; clear MD; refine (tw_dappend HT.out oda odl odc od (C1.out _ HT.out.bl).2.2).mono ?_; rintro e w5 ⟨⟨ux, vx, rfl⟩, h5⟩; clear HT; have HT := hidV h5; clear h5; (try clear u0 u1); (try clear v0 v1); (try (have u0 := (C1.out _ HT.out.bl).1; have u1 := (C1.out _ HT.out.bl).2.1)); (try (have v0 := (C2.out _ HT.out.bl).1; have v1 := (C2.out _ HT.out.bl).2.1)))
            | (go_at_call 16; refine (tw_dappend HT.out.swap oda2 odl2 odc2 od2 (C2.out _ HT.out.bl).2.2).mono ?_; rintro e w5 ⟨⟨ux, vx, rfl⟩, h5⟩; clear HT; have HT := hidV h5.swap; clear h5; (try clear u0 u1); (try clear v0 v1); (try (have u0 := (C1.out _ HT.out.bl).1; have u1 := (C1.out _ HT.out.bl).2.1)); (try (have v0 := (C2.out _ HT.out.bl).1; have v1 := (C2.out _ HT.out.bl).2.1)))
            | (go_at_call 18; clear MS; refine (tw_sync HT.out).mono ?_; rintro e w5 ⟨rfl, h5⟩; clear HT; have HT := hidV h5; clear h5; (try clear u0 u1); (try clear v0 v1); (try (have u0 := (C1.out _ HT.out.bl).1; have u1 := (C1.out _ HT.out.bl).2.1)); (try (have v0 := (C2.out _ HT.out.bl).1; have v1 := (C2.out _ HT.out.bl).2.1)))
            | (go_at_call 18; refine (tw_sync HT.out.swap).mono ?_; rintro e w5 ⟨rfl, h5⟩; clear HT; have HT := hidV h5.swap; clear h5; (try clear u0 u1); (try clear v0 v1); (try (have u0 := (C1.out _ HT.out.bl).1; have u1 := (C1.out _ HT.out.bl).2.1)); (try (have v0 := (C2.out _ HT.out.bl).1; have v1 := (C2.out _ HT.out.bl).2.1)))
            | (go_at_call 17; clear ME; refine (tw_dsync HT.out).mono ?_; rintro e w5 ⟨rfl, h5⟩; clear HT; have HT := hidV h5; clear h5; (try clear u0 u1); (try clear v0 v1); (try (have u0 := (C1.out _ HT.out.bl).1; have u1 := (C1.out _ HT.out.bl).2.1)); (try (have v0 := (C2.out _ HT.out.bl).1; have v1 := (C2.out _ HT.out.bl).2.1)))
            | (go_at_call 17; refine (tw_dsync HT.out.swap).mono ?_; rintro e w5 ⟨rfl, h5⟩; clear HT; have HT := hidV h5.swap; clear h5; (try clear u0 u1); (try clear v0 v1); (try (have u0 := (C1.out _ HT.out.bl).1; have u1 := (C1.out _ HT.out.bl).2.1)); (try (have v0 := (C2.out _ HT.out.bl).1; have v1 := (C2.out _ HT.out.bl).2.1)))
            | (go_at_call 19; clear MQ; refine (tw_same HT.out rfl).mono ?_; rintro e w5 ⟨rfl, h5⟩; clear HT; have HT := hidV h5; clear h5; (try clear u0 u1); (try clear v0 v1); (try (have u0 := (C1.out _ HT.out.bl).1; have u1 := (C1.out _ HT.out.bl).2.1)); (try (have v0 := (C2.out _ HT.out.bl).1; have v1 := (C2.out _ HT.out.bl).2.1)))
            | (go_at_call 19; refine (tw_same HT.out.swap rfl).mono ?_; rintro e w5 ⟨rfl, h5⟩; clear HT; have HT := hidV h5.swap; clear h5; (try clear u0 u1); (try clear v0 v1); (try (have u0 := (C1.out _ HT.out.bl).1; have u1 := (C1.out _ HT.out.bl).2.1)); (try (have v0 := (C2.out _ HT.out.bl).1; have v1 := (C2.out _ HT.out.bl).2.1))))
          go_roundg (n + n2 - (k + 1))
          case measure => omega
          case rel => exact ⟨k + 1, by omega, by go_num, _, _, HT.out⟩
      · have hk2 : ¬ (k : Int) < (n2 : Int) := by omega
        clear HO2
        by_cases e1 : kd = 1
        all_goals
          first | (subst e1; clear MS ME) | (clear MA MD; have b1 : (kd == (1 : Int)) = false := by simpa using e1)
          go_wp2_with (first
            | (go_at_call 15; clear MA; refine (tw_append HT.out oda odl odc od (C1.out _ HT.out.bl).2.2).mono ?_; rintro e w5 ⟨⟨ux, vx, rfl⟩, h5⟩; clear HT; have HT := hidV h5; clear h5; (try clear u0 u1); (try clear v0 v1); (try (have u0 := (C1.out _ HT.out.bl).1; have u1 := (C1.out _ HT.out.bl).2.1)); (try (have v0 := (C2.out _ HT.out.bl).1; have v1 := (C2.out _ HT.out.bl).2.1)))
            | (go_at_call 15; refine (tw_append HT.out.swap oda2 odl2 odc2 od2 (C2.out _ HT.out.bl).2.2).mono ?_; rintro e w5 ⟨⟨ux, vx, rfl⟩, h5⟩; clear HT; have HT := hidV h5.swap; clear h5; (try clear u0 u1); (try clear v0 v1); (try (have u0 := (C1.out _ HT.out.bl).1; have u1 := (C1.out _ HT.out.bl).2.1)); (try (have v0 := (C2.out _ HT.out.bl).1; have v1 := (C2.out _ HT.out.bl).2.1)))
            | (go_at_call 16; clear MD; refine (tw_dappend HT.out oda odl odc od (C1.out _ HT.out.bl).2.2).mono ?_; rintro e w5 ⟨⟨ux, vx, rfl⟩, h5⟩; clear HT; have HT := hidV h5; clear h5; (try clear u0 u1); (try clear v0 v1); (try (have u0 := (C1.out _ HT.out.bl).1; have u1 := (C1.out _ HT.out.bl).2.1)); (try (have v0 := (C2.out _ HT.out.bl).1; have v1 := (C2.out _ HT.out.bl).2.1)))
            | (go_at_call 16; refine (tw_dappend HT.out.swap oda2 odl2 odc2 od2 (C2.out _ HT.out.bl).2.2).mono ?_; rintro e w5 ⟨⟨ux, vx, rfl⟩, h5⟩; clear HT; have HT := hidV h5.swap; clear h5; (try clear u0 u1); (try clear v0 v1); (try (have u0 := (C1.out _ HT.out.bl).1; have u1 := (C1.out _ HT.out.bl).2.1)); (try (have v0 := (C2.out _ HT.out.bl).1; have v1 := (C2.out _ HT.out.bl).2.1)))
            | (go_at_call 18; clear MS; refine (tw_sync HT.out).mono ?_; rintro e w5 ⟨rfl, h5⟩; clear HT; have HT := hidV h5; clear h5; (try clear u0 u1); (try clear v0 v1); (try (have u0 := (C1.out _ HT.out.bl).1; have u1 := (C1.out _ HT.out.bl).2.1)); (try (have v0 := (C2.out _ HT.out.bl).1; have v1 := (C2.out _ HT.out.bl).2.1)))
            | (go_at_call 18; refine (tw_sync HT.out.swap).mono ?_; rintro e w5 ⟨rfl, h5⟩; clear HT; have HT := hidV h5.swap; clear h5; (try clear u0 u1); (try clear v0 v1); (try (have u0 := (C1.out _ HT.out.bl).1; have u1 := (C1.out _ HT.out.bl).2.1)); (try (have v0 := (C2.out _ HT.out.bl).1; have v1 := (C2.out _ HT.out.bl).2.1)))
            | (go_at_call 17; clear ME; refine (tw_dsync HT.out).mono ?_; rintro e w5 ⟨rfl, h5⟩; clear HT; have HT := hidV h5; clear h5; (try clear u0 u1); (try clear v0 v1); (try (have u0 := (C1.out _ HT.out.bl).1; have u1 := (C1.out _ HT.out.bl).2.1)); (try (have v0 := (C2.out _ HT.out.bl).1; have v1 := (C2.out _ HT.out.bl).2.1)))
            | (go_at_call 17; refine (tw_dsync HT.out.swap).mono ?_; rintro e w5 ⟨rfl, h5⟩; clear HT; have HT := hidV h5.swap; clear h5; (try clear u0 u1); (try clear v0 v1); (try (have u0 := (C1.out _ HT.out.bl).1; have u1 := (C1.out _ HT.out.bl).2.1)); (try (have v0 := (C2.out _ HT.out.bl).1; have v1 := (C2.out _ HT.out.bl).2.1)))
            | (go_at_call 19; clear MQ; refine (tw_same HT.out rfl).mono ?_; rintro e w5 ⟨rfl, h5⟩; clear HT; have HT := hidV h5; clear h5; (try clear u0 u1); (try clear v0 v1); (try (have u0 := (C1.out _ HT.out.bl).1; have u1 := (C1.out _ HT.out.bl).2.1)); (try (have v0 := (C2.out _ HT.out.bl).1; have v1 := (C2.out _ HT.out.bl).2.1)))
            | (go_at_call 19; refine (tw_same HT.out.swap rfl).mono ?_; rintro e w5 ⟨rfl, h5⟩; clear HT; have HT := hidV h5.swap; clear h5; (try clear u0 u1); (try clear v0 v1); (try (have u0 := (C1.out _ HT.out.bl).1; have u1 := (C1.out _ HT.out.bl).2.1)); (try (have v0 := (C2.out _ HT.out.bl).1; have v1 := (C2.out _ HT.out.bl).2.1))))
          go_roundg (n + n2 - (k + 1))
          case measure => omega
          case rel => exact ⟨k + 1, by omega, by go_num, _, _, HT.out⟩
    · have hk1 : ¬ (k : Int) < (n : Int) := by omega
      clear HO MA MD MS ME
      by_cases h2 : k < n2
      · obtain ⟨ba2, oa2, o2, rfl, ho2⟩ := HO2.out h2
        have hk2 : (k : Int) < (n2 : Int) := by omega
        obtain ⟨kd2, hkd2⟩ : ∃ kd2, kd2 = o2.kind := ⟨_, rfl⟩
        have C2 : Hid (∀ W, Below W0.heap.size W0 W → W.cell? ⟨ba2, oa2 + k * 2, none⟩ = some (.int .i64 kd2) ∧ W.cell? ⟨ba2, oa2 + k * 2 + 1, none⟩ = some (.slice o2.da o2.dl o2.dc) ∧ BArg W o2.da o2.dl o2.dc o2.data) := by rw [hkd2]; exact ho2
        generalize o2.da = oda2 at *
        generalize o2.dl = odl2 at *
        generalize o2.dc = odc2 at *
        generalize o2.data = od2 at *
        clear HO2 ho2 hkd2
        have v0 := (C2.out wr HT.out.bl).1
        have v1 := (C2.out wr HT.out.bl).2.1
        by_cases e2 : kd2 = 1
        all_goals
          first | subst e2 | (have b2 : (kd2 == (1 : Int)) = false := by simpa using e2)
          go_wp2_with (first
            | (go_at_call 15; clear MA; refine (tw_append HT.out oda odl odc od (C1.out _ HT.out.bl).2.2).mono ?_; rintro e w5 ⟨⟨ux, vx, rfl⟩, h5⟩; clear HT; have HT := hidV h5; clear h5; (try clear u0 u1); (try clear v0 v1); (try (have u0 := (C1.out _ HT.out.bl).1; have u1 := (C1.out _ HT.out.bl).2.1)); (try (have v0 := (C2.out _ HT.out.bl).1; have v1 := (C2.out _ HT.out.bl).2.1)))
            | (go_at_call 15; refine (tw_append HT.out.swap oda2 odl2 odc2 od2 (C2.out _ HT.out.bl).2.2).mono ?_; rintro e w5 ⟨⟨ux, vx, rfl⟩, h5⟩; clear HT; have HT := hidV h5.swap; clear h5; (try clear u0 u1); (try clear v0 v1); (try (have u0 := (C1.out _ HT.out.bl).1; have u1 := (C1.out _ HT.out.bl).2.1)); (try (have v0 := (C2.out _ HT.out.bl).1; have v1 := (C2.out _ HT.out.bl).2.1)))
            | (go_at_call 16; clear MD; refine (tw_dappend HT.out oda odl odc od (C1.out _ HT.out.bl).2.2).mono ?_; rintro e w5 ⟨⟨ux, vx, rfl⟩, h5⟩; clear HT; have HT := hidV h5; clear h5; (try clear u0 u1); (try clear v0 v1); (try (have u0 := (C1.out _ HT.out.bl).1; have u1 := (C1.out _ HT.out.bl).2.1)); (try (have v0 := (C2.out _ HT.out.bl).1; have v1 := (C2.out _ HT.out.bl).2.1)))
            | (go_at_call 16; refine (tw_dappend HT.out.swap oda2 odl2 odc2 od2 (C2.out _ HT.out.bl).2.2).mono ?_; rintro e w5 ⟨⟨ux, vx, rfl⟩, h5⟩; clear HT; have HT := hidV h5.swap; clear h5; (try clear u0 u1); (try clear v0 v1); (try (have u0 := (C1.out _ HT.out.bl).1; have u1 := (C1.out _ HT.out.bl).2.1)); (try (have v0 := (C2.out _ HT.out.bl).1; have v1 := (C2.out _ HT.out.bl).2.1)))
            | (go_at_call 18; clear MS; refine (tw_sync HT.out).mono ?_; rintro e w5 ⟨rfl, h5⟩; clear HT; have HT := hidV h5; clear h5; (try clear u0 u1); (try clear v0 v1); (try (have u0 := (C1.out _ HT.out.bl).1; have u1 := (C1.out _ HT.out.bl).2.1)); (try (have v0 := (C2.out _ HT.out.bl).1; have v1 := (C2.out _ HT.out.bl).2.1)))
            | (go_at_call 18; refine (tw_sync HT.out.swap).mono ?_; rintro e w5 ⟨rfl, h5⟩; clear HT; have HT := hidV h5.swap; clear h5; (try clear u0 u1); (try clear v0 v1); (try (have u0 := (C1.out _ HT.out.bl).1; have u1 := (C1.out _ HT.out.bl).2.1)); (try (have v0 := (C2.out _ HT.out.bl).1; have v1 := (C2.out _ HT.out.bl).2.1)))
            | (go_at_call 17; clear ME; refine (tw_dsync HT.out).mono ?_; rintro e w5 ⟨rfl, h5⟩; clear HT; have HT := hidV h5; clear h5; (try clear u0 u1); (try clear v0 v1); (try (have u0 := (C1.out _ HT.out.bl).1; have u1 := (C1.out _ HT.out.bl).2.1)); (try (have v0 := (C2.out _ HT.out.bl).1; have v1 := (C2.out _ HT.out.bl).2.1)))
            | (go_at_call 17; refine (tw_dsync HT.out.swap).mono ?_; rintro e w5 ⟨rfl, h5⟩; clear HT; have HT := hidV h5.swap; clear h5; (try clear u0 u1); (try clear v0 v1); (try (have u0 := (C1.out _ HT.out.bl).1; have u1 := (C1.out _ HT.out.bl).2.1)); (try (have v0 := (C2.out _ HT.out.bl).1; have v1 := (C2.out _ HT.out.bl).2.1)))
            | (go_at_call 19; clear MQ; refine (tw_same HT.out rfl).mono ?_; rintro e w5 ⟨rfl, h5⟩; clear HT; have HT := hidV h5; clear h5; (try clear u0 u1); (try clear v0 v1); (try (have u0 := (C1.out _ HT.out.bl).1; have u1 := (C1.out _ HT.out.bl).2.1)); (try (have v0 := (C2.out _ HT.out.bl).1; have v1 := (C2.out _ HT.out.bl).2.1)))
            | (go_at_call 19; refine (tw_same HT.out.swap rfl).mono ?_; rintro e w5 ⟨rfl, h5⟩; clear HT; have HT := hidV h5.swap; clear h5; (try clear u0 u1); (try clear v0 v1); (try (have u0 := (C1.out _ HT.out.bl).1; have u1 := (C1.out _ HT.out.bl).2.1)); (try (have v0 := (C2.out _ HT.out.bl).1; have v1 := (C2.out _ HT.out.bl).2.1))))
          go_roundg (n + n2 - (k + 1))
          case measure => omega
          case rel => exact ⟨k + 1, by omega, by go_num, _, _, HT.out⟩
      · have hk2 : ¬ (k : Int) < (n2 : Int) := by omega
        clear HO2
        go_wp2_with fail
        go_ret
        exact ⟨rfl, Below.after HB0.out HT.out.bl⟩
theorem walk (b p z r : Int) (a : Option Addr) (n cap : Nat) (S : List WOp) (a2 : Option Addr) (n2 cap2 : Nat) (S2 : List WOp) (w : World) (hg : Hd.Glb w) (ht : Typed w) (hS : WArg w a n cap S) (hS2 : WArg w a2 n2 cap2 S2) :
    Calls Tryz.prog 5 #[.agg #[.int .i64 b, .int .i64 p, .int .i64 z, .int .i64 r], .slice a n cap, .slice a2 n2 cap2] w fun e w' => e = .returned (.bool true) ∧ Below w.heap.size w w' := by
  have h1 : 0 < w.heap.size ∧ 1 < w.heap.size := by
    obtain ⟨v, hv⟩ := hg
    exact ⟨World.block_lt_of_cell? w _ hv, World.block_lt_of_cell? w _ ht⟩
  cases hR : rightB b p z r with
  | false => exact walk_no b p z r a n cap a2 n2 cap2 w hg ht h1 hR
  | true =>
    obtain ⟨gb, gp, gz, gr, rfl, rfl, rfl, rfl, _⟩ := right_nums hR
    exact walk_yes gb gp gz gr a n cap S a2 n2 cap2 S2 w hg ht h1 hR hS hS2

set_option maxRecDepth 100000 in
theorem contract (H : Type) (enc : TypeId × Value → H) (W : World) (base : Nat) (args : Array Value) (ds gs : List (DataW H)) (before : List MemPlace)
    (hval : ∀ (j : Nat) t v, Tryz.f5.params[j]? = some t → args[j]? = some v → Value.okWide Tryz.prog W .any base t v)
    (hW : DataW.Whole enc Tryz.prog Tryz.f5.params.toList Rows.wbufOthersSpec.vars false W args.toList ds gs before) (hL : laidMetH Tryz.prog laid W)
    : Calls Tryz.prog 5 args W fun e W' => ∃ v, e = .returned v ∧ Rows.wbufOthersSpec.post enc Tryz.prog Tryz.f5 false true false false W args v W' := by
  have hW' := hW
  obtain ⟨p, q, hA0, hV, rfl, hfz, hnd⟩ := hW
  have hA : DataW.TrodAll enc Tryz.prog W 0 (fun _ => true) true Tryz.f5.params.toList args.toList ds p := hA0
  rw [Tryz.params5] at hA hval
  obtain ⟨v0, vs0, d0, ds0, p0, q0, hargs, rfl, rfl, h0, r0⟩ := trodAll_cons hA
  obtain ⟨v1, vs1, d1, ds1, p1, q1, rfl, rfl, rfl, h1, r1⟩ := trodAll_cons r0
  obtain ⟨v2, vs2, d2, ds2, p2, q2, rfl, rfl, rfl, h2, r2⟩ := trodAll_cons r1
  obtain ⟨rfl, rfl, rfl⟩ := trodAll_nil r2
  obtain rfl : args = #[v0, v1, v2] := by cases args; simp_all
  obtain ⟨rfl, rfl⟩ := trodVars_none hV
  obtain ⟨cs0, rfl, sz0⟩ := okWide_struct Tryz.underlying23 (hval 0 23 v0 rfl rfl)
  have k0 := h0
  have lt0 : ∀ x ∈ p0, x.block < W.heap.size := by obtain ⟨m, hm⟩ := k0; exact DataW.trod_lt m _ _ _ hm
  obtain ⟨gb0, gp0, gz0, gr0, rfl⟩ : ∃ b p z r, cs0 = #[.int .i64 b, .int .i64 p, .int .i64 z, .int .i64 r] := by
    obtain ⟨fuel, hf⟩ := h0
    exact garg_open sz0 hf
  obtain ⟨a1, len1, cap1, rfl⟩ := okWide_slice Tryz.underlying25 (hval 1 25 v1 rfl rfl)
  have k1 := h1
  have lt1 : ∀ x ∈ p1, x.block < W.heap.size := by obtain ⟨m, hm⟩ := k1; exact DataW.trod_lt m _ _ _ hm
  obtain ⟨l1, w1⟩ : ∃ l, WArg W a1 len1 cap1 l := by
    obtain ⟨fuel, hf⟩ := h1
    exact warg_open hf
  obtain ⟨a2, len2, cap2, rfl⟩ := okWide_slice Tryz.underlying25 (hval 2 25 v2 rfl rfl)
  have k2 := h2
  have lt2 : ∀ x ∈ p2, x.block < W.heap.size := by obtain ⟨m, hm⟩ := k2; exact DataW.trod_lt m _ _ _ hm
  obtain ⟨l2, w2⟩ : ∃ l, WArg W a2 len2 cap2 l := by
    obtain ⟨fuel, hf⟩ := h2
    exact warg_open hf
  clear hA0
  refine (walk gb0 gp0 gz0 gr0 a1 len1 cap1 l1 a2 len2 cap2 l2 W (glb_of hL) (typed_of hL) w1 w2).mono fun e W' ⟨he, bel⟩ => ?_
  subst he
  exact ⟨_, rfl, _, _, _, [], _, [], hW', trodAll_mk1 (shut_bool Tryz.underlying4 _), (trodAll_cons_mk (Below.trod laidOut (by kernel_rfl) (of_decide_eq_true (by kernel_rfl)) k0 bel lt0) (trodAll_cons_mk (Below.trod laidOut (by kernel_rfl) (of_decide_eq_true (by kernel_rfl)) k1 bel lt1) (trodAll_cons_mk (Below.trod laidOut (by kernel_rfl) (of_decide_eq_true (by kernel_rfl)) k2 bel lt2) trodAll_mk0))), rfl, bel.frame _, fun h => by cases h⟩

theorem reads (os : Os) {H : Type} (enc : TypeId × Value → H) : ∃ places, DataW.whole enc Tryz.prog ((laidWorld os).forCall (fun _ _ => 0) ⟨#[], #[.agg #[.int .i64 0, .int .i64 0, .int .i64 0, .int .i64 0], .slice none 0 0, .slice none 0 0], []⟩).memory Tryz.f5.params.toList Rows.wbufOthersSpec.vars false (#[.agg #[.int .i64 0, .int .i64 0, .int .i64 0, .int .i64 0], .slice none 0 0, .slice none 0 0] : Array Value).toList 8 = some ([.agg [.lit (.int .i64 0), .lit (.int .i64 0), .lit (.int .i64 0), .lit (.int .i64 0)], .nil, .nil], [], places) :=
  ⟨[], by kernel_rfl⟩
set_option maxRecDepth 100000 in
theorem lifted (os : Os) (started : os.Started) (H : Type) (enc : TypeId × Value → H) (F : Stop.Interp) :
    ReturnsInHanded {} Tryz.checked os 5 .any ((OpenSpec.ofChange Rows.wbufOthersSpec).preRow enc Tryz.prog Tryz.f5 Rows.wbufOthersRow.domain false Rows.wbufOthersRow.laid) (((OpenSpec.ofChange Rows.wbufOthersSpec).at F).post enc Tryz.prog Tryz.f5 false true false false) := by
  obtain ⟨places, hx⟩ := reads os enc
  refine returnsInHanded_of_row (C := Tryz.checked) (s := OpenSpec.ofChange Rows.wbufOthersSpec) own started (by kernel_rfl) Tryz.func5
    (witness_row_at (enc := enc) (C := Tryz.checked) false (laidWorld os) #[.agg #[.int .i64 0, .int .i64 0, .int .i64 0, .int .i64 0], .slice none 0 0, .slice none 0 0] (laid_os os) (by kernel_rfl) (by kernel_rfl) (by kernel_rfl)
      (OpenSpec.preRow_of_cond 8 hx (by kernel_rfl) (fun k hk => by cases hk) (by kernel_rfl) (laid_met os _))) ?_
  intro W base args ds gs before hval hW _ _ hsz hL _ _
  exact contract H enc W base args ds gs before hval hW hL
theorem said : Rows.WbufOthersSaid :=
  OpenClaim.holds_of_cond 5 Tryz.f5 rfl rfl rfl rfl rfl rfl rfl ⟨rfl, rfl, rfl, rfl, rfl⟩ rfl rfl rfl rfl rfl (by kernel_rfl) Tryz.func5 (by kernel_rfl)
    (of_decide_eq_true (by kernel_rfl)) (by unfold Func.isWrapper; first | (rw [if_pos (by decide +kernel)]; kernel_rfl) | (rw [if_neg (by decide +kernel)]; exact ⟨rfl, rfl⟩))
    (fun os started H enc _ F => by rw [OpenClaim.pre_eq_preRow]; exact lifted os started H enc F)
set_option maxRecDepth 100000 in
theorem plain (f : FuncId) (fn : Func) (hf : Tryz.pinned.checked.prog.funcNamed "pumice/pumicelaw11.WbufOthers" = some f) (hfn : Tryz.pinned.checked.prog.funcs[f]? = some fn) :
    true = Tryz.pinned.checked.prog.looks [] ∧ ∀ (j : Nat) t, fn.params[j]? = some t → Tryz.pinned.checked.prog.wantsStandIn t = false := by
  obtain rfl : f = 5 := Option.some.inj ((show Tryz.prog.funcNamed "pumice/pumicelaw11.WbufOthers" = some 5 by kernel_rfl).symm.trans hf) |>.symm
  obtain rfl : fn = Tryz.f5 := (Option.some.inj (Tryz.func5.symm.trans hfn)).symm
  refine ⟨by kernel_rfl, fun j t ht => ?_⟩
  rw [Tryz.params5] at ht
  have hm : t = 23 ∨ t = 25 := by simpa using Array.mem_of_getElem? ht
  rcases hm with rfl | rfl
  · exact (show Tryz.prog.wantsStandIn 23 = false by kernel_rfl)
  · exact (show Tryz.prog.wantsStandIn 25 = false by kernel_rfl)
theorem card : Rows.WbufOthersCardSaid :=
  Claim7.holds_tied_plain_at .later [] _ _ _ _ said (fun _ h => by cases h) (by kernel_rfl) (fun _ h => by cases h) wbufOthers_row_tie rfl ⟨rfl, rfl⟩ (by kernel_rfl) rfl plain (by kernel_rfl)
end Go.Proofs.YteodcjbbkekidaaGreatDoor.wbufOthers

namespace Go.Proofs.YteodcjbbkekidaaGreatDoor
theorem wbufOthers_holds : Rows.WbufOthersCardSaid := wbufOthers.card
#print axioms wbufOthers_holds
end Go.Proofs.YteodcjbbkekidaaGreatDoor
