/-
  For all geometries and any pages: WbufOpens answers true (a log has what its logical block's pages hold, whatever stands in them), and leaves its arguments as they were; given that the two variables that it reaches hold what their initialisers lay (the card ties them). No other condition.
-/
import Derived.Test.YteodcjbbkekidaaGreatDoorQX
import Derived.Test.YteodcjbbkekidaaGreatDoorQU
import Derived.Test.YteodcjbbkekidaaGreatDoorQY
import Derived.Test.YteodcjbbkekidaaGreatDoorKQ
namespace Go.Proofs.YteodcjbbkekidaaGreatDoor.wbufOpens
open Go.ChangeShapes Go.WideShapes Go.ChangeAt Go.RowKit
set_option maxRecDepth 10000

set_option maxHeartbeats 2000000 in
theorem walk_no (b p z r : Int) (a : Option Addr) (n cap : Nat) (w : World) (hg : Hd.Glb w) (ht : Typed w) (h1 : 0 < w.heap.size ∧ 1 < w.heap.size) (hR : rightB b p z r = false) :
    Calls Tryz.prog 4 #[.agg #[.int .i64 b, .int .i64 p, .int .i64 z, .int .i64 r], .slice a n cap] w fun e w' => e = .returned (.bool true) ∧ Below w.heap.size w w' := by
  have hb0 := below_new w (.cells #[.int .i64 b, .int .i64 p, .int .i64 z, .int .i64 r] 23)
  have kF := fresh_no b p z r (w.alloc (.cells #[.int .i64 b, .int .i64 p, .int .i64 z, .int .i64 r] 23)) hR
  have HA : Hid (∀ X, Below w.heap.size w X → Calls Tryz.prog 10 #[] X fun e w' => e = .returned (.bool true) ∧ Below X.heap.size X w') := fun X hb => alive_any X (hg.later hb) (ht.later hb) (by have := hb.size; omega) (by have := hb.size; omega)
  have HB0 := hidV hb0
  clear hg ht h1 hR hb0
  go_enter Tryz.func4, Tryz.ntmps4
  go_wp2_with (first
    | (go_at_call 8; refine kF.mono ?_; rintro e w1 ⟨rfl, hb1⟩; have HB1 := hidV (Below.after HB0.out hb1); clear hb1)
    | (go_at_call 10; refine (HA.out _ HB1.out).mono ?_; rintro e w2 ⟨rfl, hb2⟩; have HB2 := hidV (Below.after HB1.out hb2); clear hb2))
  go_ret
  exact ⟨rfl, HB2.out⟩
theorem new_cell (w : World) (u : Value) (t : TypeId) : (w.alloc (.cells #[u] t)).cell? ((⟨w.heap.size, 0, none⟩ : Addr).add 0) = some u := (Row.new w [u] t).cell (i := 0) rfl
/-- A page that comes in. -/
theorem page_at {w : World} {a : Option Addr} {n cap : Nat} {S : List PgD} (h : PArg w a n cap S) {k : Nat} (hk : k < n) : ∃ bb off o, a = some ⟨bb, off, none⟩ ∧ S[k]? = some o ∧ w.cell? ⟨bb, off + k, none⟩ = some (.slice o.a o.l o.c) ∧ BArg w o.a o.l o.c o.d := by
  obtain ⟨o, ho⟩ : ∃ o, S[k]? = some o := ⟨_, List.getElem?_eq_getElem (by have := h.len_eq; omega)⟩
  rcases h.row with e | ⟨bb, off, e, hc⟩
  · rw [e] at ho; simp at ho
  · exact ⟨bb, off, o, e, ho, hc k o ho, h.each o (List.mem_of_getElem? ho)⟩
theorem PArg.later {w w' : World} {a : Option Addr} {n cap : Nat} {S : List PgD} (h : PArg w a n cap S) (hb : Below w.heap.size w w') : PArg w' a n cap S := by
  refine ⟨h.len_eq, h.le, h.max, ?_, fun o ho => ?_⟩
  · rcases h.row with e | ⟨b, off, e, hc⟩
    · exact .inl e
    · refine .inr ⟨b, off, e, fun i o hi => ?_⟩
      have q0 := hc i o hi
      exact (hb.cell (p := ⟨b, off + i, none⟩) (World.block_lt_of_cell? w _ q0)).trans q0
  · have h1 := h.each o ho
    exact ⟨h1.len_eq, h1.le, h1.max, h1.lt, h1.row.later hb, h1.nil⟩
/-- The pages as they are laid: each filled. -/
def lay (gz : Nat) (S : List PgD) (k : Nat) : List (List Nat) := (S.take k).map fun o => fillP gz o.d
theorem lay_succ {gz : Nat} {S : List PgD} {k : Nat} {o : PgD} (h : S[k]? = some o) : lay gz S (k + 1) = lay gz S k ++ [fillP gz o.d] := by
  unfold lay
  rw [List.take_add_one, h]
  simp
theorem lay_length {gz : Nat} {S : List PgD} {k : Nat} (h : k ≤ S.length) : (lay gz S k).length = k := by
  unfold lay
  simp [Nat.min_eq_left h]
/-- The pages made so far, the call's own. -/
structure OpS (gz : Nat) (W wr : World) (v : Value) (L : List (List Nat)) : Prop where
  pl : PL W.heap.size wr v L
  bel : Below W.heap.size W wr
  fit : ∀ x ∈ L, x.length = gz ∧ ∀ y ∈ x, y < 256
theorem OpS.later {gz : Nat} {W wr w' : World} {v : Value} {L : List (List Nat)} (h : OpS gz W wr v L) (hb : Below wr.heap.size wr w') : OpS gz W w' v L := ⟨h.pl.later hb, Below.after h.bel hb, h.fit⟩
theorem Al.low {t : Nat} {w0 : World} {gz : Nat} {w : World} {m : Mg} {c : CS} {P : List (List (List Nat))} {f : Int → Option (List (List Nat))} (h : Al w0.heap.size t w0 gz w m c P f) : Below w0.heap.size w0 w :=
  ⟨h.kp.os, h.kp.tape, h.kp.output, h.kp.size, fun k hk => h.kp.block k hk (by omega)⟩
/-- One page that is being made. -/
structure InS (W wr : World) (v : Value) (l : List Nat) : Prop where
  own : wr.ownsRow W.heap.size 5 1 v l.length (l.map u8v)
  bel : Below W.heap.size W wr
theorem fill_all {gz : Nat} {L : List (List Nat)} (h : ∀ x ∈ L, x.length = gz) : L.map (fillP gz) = L := by
  conv => rhs; rw [← List.map_id L]
  exact List.map_congr_left fun x hx => fillP_full (h x hx)
/-- Change of the logical block 3 by the pages. -/
theorem op_change {base : Nat} {w0 wr : World} {gz gp B : Nat} {m : Mg} {c : CS} {P : List (List (List Nat))} {v : Value} {L : List (List Nat)} (hA : Al base 1 w0 gz wr m c P (fun _ => none)) (hL : PL B wr v L) (hz : ∀ x ∈ L, x.length = gz) (hlt : ∀ x ∈ L, ∀ y ∈ x, y < 256) (hgp : c.gp = gp) (hn : L.length + 2 ≤ gp) (hleb : ((3 : Nat) : Int) + c.gr + 2 < c.gb) :
    ∃ a cap, v = .slice a L.length cap ∧ Calls Tryz.prog 23 #[.pointer (some ⟨m.p, 0, none⟩), .int .i64 3, .slice a L.length cap] wr fun e w' => e = .returned (.int .i64 0) ∧ ∃ m' c' P', Al base 2 w0 gz w' m' c' P' (fun l => if l = 3 then some L else none) ∧ Gm c c' ∧ m'.p = m.p ∧ PDt (fun k => k = m.p) w' a L := by
  obtain ⟨a, cap, hv, hd⟩ := hL.pdt hA.ms.ml hlt
  refine ⟨a, cap, hv, ?_⟩
  have k := change_go hA.ms 3 cap a L hd hleb (fun x hx => by rw [hz x hx, hA.z]; exact Nat.le_refl _) (by omega) (by omega)
  refine k.mono ?_
  rintro e w' ⟨rfl, hdone⟩
  obtain ⟨m', c', P', h1, h2, h3, h4, h5⟩ := hA.done hdone
  refine ⟨rfl, m', c', P', ⟨h1.ms, h1.gl, fun l => ?_, h1.kp, h1.hb, h1.z⟩, h2, h3, (hd.kept h5).mono fun k e => by rw [e]; exact .inl rfl⟩
  rw [h1.fn l]
  by_cases e : l = 3
  · rw [if_pos (by rw [e]; rfl), if_pos e, hA.z, fill_all hz]
  · rw [if_neg (by simpa using e), if_neg e, hA.fn]
/-- .. and its log, beside the document's. -/
theorem op_open {base : Nat} {w0 w2 : World} {gz gp : Nat} {m : Mg} {c : CS} {P : List (List (List Nat))} {a : Option Addr} {L : List (List Nat)} (hA : Al base 2 w0 gz w2 m c P (fun l => if l = 3 then some L else none)) (hp : PDt (fun k => k = m.p) w2 a L) (hgp : c.gp = gp) (hgeo : 8 ≤ gp ∧ gp ≤ 64 ∧ 64 ≤ gz ∧ gz ≤ 512) (hz : ∀ x ∈ L, x.length = gz) (hn : L.length + 2 ≤ gp) (hleb : ((3 : Nat) : Int) + c.gr + 2 < c.gb) :
    Calls Tryz.prog 13 #[.pointer (some ⟨m.p, 0, none⟩), .int .i64 3] w2 fun e w3 => ∃ l : Lm, e = .returned (.tuple #[.pointer (some ⟨l.p, 0, none⟩), .int .i64 0]) ∧ Below base w2 w3 ∧ ∀ cap, Calls Tryz.prog 14 #[.slice a L.length cap, .bool false, .int .i64 (gz : Nat), .int .i64 ((gp : Int) - 2)] w3 fun e w4 => ∃ p, e = .returned (.pointer (some ⟨p, 0, none⟩)) ∧ Below w3.heap.size w3 w4 ∧
      Calls Tryz.prog 19 #[.pointer (some ⟨l.p, 0, none⟩), .pointer (some ⟨p, 0, none⟩)] w4 fun e w5 => e = .returned (.bool true) ∧ Below w4.heap.size w4 w5 := by
  refine (open_any hA.ms 3 hleb).mono ?_
  rintro e w3 ⟨l, rfl, ho⟩
  have hc : ((cont m.bl P ((3 : Nat) : Int)).getD []) = L := by rw [hA.fn]; rfl
  have h1 := ho.fs
  have h2 := ho.dl
  have h3 := ho.sp
  rw [hc, hA.z] at h1 h2 h3
  have hmb : base ≤ m.p := hA.ms.ml.low.1
  have hbw : base ≤ w2.heap.size := by have := hA.ms.ml.box.lt; omega
  refine ⟨l, rfl, ⟨ho.kp.os, ho.kp.tape, ho.kp.output, ho.kp.size, fun k hk => ho.kp.block k (by omega) (by omega)⟩, fun cap => ?_⟩
  have hp3 := (hp.kept ho.kp).mono (T := fun _ => False) fun k e => e.elim
  have k := dopen_any gz (gp - 2) w3 a cap L.length L rfl hp3 hz (by omega) (by omega) (by omega)
  rw [show (((gp - 2 : Nat)) : Int) = (gp : Int) - 2 by omega] at k
  refine k.mono ?_
  rintro e w4 ⟨d, rfl, d1, d2, d3, d4, d5, d6, d7⟩
  refine ⟨d.p, rfl, d7, ?_⟩
  have hbl : L.flatten.length = gz * L.length := flat_lens hz
  have ro := rdr_ok gz (by omega) L.flatten _ hbl (L.flatten.length + 1) 0 (Nat.zero_le _) (by simp; omega)
  refine alike_any (ho.ml.later d7) d6 ⟨by rw [h1, d3], ?_, by rw [h3, d5], ?_⟩
  · rw [h2, d4, List.length_take]
    have := ro.2.2.1
    omega
  · rw [ho.ml.cap, hgp, hA.z, d1, d2, Nat.mul_comm]
set_option maxRecDepth 100000 in
set_option maxHeartbeats 8000000 in
theorem walk_yes (gb gp gz gr : Nat) (a : Option Addr) (n cap : Nat) (S : List PgD) (w : World) (hg : Hd.Glb w) (ht : Typed w) (h1 : 0 < w.heap.size ∧ 1 < w.heap.size) (hR : rightB gb gp gz gr = true) (hS : PArg w a n cap S) :
    Calls Tryz.prog 4 #[.agg #[.int .i64 gb, .int .i64 gp, .int .i64 gz, .int .i64 gr], .slice a n cap] w fun e w' => e = .returned (.bool true) ∧ Below w.heap.size w w' := by
  obtain ⟨W0, hW0⟩ : ∃ W0, W0 = w.alloc (.cells #[.int .i64 gb, .int .i64 gp, .int .i64 gz, .int .i64 gr] 23) := ⟨_, rfl⟩
  have hb0 : Below w.heap.size w W0 := by rw [hW0]; exact below_new w _
  have hrow : Row W0 w.heap.size [Value.int .i64 gb, .int .i64 gp, .int .i64 gz, .int .i64 gr] 23 := by rw [hW0]; exact Row.new w [.int .i64 gb, .int .i64 gp, .int .i64 gz, .int .i64 gr] 23
  have g0 := hrow.cell (i := 0) rfl
  have g1 := hrow.cell (i := 1) rfl
  have g2 := hrow.cell (i := 2) rfl
  have g3 := hrow.cell (i := 3) rfl
  have hE : 0 < W0.heap.size := by have := hb0.size; omega
  have kF := fresh_yes gb gp gz gr W0 hR (hg.later hb0) (ht.later hb0) hE (by have := hb0.size; omega)
  have hgeo := right_geo hR
  have hlb : ((3 : Nat) : Int) + gr + 2 < gb := by
    unfold rightB at hR
    simp only [Bool.and_eq_true, decide_eq_true_eq] at hR
    obtain ⟨q1, _, _, _, _, _, q4⟩ := hR
    rw [Int.tdiv_eq_ediv_of_nonneg (by omega)] at q4
    have : wrap64 ((gb : Int) / 4) = (gb : Int) / 4 := by unfold wrap64; omega
    omega
  have HA : Hid (∀ X, Below W0.heap.size W0 X → Calls Tryz.prog 10 #[] X fun e w' => e = .returned (.bool true) ∧ Below X.heap.size X w') := fun X hb => alive_any X ((hg.later hb0).later hb) ((ht.later hb0).later hb) (by have := hb.size; omega) (by have := hb.size; have := hb0.size; omega)
  have HB0 := hidV hb0
  have HR := hidV hrow
  have HLb := hidV hlb
  have HS := hidV (PArg.later hS hb0)
  have HNs := hidV hS.len_eq
  have hnm : (n : Int) ≤ 9223372036854775807 := by have := hS.le; have := hS.max; unfold maxLen at this; omega
  have HGe := hidV hgeo
  have gp2 : 8 ≤ (gp : Int) := by omega
  have gpm : (gp : Int) ≤ 64 := by omega
  have gz2 : 64 ≤ (gz : Int) := by omega
  have gzm : (gz : Int) ≤ 512 := by omega
  obtain ⟨i0, hi, hz0, hz1, hz2⟩ := info_parts info8
  clear hg ht h1 hR hS hb0 hE hlb hrow hgeo
  by_cases hmany : (n : Int) ≤ (gp : Int) - 2
  · have hm1 : ¬ (gp : Int) - 2 < (n : Int) := by omega
    have HNn := hidV (show n + 2 ≤ gp ∧ n ≤ 62 by omega)
    go_enter Tryz.func4, Tryz.ntmps4
    go_wp2_with fail
    rw [← hW0]
    clear hW0
    go_wp2_with (go_at_call 8; refine kF.mono ?_; rintro e w1 ⟨m, c, P, rfl, hn1⟩; have HN := hidV hn1; have y1 := (HR.out.later hn1.bl).cell (i := 1) rfl; clear hn1)
    clear kF g0 g1 g2 g3 y1
    go_loopg [6, 7] n (fun kx s6 s7 wr => ∃ k : Nat, k + kx = n ∧ s7 = .int .i64 (k : Nat) ∧ Hid (OpS gz w1 wr s6 (lay gz S k)))
    case atStart => exact ⟨0, by omega, rfl, ⟨PL.nil _ _, Below.refl _ _, by simp [lay]⟩⟩
    case round =>
      obtain ⟨k, hk, rfl, I⟩ := hrel
      have HBr : Hid (Below W0.heap.size W0 wr) := HN.out.bl.trans (I.out.bel.mono HN.out.bl.size)
      have y1 := (HR.out.later HBr.out).cell (i := 1) rfl
      have y2 := (HR.out.later HBr.out).cell (i := 2) rfl
      by_cases hlt : k < n
      · obtain ⟨bb, off, ⟨oa, ol, oc, od⟩, rfl, ho, c1, hB⟩ := page_at (HS.out.later HBr.out) hlt
        replace c1 : wr.cell? ⟨bb, off + k, none⟩ = some (.slice oa ol oc) := c1
        replace hB : BArg wr oa ol oc od := hB
        have hkn : (k : Int) < (n : Int) := by omega
        have HO := hidV ho
        have HBa := hidV hB
        have hol : (ol : Int) ≤ 9223372036854775807 := by have := hB.le; have := hB.max; unfold maxLen at this; omega
        clear ho hB
        go_wp2_with fail
        have ne := Wd.non wr
        have z1 : ∀ p : Wd wr, p.v.cell? ⟨bb, off + k, none⟩ = some (.slice oa ol oc) := fun p => cell_kept (S := fun _ => False) (.of_below p.h) (fun e => e) c1
        have z2 : ∀ p : Wd wr, p.v.cell? ⟨w.heap.size, 2, none⟩ = some (.int .i64 gz) := fun p => cell_kept (S := fun _ => False) (.of_below p.h) (fun e => e) y2
        refine quiet_below (by kernel_rfl) ?_
        repeat (first | go_big_quiet_skip | go_big_quiet_step (first | fail))
        refine wpQuiet_nil ?_
        rintro _ ⟨p4, rfl⟩
        obtain ⟨w4, hw4⟩ : ∃ W, W = p4.v := ⟨_, rfl⟩
        have HB4 : Hid (Below wr.heap.size wr w4) := by rw [hw4]; exact p4.h
        rw [← hw4]
        have c4 := z1 p4
        have x2 := z2 p4
        rw [← hw4] at c4 x2
        clear hw4
        clear p4 z1 z2 ne c1 y1 y2
        have I4 : Hid (OpS gz w1 w4 u6 (lay gz S k)) := I.out.later HB4.out
        have HBr4 : Hid (Below W0.heap.size W0 w4) := HBr.out.trans (HB4.out.mono HBr.out.size)
        by_cases hz : (gz : Int) < (ol : Int)
        · go_wp2_with (go_at_call 10; refine (HA.out _ HBr4.out).mono ?_; rintro e w2 ⟨rfl, hb2⟩; have HB2 := hidV (Below.after HBr4.out hb2); clear hb2)
          go_ret
          exact ⟨rfl, Below.after HB0.out HB2.out⟩
        · have hz' : ol ≤ gz := by omega
          have HZ := hidV hz'
          have c5 : (w4.alloc (.cells #[] 5)).cell? ⟨bb, off + k, none⟩ = some (.slice oa ol oc) := cell_kept (S := fun _ => False) (.of_below (below_new w4 _)) (fun e => e) c4
          clear HBr
          go_wp2_with (at_builtin; go_must (refine Hd.wpList_append_bytes rfl (.tmp 39) (.tmp 43) rfl w4.heap.size (.slice (some ⟨w4.heap.size, 0, none⟩) 0 0) 0 [] rfl (Hd.own_empty w4 w4.heap.size (Nat.le_refl _)) oa ol oc od rfl HBa.out.len_eq (HBa.out.row.later (Below.after HB4.out (below_new w4 _))) HBa.out.nil (by have := HZ.out; have := HGe.out; unfold maxLen; omega) (by have := HZ.out; have := HGe.out; omega) (by simp) ?_); intro v8 w5 hown5 hgrow5)
          have HI5 : Hid (InS w4 w5 v8 (od ++ List.replicate 0 255)) := by
            have e : od ++ List.replicate 0 255 = od := by simp
            rw [e]
            refine ⟨?_, (below_new w4 _).grown hgrow5 (by simp) fun z hz => ?_⟩
            · have := hown5
              rw [Nat.zero_add, List.nil_append] at this
              rw [← HBa.out.len_eq]
              exact this
            · simp [Value.ownBlock] at hz
              omega
          clear hown5 hgrow5
          go_wp2_with fail
          go_loopg [8] (gz - ol) (fun kx s8 wi => ∃ j : Nat, j + kx = gz - ol ∧ Hid (InS w4 wi s8 (od ++ List.replicate j 255)))
          case atStart => exact ⟨0, by omega, HI5.out⟩
          case round =>
            clear HI5
            obtain ⟨j, hj, I5⟩ := hrel
            obtain ⟨q, hq⟩ : ∃ q, q = ol + j := ⟨_, rfl⟩
            have hql : (od ++ List.replicate j 255).length = q := by rw [List.length_append, List.length_replicate, ← HBa.out.len_eq, hq]
            obtain ⟨a8, c8, e8, _⟩ := owns_row I5.out.own
            rw [hql] at e8
            subst e8
            have HOw : Hid (wr.ownsRow w4.heap.size 5 1 (.slice a8 q c8) q ((od ++ List.replicate j 255).map u8v)) := by have := I5.out.own; rw [hql] at this; exact this
            have HBi : Hid (Below W0.heap.size W0 wr) := HBr4.out.trans (I5.out.bel.mono HBr4.out.size)
            have y2 := (HR.out.later HBi.out).cell (i := 2) rfl
            have hq' : q = ol + j := hq
            have HQ2 := hidV hq
            have hz'' := HZ.out
            clear hq
            by_cases hjq : q < gz
            · have hq1 : (q : Int) < (gz : Int) := by omega
              have HKM : Hid (q + 1 ≤ maxLen ∧ (q + 1) * 1 ≤ 140737488355328 ∧ w4.heap.size ≤ wr.heap.size + 1) := ⟨by unfold maxLen; omega, by omega, by have := I5.out.bel.size; omega⟩
              have hj1 : j + 1 ≤ gz - ol := by omega
              clear hq' hql
              go_wp2_with (at_builtin; go_must (refine wpList_append_own _ rfl (.tmp 50) (.tmp 51) 39 rfl w4.heap.size 5 i0 (.int .u8 0) 1 1 Tryz.underlying39 hi hz0 hz1 hz2 rfl (by omega) (.slice a8 q c8) q _ rfl (HOw.out.alloc _) ⟨wr.heap.size, 0, none⟩ 1 1 [.int .u8 255] rfl rfl (World.news_of_block (cs := #[.int .u8 255]) (t := 5) (fr := (0, 0)) (lheap_new wr _)) (by simp [Value.oneCell']) HKM.out.1 HKM.out.2.1 (by simpa using HKM.out.2.2) ?_); intro v9 w9 hown9 hgrow9 _)
              have HI9 : Hid (InS w4 w9 v9 (od ++ List.replicate (j + 1) 255)) := by
                have e : od ++ List.replicate (j + 1) 255 = (od ++ List.replicate j 255) ++ [255] := by rw [List.replicate_succ', List.append_assoc]
                have el : (od ++ List.replicate j 255).length = q := by rw [List.length_append, List.length_replicate, ← HBa.out.len_eq, HQ2.out]
                rw [e]
                refine ⟨?_, (I5.out.bel.alloc I5.out.bel.size _).grown hgrow9 (by simpa using HKM.out.2.2) fun z hz => ?_⟩
                · rw [List.length_append, el, List.map_append]
                  exact hown9
                · exact (HOw.out.lt z hz).1
              clear hown9 hgrow9
              go_wp2_with fail
              go_roundg (gz - ol - (j + 1))
              case measure => omega
              case rel => exact ⟨j + 1, by omega, HI9.out⟩
            · have hq1 : ¬ (q : Int) < (gz : Int) := by omega
              have hje : j = gz - ol := by omega
              obtain ⟨vs, q1, q2, q3⟩ := (I4.out.pl.later I5.out.bel)
              have hkl : (lay gz S k).length = k := lay_length (by have := HNs.out; omega)
              rw [hkl] at q1 q2
              have HVs := hidV (And.intro q1 (And.intro q2 q3))
              have HPg : Hid (od ++ List.replicate j 255 = fillP gz od) := by show _ = _; unfold fillP; rw [hje, HBa.out.len_eq]
              have HKl := hidV hkl
              have HJe := hidV hje
              have HKM : Hid (k + 1 ≤ maxLen ∧ (k + 1) * 24 ≤ 140737488355328 ∧ w1.heap.size ≤ (wr.alloc (.cells #[.slice a8 q c8] 39)).heap.size) := ⟨by have := HNn.out; unfold maxLen; omega, by have := HNn.out; omega, by have := I4.out.bel.size; have := I5.out.bel.size; simp; omega⟩
              clear hq' hql q1 q2 q3 hkl hje
              go_wp2_with (at_builtin; go_must (refine wpList_append_page rfl (.tmp 53) (.tmp 55) rfl w1.heap.size u6 k vs rfl (owns_later HVs.out.2.1 (below_new wr _)) ⟨wr.heap.size, 0, none⟩ 1 (.slice a8 q c8) rfl (new_cell wr _ _) rfl HKM.out.1 HKM.out.2.1 HKM.out.2.2 ?_); intro v9 w9 hown9 hgrow9)
              have HI9 : Hid (OpS gz w1 w9 v9 (lay gz S (k + 1))) := by
                have el : (od ++ List.replicate j 255).length = gz := by rw [List.length_append, List.length_replicate, ← HBa.out.len_eq, HJe.out]; have := HZ.out; omega
                rw [lay_succ HO.out]
                show OpS gz w1 w9 v9 (lay gz S k ++ [fillP gz od])
                rw [← HPg.out]
                refine ⟨PL.push (W := wr.alloc (.cells #[.slice a8 q c8] 39)) (vs := vs) (v := u6) (u := .slice a8 q c8) (x := od ++ List.replicate j 255) (by rw [HKl.out]; exact HVs.out.1) (by rw [HKl.out]; exact owns_later HVs.out.2.1 (below_new wr _)) (fun z hz => owns_later (HVs.out.2.2 z hz) (below_new wr _)) ?_ hgrow9 (by rw [HKl.out]; exact hown9), ?_, ?_⟩
                · have := owns_later (lown_low HOw.out (show w1.heap.size ≤ w4.heap.size from I4.out.bel.size)) (below_new wr (.cells #[.slice a8 q c8] 39))
                  have e9 : (od ++ List.replicate j 255).length = q := by rw [List.length_append, List.length_replicate, ← HBa.out.len_eq]; exact HQ2.out.symm
                  rw [e9]
                  exact this
                · exact (((I4.out.bel.trans (I5.out.bel.mono I4.out.bel.size)).alloc (by have := I4.out.bel.size; have := I5.out.bel.size; omega) _)).grown hgrow9 HKM.out.2.2 fun z hz => (HVs.out.2.1.lt z hz).1
                · intro x hx
                  rcases List.mem_append.1 hx with hx | hx
                  · exact I4.out.fit x hx
                  · have hxe : x = od ++ List.replicate j 255 := by simpa using hx
                    subst hxe
                    refine ⟨el, fun y hy => ?_⟩
                    rcases List.mem_append.1 hy with hy | hy
                    · exact HBa.out.lt y hy
                    · rw [List.eq_of_mem_replicate hy]; decide
              clear hown9 hgrow9
              go_wp2_with fail
              go_roundg (n - (k + 1))
              case measure => omega
              case rel => exact ⟨k + 1, by omega, by go_num, HI9.out⟩
      · have hkn : k = n := by omega
        have hAl := HN.out.al.later I.out.bel
        rw [HN.out.num.2.2.1] at hAl
        have hkl : (lay gz S k).length = k := lay_length (by have := HNs.out; omega)
        have hk2 : k + 2 ≤ gp := by have := HNn.out; omega
        obtain ⟨a3, cap3, hv, kC⟩ := op_change hAl I.out.pl (fun x hx => (I.out.fit x hx).1) (fun x hx => (I.out.fit x hx).2) HN.out.num.2.1 (by rw [hkl]; exact hk2) (by rw [HN.out.num.1, HN.out.num.2.2.2]; exact HLb.out)
        rw [hkl] at hv
        subst hv
        have hop : ∀ W m' c' P', Al W0.heap.size 2 W0 gz W m' c' P' (fun l => if l = 3 then some (lay gz S k) else none) → Gm c c' → m'.p = m.p → PDt (fun z => z = m.p) W a3 (lay gz S k) → Calls Tryz.prog 13 #[.pointer (some ⟨m.p, 0, none⟩), .int .i64 3] W fun e w3 => ∃ l : Lm, e = .returned (.tuple #[.pointer (some ⟨l.p, 0, none⟩), .int .i64 0]) ∧ Below W0.heap.size W w3 ∧ ∀ cap, Calls Tryz.prog 14 #[.slice a3 k cap, .bool false, .int .i64 (gz : Nat), .int .i64 ((gp : Int) - 2)] w3 fun e w4 => ∃ p, e = .returned (.pointer (some ⟨p, 0, none⟩)) ∧ Below w3.heap.size w3 w4 ∧
            Calls Tryz.prog 19 #[.pointer (some ⟨l.p, 0, none⟩), .pointer (some ⟨p, 0, none⟩)] w4 fun e w5 => e = .returned (.bool true) ∧ Below w4.heap.size w4 w5 := by
          intro W m' c' P' h1 h2 h3 h4
          have g := HGe.out
          have := op_open h1 (h4.mono fun z e => by rw [e, h3]) (h2.gp.trans HN.out.num.2.1) ⟨by omega, by omega, by omega, by omega⟩ (fun x hx => (I.out.fit x hx).1) (by rw [hkl]; exact hk2) (by rw [h2.gr, h2.gb, HN.out.num.1, HN.out.num.2.2.2]; exact HLb.out)
          rw [hkl, h3] at this
          exact this
        have HOp := hidV hop
        rw [hkl] at kC
        clear hAl hkl hop
        subst hkn
        go_wp2_with (first
          | (go_at_call 23; refine kC.mono ?_; rintro e w5 ⟨rfl, m', c', P', q1, q2, q3, q4⟩; have HB5 := hidV (Al.low q1); have kO := HOp.out w5 m' c' P' q1 q2 q3 q4; clear q1 q2 q3 q4)
          | (go_at_call 13; refine kO.mono ?_; rintro e w6 ⟨l, rfl, hb6, kP⟩; have HB6 := hidV (HB5.out.trans hb6); have y1 := (HR.out.later HB6.out).cell (i := 1) rfl; have y2 := (HR.out.later HB6.out).cell (i := 2) rfl; clear hb6)
          | (go_at_call 14; refine (kP _).mono ?_; rintro e w7 ⟨p7, rfl, hb7, kS⟩; have HB7 := hidV (HB6.out.trans (hb7.mono HB6.out.size)); clear hb7)
          | (go_at_call 19; refine kS.mono ?_; rintro e w8 ⟨rfl, hb8⟩; have HB8 := hidV (HB7.out.trans (hb8.mono HB7.out.size)); clear hb8)
          | (go_at_call 10; refine (HA.out _ HB8.out).mono ?_; rintro e w9 ⟨rfl, hb9⟩; have HB9 := hidV (Below.after HB8.out hb9); clear hb9))
        go_ret
        exact ⟨rfl, Below.after HB0.out HB9.out⟩
  · have hm1 : (gp : Int) - 2 < (n : Int) := by omega
    go_enter Tryz.func4, Tryz.ntmps4
    go_wp2_with fail
    rw [← hW0]
    clear hW0
    go_wp2_with (first
      | (go_at_call 8; refine kF.mono ?_; rintro e w1 ⟨m, c, P, rfl, hn1⟩; have HN := hidV hn1; have y1 := (HR.out.later hn1.bl).cell (i := 1) rfl; clear hn1)
      | (go_at_call 10; refine (HA.out _ HN.out.bl).mono ?_; rintro e w2 ⟨rfl, hb2⟩; have HB2 := hidV (Below.after HN.out.bl hb2); clear hb2))
    go_ret
    exact ⟨rfl, Below.after HB0.out HB2.out⟩
theorem walk (b p z r : Int) (a : Option Addr) (n cap : Nat) (S : List PgD) (w : World) (hg : Hd.Glb w) (ht : Typed w) (hS : PArg w a n cap S) :
    Calls Tryz.prog 4 #[.agg #[.int .i64 b, .int .i64 p, .int .i64 z, .int .i64 r], .slice a n cap] w fun e w' => e = .returned (.bool true) ∧ Below w.heap.size w w' := by
  have h1 : 0 < w.heap.size ∧ 1 < w.heap.size := by
    obtain ⟨v, hv⟩ := hg
    exact ⟨World.block_lt_of_cell? w _ hv, World.block_lt_of_cell? w _ ht⟩
  cases hR : rightB b p z r with
  | false => exact walk_no b p z r a n cap w hg ht h1 hR
  | true =>
    obtain ⟨gb, gp, gz, gr, rfl, rfl, rfl, rfl, _⟩ := right_nums hR
    exact walk_yes gb gp gz gr a n cap S w hg ht h1 hR hS

set_option maxRecDepth 100000 in
theorem contract (H : Type) (enc : TypeId × Value → H) (W : World) (base : Nat) (args : Array Value) (ds gs : List (DataW H)) (before : List MemPlace)
    (hval : ∀ (j : Nat) t v, Tryz.f4.params[j]? = some t → args[j]? = some v → Value.okWide Tryz.prog W .any base t v)
    (hW : DataW.Whole enc Tryz.prog Tryz.f4.params.toList Rows.wbufOpensSpec.vars false W args.toList ds gs before) (hL : laidMetH Tryz.prog laid W)
    : Calls Tryz.prog 4 args W fun e W' => ∃ v, e = .returned v ∧ Rows.wbufOpensSpec.post enc Tryz.prog Tryz.f4 false true false false W args v W' := by
  have hW' := hW
  obtain ⟨p, q, hA0, hV, rfl, hfz, hnd⟩ := hW
  have hA : DataW.TrodAll enc Tryz.prog W 0 (fun _ => true) true Tryz.f4.params.toList args.toList ds p := hA0
  rw [Tryz.params4] at hA hval
  obtain ⟨v0, vs0, d0, ds0, p0, q0, hargs, rfl, rfl, h0, r0⟩ := trodAll_cons hA
  obtain ⟨v1, vs1, d1, ds1, p1, q1, rfl, rfl, rfl, h1, r1⟩ := trodAll_cons r0
  obtain ⟨rfl, rfl, rfl⟩ := trodAll_nil r1
  obtain rfl : args = #[v0, v1] := by cases args; simp_all
  obtain ⟨rfl, rfl⟩ := trodVars_none hV
  obtain ⟨cs0, rfl, sz0⟩ := okWide_struct Tryz.underlying23 (hval 0 23 v0 rfl rfl)
  have k0 := h0
  have lt0 : ∀ x ∈ p0, x.block < W.heap.size := by obtain ⟨m, hm⟩ := k0; exact DataW.trod_lt m _ _ _ hm
  obtain ⟨gb0, gp0, gz0, gr0, rfl⟩ : ∃ b p z r, cs0 = #[.int .i64 b, .int .i64 p, .int .i64 z, .int .i64 r] := by
    obtain ⟨fuel, hf⟩ := h0
    exact garg_open sz0 hf
  obtain ⟨a1, len1, cap1, rfl⟩ := okWide_slice Tryz.underlying50 (hval 1 50 v1 rfl rfl)
  have k1 := h1
  have lt1 : ∀ x ∈ p1, x.block < W.heap.size := by obtain ⟨m, hm⟩ := k1; exact DataW.trod_lt m _ _ _ hm
  obtain ⟨l1, w1⟩ : ∃ l, PArg W a1 len1 cap1 l := by
    obtain ⟨fuel, hf⟩ := h1
    exact parg_open hf
  clear hA0
  refine (walk gb0 gp0 gz0 gr0 a1 len1 cap1 l1 W (glb_of hL) (typed_of hL) w1).mono fun e W' ⟨he, bel⟩ => ?_
  subst he
  exact ⟨_, rfl, _, _, _, [], _, [], hW', trodAll_mk1 (shut_bool Tryz.underlying4 _), (trodAll_cons_mk (Below.trod laidOut (by kernel_rfl) (of_decide_eq_true (by kernel_rfl)) k0 bel lt0) (trodAll_cons_mk (Below.trod laidOut (by kernel_rfl) (of_decide_eq_true (by kernel_rfl)) k1 bel lt1) trodAll_mk0)), rfl, bel.frame _, fun h => by cases h⟩

theorem reads (os : Os) {H : Type} (enc : TypeId × Value → H) : ∃ places, DataW.whole enc Tryz.prog ((laidWorld os).forCall (fun _ _ => 0) ⟨#[], #[.agg #[.int .i64 0, .int .i64 0, .int .i64 0, .int .i64 0], .slice none 0 0], []⟩).memory Tryz.f4.params.toList Rows.wbufOpensSpec.vars false (#[.agg #[.int .i64 0, .int .i64 0, .int .i64 0, .int .i64 0], .slice none 0 0] : Array Value).toList 8 = some ([.agg [.lit (.int .i64 0), .lit (.int .i64 0), .lit (.int .i64 0), .lit (.int .i64 0)], .nil], [], places) :=
  ⟨[], by kernel_rfl⟩
set_option maxRecDepth 100000 in
theorem lifted (os : Os) (started : os.Started) (H : Type) (enc : TypeId × Value → H) (F : Stop.Interp) :
    ReturnsInHanded {} Tryz.checked os 4 .any ((OpenSpec.ofChange Rows.wbufOpensSpec).preRow enc Tryz.prog Tryz.f4 Rows.wbufOpensRow.domain false Rows.wbufOpensRow.laid) (((OpenSpec.ofChange Rows.wbufOpensSpec).at F).post enc Tryz.prog Tryz.f4 false true false false) := by
  obtain ⟨places, hx⟩ := reads os enc
  refine returnsInHanded_of_row (C := Tryz.checked) (s := OpenSpec.ofChange Rows.wbufOpensSpec) own started (by kernel_rfl) Tryz.func4
    (witness_row_at (enc := enc) (C := Tryz.checked) false (laidWorld os) #[.agg #[.int .i64 0, .int .i64 0, .int .i64 0, .int .i64 0], .slice none 0 0] (laid_os os) (by kernel_rfl) (by kernel_rfl) (by kernel_rfl)
      (OpenSpec.preRow_of_cond 8 hx (by kernel_rfl) (fun k hk => by cases hk) (by kernel_rfl) (laid_met os _))) ?_
  intro W base args ds gs before hval hW _ _ hsz hL _ _
  exact contract H enc W base args ds gs before hval hW hL
theorem said : Rows.WbufOpensSaid :=
  OpenClaim.holds_of_cond 4 Tryz.f4 rfl rfl rfl rfl rfl rfl rfl ⟨rfl, rfl, rfl, rfl, rfl⟩ rfl rfl rfl rfl rfl (by kernel_rfl) Tryz.func4 (by kernel_rfl)
    (of_decide_eq_true (by kernel_rfl)) (by unfold Func.isWrapper; first | (rw [if_pos (by decide +kernel)]; kernel_rfl) | (rw [if_neg (by decide +kernel)]; exact ⟨rfl, rfl⟩))
    (fun os started H enc _ F => by rw [OpenClaim.pre_eq_preRow]; exact lifted os started H enc F)
set_option maxRecDepth 100000 in
theorem plain (f : FuncId) (fn : Func) (hf : Tryz.pinned.checked.prog.funcNamed "pumice/pumicelaw11.WbufOpens" = some f) (hfn : Tryz.pinned.checked.prog.funcs[f]? = some fn) :
    true = Tryz.pinned.checked.prog.looks [] ∧ ∀ (j : Nat) t, fn.params[j]? = some t → Tryz.pinned.checked.prog.wantsStandIn t = false := by
  obtain rfl : f = 4 := Option.some.inj ((show Tryz.prog.funcNamed "pumice/pumicelaw11.WbufOpens" = some 4 by kernel_rfl).symm.trans hf) |>.symm
  obtain rfl : fn = Tryz.f4 := (Option.some.inj (Tryz.func4.symm.trans hfn)).symm
  refine ⟨by kernel_rfl, fun j t ht => ?_⟩
  rw [Tryz.params4] at ht
  have hm : t = 23 ∨ t = 50 := by simpa using Array.mem_of_getElem? ht
  rcases hm with rfl | rfl
  · exact (show Tryz.prog.wantsStandIn 23 = false by kernel_rfl)
  · exact (show Tryz.prog.wantsStandIn 50 = false by kernel_rfl)
theorem card : Rows.WbufOpensCardSaid :=
  Claim7.holds_tied_plain_at .later [] _ _ _ _ said (fun _ h => by cases h) (by kernel_rfl) (fun _ h => by cases h) wbufOpens_row_tie rfl ⟨rfl, rfl⟩ (by kernel_rfl) rfl plain (by kernel_rfl)
end Go.Proofs.YteodcjbbkekidaaGreatDoor.wbufOpens

namespace Go.Proofs.YteodcjbbkekidaaGreatDoor
theorem wbufOpens_holds : Rows.WbufOpensCardSaid := wbufOpens.card
#print axioms wbufOpens_holds
end Go.Proofs.YteodcjbbkekidaaGreatDoor
