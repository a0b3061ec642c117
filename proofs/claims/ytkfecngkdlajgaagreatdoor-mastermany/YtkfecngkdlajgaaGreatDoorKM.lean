/-
  A logical block is let go: the call's closure.
  Unmap of a manager; may a logical block have these pages?
  Read of a manager.
  A manager that is right, in memory; Write, Unmap, Change of it.
-/
import Derived.Test.YtkfecngkdlajgaaGreatDoorKL
import Derived.Test.YtkfecngkdlajgaaGreatDoorKI
namespace Go.Proofs.YtkfecngkdlajgaaGreatDoor
open Go.RowKit Go.Extern.Stop Go.Stop Go.Extern
set_option maxRecDepth 10000

end Go.Proofs.YtkfecngkdlajgaaGreatDoor
namespace Go.Proofs.YtkfecngkdlajgaaGreatDoor
open Go.RowKit Go.Extern.Stop Go.Stop Go.Extern
set_option maxRecDepth 10000

@[local go_sem] theorem run_store_func5 (P : Program) (w : World) (a : Addr) (m : Mode) (f : Fn) (x y : Array Value) : (store a (.func f x y) m).run P w = stored P w a (.func f x y) m := run_store P w a _ m rfl
set_option maxHeartbeats 2000000 in
theorem mfit_any {base : Nat} {w : World} {m : Mg} {c : CS} (h : MLies base w m c) (a : Option Addr) (cap : Nat) (L : List (List Nat)) (hd : PDt (MFoot m c) w a L) (hL : L.length + 2 ≤ c.gp) (hz : ∀ d ∈ L, d.length ≤ c.gz) :
    Calls Tryz.prog 40 #[.pointer (some ⟨m.p, 0, none⟩), .slice a L.length cap] w fun e w' => e = .returned (.bool true) ∧ Below w.heap.size w w' := by
  have hgs := h.chip.good.gs
  have HP : Hid (∀ X, Below w.heap.size w X → Calls Tryz.prog 67 #[.pointer (some ⟨m.p, 0, none⟩)] X fun e w' => e = .returned (.int .i64 c.gz) ∧ Below X.heap.size X w') := fun X hb => mpage_any (h.later hb)
  have HPs : Hid (∀ X, Below w.heap.size w X → Calls Tryz.prog 74 #[.pointer (some ⟨m.p, 0, none⟩)] X fun e w' => e = .returned (.int .i64 ((c.gp : Int) - 2)) ∧ Below X.heap.size X w') := fun X hb => mpages_any (h.later hb) (by omega)
  have HD : Hid (∀ X, Below w.heap.size w X → PDt (MFoot m c) X a L) := fun X hb => hd.kept (.of_below hb)
  have HZ : Hid (∀ d ∈ L, d.length ≤ c.gz) := hz
  have hl0 : L.length ≤ 64 := by omega
  have g1 : ¬ (c.gp : Int) - 2 < (L.length : Int) := by omega

  clear h hd hL hz hgs
  go_enter Tryz.func40, Tryz.ntmps40
  go_wp2
  go_loopg [9] L.length (fun kx s9 wr => ∃ k : Nat, k + kx = L.length ∧ s9 = .int .i64 (k : Nat) ∧ Hid (Below w.heap.size w wr))
  case atStart => exact ⟨0, by omega, rfl, Below.refl _ _⟩
  case round =>
    obtain ⟨k, hk, rfl, HB⟩ := hrel
    by_cases hlt : k < L.length
    · obtain ⟨d, hd⟩ : ∃ d, L[k]? = some d := ⟨_, List.getElem?_eq_getElem hlt⟩
      have hdz := HZ.out d (List.mem_of_getElem? hd)
      rcases HD.out wr HB.out with e | ⟨b, off, e, _, hc⟩
      · rw [e] at hlt; simp at hlt
      · obtain ⟨ai, ki, q1, _⟩ := hc k d hd
        have kP := HP.out wr HB.out
        have n0 : ¬ (k : Int) < 0 := by omega
        have n1 : (k : Int) < (L.length : Int) := by omega
        have g3 : ¬ (c.gz : Int) < (d.length : Int) := by omega
        subst e
        clear hc hd hdz
        go_wp2_with (go_at_call 67; refine kP.mono ?_; rintro e w2 ⟨rfl, hb⟩; have HB2 : Hid (Below w.heap.size w w2) := Below.after HB.out hb; clear hb)
        go_roundg (L.length - (k + 1))
        case measure => omega
        case rel => exact ⟨k + 1, by omega, by go_num, HB2⟩
    · have hkk : k = L.length := by omega
      have kP := HPs.out wr HB.out
      have n1 : ¬ (k : Int) < (L.length : Int) := by omega
      clear hkk hlt hk
      go_wp2_with (go_at_call 74; refine kP.mono ?_; rintro e w2 ⟨rfl, hb⟩; have HB2 : Hid (Below w.heap.size w w2) := Below.after HB.out hb; clear hb)
      go_ret
      exact ⟨by simp, HB2.out⟩
end Go.Proofs.YtkfecngkdlajgaaGreatDoor
namespace Go.Proofs.YtkfecngkdlajgaaGreatDoor
open Go.RowKit Go.Extern.Stop Go.Stop Go.Extern
set_option maxRecDepth 10000

/-- A page that a call of the manager tells; the manager as it was. -/
structure RdP (base : Nat) (w : World) (m : Mg) (c : CS) (l : List Nat) (a : Option Addr) (k cap : Nat) (w' : World) : Prop where
  len : k = l.length
  fits : k ≤ cap
  row : BRow w' a l
  fresh : l = [] ∨ ∀ b o, a = some ⟨b, o, none⟩ → w.heap.size ≤ b
  ml : MLies base w' m c
  kp : Kept (fun q => q = m.p) w w'
set_option maxHeartbeats 2000000 in
theorem mread_page {base : Nat} {w : World} {m : Mg} {c : CS} (h : MLies base w m c) (hl : m.lost = false) (hon : c.on = true) (hgp : 2 ≤ c.gp) (leb : Int) (page i : Nat) (hh : hasB c leb = true) (hp : page + 2 < c.gp) (hf : findI m.bl leb = i) (hu : (page : Int) < (homeB m.bl leb).used) (l : List Nat) (hrd : c.read i (2 + (page : Int)) = (l, 0)) :
    Calls Tryz.prog 138 #[.pointer (some ⟨m.p, 0, none⟩), .int .i64 leb, .int .i64 (page : Nat)] w fun e w' => ∃ a k cap, e = .returned (.tuple #[.slice a k cap, .int .i64 0]) ∧ RdP base w m c l a k cap w' := by
  have hgs := h.chip.good.gs
  have hlen := h.len
  have kH := mhas_any h leb
  rw [hh] at kH
  have HP : Hid (∀ X, Below w.heap.size w X → Calls Tryz.prog 74 #[.pointer (some ⟨m.p, 0, none⟩)] X fun e w' => e = .returned (.int .i64 ((c.gp : Int) - 2)) ∧ Below X.heap.size X w') := fun X hb => mpages_any (h.later hb) hgp
  have HOf : Hid (∀ X, Below w.heap.size w X → Calls Tryz.prog 75 #[.pointer (some ⟨m.p, 0, none⟩)] X fun e w' => e = .returned (.bool false) ∧ MLies base w' m c ∧ Kept (fun k => k = m.p) X w') := fun X hb => by
    have := off_any (h.later hb)
    rw [hl, hon, off_same hl hon] at this
    exact this
  have HU : Hid (∀ X, MLies base X m c → Calls Tryz.prog 95 #[.pointer (some ⟨m.p, 0, none⟩), .int .i64 leb] X fun e w' => e = .returned (.int .i64 (homeB m.bl leb).used) ∧ Below X.heap.size X w') := fun X hX => mused_any hX leb
  have HFi : Hid (∀ X, MLies base X m c → Calls Tryz.prog 77 #[.slice (some ⟨m.bb, 0, none⟩) m.bl.length m.bcap, .int .i64 leb] X fun e w' => e = .returned (.int .i64 (i : Nat)) ∧ Below X.heap.size X w') := fun X hX => by
    have := find_any m.bl.length m.bcap m.bl (some ⟨m.bb, 0, none⟩) leb rfl (by omega) X hX.lrow
    rw [hf] at this
    exact this
  have HR : Hid (∀ X, MLies base X m c → Calls Tryz.prog 85 #[.pointer (some ⟨c.p, 0, none⟩), .int .i64 (i : Nat), .int .i64 (2 + (page : Int))] X fun e w' => ∃ a k cap, e = .returned (.tuple #[.slice a k cap, .int .i64 0]) ∧ Got X w' l a k cap) := fun X hX => by
    have := read_any hX.chip (i : Nat) (2 + (page : Int))
    rw [hrd] at this
    exact this
  obtain ⟨us, hus⟩ : ∃ us, us = (homeB m.bl leb).used := ⟨_, rfl⟩
  rw [← hus] at hu HU
  have p0 : (0 : Int) ≤ (page : Int) := by omega
  have p1 : ¬ (c.gp : Int) - 2 ≤ (page : Int) := by omega
  have p2 : ¬ us ≤ (page : Int) := by omega
  have p3 : (page : Int) ≤ 64 := by omega
  have p4 : ¬ (page : Int) < 0 := by omega
  clear h hl hon hgp hh hp hf hu hrd hgs hlen hus
  go_enter Tryz.func138, Tryz.ntmps138
  go_wp2_with (first
    | (go_at_call 39; refine kH.mono ?_; rintro e w1 ⟨rfl, hb1⟩; have HB1 : Hid (Below w.heap.size w w1) := hb1; clear hb1)
    | (go_at_call 74; refine (HP.out _ HB1.out).mono ?_; rintro e w2 ⟨rfl, hb2⟩; have HB2 : Hid (Below w.heap.size w w2) := Below.after HB1.out hb2; clear hb2)
    | (go_at_call 75; refine (HOf.out _ HB2.out).mono ?_; rintro e w3 ⟨rfl, hl3, hk3⟩; have HL3 : Hid (MLies base w3 m c ∧ Kept (fun k => k = m.p) w w3) := ⟨hl3, (Kept.of_below HB2.out).trans hk3⟩; clear hl3 hk3)
    | (go_at_call 95; refine (HU.out _ HL3.out.1).mono ?_; rintro e w4 ⟨rfl, hb4⟩; have hl4 := HL3.out.1.later hb4; have HL4 : Hid (MLies base w4 m c ∧ Kept (fun k => k = m.p) w w4) := ⟨hl4, HL3.out.2.trans (.of_below hb4)⟩; have d0 := hl4.cells.1; have d1 := hl4.cells.2.1; have hp4 := hl4.box.lt; clear hb4 hl4))
  have hw : IntKind.i64.wrap (2 + (page : Int)) = 2 + (page : Int) := by rw [IntKind.wrap_i64]; omega
  have kF : Calls Tryz.prog 77 #[.slice (some ⟨m.bb, 0, none⟩) m.bl.length m.bcap, .int .i64 leb] w4.drew fun e w' => e = .returned (.int .i64 (i : Nat)) ∧ Below w4.drew.heap.size w4.drew w' := HFi.out _ (HL4.out.1.later (below_drew' w4))
  go_region_held3 (fun w' => w'.cell? ⟨m.p, 0, none⟩ = some (.pointer (some ⟨c.p, 0, none⟩)) ∧ w'.cell? ⟨m.p, 1, none⟩ = some (.slice (some ⟨m.bb, 0, none⟩) m.bl.length m.bcap)) (first | assumption | go_keep) (first
    | (go_at_call 77; refine kF.mono ?_; rintro e w5 ⟨rfl, hb5⟩; have hb5' := Below.after (below_drew' w4) hb5; have hl5 := HL4.out.1.later hb5'; have e0 := hl5.cells.1; have e1 := hl5.cells.2.1; have HL5 : Hid (MLies base w5 m c ∧ Kept (fun k => k = m.p) w w5) := ⟨hl5, HL4.out.2.trans (.of_below hb5')⟩; have kR := HR.out w5 hl5; clear hb5 hb5' hl5)
    | (go_at_call 85; refine kR.mono ?_; rintro e w6 ⟨a, k, cap, rfl, hg6⟩; have hl6 := HL5.out.1.later hg6.below; have f0 := hl6.cells.1; have f1 := hl6.cells.2.1; have HL6 : Hid (MLies base w6 m c ∧ Kept (fun k => k = m.p) w w6 ∧ Got w5 w6 l a k cap) := ⟨hl6, HL5.out.2.trans (.of_below hg6.below), hg6⟩; clear hl6 hg6))
  go_wp2
  refine bodyPost_ret (v := .tuple #[.slice a k cap, .int .i64 0]) ?_ rfl ⟨a, k, cap, rfl, HL6.out.2.2.len, HL6.out.2.2.fits, HL6.out.2.2.row, ?_, HL6.out.1, HL6.out.2.1⟩
  · simp [results, Tryz.f138, go_sem]
  · rcases HL6.out.2.2.fresh with e | e
    · exact .inl e
    · exact .inr fun b o hb => Nat.le_trans HL5.out.2.size (e b o hb)
end Go.Proofs.YtkfecngkdlajgaaGreatDoor
namespace Go.Proofs.YtkfecngkdlajgaaGreatDoor
open Go.RowKit
set_option maxRecDepth 10000

theorem good_count : ∀ (bks : List Bk) (bl : List Bl), bks.length = bl.length → (∀ (i : Nat) b x, bks[i]? = some b → bl[i]? = some x → (b.bad = true ↔ x.st = 1)) → goodN bks + cntS 1 bl = bks.length
  | [], [], _, _ => rfl
  | b :: bks, x :: bl, hl, h => by
    have ih := good_count bks bl (by simpa using hl) (fun i b x h1 h2 => h (i + 1) b x (by simpa using h1) (by simpa using h2))
    have h0 := h 0 b x rfl rfl
    unfold goodN cntS at *
    rw [List.filter_cons, List.countP_cons]
    cases hb : b.bad with
    | true =>
      have : x.st = 1 := h0.1 hb
      simp [this]
      omega
    | false =>
      have : ¬ x.st = 1 := fun e => by have := h0.2 e; rw [hb] at this; cases this
      simp [this]
      omega
  | [], _ :: _, hl, _ => by simp at hl
  | _ :: _, [], hl, _ => by simp at hl
theorem RB.good {bl : List Bl} {c : CS} {P : List (List (List Nat))} (h : RB bl c P) : goodN c.bks + cntS 1 bl = c.gb := by
  rw [← h.lc]
  refine good_count c.bks bl (by rw [h.lc, h.lb]) fun i b x h1 h2 => ?_
  have hi : i < c.gb := by rw [← h.lb]; exact (List.getElem?_eq_some_iff.1 h2).1
  obtain ⟨b', x', p, q1, q2, _, q4, _⟩ := h.at hi
  rw [h1] at q1
  rw [h2] at q2
  cases q1
  cases q2
  cases q4 with
  | bad hb => exact ⟨fun _ => rfl, fun _ => hb⟩
  | free k _ _ hb => rw [hb]; simp
  | spoilt k _ _ hb => rw [hb]; simp
  | mapped k _ _ _ _ _ _ hb => rw [hb]; simp
/-- A manager that is right lies in memory. -/
structure Ms (base t : Nat) (w : World) (m : Mg) (c : CS) (P : List (List (List Nat))) : Prop where
  ml : MLies base w m c
  rp : MRep t m c P
  ty : Typed w
  gb : 1 < base
  rt : rightB c.gb c.gp c.gz c.gr = true
theorem Ms.lebs {base t : Nat} {w : World} {m : Mg} {c : CS} {P : List (List (List Nat))} (h : Ms base t w m c P) : lebsI c.gb c.gp c.gz c.gr = (c.gb : Int) - c.gr - 2 := by unfold lebsI; rw [if_pos h.rt]
theorem Ms.spent {base t : Nat} {w : World} {m : Mg} {c : CS} {P : List (List (List Nat))} (h : Ms base t w m c P) : spentB c = false := by
  unfold spentB
  rw [h.lebs]
  have := h.rp.rb.good
  have := h.rp.rb.room
  have := h.rp.rb.geo
  simp
  omega
theorem Ms.has {base t : Nat} {w : World} {m : Mg} {c : CS} {P : List (List (List Nat))} (h : Ms base t w m c P) {leb : Int} (h0 : 0 ≤ leb) (h1 : leb + c.gr + 2 < c.gb) : hasB c leb = true := by
  unfold hasB
  rw [h.lebs]
  simp
  omega
theorem Ms.later {base t : Nat} {w w' : World} {m : Mg} {c : CS} {P : List (List (List Nat))} (h : Ms base t w m c P) (hb : Below w.heap.size w w') : Ms base t w' m c P := ⟨h.ml.later hb, h.rp, h.ty.later hb, h.gb, h.rt⟩
theorem Ms.ex {base t t' : Nat} {w w' : World} {m m' : Mg} {c c' : CS} {P P' : List (List (List Nat))} (h : Ms base t w m c P) (hx : Ex base w m c w' m' c') (hr : MRep t' m' c' P') (hg : Gm c c') : Ms base t' w' m' c' P' :=
  ⟨hx.ml, hr, h.ty.ex h.ml h.gb hx.kp, h.gb, by rw [hg.gb, hg.gp, hg.gz, hg.gr]; exact h.rt⟩
theorem Ms.page_le {base t : Nat} {w : World} {m : Mg} {c : CS} {P : List (List (List Nat))} (h : Ms base t w m c P) (leb : Int) : 2 + ((cont m.bl P leb).getD []).length ≤ c.gp := by
  have hg := h.rp.rb.geo
  rcases find_home h.rp leb with ⟨_, hc, _⟩ | ⟨i, x, p, hf, hx, h4, he, hpi, hc, hh, hu, hcl⟩
  · rw [hc]; simp; omega
  · rw [hc]
    obtain ⟨b, p', hb, hp', hk, hpl, hnx⟩ := h.rp.mapped hx h4
    rw [hpi] at hp'
    cases hp'
    have := (h.ml.chip.good.plen b (List.mem_of_getElem? hb)).2.2.2.2
    simp only [Option.getD_some]
    omega
/-- What a call that was done leaves. -/
def Done (base t : Nat) (w : World) (m : Mg) (c : CS) (f : Int → Option (List (List Nat))) (w' : World) : Prop :=
  ∃ m' c' P', Ms base t w' m' c' P' ∧ (∀ l, cont m'.bl P' l = f l) ∧ Gm c c' ∧ m'.p = m.p ∧ MFoot m' c' = MFoot m c ∧ Kept (MFoot m c) w w'
theorem Done.of {base t t' : Nat} {w w' : World} {m m' : Mg} {c c' : CS} {P P' : List (List (List Nat))} {f : Int → Option (List (List Nat))} (h : Ms base t w m c P) (hx : Ex base w m c w' m' c') (hr : MRep t' m' c' P') (hg : Gm c c') (hf : ∀ l, cont m'.bl P' l = f l) : Done base t' w m c f w' :=
  ⟨m', c', P', h.ex hx hr hg, hf, hg, hx.p, MFoot_eq hx.p hx.bb hx.ft, hx.kp⟩
theorem kp_mp {w X : World} {m : Mg} {c : CS} (h : Kept (fun k => k = m.p) w X) : Kept (MFoot m c) w X := h.mono fun _ hk => .inl hk
theorem write_go {base t : Nat} {w : World} {m : Mg} {c : CS} {P : List (List (List Nat))} (h : Ms base t w m c P) (leb : Nat) (dc : Nat) (a : Option Addr) (data : List Nat) (hd : Dt (MFoot m c) w a data) (hleb : (leb : Int) + c.gr + 2 < c.gb) (hdl : data.length ≤ c.gz) (hl : 2 + ((cont m.bl P leb).getD []).length < c.gp) (ht : t < 4611686018427387904) :
    Calls Tryz.prog 190 #[.pointer (some ⟨m.p, 0, none⟩), .int .i64 (leb : Nat), .slice a data.length dc] w fun e w' => e = .returned (.int .i64 0) ∧ Done base (t + 1) w m c (fun l => if l = (leb : Int) then some ((cont m.bl P leb).getD [] ++ [fillP c.gz data]) else cont m.bl P l) w' := by
  have hg := h.rp.rb.geo
  have hbud := h.rp.bud
  obtain ⟨m', c', P', e1, hr, hc, hgm, hp⟩ := extend_ok (data := data) h.rp (by omega) hleb hdl hl ht
  have kw := mwrite_may h.ml (leb : Nat) a data.length dc (h.has (by omega) hleb) hdl (0, m', c') (fun X Bm Bl Bd hb y0 y1 y2 b0 b1 b2 => by
    have hX := h.later hb
    refine mdo_Write hX.ml h.rp.lost h.rp.rb.on h.spent hX.ty h.gb Bm Bl Bd (0, m', c') (fun Y hk hY => ?_)
    have hfm : ∀ B, w.heap.size ≤ B → ¬ (fun k => k = m.p) B := fun B hB e => by have := h.ml.box.lt; omega
    refine write1_any Bm Bl Bd (leb : Nat) a data.length dc (cell_kept hk (hfm Bm b0) y0) (cell_kept hk (hfm Bl b1) y1) (cell_kept hk (hfm Bd b2) y2) ?_
    have hdY : Dt (MFoot m c) Y a data := hd.kept ((Kept.of_below hb).trans (kp_mp hk))
    rw [← e1]
    unfold extendM
    rcases find_home h.rp (leb : Nat) with ⟨hf, hcn, _⟩ | ⟨i, x, p, hf, hx, h4, he, hpi, hcn, hh, hu, hcl⟩
    · rw [if_pos (by omega), Int.toNat_natCast]
      refine (mextend_new hY leb dc a data hdY hf (by omega) (by omega) (by omega)).mono ?_
      rintro e w' ⟨v, rfl, he, hx⟩
      exact ⟨v, rfl, v, rfl, he, hx⟩
    · rw [hcn] at hl
      simp only [Option.getD_some] at hl
      rw [if_neg (by omega), if_neg (by rw [hh, hu, hcl]; simp; omega), hf, Int.toNat_natCast]
      have hr2 := h.rp.rb.room
      have hlb := h.rp.rb.lb
      refine (mextend_found hY (leb : Nat) i (m.bl.length + 1) dc a data hdY hf x hx hcl (by rw [hu]; omega) (by omega) (extV_ok data (m.bl.length + 1) t m c P i x p h.rp hx h4 hpi hl hdl (by omega) ht)).mono ?_
      rintro e w' ⟨v, rfl, he, hx⟩
      exact ⟨v, rfl, v, rfl, he, hx⟩)
  refine kw.mono ?_
  rintro e w' ⟨rfl, hx⟩
  rw [Mg.ans_no hr.lost (by show (0 : Int) ≠ 6; decide)] at hx
  exact ⟨rfl, Done.of h hx hr hgm hc⟩
theorem change_go {base t : Nat} {w : World} {m : Mg} {c : CS} {P : List (List (List Nat))} (h : Ms base t w m c P) (leb cap : Nat) (a : Option Addr) (L : List (List Nat)) (hd : PDt (MFoot m c) w a L) (hleb : (leb : Int) + c.gr + 2 < c.gb) (hdl : ∀ d ∈ L, d.length ≤ c.gz) (hl : 2 + L.length ≤ c.gp) (ht : t < 2147483647) :
    Calls Tryz.prog 23 #[.pointer (some ⟨m.p, 0, none⟩), .int .i64 (leb : Nat), .slice a L.length cap] w fun e w' => e = .returned (.int .i64 0) ∧ Done base (t + 1) w m c (fun l => if l = (leb : Int) then some (L.map (fillP c.gz)) else cont m.bl P l) w' := by
  have hg := h.rp.rb.geo
  have hbud := h.rp.bud
  obtain ⟨m', c', P', e1, hr, hc, hgm, hp⟩ := replace_ok (L := L) h.rp hleb hl hdl ht
  have kw := mchange_may h.ml (leb : Nat) a L.length cap (h.has (by omega) hleb) (fun X hb => mfit_any (h.ml.later hb) a cap L (hd.kept (.of_below hb)) (by omega) hdl) (0, m', c') (fun X Bm Bl Bp hb y0 y1 y2 b0 b1 b2 => by
    have hX := h.later hb
    refine mdo_Change hX.ml h.rp.lost h.rp.rb.on h.spent hX.ty h.gb Bm Bl Bp (0, m', c') (fun Y hk hY => ?_)
    have hfm : ∀ B, w.heap.size ≤ B → ¬ (fun k => k = m.p) B := fun B hB e => by have := h.ml.box.lt; omega
    refine change1_any Bm Bl Bp (leb : Nat) a L.length cap (cell_kept hk (hfm Bm b0) y0) (cell_kept hk (hfm Bl b1) y1) (cell_kept hk (hfm Bp b2) y2) ?_
    rw [← e1]
    refine (mreplace_any hY leb cap a L (hd.kept ((Kept.of_below hb).trans (kp_mp hk))) (by omega) (by omega) (by omega) (by omega) ?_).mono ?_
    · intro _
      rcases find_home h.rp (leb : Nat) with ⟨hf, hcn, _⟩ | ⟨i, x, p, hf, hx, h4, he, hpi, hcn, hh, hu, hcl⟩
      · left; omega
      · right
        obtain ⟨b, p', hb2, hp', hk2, _⟩ := h.rp.mapped hx h4
        obtain ⟨k, hk1, hk3, _⟩ := bok_live hk2 (by rw [h4]; decide)
        obtain ⟨n', m2, c2, P2, s1, s2, s3, s4, s5, s6, s7⟩ := settle_ok (leb := leb) (must := L.length) (L := L) (m := m) h.rp.rb (by omega) (Nat.le_refl _) hl hdl (by have := free_room h.rp.rb h.rp.uq h.rp.sp h.rp.lb; omega) (by omega)
        rw [s1]
        exact ⟨i, k, x, hf, (s3.ne hx (by rw [h4]; decide)).2.1, hk1, hk3⟩
    · rintro e w' ⟨v, rfl, he, hx⟩
      exact ⟨v, rfl, v, rfl, he, hx⟩)
  refine kw.mono ?_
  rintro e w' ⟨rfl, hx⟩
  rw [Mg.ans_no hr.lost (by show (0 : Int) ≠ 6; decide)] at hx
  exact ⟨rfl, Done.of h hx hr hgm hc⟩
end Go.Proofs.YtkfecngkdlajgaaGreatDoor
