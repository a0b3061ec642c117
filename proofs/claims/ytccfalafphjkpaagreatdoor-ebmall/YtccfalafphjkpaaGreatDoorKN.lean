/-
  A manager that is right, in memory; Write, Unmap, Change of it.
-/
import Derived.Test.YtccfalafphjkpaaGreatDoorKIA
import Derived.Test.YtccfalafphjkpaaGreatDoorKLA
import Derived.Test.YtccfalafphjkpaaGreatDoorKM
import Derived.Test.YtccfalafphjkpaaGreatDoorKMA
namespace Go.Proofs.YtccfalafphjkpaaGreatDoor
open Go.RowKit
set_option maxRecDepth 10000

theorem good_count : ∀ (bks : List Bk) (bl : List Bl), bks.length = bl.length → (∀ (i : Nat) b x, bks[i]? = some b → bl[i]? = some x → (b.bad = true ↔ x.st = 1)) → goodN bks + cntS 1 bl = bks.length
  | [], [], _, _ => rfl
  | b :: bks, x :: bl, hl, h => by
    have ih := good_count bks bl (by simpa using hl) (fun i b x h1 h2 => h (i + 1) b x (by simpa using h1) (by simpa using h2))
    have h0 := h 0 b x rfl rfl
    unfold goodN cntS at *
    rw [List.filter_cons, List.countP_cons]
    cases hb : b.bad with
    | true =>
      have : x.st = 1 := h0.1 hb
      simp [this]
      omega
    | false =>
      have : ¬ x.st = 1 := fun e => by have := h0.2 e; rw [hb] at this; cases this
      simp [this]
      omega
  | [], _ :: _, hl, _ => by simp at hl
  | _ :: _, [], hl, _ => by simp at hl
theorem RB.good {bl : List Bl} {c : CS} {P : List (List (List Nat))} (h : RB bl c P) : goodN c.bks + cntS 1 bl = c.gb := by
  rw [← h.lc]
  refine good_count c.bks bl (by rw [h.lc, h.lb]) fun i b x h1 h2 => ?_
  have hi : i < c.gb := by rw [← h.lb]; exact (List.getElem?_eq_some_iff.1 h2).1
  obtain ⟨b', x', p, q1, q2, _, q4, _⟩ := h.at hi
  rw [h1] at q1
  rw [h2] at q2
  cases q1
  cases q2
  cases q4 with
  | bad hb => exact ⟨fun _ => rfl, fun _ => hb⟩
  | free k _ _ hb => rw [hb]; simp
  | spoilt k _ _ hb => rw [hb]; simp
  | mapped k _ _ _ _ _ _ hb => rw [hb]; simp
/-- A manager that is right lies in memory. -/
structure Ms (base t : Nat) (w : World) (m : Mg) (c : CS) (P : List (List (List Nat))) : Prop where
  ml : MLies base w m c
  rp : MRep t m c P
  ty : Typed w
  gb : 2 < base
  rt : rightB c.gb c.gp c.gz c.gr = true
theorem Ms.lebs {base t : Nat} {w : World} {m : Mg} {c : CS} {P : List (List (List Nat))} (h : Ms base t w m c P) : lebsI c.gb c.gp c.gz c.gr = (c.gb : Int) - c.gr - 2 := by unfold lebsI; rw [if_pos h.rt]
theorem Ms.spent {base t : Nat} {w : World} {m : Mg} {c : CS} {P : List (List (List Nat))} (h : Ms base t w m c P) : spentB c = false := by
  unfold spentB
  rw [h.lebs]
  have := h.rp.rb.good
  have := h.rp.rb.room
  have := h.rp.rb.geo
  simp
  omega
theorem Ms.has {base t : Nat} {w : World} {m : Mg} {c : CS} {P : List (List (List Nat))} (h : Ms base t w m c P) {leb : Int} (h0 : 0 ≤ leb) (h1 : leb + c.gr + 2 < c.gb) : hasB c leb = true := by
  unfold hasB
  rw [h.lebs]
  simp
  omega
theorem Ms.later {base t : Nat} {w w' : World} {m : Mg} {c : CS} {P : List (List (List Nat))} (h : Ms base t w m c P) (hb : Below w.heap.size w w') : Ms base t w' m c P := ⟨h.ml.later hb, h.rp, h.ty.later hb, h.gb, h.rt⟩
theorem Ms.ex {base t t' : Nat} {w w' : World} {m m' : Mg} {c c' : CS} {P P' : List (List (List Nat))} (h : Ms base t w m c P) (hx : Ex base w m c w' m' c') (hr : MRep t' m' c' P') (hg : Gm c c') : Ms base t' w' m' c' P' :=
  ⟨hx.ml, hr, h.ty.ex h.ml h.gb hx.kp, h.gb, by rw [hg.gb, hg.gp, hg.gz, hg.gr]; exact h.rt⟩
theorem Ms.page_le {base t : Nat} {w : World} {m : Mg} {c : CS} {P : List (List (List Nat))} (h : Ms base t w m c P) (leb : Int) : 2 + ((cont m.bl P leb).getD []).length ≤ c.gp := by
  have hg := h.rp.rb.geo
  rcases find_home h.rp leb with ⟨_, hc, _⟩ | ⟨i, x, p, hf, hx, h4, he, hpi, hc, hh, hu, hcl⟩
  · rw [hc]; simp; omega
  · rw [hc]
    obtain ⟨b, p', hb, hp', hk, hpl, hnx⟩ := h.rp.mapped hx h4
    rw [hpi] at hp'
    cases hp'
    have := (h.ml.chip.good.plen b (List.mem_of_getElem? hb)).2.2.2.2
    simp only [Option.getD_some]
    omega
/-- What a call that was done leaves. -/
def Done (base t : Nat) (w : World) (m : Mg) (c : CS) (f : Int → Option (List (List Nat))) (w' : World) : Prop :=
  ∃ m' c' P', Ms base t w' m' c' P' ∧ (∀ l, cont m'.bl P' l = f l) ∧ Gm c c' ∧ m'.p = m.p ∧ MFoot m' c' = MFoot m c ∧ Kept (MFoot m c) w w'
theorem Done.of {base t t' : Nat} {w w' : World} {m m' : Mg} {c c' : CS} {P P' : List (List (List Nat))} {f : Int → Option (List (List Nat))} (h : Ms base t w m c P) (hx : Ex base w m c w' m' c') (hr : MRep t' m' c' P') (hg : Gm c c') (hf : ∀ l, cont m'.bl P' l = f l) : Done base t' w m c f w' :=
  ⟨m', c', P', h.ex hx hr hg, hf, hg, hx.p, MFoot_eq hx.p hx.bb hx.ft, hx.kp⟩
theorem kp_mp {w X : World} {m : Mg} {c : CS} (h : Kept (fun k => k = m.p) w X) : Kept (MFoot m c) w X := h.mono fun _ hk => .inl hk
theorem write_go {base t : Nat} {w : World} {m : Mg} {c : CS} {P : List (List (List Nat))} (h : Ms base t w m c P) (leb : Nat) (dc : Nat) (a : Option Addr) (data : List Nat) (hd : Dt (MFoot m c) w a data) (hleb : (leb : Int) + c.gr + 2 < c.gb) (hdl : data.length ≤ c.gz) (hl : 2 + ((cont m.bl P leb).getD []).length < c.gp) (ht : t < 4611686018427387904) :
    Calls Tryz.prog 23 #[.pointer (some ⟨m.p, 0, none⟩), .int .i64 (leb : Nat), .slice a data.length dc] w fun e w' => e = .returned (.int .i64 0) ∧ Done base (t + 1) w m c (fun l => if l = (leb : Int) then some ((cont m.bl P leb).getD [] ++ [fillP c.gz data]) else cont m.bl P l) w' := by
  have hg := h.rp.rb.geo
  have hbud := h.rp.bud
  obtain ⟨m', c', P', e1, hr, hc, hgm, hp⟩ := extend_ok (data := data) h.rp (by omega) hleb hdl hl ht
  have kw := mwrite_may h.ml (leb : Nat) a data.length dc (h.has (by omega) hleb) hdl (0, m', c') (fun X Bm Bl Bd hb y0 y1 y2 b0 b1 b2 => by
    have hX := h.later hb
    refine mdo_Write hX.ml h.rp.lost h.rp.rb.on h.spent hX.ty h.gb Bm Bl Bd (0, m', c') (fun Y hk hY => ?_)
    have hfm : ∀ B, w.heap.size ≤ B → ¬ (fun k => k = m.p) B := fun B hB e => by have := h.ml.box.lt; omega
    refine write1_any Bm Bl Bd (leb : Nat) a data.length dc (cell_kept hk (hfm Bm b0) y0) (cell_kept hk (hfm Bl b1) y1) (cell_kept hk (hfm Bd b2) y2) ?_
    have hdY : Dt (MFoot m c) Y a data := hd.kept ((Kept.of_below hb).trans (kp_mp hk))
    rw [← e1]
    unfold extendM
    rcases find_home h.rp (leb : Nat) with ⟨hf, hcn, _⟩ | ⟨i, x, p, hf, hx, h4, he, hpi, hcn, hh, hu, hcl⟩
    · rw [if_pos (by omega), Int.toNat_natCast]
      refine (mextend_new hY leb dc a data hdY hf (by omega) (by omega) (by omega)).mono ?_
      rintro e w' ⟨v, rfl, he, hx⟩
      exact ⟨v, rfl, v, rfl, he, hx⟩
    · rw [hcn] at hl
      simp only [Option.getD_some] at hl
      rw [if_neg (by omega), if_neg (by rw [hh, hu, hcl]; simp; omega), hf, Int.toNat_natCast]
      have hr2 := h.rp.rb.room
      have hlb := h.rp.rb.lb
      refine (mextend_found hY (leb : Nat) i (m.bl.length + 1) dc a data hdY hf x hx hcl (by rw [hu]; omega) (by omega) (extV_ok data (m.bl.length + 1) t m c P i x p h.rp hx h4 hpi hl hdl (by omega) ht)).mono ?_
      rintro e w' ⟨v, rfl, he, hx⟩
      exact ⟨v, rfl, v, rfl, he, hx⟩)
  refine kw.mono ?_
  rintro e w' ⟨rfl, hx⟩
  rw [Mg.ans_no hr.lost (by show (0 : Int) ≠ 6; decide)] at hx
  exact ⟨rfl, Done.of h hx hr hgm hc⟩
theorem write_full {base t : Nat} {w : World} {m : Mg} {c : CS} {P : List (List (List Nat))} (h : Ms base t w m c P) (leb : Nat) (dc : Nat) (a : Option Addr) (data : List Nat) (hleb : (leb : Int) + c.gr + 2 < c.gb) (hdl : data.length ≤ c.gz) (p : List (List Nat)) (hp : cont m.bl P leb = some p) (hl : 2 + p.length = c.gp) :
    Calls Tryz.prog 23 #[.pointer (some ⟨m.p, 0, none⟩), .int .i64 (leb : Nat), .slice a data.length dc] w fun e w' => e = .returned (.int .i64 28) ∧ Done base t w m c (cont m.bl P) w' := by
  have hg := h.rp.rb.geo
  have kw := mwrite_may h.ml (leb : Nat) a data.length dc (h.has (by omega) hleb) hdl (28, m, c) (fun X Bm Bl Bd hb y0 y1 y2 b0 b1 b2 => by
    have hX := h.later hb
    refine mdo_Write hX.ml h.rp.lost h.rp.rb.on h.spent hX.ty h.gb Bm Bl Bd (28, m, c) (fun Y hk hY => ?_)
    have hfm : ∀ B, w.heap.size ≤ B → ¬ (fun k => k = m.p) B := fun B hB e => by have := h.ml.box.lt; omega
    refine write1_any Bm Bl Bd (leb : Nat) a data.length dc (cell_kept hk (hfm Bm b0) y0) (cell_kept hk (hfm Bl b1) y1) (cell_kept hk (hfm Bd b2) y2) ?_
    rcases find_home h.rp (leb : Nat) with ⟨hf, hcn, _⟩ | ⟨i, x, p', hf, hx, h4, he, hpi, hcn, hh, hu, hcl⟩
    · rw [hp] at hcn; cases hcn
    · rw [hp] at hcn
      cases hcn
      refine (mextend_full hY (leb : Nat) i dc a data hf x hx hcl (by rw [hu]; omega) (by omega)).mono ?_
      rintro e w' ⟨v, rfl, he, hx⟩
      exact ⟨v, rfl, v, rfl, he, hx⟩)
  refine kw.mono ?_
  rintro e w' ⟨rfl, hx⟩
  rw [Mg.ans_no h.rp.lost (by show (28 : Int) ≠ 6; decide)] at hx
  exact ⟨rfl, Done.of h hx h.rp (Gm.refl c) (fun _ => rfl)⟩
theorem unmap_go {base t : Nat} {w : World} {m : Mg} {c : CS} {P : List (List (List Nat))} (h : Ms base t w m c P) (leb : Int) (h0 : 0 ≤ leb) (hleb : leb + c.gr + 2 < c.gb) (ht : t < 2147483647) :
    Calls Tryz.prog 24 #[.pointer (some ⟨m.p, 0, none⟩), .int .i64 leb] w fun e w' => e = .returned (.int .i64 0) ∧ Done base (t + 1) w m c (fun l => if l = leb then none else cont m.bl P l) w' := by
  have hg := h.rp.rb.geo
  obtain ⟨m', c', P', e1, hr, hc, hgm, hp⟩ := unmap_ok h.rp leb ht
  have kw := munmap_may h.ml leb (h.has h0 hleb) (0, m', c') (fun X Bm Bl hb y0 y1 b0 b1 => by
    have hX := h.later hb
    refine mdo_Unmap hX.ml h.rp.lost h.rp.rb.on h.spent hX.ty h.gb Bm Bl (0, m', c') (fun Y hk hY => ?_)
    have hfm : ∀ B, w.heap.size ≤ B → ¬ (fun k => k = m.p) B := fun B hB e => by have := h.ml.box.lt; omega
    refine unmap1_any hY Bm Bl leb (cell_kept hk (hfm Bm b0) y0) (cell_kept hk (hfm Bl b1) y1) (fun Z hz => ?_)
    rw [← e1]
    refine (drop_any (hY.later hz) (findI m.bl leb) ?_ (by omega)).mono ?_
    · rcases find_home h.rp leb with ⟨hf, hcn, _⟩ | ⟨i, x, p, hf, hx, h4, he, hpi, hcn, hh, hu, hcl⟩
      · left; omega
      · right
        obtain ⟨b, p', hb2, hp', hk2, _⟩ := h.rp.mapped hx h4
        obtain ⟨k, hk1, hk3, _⟩ := bok_live hk2 (by rw [h4]; decide)
        exact ⟨i, k, x, hf, hx, hk1, hk3⟩
    · rintro e w' ⟨v, rfl, he, hx⟩
      exact ⟨v, rfl, v, rfl, he, hx.back (.of_below hz)⟩)
  refine kw.mono ?_
  rintro e w' ⟨rfl, hx⟩
  rw [Mg.ans_no hr.lost (by show (0 : Int) ≠ 6; decide)] at hx
  exact ⟨rfl, Done.of h hx hr hgm hc⟩
theorem change_go {base t : Nat} {w : World} {m : Mg} {c : CS} {P : List (List (List Nat))} (h : Ms base t w m c P) (leb cap : Nat) (a : Option Addr) (L : List (List Nat)) (hd : PDt (MFoot m c) w a L) (hleb : (leb : Int) + c.gr + 2 < c.gb) (hdl : ∀ d ∈ L, d.length ≤ c.gz) (hl : 2 + L.length ≤ c.gp) (ht : t < 2147483647) :
    Calls Tryz.prog 10 #[.pointer (some ⟨m.p, 0, none⟩), .int .i64 (leb : Nat), .slice a L.length cap] w fun e w' => e = .returned (.int .i64 0) ∧ Done base (t + 1) w m c (fun l => if l = (leb : Int) then some (L.map (fillP c.gz)) else cont m.bl P l) w' := by
  have hg := h.rp.rb.geo
  have hbud := h.rp.bud
  obtain ⟨m', c', P', e1, hr, hc, hgm, hp⟩ := replace_ok (L := L) h.rp hleb hl hdl ht
  have kw := mchange_may h.ml (leb : Nat) a L.length cap (h.has (by omega) hleb) (fun X hb => mfit_any (h.ml.later hb) a cap L (hd.kept (.of_below hb)) (by omega) hdl) (0, m', c') (fun X Bm Bl Bp hb y0 y1 y2 b0 b1 b2 => by
    have hX := h.later hb
    refine mdo_Change hX.ml h.rp.lost h.rp.rb.on h.spent hX.ty h.gb Bm Bl Bp (0, m', c') (fun Y hk hY => ?_)
    have hfm : ∀ B, w.heap.size ≤ B → ¬ (fun k => k = m.p) B := fun B hB e => by have := h.ml.box.lt; omega
    refine change1_any Bm Bl Bp (leb : Nat) a L.length cap (cell_kept hk (hfm Bm b0) y0) (cell_kept hk (hfm Bl b1) y1) (cell_kept hk (hfm Bp b2) y2) ?_
    rw [← e1]
    refine (mreplace_any hY leb cap a L (hd.kept ((Kept.of_below hb).trans (kp_mp hk))) (by omega) (by omega) (by omega) (by omega) ?_).mono ?_
    · intro _
      rcases find_home h.rp (leb : Nat) with ⟨hf, hcn, _⟩ | ⟨i, x, p, hf, hx, h4, he, hpi, hcn, hh, hu, hcl⟩
      · left; omega
      · right
        obtain ⟨b, p', hb2, hp', hk2, _⟩ := h.rp.mapped hx h4
        obtain ⟨k, hk1, hk3, _⟩ := bok_live hk2 (by rw [h4]; decide)
        obtain ⟨n', m2, c2, P2, s1, s2, s3, s4, s5, s6, s7⟩ := settle_ok (leb := leb) (must := L.length) (L := L) (m := m) h.rp.rb (by omega) (Nat.le_refl _) hl hdl (by have := free_room h.rp.rb h.rp.uq h.rp.sp h.rp.lb; omega) (by omega)
        rw [s1]
        exact ⟨i, k, x, hf, (s3.ne hx (by rw [h4]; decide)).2.1, hk1, hk3⟩
    · rintro e w' ⟨v, rfl, he, hx⟩
      exact ⟨v, rfl, v, rfl, he, hx⟩)
  refine kw.mono ?_
  rintro e w' ⟨rfl, hx⟩
  rw [Mg.ans_no hr.lost (by show (0 : Int) ≠ 6; decide)] at hx
  exact ⟨rfl, Done.of h hx hr hgm hc⟩
end Go.Proofs.YtccfalafphjkpaaGreatDoor
