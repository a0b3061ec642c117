/-
  A step of a script, on a manager of a chip with nothing wrong: whatever it asks, the manager is right behind it.
  What a step of a script does to what stands in the logical blocks: by the code.
  does: a step of a script, with what it answers.
-/
import Derived.Test.YtfcmkkkdccnhgaaGreatDoorKS
import Derived.Test.YtfcmkkkdccnhgaaGreatDoorKZ
import Derived.Test.YtfcmkkkdccnhgaaGreatDoorKY
namespace Go.Proofs.YtfcmkkkdccnhgaaGreatDoor
open Go.RowKit
set_option maxRecDepth 10000

theorem Al.up {base t t' : Nat} {w0 : World} {gz : Nat} {w : World} {m : Mg} {c : CS} {P : List (List (List Nat))} {f : Int → Option (List (List Nat))} (h : Al base t w0 gz w m c P f) (ht : t ≤ t') : Al base t' w0 gz w m c P f :=
  ⟨⟨h.ms.ml, h.ms.rp.mono ht, h.ms.ty, h.ms.gb, h.ms.rt⟩, h.gl, h.fn, h.kp, h.hb, h.z⟩
theorem PArg.pdt {base : Nat} {X W : World} {m : Mg} {c : CS} {a : Option Addr} {len cap : Nat} {L : List PgD} (h : PArg X a len cap L) (hb : X.heap.size ≤ base) (hk : Kept (fun k => base ≤ k) X W) (hM : MLies base W m c) : PDt (MFoot m c) W a (L.map PgD.d) := by
  rcases h.row with e | ⟨b, off, e, hc⟩
  · exact .inl (by rw [e]; rfl)
  · by_cases hL : L = []
    · exact .inl (by rw [hL]; rfl)
    · have hlt : b < X.heap.size := by
        have h0 : 0 < L.length := List.length_pos_iff.2 hL
        exact World.block_lt_of_cell? X _ (hc 0 L[0] (List.getElem?_eq_getElem h0))
      refine .inr ⟨b, off, e, fun hf => (by have := hM.foot_ge _ hf; omega), fun i d hd => ?_⟩
      rw [List.getElem?_map] at hd
      obtain ⟨o, ho, rfl⟩ := Option.map_eq_some_iff.1 hd
      have hB := h.each o (List.mem_of_getElem? ho)
      refine ⟨o.a, o.c, ?_, dt_arg hB.lt hB.row hb hk hM⟩
      rw [← hB.len_eq]
      exact cell_kept hk (show ¬ base ≤ b by omega) (hc i o ho)
/-- A right manager behind t steps of a script. -/
def Scr (X : World) (c0 : CS) (p t : Nat) (W : World) : Prop := ∃ m c P f, Al X.heap.size t X c0.gz W m c P f ∧ Gm c0 c ∧ m.p = p
theorem Scr.later {X : World} {c0 : CS} {p t : Nat} {W W' : World} (h : Scr X c0 p t W) (hb : Below W.heap.size W W') : Scr X c0 p t W' := by
  obtain ⟨m, c, P, f, h1, h2, h3⟩ := h
  exact ⟨m, c, P, f, h1.later hb, h2, h3⟩
theorem Scr.up {X : World} {c0 : CS} {p t t' : Nat} {W : World} (h : Scr X c0 p t W) (ht : t ≤ t') : Scr X c0 p t' W := by
  obtain ⟨m, c, P, f, h1, h2, h3⟩ := h
  exact ⟨m, c, P, f, h1.up ht, h2, h3⟩
theorem Scr.below {X : World} {c0 : CS} {p t : Nat} {W : World} (h : Scr X c0 p t W) : Below X.heap.size X W := by
  obtain ⟨m, c, P, f, h1, h2, h3⟩ := h
  exact h1.below (Nat.le_refl _)
theorem Al.hasB {base t : Nat} {w0 : World} {gz : Nat} {w : World} {m : Mg} {c : CS} {P : List (List (List Nat))} {f : Int → Option (List (List Nat))} (h : Al base t w0 gz w m c P f) (leb : Int) : hasB c leb = decide (0 ≤ leb ∧ leb + c.gr + 2 < c.gb) := by
  unfold Proofs.YtfcmkkkdccnhgaaGreatDoor.hasB
  rw [h.ms.lebs]
  by_cases h0 : 0 ≤ leb
  · by_cases h1 : leb + c.gr + 2 < c.gb
    · rw [decide_eq_true h0, decide_eq_true (by omega : leb < (c.gb : Int) - c.gr - 2), decide_eq_true ⟨h0, h1⟩]; rfl
    · rw [decide_eq_true h0, decide_eq_false (by omega : ¬ leb < (c.gb : Int) - c.gr - 2), decide_eq_false (fun h => h1 h.2)]; rfl
  · simp [h0]
theorem sc_done {X W w' : World} {c0 c : CS} {p t t' : Nat} {m : Mg} {P : List (List (List Nat))} {f g : Int → Option (List (List Nat))} (hA : Al X.heap.size t X c0.gz W m c P f) (hg : Gm c0 c) (hp : m.p = p) (hd : Done X.heap.size t' W m c g w') : Scr X c0 p t' w' := by
  obtain ⟨m', c', P', q1, q2, q3, q4, q5⟩ := hA.done hd
  exact ⟨m', c', P', _, q1, hg.trans q2, q3.trans hp⟩
theorem sc_write {X : World} {c0 : CS} {p t : Nat} {W : World} (h : Scr X c0 p t W) (leb : Int) (a : Option Addr) (n cap : Nat) (l : List Nat) (hB : BArg X a n cap l) (ht : t < 2000000000) :
    Calls Tryz.prog 19 #[.pointer (some ⟨p, 0, none⟩), .int .i64 leb, .slice a n cap] W fun e w' => ∃ r, e = .returned (.int .i64 r) ∧ Scr X c0 p (t + 1) w' := by
  have h' := h
  obtain ⟨m, c, P, f, hA, hg, rfl⟩ := h
  have hh := hA.hasB leb
  by_cases hr : 0 ≤ leb ∧ leb + c.gr + 2 < c.gb
  · rw [decide_eq_true hr] at hh
    by_cases hz : c.gz < n
    · refine (mwrite_long hA.ms.ml leb a n cap hh hz).mono ?_
      rintro e w' ⟨rfl, hb⟩
      exact ⟨_, rfl, (h'.later hb).up (by omega)⟩
    · obtain ⟨k, rfl⟩ : ∃ k : Nat, leb = k := ⟨leb.toNat, by omega⟩
      have hd := dt_arg hB.lt hB.row (Nat.le_refl _) hA.kp hA.ms.ml
      have hn := hB.len_eq
      have hgeo := hA.ms.rp.rb.geo
      have hpl := hA.ms.page_le (k : Int)
      by_cases hl : 2 + ((cont m.bl P (k : Int)).getD []).length < c.gp
      · have := write_go hA.ms k cap a l hd hr.2 (by omega) hl (by omega)
        rw [← hn] at this
        refine this.mono ?_
        rintro e w' ⟨rfl, hdn⟩
        exact ⟨_, rfl, sc_done hA hg rfl hdn⟩
      · cases hc : cont m.bl P (k : Int) with
        | none => rw [hc] at hl; simp at hl; omega
        | some pp =>
          rw [hc] at hl hpl
          simp only [Option.getD_some] at hl hpl
          have := write_full hA.ms k cap a l hr.2 (by omega) pp hc (by omega)
          rw [← hn] at this
          refine this.mono ?_
          rintro e w' ⟨rfl, hdn⟩
          exact ⟨_, rfl, (sc_done hA hg rfl hdn).up (by omega)⟩
  · rw [decide_eq_false hr] at hh
    refine (mwrite_no hA.ms.ml leb a n cap hh).mono ?_
    rintro e w' ⟨rfl, hb⟩
    exact ⟨_, rfl, (h'.later hb).up (by omega)⟩
theorem sc_unmap {X : World} {c0 : CS} {p t : Nat} {W : World} (h : Scr X c0 p t W) (leb : Int) (ht : t < 2000000000) :
    Calls Tryz.prog 24 #[.pointer (some ⟨p, 0, none⟩), .int .i64 leb] W fun e w' => ∃ r, e = .returned (.int .i64 r) ∧ Scr X c0 p (t + 1) w' := by
  have h' := h
  obtain ⟨m, c, P, f, hA, hg, rfl⟩ := h
  have hh := hA.hasB leb
  by_cases hr : 0 ≤ leb ∧ leb + c.gr + 2 < c.gb
  · refine (unmap_go hA.ms leb hr.1 hr.2 (by omega)).mono ?_
    rintro e w' ⟨rfl, hdn⟩
    exact ⟨_, rfl, sc_done hA hg rfl hdn⟩
  · rw [decide_eq_false hr] at hh
    refine (munmap_no hA.ms.ml leb hh).mono ?_
    rintro e w' ⟨rfl, hb⟩
    exact ⟨_, rfl, (h'.later hb).up (by omega)⟩
theorem sc_change {X : World} {c0 : CS} {p t : Nat} {W : World} (h : Scr X c0 p t W) (leb : Int) (a : Option Addr) (n cap : Nat) (L : List PgD) (hB : PArg X a n cap L) (ht : t < 2000000000) :
    Calls Tryz.prog 22 #[.pointer (some ⟨p, 0, none⟩), .int .i64 leb, .slice a n cap] W fun e w' => ∃ r, e = .returned (.int .i64 r) ∧ Scr X c0 p (t + 1) w' := by
  have h' := h
  obtain ⟨m, c, P, f, hA, hg, rfl⟩ := h
  have hh := hA.hasB leb
  have hgeo := hA.ms.rp.rb.geo
  by_cases hr : 0 ≤ leb ∧ leb + c.gr + 2 < c.gb
  · rw [decide_eq_true hr] at hh
    have hpd := hB.pdt (Nat.le_refl _) hA.kp hA.ms.ml
    have hn : n = (L.map PgD.d).length := by rw [List.length_map]; exact hB.len_eq
    by_cases hfit : (L.map PgD.d).length + 2 ≤ c.gp ∧ ∀ d ∈ L.map PgD.d, d.length ≤ c.gz
    · obtain ⟨k, rfl⟩ : ∃ k : Nat, leb = k := ⟨leb.toNat, by omega⟩
      have := change_go hA.ms k cap a (L.map PgD.d) hpd hr.2 hfit.2 (by omega) (by omega)
      rw [← hn] at this
      refine this.mono ?_
      rintro e w' ⟨rfl, hdn⟩
      exact ⟨_, rfl, sc_done hA hg rfl hdn⟩
    · refine (mchange_unfit hA.ms.ml leb a n cap hh (fun Y hb => ?_)).mono ?_
      · have := mfit_no (hA.ms.ml.later hb) a cap (L.map PgD.d) (hpd.kept (.of_below hb)) (by rw [← hn]; have := hB.le; have := hB.max; unfold maxLen at this; omega) (by omega) hfit
        rw [← hn] at this
        exact this
      · rintro e w' ⟨rfl, hb⟩
        exact ⟨_, rfl, (h'.later hb).up (by omega)⟩
  · rw [decide_eq_false hr] at hh
    refine (mchange_no hA.ms.ml leb a n cap hh).mono ?_
    rintro e w' ⟨rfl, hb⟩
    exact ⟨_, rfl, (h'.later hb).up (by omega)⟩
theorem sc_wear {X : World} {c0 : CS} {p t : Nat} {W : World} (h : Scr X c0 p t W) (ht : t < 2000000000) :
    Calls Tryz.prog 36 #[.pointer (some ⟨p, 0, none⟩)] W fun e w' => ∃ b r, e = .returned (.tuple #[.bool b, .int .i64 r]) ∧ Scr X c0 p (t + 1) w' := by
  obtain ⟨m, c, P, f, hA, hg, rfl⟩ := h
  refine (wear_go hA.ms (by omega)).mono ?_
  rintro e w' ⟨b, rfl, hdn⟩
  exact ⟨b, _, rfl, sc_done hA hg rfl hdn⟩
end Go.Proofs.YtfcmkkkdccnhgaaGreatDoor
namespace Go.Proofs.YtfcmkkkdccnhgaaGreatDoor
open Go.RowKit
set_option maxRecDepth 10000

/-- What stands in the logical blocks. -/
abbrev Cont := Int → Option (List (List Nat))
def inB (gb gr : Nat) (leb : Int) : Prop := 0 ≤ leb ∧ leb + gr + 2 < gb
instance (gb gr : Nat) (leb : Int) : Decidable (inB gb gr leb) := by unfold inB; infer_instance
def setC (f : Cont) (leb : Int) (v : Option (List (List Nat))) : Cont := fun l => if l = leb then v else f l
def wrC (gb gp gz gr : Nat) (leb : Int) (l : List Nat) (f : Cont) : Int × Cont :=
  if ¬ inB gb gr leb ∨ gz < l.length then (22, f) else if gp ≤ ((f leb).getD []).length + 2 then (28, f) else (0, setC f leb (some ((f leb).getD [] ++ [fillP gz l])))
def unC (gb gr : Nat) (leb : Int) (f : Cont) : Int × Cont := if ¬ inB gb gr leb then (22, f) else (0, setC f leb none)
def chC (gb gp gz gr : Nat) (leb : Int) (L : List (List Nat)) (f : Cont) : Int × Cont :=
  if ¬ inB gb gr leb ∨ ¬ (L.length + 2 ≤ gp ∧ ∀ d ∈ L, d.length ≤ gz) then (22, f) else (0, setC f leb (some (L.map (fillP gz))))
theorem wrC_no {gb gp gz gr : Nat} {leb : Int} {l : List Nat} {f : Cont} (h : ¬ inB gb gr leb ∨ gz < l.length) : wrC gb gp gz gr leb l f = (22, f) := by unfold wrC; rw [if_pos h]
theorem wrC_full {gb gp gz gr : Nat} {leb : Int} {l : List Nat} {f : Cont} (h : inB gb gr leb) (h1 : l.length ≤ gz) (h2 : gp ≤ ((f leb).getD []).length + 2) : wrC gb gp gz gr leb l f = (28, f) := by unfold wrC; rw [if_neg (by rintro (e | e); exact e h; omega), if_pos h2]
theorem wrC_go {gb gp gz gr : Nat} {leb : Int} {l : List Nat} {f : Cont} (h : inB gb gr leb) (h1 : l.length ≤ gz) (h2 : ¬ gp ≤ ((f leb).getD []).length + 2) : wrC gb gp gz gr leb l f = (0, setC f leb (some ((f leb).getD [] ++ [fillP gz l]))) := by unfold wrC; rw [if_neg (by rintro (e | e); exact e h; omega), if_neg h2]
theorem chC_no {gb gp gz gr : Nat} {leb : Int} {L : List (List Nat)} {f : Cont} (h : ¬ inB gb gr leb ∨ ¬ (L.length + 2 ≤ gp ∧ ∀ d ∈ L, d.length ≤ gz)) : chC gb gp gz gr leb L f = (22, f) := by unfold chC; rw [if_pos h]
theorem chC_go {gb gp gz gr : Nat} {leb : Int} {L : List (List Nat)} {f : Cont} (h : inB gb gr leb) (h1 : L.length + 2 ≤ gp ∧ ∀ d ∈ L, d.length ≤ gz) : chC gb gp gz gr leb L f = (0, setC f leb (some (L.map (fillP gz)))) := by unfold chC; rw [if_neg (by rintro (e | e); exact e h; exact e h1)]
/-- A right manager of this chip, with what stands in its logical blocks. -/
structure AlC (X : World) (c0 : CS) (p t : Nat) (f : Cont) (W : World) (m : Mg) (c : CS) (P : List (List (List Nat))) : Prop where
  al : Al X.heap.size t X c0.gz W m c P f
  gm : Gm c0 c
  p : m.p = p
theorem AlC.geo {X : World} {c0 : CS} {p t : Nat} {f : Cont} {W : World} {m : Mg} {c : CS} {P : List (List (List Nat))} (h : AlC X c0 p t f W m c P) : 16 ≤ c0.gb ∧ c0.gb ≤ 256 ∧ 8 ≤ c0.gp ∧ c0.gp ≤ 64 ∧ 64 ≤ c0.gz ∧ c0.gz ≤ 512 ∧ c0.gr + 2 ≤ c0.gb := by
  have := h.al.ms.rp.rb.geo
  rw [h.gm.gb, h.gm.gp, h.gm.gz, h.gm.gr] at this
  exact this
/-- Behind a call: the manager goes on with these contents; what is not its own is as it was. -/
def GoC (X : World) (c0 : CS) (p t : Nat) (f : Cont) (m : Mg) (c : CS) (W w' : World) : Prop := (∃ m' c' P', AlC X c0 p t f w' m' c' P') ∧ Kept (MFoot m c) W w'
theorem AlC.later {X : World} {c0 : CS} {p t t' : Nat} {f : Cont} {W W' : World} {m : Mg} {c : CS} {P : List (List (List Nat))} (h : AlC X c0 p t f W m c P) (ht : t ≤ t') (hb : Below W.heap.size W W') : GoC X c0 p t' f m c W W' :=
  ⟨⟨m, c, P, (h.al.later hb).up ht, h.gm, h.p⟩, .of_below hb⟩
theorem AlC.done {X : World} {c0 : CS} {p t t' : Nat} {f g g' : Cont} {W W' : World} {m : Mg} {c : CS} {P : List (List (List Nat))} (h : AlC X c0 p t f W m c P) (hd : Done X.heap.size t' W m c g W') (hg : ∀ l, g l = g' l) {t2 : Nat} (ht : t' ≤ t2) : GoC X c0 p t2 g' m c W W' := by
  obtain ⟨m', c', P', q1, q2, q3, q4, q5⟩ := h.al.done hd
  exact ⟨⟨m', c', P', (⟨q1.ms, q1.gl, fun l => (q1.fn l).trans (hg l), q1.kp, q1.hb, q1.z⟩ : Al X.heap.size t' X c0.gz W' m' c' P' g').up ht, h.gm.trans q2, q3.trans h.p⟩, q5⟩
theorem ac_write {X : World} {c0 : CS} {p t : Nat} {f : Cont} {W : World} {m : Mg} {c : CS} {P : List (List (List Nat))} (h : AlC X c0 p t f W m c P) (leb : Int) (a : Option Addr) (n cap : Nat) (l : List Nat) (hB : BArg X a n cap l) (ht : t < 2000000000) :
    Calls Tryz.prog 19 #[.pointer (some ⟨p, 0, none⟩), .int .i64 leb, .slice a n cap] W fun e w' => e = .returned (.int .i64 (wrC c0.gb c0.gp c0.gz c0.gr leb l f).1) ∧ GoC X c0 p (t + 1) (wrC c0.gb c0.gp c0.gz c0.gr leb l f).2 m c W w' := by
  have hA := h.al
  have hg := h.gm
  obtain rfl := h.p
  have hh := hA.hasB leb
  have hgeo := hA.ms.rp.rb.geo
  have e1 := hg.gb
  have e2 := hg.gr
  have e3 := hg.gz
  have e4 := hg.gp
  have hn := hB.len_eq
  by_cases hr : 0 ≤ leb ∧ leb + c.gr + 2 < c.gb
  · rw [decide_eq_true hr] at hh
    have hin : inB c0.gb c0.gr leb := by unfold inB; omega
    by_cases hz : c.gz < n
    · rw [wrC_no (.inr (by omega))]
      refine (mwrite_long hA.ms.ml leb a n cap hh hz).mono ?_
      rintro e w' ⟨rfl, hb⟩
      exact ⟨rfl, h.later (by omega) hb⟩
    · obtain ⟨k, rfl⟩ : ∃ k : Nat, leb = k := ⟨leb.toNat, by omega⟩
      have hd := dt_arg hB.lt hB.row (Nat.le_refl _) hA.kp hA.ms.ml
      have hpl := hA.ms.page_le (k : Int)
      have hfk := hA.fn (k : Int)
      by_cases hl : 2 + ((cont m.bl P (k : Int)).getD []).length < c.gp
      · rw [wrC_go hin (by omega) (by rw [← hfk]; omega)]
        have := write_go hA.ms k cap a l hd hr.2 (by omega) hl (by omega)
        rw [← hn] at this
        refine this.mono ?_
        rintro e w' ⟨rfl, hdn⟩
        refine ⟨rfl, h.done hdn (fun j => ?_) (Nat.le_refl _)⟩
        unfold setC
        rw [hfk, hA.fn j, e3]
      · rw [wrC_full hin (by omega) (by rw [← hfk]; omega)]
        cases hc : cont m.bl P (k : Int) with
        | none => rw [hc] at hl; simp at hl; omega
        | some pp =>
          rw [hc] at hl hpl
          simp only [Option.getD_some] at hl hpl
          have := write_full hA.ms k cap a l hr.2 (by omega) pp hc (by omega)
          rw [← hn] at this
          refine this.mono ?_
          rintro e w' ⟨rfl, hdn⟩
          exact ⟨rfl, h.done hdn hA.fn (by omega)⟩
  · rw [decide_eq_false hr] at hh
    rw [wrC_no (.inl (by unfold inB; omega))]
    refine (mwrite_no hA.ms.ml leb a n cap hh).mono ?_
    rintro e w' ⟨rfl, hb⟩
    exact ⟨rfl, h.later (by omega) hb⟩
theorem ac_unmap {X : World} {c0 : CS} {p t : Nat} {f : Cont} {W : World} {m : Mg} {c : CS} {P : List (List (List Nat))} (h : AlC X c0 p t f W m c P) (leb : Int) (ht : t < 2000000000) :
    Calls Tryz.prog 24 #[.pointer (some ⟨p, 0, none⟩), .int .i64 leb] W fun e w' => e = .returned (.int .i64 (unC c0.gb c0.gr leb f).1) ∧ GoC X c0 p (t + 1) (unC c0.gb c0.gr leb f).2 m c W w' := by
  have hA := h.al
  have hg := h.gm
  obtain rfl := h.p
  have hh := hA.hasB leb
  have e1 := hg.gb
  have e2 := hg.gr
  by_cases hr : 0 ≤ leb ∧ leb + c.gr + 2 < c.gb
  · have hin : inB c0.gb c0.gr leb := by unfold inB; omega
    unfold unC
    rw [if_neg (fun e => e hin)]
    refine (unmap_go hA.ms leb hr.1 hr.2 (by omega)).mono ?_
    rintro e w' ⟨rfl, hdn⟩
    refine ⟨rfl, h.done hdn (fun j => ?_) (Nat.le_refl _)⟩
    show (if j = leb then none else cont m.bl P j) = setC f leb none j
    unfold setC
    rw [hA.fn j]
  · rw [decide_eq_false hr] at hh
    unfold unC
    rw [if_pos (by unfold inB; omega)]
    refine (munmap_no hA.ms.ml leb hh).mono ?_
    rintro e w' ⟨rfl, hb⟩
    exact ⟨rfl, h.later (by omega) hb⟩
theorem ac_change {X : World} {c0 : CS} {p t : Nat} {f : Cont} {W : World} {m : Mg} {c : CS} {P : List (List (List Nat))} (h : AlC X c0 p t f W m c P) (leb : Int) (a : Option Addr) (n cap : Nat) (L : List PgD) (hB : PArg X a n cap L) (ht : t < 2000000000) :
    Calls Tryz.prog 22 #[.pointer (some ⟨p, 0, none⟩), .int .i64 leb, .slice a n cap] W fun e w' => e = .returned (.int .i64 (chC c0.gb c0.gp c0.gz c0.gr leb (L.map PgD.d) f).1) ∧ GoC X c0 p (t + 1) (chC c0.gb c0.gp c0.gz c0.gr leb (L.map PgD.d) f).2 m c W w' := by
  have hA := h.al
  have hg := h.gm
  obtain rfl := h.p
  have hh := hA.hasB leb
  have hgeo := hA.ms.rp.rb.geo
  have e1 := hg.gb
  have e2 := hg.gr
  have e3 := hg.gz
  have e4 := hg.gp
  by_cases hr : 0 ≤ leb ∧ leb + c.gr + 2 < c.gb
  · rw [decide_eq_true hr] at hh
    have hin : inB c0.gb c0.gr leb := by unfold inB; omega
    have hpd := hB.pdt (Nat.le_refl _) hA.kp hA.ms.ml
    have hn : n = (L.map PgD.d).length := by rw [List.length_map]; exact hB.len_eq
    by_cases hfit : (L.map PgD.d).length + 2 ≤ c.gp ∧ ∀ d ∈ L.map PgD.d, d.length ≤ c.gz
    · obtain ⟨k, rfl⟩ : ∃ k : Nat, leb = k := ⟨leb.toNat, by omega⟩
      rw [chC_go hin (by rw [← e4, ← e3]; exact hfit)]
      have := change_go hA.ms k cap a (L.map PgD.d) hpd hr.2 hfit.2 (by omega) (by omega)
      rw [← hn] at this
      refine this.mono ?_
      rintro e w' ⟨rfl, hdn⟩
      refine ⟨rfl, h.done hdn (fun j => ?_) (Nat.le_refl _)⟩
      unfold setC
      rw [hA.fn j, e3]
    · rw [chC_no (.inr (by rw [← e4, ← e3]; exact hfit))]
      refine (mchange_unfit hA.ms.ml leb a n cap hh (fun Y hb => ?_)).mono ?_
      · have := mfit_no (hA.ms.ml.later hb) a cap (L.map PgD.d) (hpd.kept (.of_below hb)) (by rw [← hn]; have := hB.le; have := hB.max; unfold maxLen at this; omega) (by omega) hfit
        rw [← hn] at this
        exact this
      · rintro e w' ⟨rfl, hb⟩
        exact ⟨rfl, h.later (by omega) hb⟩
  · rw [decide_eq_false hr] at hh
    rw [chC_no (.inl (by unfold inB; omega))]
    refine (mchange_no hA.ms.ml leb a n cap hh).mono ?_
    rintro e w' ⟨rfl, hb⟩
    exact ⟨rfl, h.later (by omega) hb⟩
theorem ac_wear {X : World} {c0 : CS} {p t : Nat} {f : Cont} {W : World} {m : Mg} {c : CS} {P : List (List (List Nat))} (h : AlC X c0 p t f W m c P) (ht : t < 2000000000) :
    Calls Tryz.prog 36 #[.pointer (some ⟨p, 0, none⟩)] W fun e w' => ∃ b, e = .returned (.tuple #[.bool b, .int .i64 0]) ∧ GoC X c0 p (t + 1) f m c W w' := by
  have hA := h.al
  obtain rfl := h.p
  refine (wear_go hA.ms (by omega)).mono ?_
  rintro e w' ⟨b, rfl, hdn⟩
  exact ⟨b, rfl, h.done hdn hA.fn (Nat.le_refl _)⟩
end Go.Proofs.YtfcmkkkdccnhgaaGreatDoor
namespace Go.Proofs.YtfcmkkkdccnhgaaGreatDoor
open Go.RowKit
set_option maxRecDepth 10000

/-- What a step of a script answers, and what stands in the logical blocks then. -/
def opC (gb gp gz gr : Nat) (o : EOp) (f : Cont) : Int × Cont :=
  if o.kind = 1 then wrC gb gp gz gr o.leb o.data f else if o.kind = 2 then unC gb gr o.leb f else if o.kind = 3 then chC gb gp gz gr o.leb (o.pages.map PgD.d) f else (0, f)
theorem GoC.back {X : World} {c0 : CS} {p t : Nat} {f : Cont} {m : Mg} {c : CS} {W W1 w' : World} (h : GoC X c0 p t f m c W1 w') (hb : Below W.heap.size W W1) : GoC X c0 p t f m c W w' := ⟨h.1, (Kept.of_below hb).trans h.2⟩
theorem AlC.at {X : World} {c0 : CS} {p t : Nat} {f : Cont} {W W' : World} {m : Mg} {c : CS} {P : List (List (List Nat))} (h : AlC X c0 p t f W m c P) (hb : Below W.heap.size W W') : AlC X c0 p t f W' m c P := ⟨h.al.later hb, h.gm, h.p⟩
theorem ac_attach {X : World} {c0 : CS} {p t : Nat} {f : Cont} {W : World} {m : Mg} {c : CS} {P : List (List (List Nat))} (h : AlC X c0 p t f W m c P) :
    Calls Tryz.prog 11 #[.pointer (some ⟨c.p, 0, none⟩)] W fun e w' => ∃ p', e = .returned (.tuple #[.pointer (some ⟨p', 0, none⟩), .int .i64 0]) ∧ GoC X c0 p' (t + 1) f m c W w' := by
  refine (al_attach h.al).mono ?_
  rintro e w' ⟨m', rfl, hA, hk, _, _⟩
  exact ⟨m'.p, rfl, ⟨m', c, P, hA.up (by omega), h.gm, rfl⟩, hk.mono fun _ e => .inr (.inr e)⟩
set_option maxHeartbeats 2000000 in
theorem doesE_1 {X : World} {c0 : CS} {p t : Nat} {f : Cont} {W : World} {m : Mg} {c : CS} {P : List (List (List Nat))} (h : AlC X c0 p t f W m c P) (leb : Int) (da : Option Addr) (dl dc : Nat) (pa : Option Addr) (pl pc : Nat) (data : List Nat) (hB : BArg X da dl dc data) (ht : t < 2000000000) :
    Calls Tryz.prog 9 #[.pointer (some ⟨p, 0, none⟩), .agg #[.int .i64 1, .int .i64 leb, .slice da dl dc, .slice pa pl pc]] W fun e w' => e = .returned (.tuple #[.pointer (some ⟨p, 0, none⟩), .int .i64 (wrC c0.gb c0.gp c0.gz c0.gr leb data f).1]) ∧ GoC X c0 p (t + 1) (wrC c0.gb c0.gp c0.gz c0.gr leb data f).2 m c W w' := by
  obtain ⟨W1, hW1⟩ : ∃ W1, W1 = W.alloc (.cells #[.int .i64 1, .int .i64 leb, .slice da dl dc, .slice pa pl pc] 39) := ⟨_, rfl⟩
  have hr : Row W1 W.heap.size [.int .i64 1, .int .i64 leb, .slice da dl dc, .slice pa pl pc] 39 := by rw [hW1]; exact Row.new W _ _
  have hb : Below W.heap.size W W1 := by rw [hW1]; exact below_new W _
  have HB : Hid (Below W.heap.size W W1) := hb
  have y0 : W1.cell? ⟨W.heap.size, 0, none⟩ = some (.int .i64 1) := hr.cell (i := 0) rfl
  have y1 : W1.cell? ⟨W.heap.size, 1, none⟩ = some (.int .i64 leb) := hr.cell (i := 1) rfl
  have y2 : W1.cell? ⟨W.heap.size, 2, none⟩ = some (.slice da dl dc) := hr.cell (i := 2) rfl
  have y3 : W1.cell? ⟨W.heap.size, 3, none⟩ = some (.slice pa pl pc) := hr.cell (i := 3) rfl
  have kC := ac_write (h.at hb) leb da dl dc data hB ht
  obtain ⟨R, hR⟩ : ∃ R, R = (wrC c0.gb c0.gp c0.gz c0.gr leb data f) := ⟨_, rfl⟩
  rw [← hR] at kC ⊢
  clear hR
  clear h hr hb hB ht
  go_enter Tryz.func9, Tryz.ntmps9
  go_wp2_with fail
  rw [← hW1]
  clear hW1
  go_wp2_with (go_at_call 19; refine kC.mono ?_; rintro e w2 ⟨rfl, hs⟩; have HS : Hid (GoC X c0 p (t + 1) R.2 m c W1 w2) := hs; clear hs)
  refine bodyPost_ret (v := .tuple #[.pointer (some ⟨p, 0, none⟩), .int .i64 R.1]) ?_ rfl ⟨rfl, HS.out.back HB.out⟩
  simp [results, Tryz.f9, go_sem]
set_option maxHeartbeats 2000000 in
theorem doesE_2 {X : World} {c0 : CS} {p t : Nat} {f : Cont} {W : World} {m : Mg} {c : CS} {P : List (List (List Nat))} (h : AlC X c0 p t f W m c P) (leb : Int) (da : Option Addr) (dl dc : Nat) (pa : Option Addr) (pl pc : Nat) (ht : t < 2000000000) :
    Calls Tryz.prog 9 #[.pointer (some ⟨p, 0, none⟩), .agg #[.int .i64 2, .int .i64 leb, .slice da dl dc, .slice pa pl pc]] W fun e w' => e = .returned (.tuple #[.pointer (some ⟨p, 0, none⟩), .int .i64 (unC c0.gb c0.gr leb f).1]) ∧ GoC X c0 p (t + 1) (unC c0.gb c0.gr leb f).2 m c W w' := by
  obtain ⟨W1, hW1⟩ : ∃ W1, W1 = W.alloc (.cells #[.int .i64 2, .int .i64 leb, .slice da dl dc, .slice pa pl pc] 39) := ⟨_, rfl⟩
  have hr : Row W1 W.heap.size [.int .i64 2, .int .i64 leb, .slice da dl dc, .slice pa pl pc] 39 := by rw [hW1]; exact Row.new W _ _
  have hb : Below W.heap.size W W1 := by rw [hW1]; exact below_new W _
  have HB : Hid (Below W.heap.size W W1) := hb
  have y0 : W1.cell? ⟨W.heap.size, 0, none⟩ = some (.int .i64 2) := hr.cell (i := 0) rfl
  have y1 : W1.cell? ⟨W.heap.size, 1, none⟩ = some (.int .i64 leb) := hr.cell (i := 1) rfl
  have y2 : W1.cell? ⟨W.heap.size, 2, none⟩ = some (.slice da dl dc) := hr.cell (i := 2) rfl
  have y3 : W1.cell? ⟨W.heap.size, 3, none⟩ = some (.slice pa pl pc) := hr.cell (i := 3) rfl
  have kC := ac_unmap (h.at hb) leb ht
  obtain ⟨R, hR⟩ : ∃ R, R = (unC c0.gb c0.gr leb f) := ⟨_, rfl⟩
  rw [← hR] at kC ⊢
  clear hR
  clear h hr hb ht
  go_enter Tryz.func9, Tryz.ntmps9
  go_wp2_with fail
  rw [← hW1]
  clear hW1
  go_wp2_with (go_at_call 24; refine kC.mono ?_; rintro e w2 ⟨rfl, hs⟩; have HS : Hid (GoC X c0 p (t + 1) R.2 m c W1 w2) := hs; clear hs)
  refine bodyPost_ret (v := .tuple #[.pointer (some ⟨p, 0, none⟩), .int .i64 R.1]) ?_ rfl ⟨rfl, HS.out.back HB.out⟩
  simp [results, Tryz.f9, go_sem]
set_option maxHeartbeats 2000000 in
theorem doesE_3 {X : World} {c0 : CS} {p t : Nat} {f : Cont} {W : World} {m : Mg} {c : CS} {P : List (List (List Nat))} (h : AlC X c0 p t f W m c P) (leb : Int) (da : Option Addr) (dl dc : Nat) (pa : Option Addr) (pl pc : Nat) (pages : List PgD) (hP : PArg X pa pl pc pages) (ht : t < 2000000000) :
    Calls Tryz.prog 9 #[.pointer (some ⟨p, 0, none⟩), .agg #[.int .i64 3, .int .i64 leb, .slice da dl dc, .slice pa pl pc]] W fun e w' => e = .returned (.tuple #[.pointer (some ⟨p, 0, none⟩), .int .i64 (chC c0.gb c0.gp c0.gz c0.gr leb (pages.map PgD.d) f).1]) ∧ GoC X c0 p (t + 1) (chC c0.gb c0.gp c0.gz c0.gr leb (pages.map PgD.d) f).2 m c W w' := by
  obtain ⟨W1, hW1⟩ : ∃ W1, W1 = W.alloc (.cells #[.int .i64 3, .int .i64 leb, .slice da dl dc, .slice pa pl pc] 39) := ⟨_, rfl⟩
  have hr : Row W1 W.heap.size [.int .i64 3, .int .i64 leb, .slice da dl dc, .slice pa pl pc] 39 := by rw [hW1]; exact Row.new W _ _
  have hb : Below W.heap.size W W1 := by rw [hW1]; exact below_new W _
  have HB : Hid (Below W.heap.size W W1) := hb
  have y0 : W1.cell? ⟨W.heap.size, 0, none⟩ = some (.int .i64 3) := hr.cell (i := 0) rfl
  have y1 : W1.cell? ⟨W.heap.size, 1, none⟩ = some (.int .i64 leb) := hr.cell (i := 1) rfl
  have y2 : W1.cell? ⟨W.heap.size, 2, none⟩ = some (.slice da dl dc) := hr.cell (i := 2) rfl
  have y3 : W1.cell? ⟨W.heap.size, 3, none⟩ = some (.slice pa pl pc) := hr.cell (i := 3) rfl
  have kC := ac_change (h.at hb) leb pa pl pc pages hP ht
  obtain ⟨R, hR⟩ : ∃ R, R = (chC c0.gb c0.gp c0.gz c0.gr leb (pages.map PgD.d) f) := ⟨_, rfl⟩
  rw [← hR] at kC ⊢
  clear hR
  clear h hr hb hP ht
  go_enter Tryz.func9, Tryz.ntmps9
  go_wp2_with fail
  rw [← hW1]
  clear hW1
  go_wp2_with (go_at_call 22; refine kC.mono ?_; rintro e w2 ⟨rfl, hs⟩; have HS : Hid (GoC X c0 p (t + 1) R.2 m c W1 w2) := hs; clear hs)
  refine bodyPost_ret (v := .tuple #[.pointer (some ⟨p, 0, none⟩), .int .i64 R.1]) ?_ rfl ⟨rfl, HS.out.back HB.out⟩
  simp [results, Tryz.f9, go_sem]
set_option maxHeartbeats 2000000 in
theorem doesE_4 {X : World} {c0 : CS} {p t : Nat} {f : Cont} {W : World} {m : Mg} {c : CS} {P : List (List (List Nat))} (h : AlC X c0 p t f W m c P) (leb : Int) (da : Option Addr) (dl dc : Nat) (pa : Option Addr) (pl pc : Nat) (ht : t < 2000000000) :
    Calls Tryz.prog 9 #[.pointer (some ⟨p, 0, none⟩), .agg #[.int .i64 4, .int .i64 leb, .slice da dl dc, .slice pa pl pc]] W fun e w' => e = .returned (.tuple #[.pointer (some ⟨p, 0, none⟩), .int .i64 ((0, f) : Int × Cont).1]) ∧ GoC X c0 p (t + 1) ((0, f) : Int × Cont).2 m c W w' := by
  obtain ⟨W1, hW1⟩ : ∃ W1, W1 = W.alloc (.cells #[.int .i64 4, .int .i64 leb, .slice da dl dc, .slice pa pl pc] 39) := ⟨_, rfl⟩
  have hr : Row W1 W.heap.size [.int .i64 4, .int .i64 leb, .slice da dl dc, .slice pa pl pc] 39 := by rw [hW1]; exact Row.new W _ _
  have hb : Below W.heap.size W W1 := by rw [hW1]; exact below_new W _
  have HB : Hid (Below W.heap.size W W1) := hb
  have y0 : W1.cell? ⟨W.heap.size, 0, none⟩ = some (.int .i64 4) := hr.cell (i := 0) rfl
  have y1 : W1.cell? ⟨W.heap.size, 1, none⟩ = some (.int .i64 leb) := hr.cell (i := 1) rfl
  have y2 : W1.cell? ⟨W.heap.size, 2, none⟩ = some (.slice da dl dc) := hr.cell (i := 2) rfl
  have y3 : W1.cell? ⟨W.heap.size, 3, none⟩ = some (.slice pa pl pc) := hr.cell (i := 3) rfl
  have kC := ac_wear (h.at hb) ht
  clear h hr hb ht
  go_enter Tryz.func9, Tryz.ntmps9
  go_wp2_with fail
  rw [← hW1]
  clear hW1
  go_wp2_with (go_at_call 36; refine kC.mono ?_; rintro e w2 ⟨b, rfl, hs⟩; have HS : Hid (GoC X c0 p (t + 1) f m c W1 w2) := hs; clear hs)
  refine bodyPost_ret (v := .tuple #[.pointer (some ⟨p, 0, none⟩), .int .i64 0]) ?_ rfl ⟨rfl, HS.out.back HB.out⟩
  simp [results, Tryz.f9, go_sem]
set_option maxHeartbeats 2000000 in
theorem doesE_5 {X : World} {c0 : CS} {p t : Nat} {f : Cont} {W : World} {m : Mg} {c : CS} {P : List (List (List Nat))} (h : AlC X c0 p t f W m c P) (leb : Int) (da : Option Addr) (dl dc : Nat) (pa : Option Addr) (pl pc : Nat) :
    Calls Tryz.prog 9 #[.pointer (some ⟨p, 0, none⟩), .agg #[.int .i64 5, .int .i64 leb, .slice da dl dc, .slice pa pl pc]] W fun e w' => ∃ p', e = .returned (.tuple #[.pointer (some ⟨p', 0, none⟩), .int .i64 ((0, f) : Int × Cont).1]) ∧ GoC X c0 p' (t + 1) ((0, f) : Int × Cont).2 m c W w' := by
  obtain ⟨W1, hW1⟩ : ∃ W1, W1 = W.alloc (.cells #[.int .i64 5, .int .i64 leb, .slice da dl dc, .slice pa pl pc] 39) := ⟨_, rfl⟩
  have hr : Row W1 W.heap.size [.int .i64 5, .int .i64 leb, .slice da dl dc, .slice pa pl pc] 39 := by rw [hW1]; exact Row.new W _ _
  have hb : Below W.heap.size W W1 := by rw [hW1]; exact below_new W _
  have HB : Hid (Below W.heap.size W W1) := hb
  have y0 : W1.cell? ⟨W.heap.size, 0, none⟩ = some (.int .i64 5) := hr.cell (i := 0) rfl
  have y1 : W1.cell? ⟨W.heap.size, 1, none⟩ = some (.int .i64 leb) := hr.cell (i := 1) rfl
  have y2 : W1.cell? ⟨W.heap.size, 2, none⟩ = some (.slice da dl dc) := hr.cell (i := 2) rfl
  have y3 : W1.cell? ⟨W.heap.size, 3, none⟩ = some (.slice pa pl pc) := hr.cell (i := 3) rfl
  have kC := ac_attach (h.at hb)
  have kH := mchip_any (h.at hb).al.ms.ml
  rw [h.p] at kH
  clear h hr hb
  go_enter Tryz.func9, Tryz.ntmps9
  go_wp2_with fail
  rw [← hW1]
  clear hW1
  go_wp2_with (first
    | (go_at_call 37; refine kH.mono ?_; rintro e w2 ⟨rfl, rfl⟩)
    | (go_at_call 11; refine kC.mono ?_; rintro e w3 ⟨p2, rfl, hs⟩; have HS : Hid (GoC X c0 p2 (t + 1) f m c W1 w3) := hs; clear hs))
  refine bodyPost_ret (v := .tuple #[.pointer (some ⟨p2, 0, none⟩), .int .i64 0]) ?_ rfl ⟨p2, rfl, HS.out.back HB.out⟩
  simp [results, Tryz.f9, go_sem]
set_option maxHeartbeats 2000000 in
theorem doesE_x {X : World} {c0 : CS} {p t : Nat} {f : Cont} {W : World} {m : Mg} {c : CS} {P : List (List (List Nat))} (h : AlC X c0 p t f W m c P) (leb k : Int) (da : Option Addr) (dl dc : Nat) (pa : Option Addr) (pl pc : Nat) (n1 : ¬ k = 1) (n2 : ¬ k = 2) (n3 : ¬ k = 3) (n4 : ¬ k = 4) (n5 : ¬ k = 5) :
    Calls Tryz.prog 9 #[.pointer (some ⟨p, 0, none⟩), .agg #[.int .i64 k, .int .i64 leb, .slice da dl dc, .slice pa pl pc]] W fun e w' => e = .returned (.tuple #[.pointer (some ⟨p, 0, none⟩), .int .i64 ((0, f) : Int × Cont).1]) ∧ GoC X c0 p (t + 1) ((0, f) : Int × Cont).2 m c W w' := by
  obtain ⟨W1, hW1⟩ : ∃ W1, W1 = W.alloc (.cells #[.int .i64 k, .int .i64 leb, .slice da dl dc, .slice pa pl pc] 39) := ⟨_, rfl⟩
  have hr : Row W1 W.heap.size [.int .i64 k, .int .i64 leb, .slice da dl dc, .slice pa pl pc] 39 := by rw [hW1]; exact Row.new W _ _
  have hb : Below W.heap.size W W1 := by rw [hW1]; exact below_new W _
  have HB : Hid (Below W.heap.size W W1) := hb
  have y0 : W1.cell? ⟨W.heap.size, 0, none⟩ = some (.int .i64 k) := hr.cell (i := 0) rfl
  have y1 : W1.cell? ⟨W.heap.size, 1, none⟩ = some (.int .i64 leb) := hr.cell (i := 1) rfl
  have y2 : W1.cell? ⟨W.heap.size, 2, none⟩ = some (.slice da dl dc) := hr.cell (i := 2) rfl
  have y3 : W1.cell? ⟨W.heap.size, 3, none⟩ = some (.slice pa pl pc) := hr.cell (i := 3) rfl
  have HS : Hid (GoC X c0 p (t + 1) f m c W1 W1) := (h.at hb).later (by omega) (Below.refl _ _)
  clear h hr hb
  go_enter Tryz.func9, Tryz.ntmps9
  go_wp2_with fail
  rw [← hW1]
  clear hW1
  go_wp2
  refine bodyPost_ret (v := .tuple #[.pointer (some ⟨p, 0, none⟩), .int .i64 0]) ?_ rfl ⟨rfl, HS.out.back HB.out⟩
  simp [results, Tryz.f9, go_sem]
theorem doesP_go {X : World} {c0 : CS} {p t : Nat} {f : Cont} {W : World} {m : Mg} {c : CS} {P : List (List (List Nat))} (h : AlC X c0 p t f W m c P) (o : EOp) (hB : BArg X o.da o.dl o.dc o.data) (hP : PArg X o.pa o.pl o.pc o.pages) (ht : t < 2000000000) (n5 : ¬ o.kind = 5) :
    Calls Tryz.prog 9 #[.pointer (some ⟨p, 0, none⟩), .agg #[.int .i64 o.kind, .int .i64 o.leb, .slice o.da o.dl o.dc, .slice o.pa o.pl o.pc]] W fun e w' => e = .returned (.tuple #[.pointer (some ⟨p, 0, none⟩), .int .i64 (opC c0.gb c0.gp c0.gz c0.gr o f).1]) ∧ GoC X c0 p (t + 1) (opC c0.gb c0.gp c0.gz c0.gr o f).2 m c W w' := by
  by_cases h1 : o.kind = 1
  · unfold opC; rw [if_pos h1, h1]; exact doesE_1 h o.leb o.da o.dl o.dc o.pa o.pl o.pc o.data hB ht
  · by_cases h2 : o.kind = 2
    · unfold opC; rw [if_neg h1, if_pos h2, h2]; exact doesE_2 h o.leb o.da o.dl o.dc o.pa o.pl o.pc ht
    · by_cases h3 : o.kind = 3
      · unfold opC; rw [if_neg h1, if_neg h2, if_pos h3, h3]; exact doesE_3 h o.leb o.da o.dl o.dc o.pa o.pl o.pc o.pages hP ht
      · unfold opC
        rw [if_neg h1, if_neg h2, if_neg h3]
        by_cases h4 : o.kind = 4
        · rw [h4]; exact doesE_4 h o.leb o.da o.dl o.dc o.pa o.pl o.pc ht
        · exact doesE_x h o.leb o.kind o.da o.dl o.dc o.pa o.pl o.pc h1 h2 h3 h4 n5
theorem doesE_go {X : World} {c0 : CS} {p t : Nat} {f : Cont} {W : World} {m : Mg} {c : CS} {P : List (List (List Nat))} (h : AlC X c0 p t f W m c P) (o : EOp) (hB : BArg X o.da o.dl o.dc o.data) (hP : PArg X o.pa o.pl o.pc o.pages) (ht : t < 2000000000) :
    Calls Tryz.prog 9 #[.pointer (some ⟨p, 0, none⟩), .agg #[.int .i64 o.kind, .int .i64 o.leb, .slice o.da o.dl o.dc, .slice o.pa o.pl o.pc]] W fun e w' => ∃ p', e = .returned (.tuple #[.pointer (some ⟨p', 0, none⟩), .int .i64 (opC c0.gb c0.gp c0.gz c0.gr o f).1]) ∧ GoC X c0 p' (t + 1) (opC c0.gb c0.gp c0.gz c0.gr o f).2 m c W w' := by
  by_cases h5 : o.kind = 5
  · unfold opC
    rw [if_neg (by omega), if_neg (by omega), if_neg (by omega), h5]
    exact doesE_5 h o.leb o.da o.dl o.dc o.pa o.pl o.pc
  · exact (doesP_go h o hB hP ht h5).mono fun _ _ q => ⟨p, q⟩
end Go.Proofs.YtfcmkkkdccnhgaaGreatDoor
