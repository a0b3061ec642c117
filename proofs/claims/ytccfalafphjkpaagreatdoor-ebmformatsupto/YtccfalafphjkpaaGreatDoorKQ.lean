/-
  A new chip is formatted: what stands there.
  A chip is attached anew: the manager has the same blocks.
  A new chip; what stands in a logical block is read.
-/
import Derived.Test.YtccfalafphjkpaaGreatDoorKOA
import Derived.Test.YtccfalafphjkpaaGreatDoorKP
namespace Go.Proofs.YtccfalafphjkpaaGreatDoor
open Go.RowKit
set_option maxRecDepth 10000

theorem clear_ok : ∀ (l : List Nat) (m : Mg) (c : CS) (P : List (List (List Nat))), RB m.bl c P → c.fs = [] → l.Nodup → (∀ n ∈ l, ∃ o, m.bl[n]? = some o ∧ o.st ≠ 1 ∧ o.cnt < 2147483647) →
    ∃ m' c' P', clearM l m c = (0, m', c') ∧ ClearV l m c ∧ RB m'.bl c' P' ∧ Gm c c' ∧ c'.fs = [] ∧ (m'.p = m.p ∧ m'.bb = m.bb ∧ m'.seq = m.seq ∧ m'.lost = m.lost) ∧ (∀ j, j ∉ l → m'.bl[j]? = m.bl[j]? ∧ P'[j]? = P[j]? ∧ c'.bks[j]? = c.bks[j]?) ∧ (∀ j ∈ l, ∀ o, m.bl[j]? = some o → m'.bl[j]? = some ⟨2, o.cnt + 1, 0, 0, 0, false⟩ ∧ P'[j]? = some [])
  | [], m, c, P, h, hf, _, _ => ⟨m, c, P, rfl, trivial, h, Gm.refl c, hf, ⟨rfl, rfl, rfl, rfl⟩, fun _ _ => ⟨rfl, rfl, rfl⟩, fun j hj => by simp at hj⟩
  | n :: l, m, c, P, h, hf, hnd, hl => by
    obtain ⟨o, ho, hs, hc⟩ := hl n (by simp)
    have hnl : n < c.gb := by rw [← h.lb]; exact (List.getElem?_eq_some_iff.1 ho).1
    obtain ⟨b, x, p, hb, hx, hp, hk, hpl⟩ := h.at hnl
    rw [ho] at hx
    cases hx
    obtain ⟨k, hk1, hk2, _⟩ := bok_live hk hs
    obtain ⟨x', c1, f1, f2, f3, f4, f5, f6, f7⟩ := free_ok h ho hs hk1 (by omega)
    obtain ⟨f61, f62⟩ := f6 hf
    subst f61
    have e : ((m.bl[n]?).getD zeroB).cnt.toNat = k := by rw [ho]; simp only [Option.getD_some]; rw [hk1, Int.toNat_natCast]
    have hn1 : n ∉ l := (List.nodup_cons.1 hnd).1
    obtain ⟨m', c', P', g1, g2, g3, g4, g5, g6, g7, g8⟩ := clear_ok l (m.put n ⟨2, (k : Int) + 1, 0, 0, 0, false⟩) c1 (P.set n []) f2 f62 (List.nodup_cons.1 hnd).2 (fun j hj => by
      obtain ⟨o', ho', hs', hc'⟩ := hl j (by simp [hj])
      have hne : j ≠ n := fun e => hn1 (e ▸ hj)
      exact ⟨o', by show (m.bl.set n _)[j]? = _; rw [List.getElem?_set_ne (fun e => hne e.symm)]; exact ho', hs', hc'⟩)
    refine ⟨m', c', P', ?_, ⟨⟨k, o, ho, hk1, hk2⟩, h.geo.2.2.2.2.1, by rw [e, f1], by rw [e, f1]; exact g2⟩, g3, f4.trans g4, g5, ⟨g6.1, g6.2.1, g6.2.2.1, g6.2.2.2⟩, ?_, ?_⟩
    · unfold clearM
      rw [e, f1]
      simp only [if_pos]
      exact g1
    · intro j hj
      have hjn : j ≠ n := fun e => hj (by simp [e])
      obtain ⟨q1, q2, q3⟩ := g7 j (fun e => hj (by simp [e]))
      refine ⟨q1.trans (List.getElem?_set_ne (fun e => hjn e.symm)), q2.trans (List.getElem?_set_ne (fun e => hjn e.symm)), q3.trans (f7 j hjn)⟩
    · intro j hj o' ho'
      rcases List.mem_cons.1 hj with rfl | hj
      · rw [ho] at ho'
        cases ho'
        obtain ⟨q1, q2, _⟩ := g7 j hn1
        have hjl : j < m.bl.length := (List.getElem?_eq_some_iff.1 ho).1
        refine ⟨q1.trans ?_, q2.trans (List.getElem?_set_self (by rw [h.lp]; exact hnl))⟩
        show (m.bl.set j _)[j]? = _
        rw [List.getElem?_set_self hjl, hk1]
      · have hjn : j ≠ n := fun e => hn1 (e ▸ hj)
        exact g8 j hj o' (by show (m.bl.set n _)[j]? = _; rw [List.getElem?_set_ne (fun e => hjn e.symm)]; exact ho')
/-- A chip on which nothing was ever done. -/
structure Fresh (c : CS) : Prop where
  on : c.on = true
  fs : c.fs = []
  wrong : c.wrong = 0
  len : c.bks.length = c.gb
  blk : ∀ b ∈ c.bks, b.pgs = List.replicate c.gp ⟨0, []⟩ ∧ b.next = 0 ∧ b.erases = 0 ∧ b.bad = false
  rt : rightB c.gb c.gp c.gz c.gr = true
theorem open_ffs (m n : Nat) : Hd.openL m (List.replicate n 255) = none := by
  refine Hd.openL_no fun h => ?_
  have h6 := h.2.1.1
  simp at h6
  obtain ⟨k, rfl⟩ : ∃ k, n = k + 2 := ⟨n - 2, by omega⟩
  have h2 : Hd.sizeL (List.replicate (k + 2) 255) = 65535 := by
    unfold Hd.sizeL
    rw [List.replicate_succ, List.replicate_succ]
    simp only [List.take_succ_cons, List.take_zero]
    decide +kernel
  have := h.2.1.2.2.1
  rw [h2] at this
  omega
theorem parseM_ffs (n : Nat) : Hd.parseM (List.replicate n 255) = none := by
  unfold Hd.parseM Hd.mS
  rw [open_ffs]
  exact if_neg (fun h => by cases h.1)
theorem parseC_ffs (n : Nat) : Hd.parseC (List.replicate n 255) = none := by
  unfold Hd.parseC
  rw [open_ffs]
  exact if_neg (fun h => by cases h.1)
theorem Fresh.read {c : CS} (h : Fresh c) (hgp : 8 ≤ c.gp) {i k : Nat} (hi : i < c.gb) (hk : k < 8) : c.read i (k : Nat) = (List.replicate c.gz 255, 0) := by
  obtain ⟨b, hb⟩ : ∃ b, c.bks[i]? = some b := ⟨_, List.getElem?_eq_getElem (by rw [h.len]; exact hi)⟩
  obtain ⟨h1, _⟩ := h.blk _ (List.mem_of_getElem? hb)
  have : Tl c.gz b k (List.replicate c.gz 255) := ⟨⟨0, []⟩, by rw [h1, List.getElem?_replicate, if_pos (by omega)], rfl, rfl⟩
  exact this.read h.on hb
theorem right_geo {gb gp gz gr : Nat} (h : rightB gb gp gz gr = true) : 16 ≤ gb ∧ gb ≤ 256 ∧ 8 ≤ gp ∧ gp ≤ 64 ∧ 64 ≤ gz ∧ gz ≤ 512 ∧ gr + 2 ≤ gb := by
  unfold rightB at h
  simp only [Bool.and_eq_true, decide_eq_true_eq] at h
  obtain ⟨h1, h2, _, h4, _, _, h7⟩ := h
  have e : wrap64 ((gb : Int).tdiv 4) = (gb : Int) / 4 := by
    rw [Int.tdiv_eq_ediv_of_nonneg (by omega)]
    unfold wrap64; omega
  rw [e] at h7
  omega
theorem Fresh.geo {c : CS} (h : Fresh c) : 16 ≤ c.gb ∧ c.gb ≤ 256 ∧ 8 ≤ c.gp ∧ c.gp ≤ 64 ∧ 64 ≤ c.gz ∧ c.gz ≤ 512 ∧ c.gr + 2 ≤ c.gb := right_geo h.rt
theorem Fresh.sight {c : CS} (h : Fresh c) {i : Nat} (hi : i < c.gb) : ∃ s : Sg, sightV c.vw (i : Nat) = s ∧ s.marked = false ∧ s.blank = false ∧ s.counted = false := by
  refine ⟨_, rfl, ?_, ?_, ?_⟩
  · have hb := List.getElem?_eq_getElem (l := c.bks) (i := i) (by rw [h.len]; exact hi)
    show (match c.at (i : Nat) with | none => false | some b => b.bad) = false
    rw [at_nat, hb]
    exact (h.blk _ (List.mem_of_getElem? hb)).2.2.2
  · obtain ⟨b, hb⟩ : ∃ b, c.bks[i]? = some b := ⟨_, List.getElem?_eq_getElem (by rw [h.len]; exact hi)⟩
    show ((match c.at (i : Nat) with | none => 0 | some b => b.next) == 1) = false
    rw [at_nat, hb]
    show (b.next == 1) = false
    rw [(h.blk _ (List.mem_of_getElem? hb)).2.1]
    rfl
  · show (Hd.parseC (c.read (i : Nat) 0).1).isSome = false
    have := h.read h.geo.2.2.1 hi (k := 0) (by omega)
    rw [show ((0 : Nat) : Int) = 0 from rfl] at this
    rw [this, parseC_ffs]
    rfl
theorem many_zero : ∀ l : List Sg, (∀ s ∈ l, s.counted = false) → manyS l = 0
  | [], _ => rfl
  | s :: l, h => by
    have ih := many_zero l (fun x hx => h x (by simp [hx]))
    unfold manyS tells
    rw [ih, h s (by simp)]
    simp
theorem Fresh.scan {c : CS} (h : Fresh c) : scanV c.vw = List.replicate c.gb ⟨3, 0, 0, 0, 0, false⟩ := by
  have hs : ∀ s ∈ sightsV c.vw, s.marked = false ∧ s.blank = false ∧ s.counted = false := by
    intro s hs
    obtain ⟨k, hk, rfl⟩ := List.mem_map.1 hs
    obtain ⟨s', e, h1⟩ := h.sight (List.mem_range.1 hk)
    rw [e]; exact h1
  have hm : meanS (sightsV c.vw) = 0 := by
    unfold meanS
    rw [if_pos (many_zero _ fun s hx => (hs s hx).2.2)]
  have hb : blksV c.vw = List.replicate c.gb ⟨3, 0, 0, 0, 0, false⟩ := by
    refine List.eq_replicate_iff.2 ⟨blksV_length c.vw, fun b hb => ?_⟩
    obtain ⟨s, hsm, rfl⟩ := List.mem_map.1 hb
    obtain ⟨h1, h2, h3⟩ := hs s hsm
    rw [hm]
    have hst : s.state = 3 := by unfold Sg.state; simp [h1, h2, h3]
    unfold Sg.block
    rw [hst, if_neg (by decide), if_neg (by decide), h3]
    rfl
  rw [scan_ref, hb]
  refine List.ext_getElem? fun i => ?_
  rw [refL_get, List.getElem?_replicate]
  split
  · show some (fin1 _ _ _) = _
    rw [fin1_neg (fun hh => absurd hh.1 (by decide))]
  · rfl
theorem Fresh.rb {c : CS} (h : Fresh c) : RB (List.replicate c.gb ⟨3, 0, 0, 0, 0, false⟩) c (List.replicate c.gb []) := by
  refine ⟨h.len, by simp, by simp, h.geo, h.on, fun b hb => by rw [(h.blk b hb).1]; simp, ?_, fun f hf => by rw [h.fs] at hf; simp at hf, ?_⟩
  · intro i b x p hb hx hp
    rw [List.getElem?_replicate] at hx hp
    split at hx
    · rw [if_pos (by assumption)] at hp
      cases hx
      cases hp
      obtain ⟨_, _, h3, h4⟩ := h.blk b (List.mem_of_getElem? hb)
      exact .spoilt 0 (by omega) (by rw [h3]; rfl) h4
    · cases hx
  · rw [h.fs, cnt_zero (fun i x hx => by
      rw [List.getElem?_replicate] at hx
      split at hx
      · cases hx; show (3 : Int) ≠ 1; decide
      · cases hx)]
    simp
theorem among_all : ∀ (n k : Nat), amongN [3] k (List.replicate n ⟨3, 0, 0, 0, 0, false⟩) = List.range' k n ∧ amongN [2, 4] k (List.replicate n ⟨3, 0, 0, 0, 0, false⟩) = []
  | 0, _ => ⟨rfl, rfl⟩
  | n + 1, k => by
    obtain ⟨h1, h2⟩ := among_all n (k + 1)
    rw [List.replicate_succ]
    unfold amongN
    rw [h1, h2]
    exact ⟨rfl, rfl⟩
theorem maxS_zero : ∀ n : Nat, maxS (List.replicate n ⟨3, 0, 0, 0, 0, false⟩) = 0 := by
  intro n
  unfold maxS
  induction n with
  | zero => rfl
  | succ n ih => rw [List.replicate_succ, List.foldl_cons]; exact ih
theorem format_new {base : Nat} {w : World} {c : CS} (h : Lies base w c) (hf : Fresh c) (hg : Hd.Glb w) (hgb : 1 < base) (ht : Typed w) (hte : 2 < base) :
    Calls Tryz.prog 7 #[.pointer (some ⟨c.p, 0, none⟩)] w fun e w' => ∃ m c' P, e = .returned (.tuple #[.pointer (some ⟨m.p, 0, none⟩), .int .i64 0]) ∧ Ms base 1 w' m c' P ∧ (∀ l, cont m.bl P l = none) ∧ Gm c c' ∧ c'.foot = c.foot ∧ Kept (fun k => base ≤ k) w w' ∧ c'.fs = [] := by
  have hgeo := hf.geo
  have hrb := hf.rb
  have key : ∀ m : Mg, m.bl = scanV c.vw → ∃ m' c' P', clearM (amongN [3] 0 m.bl ++ amongN [2, 4] 0 m.bl) m c = (0, m', c') ∧ ClearV (amongN [3] 0 m.bl ++ amongN [2, 4] 0 m.bl) m c ∧ RB m'.bl c' P' ∧ Gm c c' ∧ c'.fs = [] ∧ (m'.p = m.p ∧ m'.bb = m.bb ∧ m'.seq = m.seq ∧ m'.lost = m.lost) ∧ (∀ j, j < c.gb → m'.bl[j]? = some ⟨2, 1, 0, 0, 0, false⟩ ∧ P'[j]? = some []) := by
    intro m hm
    rw [hf.scan] at hm
    obtain ⟨e1, e2⟩ := among_all c.gb 0
    rw [hm, e1, e2, List.append_nil]
    obtain ⟨m', c', P', g1, g2, g3, g4, g5, g6, g7, g8⟩ := clear_ok (List.range' 0 c.gb) m c (List.replicate c.gb []) (by rw [hm]; exact hrb) hf.fs List.nodup_range' (fun n hn => by
      have : n < c.gb := by simpa using hn
      exact ⟨⟨3, 0, 0, 0, 0, false⟩, by rw [hm, List.getElem?_replicate, if_pos this], by show (3 : Int) ≠ 1; decide, by show (0 : Int) < _; decide⟩)
    refine ⟨m', c', P', g1, g2, g3, g4, g5, g6, fun j hj => ?_⟩
    have := g8 j (by simpa using hj) ⟨3, 0, 0, 0, 0, false⟩ (by rw [hm, List.getElem?_replicate, if_pos hj])
    exact this
  have hsp : spentB c = false := by
    unfold spentB lebsI
    rw [if_pos hf.rt]
    have := hrb.good
    rw [cnt_zero (fun i x hx => by
      rw [List.getElem?_replicate] at hx
      split at hx
      · cases hx; show (3 : Int) ≠ 1; decide
      · cases hx)] at this
    simp
    omega
  refine (format_any h hf.on hg hgb hsp (fun i o ho h3 => ?_) (fun m hm => (key m hm).choose_spec.choose_spec.choose_spec.2.1)).mono ?_
  · rw [hf.scan, List.getElem?_replicate] at ho
    split at ho
    · cases ho
      rename_i hi
      have := hf.read hgeo.2.2.1 hi (k := 0) (by omega)
      rw [show ((0 : Nat) : Int) = 0 from rfl] at this
      rw [this, parseC_ffs]
      rfl
    · cases ho
  · rintro e w' ⟨m, hbl, hsq, hlo, rfl, hml, hp, hft, hk⟩
    obtain ⟨m', c', P', g1, g2, g3, g4, g5, g6, g7⟩ := key m hbl
    rw [g1] at hml hp hft
    have hst : ∀ (i : Nat) x, m'.bl[i]? = some x → x = ⟨2, 1, 0, 0, 0, false⟩ := fun i x hx => by
      have hi : i < c.gb := by rw [← g4.gb, ← g3.lb]; exact (List.getElem?_eq_some_iff.1 hx).1
      rw [(g7 i hi).1] at hx
      exact (Option.some.inj hx).symm
    have hseq : m'.seq = 0 := by
      have : (m.seq : Int) = 0 := by rw [hsq, hf.scan, maxS_zero]
      rw [g6.2.2.1]; omega
    refine ⟨m', c', P', by rw [g6.1], ⟨hml, ⟨g3, ?_, ?_, ?_, ?_, ?_, ?_, by rw [hseq, g5]; simp, g6.2.2.2.trans hlo, by rw [g4.wrong]; exact hf.wrong⟩, ?_, hte, by rw [g4.gb, g4.gp, g4.gz, g4.gr]; exact hf.rt⟩, ?_, g4, hft, hk, g5⟩
    · intro i b x p _ _ hx _ h4
      rw [hst i x hx] at h4
      exact absurd h4 (by show (2 : Int) ≠ 4; decide)
    · intro i j x y hx _ h4
      rw [hst i x hx] at h4
      exact absurd h4 (by show (2 : Int) ≠ 4; decide)
    · intro i x hx
      rw [hst i x hx]
      show (2 : Int) ≠ 3; decide
    · intro i x hx h4
      rw [hst i x hx] at h4
      exact absurd h4 (by show (2 : Int) ≠ 4; decide)
    · intro i x hx h4
      rw [hst i x hx] at h4
      exact absurd h4 (by show (2 : Int) ≠ 4; decide)
    · intro i x hx
      rw [hst i x hx]
      show (1 : Int) ≤ 1; decide
    · exact ht.keep hk (by omega)
    · intro l
      exact cont_none fun i x hx h4 => by
        rw [hst i x hx] at h4
        exact absurd h4 (by show (2 : Int) ≠ 4; decide)
end Go.Proofs.YtccfalafphjkpaaGreatDoor
namespace Go.Proofs.YtccfalafphjkpaaGreatDoor
open Go.RowKit
set_option maxRecDepth 10000

theorem written_all (v : Vw) (n : Int) : ∀ (f : Nat) (p : Int), (∀ k : Nat, k < f → (v.rd n (p + k)).2 = 0) → writtenF v n f p = (v.nx n - 2, false)
  | 0, _, _ => rfl
  | f + 1, p, h => by
    unfold writtenF
    have h0 := h 0 (by omega)
    rw [show p + ((0 : Nat) : Int) = p by omega] at h0
    rw [if_pos h0]
    exact written_all v n f (p + 1) (fun k hk => by have := h (k + 1) (by omega); rwa [show p + ((k + 1 : Nat) : Int) = p + 1 + (k : Int) by omega] at this)
theorem Tl.err {c : CS} {n i : Nat} {b : Bk} {l : List Nat} (h : Tl c.gz b i l) (hon : c.on = true) (hb : c.bks[n]? = some b) : (c.read n (i : Nat)).1 = l ∧ (c.read n (i : Nat)).2 = 0 := by rw [h.read hon hb]; exact ⟨rfl, rfl⟩
set_option maxHeartbeats 1000000 in
/-- What a scan tells of each block. -/
theorem MRep.sight {t : Nat} {m : Mg} {c : CS} {P : List (List (List Nat))} (h : MRep t m c P) (hrt : rightB c.gb c.gp c.gz c.gr = true) {i : Nat} {x : Bl} (hx : m.bl[i]? = some x) (mean : Int) : (sightV c.vw (i : Nat)).block mean = x := by
  have hil : i < c.gb := by rw [← h.rb.lb]; exact (List.getElem?_eq_some_iff.1 hx).1
  obtain ⟨b, y, p, hb, hy, hp, hk, hpl⟩ := h.rb.at hil
  rw [hx] at hy
  cases hy
  have hg := h.rb.geo
  have hon := h.rb.on
  have hwh := h.wh i b x p (by simp) hb hx hp
  have hlb := h.lb i x hx
  have hm : (sightV c.vw (i : Nat)).marked = b.bad := by
    show (match c.at (i : Nat) with | none => false | some b => b.bad) = b.bad
    rw [at_nat, hb]
  have hbl : (sightV c.vw (i : Nat)).blank = (b.next == 1) := by
    show ((match c.at (i : Nat) with | none => 0 | some b => b.next) == 1) = _
    rw [at_nat, hb]
  have hnx : c.vw.nx (i : Nat) = b.next := by
    show (match c.at (i : Nat) with | none => 0 | some b => b.next) = _
    rw [at_nat, hb]
  have hcn : ∀ k : Nat, k ≤ 2147483647 → Tl c.gz b 0 (Hd.imgL (Hd.countL k) c.gz) → (sightV c.vw (i : Nat)).counted = true ∧ (sightV c.vw (i : Nat)).count = k := fun k hk ht => by
    have := (ht.err hon hb).1
    rw [show ((0 : Nat) : Int) = 0 from rfl] at this
    have e : Hd.parseC (c.read (i : Nat) 0).1 = some k := by rw [this]; exact Hd.back_c k c.gz hk (by omega) (by omega)
    exact ⟨by show (Hd.parseC (c.read (i : Nat) 0).1).isSome = true; rw [e]; rfl, by show (((Hd.parseC (c.read (i : Nat) 0).1).getD 0 : Nat) : Int) = k; rw [e]; rfl⟩
  cases hk with
  | bad hbad =>
    unfold Sg.block Sg.state
    rw [hm, hbad]
    simp [badBl]
  | free k h1 h2 h3 h4 h5 =>
    obtain ⟨c1, c2⟩ := hcn k h1 h4
    have hst : (sightV c.vw (i : Nat)).state = 2 := by
      unfold Sg.state
      rw [hm, h3, c1, hbl, h5]
      rfl
    unfold Sg.block
    rw [hst, if_neg (by decide), if_neg (by decide), c1, c2]
    rfl
  | spoilt k h1 h2 h3 => exact absurd rfl (h.sp i _ hx)
  | mapped k leb seq must P0 h1 h2 h3 h4 h5 h6 h7 h8 h9 h10 =>
    obtain ⟨c1, c2⟩ := hcn k h1 h4
    have hn := hwh rfl
    have hl := hlb rfl
    have hl2 : (leb : Int) + c.gr + 2 < c.gb := hl
    have hpl2 : p.length ≤ 62 := by
      by_cases h0 : p.length = 0
      · omega
      · obtain ⟨l, hlp⟩ : ∃ l, p[p.length - 1]? = some l := ⟨_, List.getElem?_eq_getElem (by omega)⟩
        obtain ⟨q, hq, _⟩ := h9 _ _ hlp
        have := (List.getElem?_eq_some_iff.1 hq).1
        omega
    have e1 := (h8.err hon hb).1
    rw [show ((1 : Nat) : Int) = 1 from rfl] at e1
    have em : Hd.parseM (c.vw.rd (i : Nat) 1).1 = some (leb, seq, must) := by
      show Hd.parseM (c.read (i : Nat) 1).1 = _
      rw [e1]
      exact Hd.back_m leb seq must c.gz h5 h6 (by omega) (by omega) (by omega)
    have hlebs : c.vw.lebs = (c.gb : Int) - c.gr - 2 := by show lebsI _ _ _ _ = _; unfold lebsI; rw [if_pos hrt]
    have hmp : (sightV c.vw (i : Nat)).mapped = true := by
      show ((Hd.parseM (c.vw.rd (i : Nat) 1).1).isSome && decide ((((Hd.parseM (c.vw.rd (i : Nat) 1).1).getD (0, 0, 0)).1 : Int) < c.vw.lebs)) = true
      rw [em, hlebs]
      simp
      omega
    have hwr : writtenV c.vw (i : Nat) = ((p.length : Int), false) := by
      unfold writtenV
      rw [written_all c.vw (i : Nat) _ 2 (fun j hj => ?_), hnx, hn]
      · congr 1; omega
      · rw [hnx, hn] at hj
        have hj2 : j < p.length := by omega
        have := (h9 j _ (List.getElem?_eq_getElem hj2)).err hon hb
        show (c.read (i : Nat) (2 + (j : Int))).2 = 0
        rw [show ((2 + j : Nat) : Int) = 2 + (j : Int) by omega] at this
        exact this.2
    have hfl : (sightV c.vw (i : Nat)).leb = leb ∧ (sightV c.vw (i : Nat)).seq = seq ∧ (sightV c.vw (i : Nat)).pages = must ∧ (sightV c.vw (i : Nat)).used = p.length ∧ (sightV c.vw (i : Nat)).closed = false := by
      have hmp' : ((Hd.parseM (c.vw.rd (i : Nat) 1).1).isSome && decide ((((Hd.parseM (c.vw.rd (i : Nat) 1).1).getD (0, 0, 0)).1 : Int) < c.vw.lebs)) = true := hmp
      refine ⟨?_, ?_, ?_, ?_, ?_⟩
      · show ((((Hd.parseM (c.vw.rd (i : Nat) 1).1).getD (0, 0, 0)).1 : Nat) : Int) = _
        rw [em]; rfl
      · show ((((Hd.parseM (c.vw.rd (i : Nat) 1).1).getD (0, 0, 0)).2.1 : Nat) : Int) = _
        rw [em]; rfl
      · show ((((Hd.parseM (c.vw.rd (i : Nat) 1).1).getD (0, 0, 0)).2.2 : Nat) : Int) = _
        rw [em]; rfl
      · show (if ((Hd.parseM (c.vw.rd (i : Nat) 1).1).isSome && decide ((((Hd.parseM (c.vw.rd (i : Nat) 1).1).getD (0, 0, 0)).1 : Int) < c.vw.lebs)) = true then (writtenV c.vw (i : Nat)).1 else 0) = _
        rw [if_pos hmp', hwr]
      · show (if ((Hd.parseM (c.vw.rd (i : Nat) 1).1).isSome && decide ((((Hd.parseM (c.vw.rd (i : Nat) 1).1).getD (0, 0, 0)).1 : Int) < c.vw.lebs)) = true then (writtenV c.vw (i : Nat)).2 else false) = _
        rw [if_pos hmp', hwr]
    obtain ⟨f1, f2, f3, f4, f5⟩ := hfl
    have hst : (sightV c.vw (i : Nat)).state = 4 := by
      unfold Sg.state
      rw [hm, h3, c1, hbl, hn, hmp, f3, f4]
      have e2 : (2 + (p.length : Int) == 1) = false := by simp; omega
      have e3 : decide ((must : Int) ≤ (p.length : Int)) = true := by simp; omega
      rw [e2, e3]
      rfl
    unfold Sg.block
    rw [hst, if_neg (by decide), if_pos rfl, c1, c2, f1, f2, f4, f5]
    rfl
/-- A scan tells the manager's blocks. -/
theorem MRep.scan {t : Nat} {m : Mg} {c : CS} {P : List (List (List Nat))} (h : MRep t m c P) (hrt : rightB c.gb c.gp c.gz c.gr = true) : scanV c.vw = m.bl := by
  have hb : blksV c.vw = m.bl := by
    refine List.ext_getElem? fun i => ?_
    by_cases hi : i < c.gb
    · obtain ⟨x, hx⟩ : ∃ x, m.bl[i]? = some x := ⟨_, List.getElem?_eq_getElem (by rw [h.rb.lb]; exact hi)⟩
      unfold blksV sightsV
      rw [List.getElem?_map, List.getElem?_map, List.getElem?_range (show i < c.vw.gb from hi), hx]
      show some _ = some _
      congr 1
      exact h.sight hrt hx _
    · rw [List.getElem?_eq_none (by rw [blksV_length]; exact Nat.le_of_not_lt hi), List.getElem?_eq_none (by rw [h.rb.lb]; exact Nat.le_of_not_lt hi)]
  rw [scan_ref, hb]
  refine List.ext_getElem? fun i => ?_
  rw [refL_get]
  rcases hx : m.bl[i]? with _ | x
  · rfl
  · show some (fin1 _ _ _) = _
    rw [fin1_neg]
    rintro ⟨h4, k, y, hy, hne, hy4, he, _⟩
    exact hne (h.uq k i y x hy hx hy4 h4 he)
theorem maxS_mem (l : List Bl) (x : Bl) (hx : x ∈ l) : x.seq ≤ maxS l := by
  unfold maxS
  have mono : ∀ (l : List Bl) (a : Int), a ≤ l.foldl (fun a b => max a b.seq) a := by
    intro l
    induction l with
    | nil => intro a; exact Int.le_refl _
    | cons y l ih => intro a; exact Int.le_trans (show a ≤ max a y.seq by omega) (ih _)
  have : ∀ (l : List Bl) (a : Int), x ∈ l → x.seq ≤ l.foldl (fun a b => max a b.seq) a := by
    intro l
    induction l with
    | nil => intro a h; simp at h
    | cons y l ih =>
      intro a h
      rcases List.mem_cons.1 h with rfl | h
      · exact Int.le_trans (show x.seq ≤ max a x.seq by omega) (mono l _)
      · exact ih _ h
  exact this l 0 hx
theorem among_none : ∀ (l : List Bl) (k : Nat), (∀ (i : Nat) x, l[i]? = some x → x.st ≠ 3) → amongF [3] k l = []
  | [], _, _ => rfl
  | x :: l, k, h => by
    unfold amongF
    rw [if_neg (by have := h 0 x rfl; simp [this]), among_none l (k + 1) (fun i y hy => h (i + 1) y (by simpa using hy))]
end Go.Proofs.YtccfalafphjkpaaGreatDoor
namespace Go.Proofs.YtccfalafphjkpaaGreatDoor
open Go.RowKit
set_option maxRecDepth 10000

/-- What New of a right geometry leaves, with no plan. -/
def NewC (gb gp gz gr : Nat) (w : World) (e : Ending) (w' : World) : Prop := ∃ c : CS, e = .returned (.tuple #[.pointer (some ⟨c.p, 0, none⟩), .int .i64 0]) ∧ Lies w.heap.size w' c ∧ Fresh c ∧ c.gb = gb ∧ c.gp = gp ∧ c.gz = gz ∧ c.gr = gr ∧ Below w.heap.size w w'
theorem new_chip (gb gp gz gr : Nat) (w : World) (hg : rightB gb gp gz gr = true) : Calls Tryz.prog 5 #[.agg #[.int .i64 gb, .int .i64 gp, .int .i64 gz, .int .i64 gr], .slice none 0 0] w (NewC gb gp gz gr w) := by
  have hr := right_geo hg
  refine (new_go gb gp gz gr none 0 0 [] w rfl (.inl rfl) ⟨by omega, by simp [planOk]⟩ hg (by omega) (by omega) (by omega) (by omega) (by omega) (by omega)).mono ?_
  rintro e w' ⟨p, q, s, rs, rfl, hrs, hs, _, hl, hb⟩
  have hs0 : s = [] := List.Perm.eq_nil hs
  subst hs0
  refine ⟨newC gb gp gz gr p q [] rs, rfl, hl, ⟨rfl, rfl, rfl, by show (rs.map _).length = gb; simpa using hrs, ?_, hg⟩, rfl, rfl, rfl, rfl, hb⟩
  intro b hb
  obtain ⟨r, _, rfl⟩ := List.mem_map.1 (show b ∈ rs.map (freshB gp) from hb)
  exact ⟨rfl, rfl, rfl, rfl⟩
theorem read_go {base t : Nat} {w : World} {m : Mg} {c : CS} {P : List (List (List Nat))} (h : Ms base t w m c P) (leb : Int) (k : Nat) (h0 : 0 ≤ leb) (hleb : leb + c.gr + 2 < c.gb) (p : List (List Nat)) (hp : cont m.bl P leb = some p) (l : List Nat) (hl : p[k]? = some l) :
    Calls Tryz.prog 14 #[.pointer (some ⟨m.p, 0, none⟩), .int .i64 leb, .int .i64 (k : Nat)] w fun e w' => ∃ a n cap, e = .returned (.tuple #[.slice a n cap, .int .i64 0]) ∧ RdP base w m c l a n cap w' := by
  have hg := h.rp.rb.geo
  have hk := (List.getElem?_eq_some_iff.1 hl).1
  have hpl := h.page_le leb
  rw [hp] at hpl
  simp only [Option.getD_some] at hpl
  rcases find_home h.rp leb with ⟨_, hc, _⟩ | ⟨i, x, p', hf, hx, h4, he, hpi, hc, hh, hu, hcl⟩
  · rw [hp] at hc; cases hc
  · rw [hp] at hc
    cases hc
    obtain ⟨b, p2, hb, hp2, hk2, _⟩ := h.rp.mapped hx h4
    rw [hpi] at hp2
    cases hp2
    obtain ⟨_, _, _, _, _, _, _, _, _, _, _, _, _, h9, _⟩ := bok_mapped hk2 h4
    have hrd := (h9 k l hl).read h.rp.rb.on hb
    rw [show ((2 + k : Nat) : Int) = 2 + (k : Int) by omega] at hrd
    exact mread_page h.ml h.rp.lost h.rp.rb.on (by omega) leb k i (h.has h0 hleb) (by omega) hf (by rw [hh, hu]; omega) l hrd
theorem used_go {base t : Nat} {w : World} {m : Mg} {c : CS} {P : List (List (List Nat))} (h : Ms base t w m c P) (leb : Int) :
    Calls Tryz.prog 11 #[.pointer (some ⟨m.p, 0, none⟩), .int .i64 leb] w fun e w' => e = .returned (.int .i64 (((cont m.bl P leb).getD []).length : Nat)) ∧ Below w.heap.size w w' := by
  have := mused_any h.ml leb
  rcases find_home h.rp leb with ⟨_, hc, hz⟩ | ⟨i, x, p', hf, hx, h4, he, hpi, hc, hh, hu, hcl⟩
  · rw [hc]; rw [hz] at this; exact this
  · rw [hc]; rw [hh, hu] at this; exact this
/-- A right manager lies on where only its own box is written anew. -/
theorem Ms.rd {base t : Nat} {w w' : World} {m : Mg} {c : CS} {P : List (List (List Nat))} {l : List Nat} {a : Option Addr} {n cap : Nat} (h : Ms base t w m c P) (hr : RdP base w m c l a n cap w') : Ms base t w' m c P :=
  ⟨hr.ml, h.rp, h.ty.keep hr.kp (fun e => by have := h.ml.low.1; have := h.gb; omega), h.gb, h.rt⟩
end Go.Proofs.YtccfalafphjkpaaGreatDoor
