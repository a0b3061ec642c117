/-
  A new chip is formatted: what stands there.
  A chip is attached anew: the manager has the same blocks.
  A new chip; what stands in a logical block is read.
  A manager over a chip as it is: it is new.
  A right manager's chip is attached anew: the new manager is right, and what lay there is as it was.
  The example that must come at any rate.
  The example that must come at any rate: the elder manager's logical blocks, Unmap, two pages alike.
  The example that must come at any rate.
  What comes in, as the walks are told of it.
  A logical block takes as many pages as it has: what the walk of EbmFull needs besides.
  What the laid variables give, and a world that holds them.
-/
import Derived.Test.YthffehaokndkeaaGreatDoorKO
import Derived.Test.YthffehaokndkeaaGreatDoorKP
import Derived.Test.YthffehaokndkeaaGreatDoorKC
import Derived.Test.YthffehaokndkeaaGreatDoorGI
import Derived.Test.YthffehaokndkeaaGreatDoorCards
import Derived.Test.YthffehaokndkeaaGreatDoorTie
import Derived.Lib.SlBytesConst
import Derived.ProofKit
import Derived.OpenShut
import Derived.ShutString
import Derived.ChangeOld
import Derived.SizedLaws
import Derived.LaidHandle
import Derived.LaidLaws
import Derived.Lay
import Derived.Deep.DeepHandedRow
namespace Go.Proofs.YthffehaokndkeaaGreatDoor
open Go.RowKit
set_option maxRecDepth 10000

theorem clear_ok : ∀ (l : List Nat) (m : Mg) (c : CS) (P : List (List (List Nat))), RB m.bl c P → c.fs = [] → l.Nodup → (∀ n ∈ l, ∃ o, m.bl[n]? = some o ∧ o.st ≠ 1 ∧ o.cnt < 2147483647) →
    ∃ m' c' P', clearM l m c = (0, m', c') ∧ ClearV l m c ∧ RB m'.bl c' P' ∧ Gm c c' ∧ c'.fs = [] ∧ (m'.p = m.p ∧ m'.bb = m.bb ∧ m'.seq = m.seq ∧ m'.lost = m.lost) ∧ (∀ j, j ∉ l → m'.bl[j]? = m.bl[j]? ∧ P'[j]? = P[j]? ∧ c'.bks[j]? = c.bks[j]?) ∧ (∀ j ∈ l, ∀ o, m.bl[j]? = some o → m'.bl[j]? = some ⟨2, o.cnt + 1, 0, 0, 0, false⟩ ∧ P'[j]? = some [])
  | [], m, c, P, h, hf, _, _ => ⟨m, c, P, rfl, trivial, h, Gm.refl c, hf, ⟨rfl, rfl, rfl, rfl⟩, fun _ _ => ⟨rfl, rfl, rfl⟩, fun j hj => by simp at hj⟩
  | n :: l, m, c, P, h, hf, hnd, hl => by
    obtain ⟨o, ho, hs, hc⟩ := hl n (by simp)
    have hnl : n < c.gb := by rw [← h.lb]; exact (List.getElem?_eq_some_iff.1 ho).1
    obtain ⟨b, x, p, hb, hx, hp, hk, hpl⟩ := h.at hnl
    rw [ho] at hx
    cases hx
    obtain ⟨k, hk1, hk2, _⟩ := bok_live hk hs
    obtain ⟨x', c1, f1, f2, f3, f4, f5, f6, f7⟩ := free_ok h ho hs hk1 (by omega)
    obtain ⟨f61, f62⟩ := f6 hf
    subst f61
    have e : ((m.bl[n]?).getD zeroB).cnt.toNat = k := by rw [ho]; simp only [Option.getD_some]; rw [hk1, Int.toNat_natCast]
    have hn1 : n ∉ l := (List.nodup_cons.1 hnd).1
    obtain ⟨m', c', P', g1, g2, g3, g4, g5, g6, g7, g8⟩ := clear_ok l (m.put n ⟨2, (k : Int) + 1, 0, 0, 0, false⟩) c1 (P.set n []) f2 f62 (List.nodup_cons.1 hnd).2 (fun j hj => by
      obtain ⟨o', ho', hs', hc'⟩ := hl j (by simp [hj])
      have hne : j ≠ n := fun e => hn1 (e ▸ hj)
      exact ⟨o', by show (m.bl.set n _)[j]? = _; rw [List.getElem?_set_ne (fun e => hne e.symm)]; exact ho', hs', hc'⟩)
    refine ⟨m', c', P', ?_, ⟨⟨k, o, ho, hk1, hk2⟩, h.geo.2.2.2.2.1, by rw [e, f1], by rw [e, f1]; exact g2⟩, g3, f4.trans g4, g5, ⟨g6.1, g6.2.1, g6.2.2.1, g6.2.2.2⟩, ?_, ?_⟩
    · unfold clearM
      rw [e, f1]
      simp only [if_pos]
      exact g1
    · intro j hj
      have hjn : j ≠ n := fun e => hj (by simp [e])
      obtain ⟨q1, q2, q3⟩ := g7 j (fun e => hj (by simp [e]))
      refine ⟨q1.trans (List.getElem?_set_ne (fun e => hjn e.symm)), q2.trans (List.getElem?_set_ne (fun e => hjn e.symm)), q3.trans (f7 j hjn)⟩
    · intro j hj o' ho'
      rcases List.mem_cons.1 hj with rfl | hj
      · rw [ho] at ho'
        cases ho'
        obtain ⟨q1, q2, _⟩ := g7 j hn1
        have hjl : j < m.bl.length := (List.getElem?_eq_some_iff.1 ho).1
        refine ⟨q1.trans ?_, q2.trans (List.getElem?_set_self (by rw [h.lp]; exact hnl))⟩
        show (m.bl.set j _)[j]? = _
        rw [List.getElem?_set_self hjl, hk1]
      · have hjn : j ≠ n := fun e => hn1 (e ▸ hj)
        exact g8 j hj o' (by show (m.bl.set n _)[j]? = _; rw [List.getElem?_set_ne (fun e => hjn e.symm)]; exact ho')
/-- A chip on which nothing was ever done. -/
structure Fresh (c : CS) : Prop where
  on : c.on = true
  fs : c.fs = []
  wrong : c.wrong = 0
  len : c.bks.length = c.gb
  blk : ∀ b ∈ c.bks, b.pgs = List.replicate c.gp ⟨0, []⟩ ∧ b.next = 0 ∧ b.erases = 0 ∧ b.bad = false
  rt : rightB c.gb c.gp c.gz c.gr = true
theorem open_ffs (m n : Nat) : Hd.openL m (List.replicate n 255) = none := by
  refine Hd.openL_no fun h => ?_
  have h6 := h.2.1.1
  simp at h6
  obtain ⟨k, rfl⟩ : ∃ k, n = k + 2 := ⟨n - 2, by omega⟩
  have h2 : Hd.sizeL (List.replicate (k + 2) 255) = 65535 := by
    unfold Hd.sizeL
    rw [List.replicate_succ, List.replicate_succ]
    simp only [List.take_succ_cons, List.take_zero]
    decide +kernel
  have := h.2.1.2.2.1
  rw [h2] at this
  omega
theorem parseM_ffs (n : Nat) : Hd.parseM (List.replicate n 255) = none := by
  unfold Hd.parseM Hd.mS
  rw [open_ffs]
  exact if_neg (fun h => by cases h.1)
theorem parseC_ffs (n : Nat) : Hd.parseC (List.replicate n 255) = none := by
  unfold Hd.parseC
  rw [open_ffs]
  exact if_neg (fun h => by cases h.1)
theorem Fresh.read {c : CS} (h : Fresh c) (hgp : 8 ≤ c.gp) {i k : Nat} (hi : i < c.gb) (hk : k < 8) : c.read i (k : Nat) = (List.replicate c.gz 255, 0) := by
  obtain ⟨b, hb⟩ : ∃ b, c.bks[i]? = some b := ⟨_, List.getElem?_eq_getElem (by rw [h.len]; exact hi)⟩
  obtain ⟨h1, _⟩ := h.blk _ (List.mem_of_getElem? hb)
  have : Tl c.gz b k (List.replicate c.gz 255) := ⟨⟨0, []⟩, by rw [h1, List.getElem?_replicate, if_pos (by omega)], rfl, rfl⟩
  exact this.read h.on hb
theorem right_geo {gb gp gz gr : Nat} (h : rightB gb gp gz gr = true) : 16 ≤ gb ∧ gb ≤ 256 ∧ 8 ≤ gp ∧ gp ≤ 64 ∧ 64 ≤ gz ∧ gz ≤ 512 ∧ gr + 2 ≤ gb := by
  unfold rightB at h
  simp only [Bool.and_eq_true, decide_eq_true_eq] at h
  obtain ⟨h1, h2, _, h4, _, _, h7⟩ := h
  have e : wrap64 ((gb : Int).tdiv 4) = (gb : Int) / 4 := by
    rw [Int.tdiv_eq_ediv_of_nonneg (by omega)]
    unfold wrap64; omega
  rw [e] at h7
  omega
theorem Fresh.geo {c : CS} (h : Fresh c) : 16 ≤ c.gb ∧ c.gb ≤ 256 ∧ 8 ≤ c.gp ∧ c.gp ≤ 64 ∧ 64 ≤ c.gz ∧ c.gz ≤ 512 ∧ c.gr + 2 ≤ c.gb := right_geo h.rt
theorem Fresh.sight {c : CS} (h : Fresh c) {i : Nat} (hi : i < c.gb) : ∃ s : Sg, sightV c.vw (i : Nat) = s ∧ s.marked = false ∧ s.blank = false ∧ s.counted = false := by
  refine ⟨_, rfl, ?_, ?_, ?_⟩
  · have hb := List.getElem?_eq_getElem (l := c.bks) (i := i) (by rw [h.len]; exact hi)
    show (match c.at (i : Nat) with | none => false | some b => b.bad) = false
    rw [at_nat, hb]
    exact (h.blk _ (List.mem_of_getElem? hb)).2.2.2
  · obtain ⟨b, hb⟩ : ∃ b, c.bks[i]? = some b := ⟨_, List.getElem?_eq_getElem (by rw [h.len]; exact hi)⟩
    show ((match c.at (i : Nat) with | none => 0 | some b => b.next) == 1) = false
    rw [at_nat, hb]
    show (b.next == 1) = false
    rw [(h.blk _ (List.mem_of_getElem? hb)).2.1]
    rfl
  · show (Hd.parseC (c.read (i : Nat) 0).1).isSome = false
    have := h.read h.geo.2.2.1 hi (k := 0) (by omega)
    rw [show ((0 : Nat) : Int) = 0 from rfl] at this
    rw [this, parseC_ffs]
    rfl
theorem many_zero : ∀ l : List Sg, (∀ s ∈ l, s.counted = false) → manyS l = 0
  | [], _ => rfl
  | s :: l, h => by
    have ih := many_zero l (fun x hx => h x (by simp [hx]))
    unfold manyS tells
    rw [ih, h s (by simp)]
    simp
theorem Fresh.scan {c : CS} (h : Fresh c) : scanV c.vw = List.replicate c.gb ⟨3, 0, 0, 0, 0, false⟩ := by
  have hs : ∀ s ∈ sightsV c.vw, s.marked = false ∧ s.blank = false ∧ s.counted = false := by
    intro s hs
    obtain ⟨k, hk, rfl⟩ := List.mem_map.1 hs
    obtain ⟨s', e, h1⟩ := h.sight (List.mem_range.1 hk)
    rw [e]; exact h1
  have hm : meanS (sightsV c.vw) = 0 := by
    unfold meanS
    rw [if_pos (many_zero _ fun s hx => (hs s hx).2.2)]
  have hb : blksV c.vw = List.replicate c.gb ⟨3, 0, 0, 0, 0, false⟩ := by
    refine List.eq_replicate_iff.2 ⟨blksV_length c.vw, fun b hb => ?_⟩
    obtain ⟨s, hsm, rfl⟩ := List.mem_map.1 hb
    obtain ⟨h1, h2, h3⟩ := hs s hsm
    rw [hm]
    have hst : s.state = 3 := by unfold Sg.state; simp [h1, h2, h3]
    unfold Sg.block
    rw [hst, if_neg (by decide), if_neg (by decide), h3]
    rfl
  rw [scan_ref, hb]
  refine List.ext_getElem? fun i => ?_
  rw [refL_get, List.getElem?_replicate]
  split
  · show some (fin1 _ _ _) = _
    rw [fin1_neg (fun hh => absurd hh.1 (by decide))]
  · rfl
theorem Fresh.rb {c : CS} (h : Fresh c) : RB (List.replicate c.gb ⟨3, 0, 0, 0, 0, false⟩) c (List.replicate c.gb []) := by
  refine ⟨h.len, by simp, by simp, h.geo, h.on, fun b hb => by rw [(h.blk b hb).1]; simp, ?_, fun f hf => by rw [h.fs] at hf; simp at hf, ?_⟩
  · intro i b x p hb hx hp
    rw [List.getElem?_replicate] at hx hp
    split at hx
    · rw [if_pos (by assumption)] at hp
      cases hx
      cases hp
      obtain ⟨_, _, h3, h4⟩ := h.blk b (List.mem_of_getElem? hb)
      exact .spoilt 0 (by omega) (by rw [h3]; rfl) h4
    · cases hx
  · rw [h.fs, cnt_zero (fun i x hx => by
      rw [List.getElem?_replicate] at hx
      split at hx
      · cases hx; show (3 : Int) ≠ 1; decide
      · cases hx)]
    simp
theorem among_all : ∀ (n k : Nat), amongN [3] k (List.replicate n ⟨3, 0, 0, 0, 0, false⟩) = List.range' k n ∧ amongN [2, 4] k (List.replicate n ⟨3, 0, 0, 0, 0, false⟩) = []
  | 0, _ => ⟨rfl, rfl⟩
  | n + 1, k => by
    obtain ⟨h1, h2⟩ := among_all n (k + 1)
    rw [List.replicate_succ]
    unfold amongN
    rw [h1, h2]
    exact ⟨rfl, rfl⟩
theorem maxS_zero : ∀ n : Nat, maxS (List.replicate n ⟨3, 0, 0, 0, 0, false⟩) = 0 := by
  intro n
  unfold maxS
  induction n with
  | zero => rfl
  | succ n ih => rw [List.replicate_succ, List.foldl_cons]; exact ih
theorem format_new {base : Nat} {w : World} {c : CS} (h : Lies base w c) (hf : Fresh c) (hg : Hd.Glb w) (hgb : 0 < base) (ht : Typed w) (hte : 1 < base) :
    Calls Tryz.prog 32 #[.pointer (some ⟨c.p, 0, none⟩)] w fun e w' => ∃ m c' P, e = .returned (.tuple #[.pointer (some ⟨m.p, 0, none⟩), .int .i64 0]) ∧ Ms base 1 w' m c' P ∧ (∀ l, cont m.bl P l = none) ∧ Gm c c' ∧ c'.foot = c.foot ∧ Kept (fun k => base ≤ k) w w' ∧ c'.fs = [] := by
  have hgeo := hf.geo
  have hrb := hf.rb
  have key : ∀ m : Mg, m.bl = scanV c.vw → ∃ m' c' P', clearM (amongN [3] 0 m.bl ++ amongN [2, 4] 0 m.bl) m c = (0, m', c') ∧ ClearV (amongN [3] 0 m.bl ++ amongN [2, 4] 0 m.bl) m c ∧ RB m'.bl c' P' ∧ Gm c c' ∧ c'.fs = [] ∧ (m'.p = m.p ∧ m'.bb = m.bb ∧ m'.seq = m.seq ∧ m'.lost = m.lost) ∧ (∀ j, j < c.gb → m'.bl[j]? = some ⟨2, 1, 0, 0, 0, false⟩ ∧ P'[j]? = some []) := by
    intro m hm
    rw [hf.scan] at hm
    obtain ⟨e1, e2⟩ := among_all c.gb 0
    rw [hm, e1, e2, List.append_nil]
    obtain ⟨m', c', P', g1, g2, g3, g4, g5, g6, g7, g8⟩ := clear_ok (List.range' 0 c.gb) m c (List.replicate c.gb []) (by rw [hm]; exact hrb) hf.fs List.nodup_range' (fun n hn => by
      have : n < c.gb := by simpa using hn
      exact ⟨⟨3, 0, 0, 0, 0, false⟩, by rw [hm, List.getElem?_replicate, if_pos this], by show (3 : Int) ≠ 1; decide, by show (0 : Int) < _; decide⟩)
    refine ⟨m', c', P', g1, g2, g3, g4, g5, g6, fun j hj => ?_⟩
    have := g8 j (by simpa using hj) ⟨3, 0, 0, 0, 0, false⟩ (by rw [hm, List.getElem?_replicate, if_pos hj])
    exact this
  have hsp : spentB c = false := by
    unfold spentB lebsI
    rw [if_pos hf.rt]
    have := hrb.good
    rw [cnt_zero (fun i x hx => by
      rw [List.getElem?_replicate] at hx
      split at hx
      · cases hx; show (3 : Int) ≠ 1; decide
      · cases hx)] at this
    simp
    omega
  refine (format_any h hf.on hg hgb hsp (fun i o ho h3 => ?_) (fun m hm => (key m hm).choose_spec.choose_spec.choose_spec.2.1)).mono ?_
  · rw [hf.scan, List.getElem?_replicate] at ho
    split at ho
    · cases ho
      rename_i hi
      have := hf.read hgeo.2.2.1 hi (k := 0) (by omega)
      rw [show ((0 : Nat) : Int) = 0 from rfl] at this
      rw [this, parseC_ffs]
      rfl
    · cases ho
  · rintro e w' ⟨m, hbl, hsq, hlo, rfl, hml, hp, hft, hk⟩
    obtain ⟨m', c', P', g1, g2, g3, g4, g5, g6, g7⟩ := key m hbl
    rw [g1] at hml hp hft
    have hst : ∀ (i : Nat) x, m'.bl[i]? = some x → x = ⟨2, 1, 0, 0, 0, false⟩ := fun i x hx => by
      have hi : i < c.gb := by rw [← g4.gb, ← g3.lb]; exact (List.getElem?_eq_some_iff.1 hx).1
      rw [(g7 i hi).1] at hx
      exact (Option.some.inj hx).symm
    have hseq : m'.seq = 0 := by
      have : (m.seq : Int) = 0 := by rw [hsq, hf.scan, maxS_zero]
      rw [g6.2.2.1]; omega
    refine ⟨m', c', P', by rw [g6.1], ⟨hml, ⟨g3, ?_, ?_, ?_, ?_, ?_, ?_, by rw [hseq, g5]; simp, g6.2.2.2.trans hlo, by rw [g4.wrong]; exact hf.wrong⟩, ?_, hte, by rw [g4.gb, g4.gp, g4.gz, g4.gr]; exact hf.rt⟩, ?_, g4, hft, hk, g5⟩
    · intro i b x p _ _ hx _ h4
      rw [hst i x hx] at h4
      exact absurd h4 (by show (2 : Int) ≠ 4; decide)
    · intro i j x y hx _ h4
      rw [hst i x hx] at h4
      exact absurd h4 (by show (2 : Int) ≠ 4; decide)
    · intro i x hx
      rw [hst i x hx]
      show (2 : Int) ≠ 3; decide
    · intro i x hx h4
      rw [hst i x hx] at h4
      exact absurd h4 (by show (2 : Int) ≠ 4; decide)
    · intro i x hx h4
      rw [hst i x hx] at h4
      exact absurd h4 (by show (2 : Int) ≠ 4; decide)
    · intro i x hx
      rw [hst i x hx]
      show (1 : Int) ≤ 1; decide
    · exact ht.keep hk (by omega)
    · intro l
      exact cont_none fun i x hx h4 => by
        rw [hst i x hx] at h4
        exact absurd h4 (by show (2 : Int) ≠ 4; decide)
end Go.Proofs.YthffehaokndkeaaGreatDoor
namespace Go.Proofs.YthffehaokndkeaaGreatDoor
open Go.RowKit
set_option maxRecDepth 10000

theorem written_all (v : Vw) (n : Int) : ∀ (f : Nat) (p : Int), (∀ k : Nat, k < f → (v.rd n (p + k)).2 = 0) → writtenF v n f p = (v.nx n - 2, false)
  | 0, _, _ => rfl
  | f + 1, p, h => by
    unfold writtenF
    have h0 := h 0 (by omega)
    rw [show p + ((0 : Nat) : Int) = p by omega] at h0
    rw [if_pos h0]
    exact written_all v n f (p + 1) (fun k hk => by have := h (k + 1) (by omega); rwa [show p + ((k + 1 : Nat) : Int) = p + 1 + (k : Int) by omega] at this)
theorem Tl.err {c : CS} {n i : Nat} {b : Bk} {l : List Nat} (h : Tl c.gz b i l) (hon : c.on = true) (hb : c.bks[n]? = some b) : (c.read n (i : Nat)).1 = l ∧ (c.read n (i : Nat)).2 = 0 := by rw [h.read hon hb]; exact ⟨rfl, rfl⟩
set_option maxHeartbeats 1000000 in
/-- What a scan tells of each block. -/
theorem MRep.sight {t : Nat} {m : Mg} {c : CS} {P : List (List (List Nat))} (h : MRep t m c P) (hrt : rightB c.gb c.gp c.gz c.gr = true) {i : Nat} {x : Bl} (hx : m.bl[i]? = some x) (mean : Int) : (sightV c.vw (i : Nat)).block mean = x := by
  have hil : i < c.gb := by rw [← h.rb.lb]; exact (List.getElem?_eq_some_iff.1 hx).1
  obtain ⟨b, y, p, hb, hy, hp, hk, hpl⟩ := h.rb.at hil
  rw [hx] at hy
  cases hy
  have hg := h.rb.geo
  have hon := h.rb.on
  have hwh := h.wh i b x p (by simp) hb hx hp
  have hlb := h.lb i x hx
  have hm : (sightV c.vw (i : Nat)).marked = b.bad := by
    show (match c.at (i : Nat) with | none => false | some b => b.bad) = b.bad
    rw [at_nat, hb]
  have hbl : (sightV c.vw (i : Nat)).blank = (b.next == 1) := by
    show ((match c.at (i : Nat) with | none => 0 | some b => b.next) == 1) = _
    rw [at_nat, hb]
  have hnx : c.vw.nx (i : Nat) = b.next := by
    show (match c.at (i : Nat) with | none => 0 | some b => b.next) = _
    rw [at_nat, hb]
  have hcn : ∀ k : Nat, k ≤ 2147483647 → Tl c.gz b 0 (Hd.imgL (Hd.countL k) c.gz) → (sightV c.vw (i : Nat)).counted = true ∧ (sightV c.vw (i : Nat)).count = k := fun k hk ht => by
    have := (ht.err hon hb).1
    rw [show ((0 : Nat) : Int) = 0 from rfl] at this
    have e : Hd.parseC (c.read (i : Nat) 0).1 = some k := by rw [this]; exact Hd.back_c k c.gz hk (by omega) (by omega)
    exact ⟨by show (Hd.parseC (c.read (i : Nat) 0).1).isSome = true; rw [e]; rfl, by show (((Hd.parseC (c.read (i : Nat) 0).1).getD 0 : Nat) : Int) = k; rw [e]; rfl⟩
  cases hk with
  | bad hbad =>
    unfold Sg.block Sg.state
    rw [hm, hbad]
    simp [badBl]
  | free k h1 h2 h3 h4 h5 =>
    obtain ⟨c1, c2⟩ := hcn k h1 h4
    have hst : (sightV c.vw (i : Nat)).state = 2 := by
      unfold Sg.state
      rw [hm, h3, c1, hbl, h5]
      rfl
    unfold Sg.block
    rw [hst, if_neg (by decide), if_neg (by decide), c1, c2]
    rfl
  | spoilt k h1 h2 h3 => exact absurd rfl (h.sp i _ hx)
  | mapped k leb seq must P0 h1 h2 h3 h4 h5 h6 h7 h8 h9 h10 =>
    obtain ⟨c1, c2⟩ := hcn k h1 h4
    have hn := hwh rfl
    have hl := hlb rfl
    have hl2 : (leb : Int) + c.gr + 2 < c.gb := hl
    have hpl2 : p.length ≤ 62 := by
      by_cases h0 : p.length = 0
      · omega
      · obtain ⟨l, hlp⟩ : ∃ l, p[p.length - 1]? = some l := ⟨_, List.getElem?_eq_getElem (by omega)⟩
        obtain ⟨q, hq, _⟩ := h9 _ _ hlp
        have := (List.getElem?_eq_some_iff.1 hq).1
        omega
    have e1 := (h8.err hon hb).1
    rw [show ((1 : Nat) : Int) = 1 from rfl] at e1
    have em : Hd.parseM (c.vw.rd (i : Nat) 1).1 = some (leb, seq, must) := by
      show Hd.parseM (c.read (i : Nat) 1).1 = _
      rw [e1]
      exact Hd.back_m leb seq must c.gz h5 h6 (by omega) (by omega) (by omega)
    have hlebs : c.vw.lebs = (c.gb : Int) - c.gr - 2 := by show lebsI _ _ _ _ = _; unfold lebsI; rw [if_pos hrt]
    have hmp : (sightV c.vw (i : Nat)).mapped = true := by
      show ((Hd.parseM (c.vw.rd (i : Nat) 1).1).isSome && decide ((((Hd.parseM (c.vw.rd (i : Nat) 1).1).getD (0, 0, 0)).1 : Int) < c.vw.lebs)) = true
      rw [em, hlebs]
      simp
      omega
    have hwr : writtenV c.vw (i : Nat) = ((p.length : Int), false) := by
      unfold writtenV
      rw [written_all c.vw (i : Nat) _ 2 (fun j hj => ?_), hnx, hn]
      · congr 1; omega
      · rw [hnx, hn] at hj
        have hj2 : j < p.length := by omega
        have := (h9 j _ (List.getElem?_eq_getElem hj2)).err hon hb
        show (c.read (i : Nat) (2 + (j : Int))).2 = 0
        rw [show ((2 + j : Nat) : Int) = 2 + (j : Int) by omega] at this
        exact this.2
    have hfl : (sightV c.vw (i : Nat)).leb = leb ∧ (sightV c.vw (i : Nat)).seq = seq ∧ (sightV c.vw (i : Nat)).pages = must ∧ (sightV c.vw (i : Nat)).used = p.length ∧ (sightV c.vw (i : Nat)).closed = false := by
      have hmp' : ((Hd.parseM (c.vw.rd (i : Nat) 1).1).isSome && decide ((((Hd.parseM (c.vw.rd (i : Nat) 1).1).getD (0, 0, 0)).1 : Int) < c.vw.lebs)) = true := hmp
      refine ⟨?_, ?_, ?_, ?_, ?_⟩
      · show ((((Hd.parseM (c.vw.rd (i : Nat) 1).1).getD (0, 0, 0)).1 : Nat) : Int) = _
        rw [em]; rfl
      · show ((((Hd.parseM (c.vw.rd (i : Nat) 1).1).getD (0, 0, 0)).2.1 : Nat) : Int) = _
        rw [em]; rfl
      · show ((((Hd.parseM (c.vw.rd (i : Nat) 1).1).getD (0, 0, 0)).2.2 : Nat) : Int) = _
        rw [em]; rfl
      · show (if ((Hd.parseM (c.vw.rd (i : Nat) 1).1).isSome && decide ((((Hd.parseM (c.vw.rd (i : Nat) 1).1).getD (0, 0, 0)).1 : Int) < c.vw.lebs)) = true then (writtenV c.vw (i : Nat)).1 else 0) = _
        rw [if_pos hmp', hwr]
      · show (if ((Hd.parseM (c.vw.rd (i : Nat) 1).1).isSome && decide ((((Hd.parseM (c.vw.rd (i : Nat) 1).1).getD (0, 0, 0)).1 : Int) < c.vw.lebs)) = true then (writtenV c.vw (i : Nat)).2 else false) = _
        rw [if_pos hmp', hwr]
    obtain ⟨f1, f2, f3, f4, f5⟩ := hfl
    have hst : (sightV c.vw (i : Nat)).state = 4 := by
      unfold Sg.state
      rw [hm, h3, c1, hbl, hn, hmp, f3, f4]
      have e2 : (2 + (p.length : Int) == 1) = false := by simp; omega
      have e3 : decide ((must : Int) ≤ (p.length : Int)) = true := by simp; omega
      rw [e2, e3]
      rfl
    unfold Sg.block
    rw [hst, if_neg (by decide), if_pos rfl, c1, c2, f1, f2, f4, f5]
    rfl
/-- A scan tells the manager's blocks. -/
theorem MRep.scan {t : Nat} {m : Mg} {c : CS} {P : List (List (List Nat))} (h : MRep t m c P) (hrt : rightB c.gb c.gp c.gz c.gr = true) : scanV c.vw = m.bl := by
  have hb : blksV c.vw = m.bl := by
    refine List.ext_getElem? fun i => ?_
    by_cases hi : i < c.gb
    · obtain ⟨x, hx⟩ : ∃ x, m.bl[i]? = some x := ⟨_, List.getElem?_eq_getElem (by rw [h.rb.lb]; exact hi)⟩
      unfold blksV sightsV
      rw [List.getElem?_map, List.getElem?_map, List.getElem?_range (show i < c.vw.gb from hi), hx]
      show some _ = some _
      congr 1
      exact h.sight hrt hx _
    · rw [List.getElem?_eq_none (by rw [blksV_length]; exact Nat.le_of_not_lt hi), List.getElem?_eq_none (by rw [h.rb.lb]; exact Nat.le_of_not_lt hi)]
  rw [scan_ref, hb]
  refine List.ext_getElem? fun i => ?_
  rw [refL_get]
  rcases hx : m.bl[i]? with _ | x
  · rfl
  · show some (fin1 _ _ _) = _
    rw [fin1_neg]
    rintro ⟨h4, k, y, hy, hne, hy4, he, _⟩
    exact hne (h.uq k i y x hy hx hy4 h4 he)
theorem maxS_mem (l : List Bl) (x : Bl) (hx : x ∈ l) : x.seq ≤ maxS l := by
  unfold maxS
  have mono : ∀ (l : List Bl) (a : Int), a ≤ l.foldl (fun a b => max a b.seq) a := by
    intro l
    induction l with
    | nil => intro a; exact Int.le_refl _
    | cons y l ih => intro a; exact Int.le_trans (show a ≤ max a y.seq by omega) (ih _)
  have : ∀ (l : List Bl) (a : Int), x ∈ l → x.seq ≤ l.foldl (fun a b => max a b.seq) a := by
    intro l
    induction l with
    | nil => intro a h; simp at h
    | cons y l ih =>
      intro a h
      rcases List.mem_cons.1 h with rfl | h
      · exact Int.le_trans (show x.seq ≤ max a x.seq by omega) (mono l _)
      · exact ih _ h
  exact this l 0 hx
theorem among_none : ∀ (l : List Bl) (k : Nat), (∀ (i : Nat) x, l[i]? = some x → x.st ≠ 3) → amongF [3] k l = []
  | [], _, _ => rfl
  | x :: l, k, h => by
    unfold amongF
    rw [if_neg (by have := h 0 x rfl; simp [this]), among_none l (k + 1) (fun i y hy => h (i + 1) y (by simpa using hy))]
end Go.Proofs.YthffehaokndkeaaGreatDoor
namespace Go.Proofs.YthffehaokndkeaaGreatDoor
open Go.RowKit
set_option maxRecDepth 10000

/-- What New of a right geometry leaves, with no plan. -/
def NewC (gb gp gz gr : Nat) (w : World) (e : Ending) (w' : World) : Prop := ∃ c : CS, e = .returned (.tuple #[.pointer (some ⟨c.p, 0, none⟩), .int .i64 0]) ∧ Lies w.heap.size w' c ∧ Fresh c ∧ c.gb = gb ∧ c.gp = gp ∧ c.gz = gz ∧ c.gr = gr ∧ Below w.heap.size w w'
theorem new_chip (gb gp gz gr : Nat) (w : World) (hg : rightB gb gp gz gr = true) : Calls Tryz.prog 31 #[.agg #[.int .i64 gb, .int .i64 gp, .int .i64 gz, .int .i64 gr], .slice none 0 0] w (NewC gb gp gz gr w) := by
  have hr := right_geo hg
  refine (new_go gb gp gz gr none 0 0 [] w rfl (.inl rfl) ⟨by omega, by simp [planOk]⟩ hg (by omega) (by omega) (by omega) (by omega) (by omega) (by omega)).mono ?_
  rintro e w' ⟨p, q, s, rs, rfl, hrs, hs, _, hl, hb⟩
  have hs0 : s = [] := List.Perm.eq_nil hs
  subst hs0
  refine ⟨newC gb gp gz gr p q [] rs, rfl, hl, ⟨rfl, rfl, rfl, by show (rs.map _).length = gb; simpa using hrs, ?_, hg⟩, rfl, rfl, rfl, rfl, hb⟩
  intro b hb
  obtain ⟨r, _, rfl⟩ := List.mem_map.1 (show b ∈ rs.map (freshB gp) from hb)
  exact ⟨rfl, rfl, rfl, rfl⟩
theorem read_go {base t : Nat} {w : World} {m : Mg} {c : CS} {P : List (List (List Nat))} (h : Ms base t w m c P) (leb : Int) (k : Nat) (h0 : 0 ≤ leb) (hleb : leb + c.gr + 2 < c.gb) (p : List (List Nat)) (hp : cont m.bl P leb = some p) (l : List Nat) (hl : p[k]? = some l) :
    Calls Tryz.prog 75 #[.pointer (some ⟨m.p, 0, none⟩), .int .i64 leb, .int .i64 (k : Nat)] w fun e w' => ∃ a n cap, e = .returned (.tuple #[.slice a n cap, .int .i64 0]) ∧ RdP base w m c l a n cap w' := by
  have hg := h.rp.rb.geo
  have hk := (List.getElem?_eq_some_iff.1 hl).1
  have hpl := h.page_le leb
  rw [hp] at hpl
  simp only [Option.getD_some] at hpl
  rcases find_home h.rp leb with ⟨_, hc, _⟩ | ⟨i, x, p', hf, hx, h4, he, hpi, hc, hh, hu, hcl⟩
  · rw [hp] at hc; cases hc
  · rw [hp] at hc
    cases hc
    obtain ⟨b, p2, hb, hp2, hk2, _⟩ := h.rp.mapped hx h4
    rw [hpi] at hp2
    cases hp2
    obtain ⟨_, _, _, _, _, _, _, _, _, _, _, _, _, h9, _⟩ := bok_mapped hk2 h4
    have hrd := (h9 k l hl).read h.rp.rb.on hb
    rw [show ((2 + k : Nat) : Int) = 2 + (k : Int) by omega] at hrd
    exact mread_page h.ml h.rp.lost h.rp.rb.on (by omega) leb k i (h.has h0 hleb) (by omega) hf (by rw [hh, hu]; omega) l hrd
theorem used_go {base t : Nat} {w : World} {m : Mg} {c : CS} {P : List (List (List Nat))} (h : Ms base t w m c P) (leb : Int) :
    Calls Tryz.prog 36 #[.pointer (some ⟨m.p, 0, none⟩), .int .i64 leb] w fun e w' => e = .returned (.int .i64 (((cont m.bl P leb).getD []).length : Nat)) ∧ Below w.heap.size w w' := by
  have := mused_any h.ml leb
  rcases find_home h.rp leb with ⟨_, hc, hz⟩ | ⟨i, x, p', hf, hx, h4, he, hpi, hc, hh, hu, hcl⟩
  · rw [hc]; rw [hz] at this; exact this
  · rw [hc]; rw [hh, hu] at this; exact this
/-- A right manager lies on where only its own box is written anew. -/
theorem Ms.rd {base t : Nat} {w w' : World} {m : Mg} {c : CS} {P : List (List (List Nat))} {l : List Nat} {a : Option Addr} {n cap : Nat} (h : Ms base t w m c P) (hr : RdP base w m c l a n cap w') : Ms base t w' m c P :=
  ⟨hr.ml, h.rp, h.ty.keep hr.kp (fun e => by have := h.ml.low.1; have := h.gb; omega), h.gb, h.rt⟩
end Go.Proofs.YthffehaokndkeaaGreatDoor
namespace Go.Proofs.YthffehaokndkeaaGreatDoor
open Go.RowKit
set_option maxRecDepth 10000

set_option maxHeartbeats 2000000 in
theorem over_new {base : Nat} {w : World} {c : CS} (h : Lies base w c) (hon : c.on = true) (hg : Hd.Glb w) :
    Calls Tryz.prog 67 #[.pointer (some ⟨c.p, 0, none⟩)] w fun e w' => ∃ m : Mg, e = .returned (.tuple #[.pointer (some ⟨m.p, 0, none⟩), .int .i64 0]) ∧ MLies base w' m c ∧ m.bl = scanV c.vw ∧ (m.seq : Int) = maxS (scanV c.vw) ∧ m.lost = false ∧ Below w.heap.size w w' ∧ w.heap.size ≤ m.p ∧ w.heap.size ≤ m.bb := by
  have k1 := scan_on h c.p rfl hon hg
  have HLI : Hid (Lies base w c) := h
  have hgb := h.chip
  clear hon hgb
  have hgs := h.good.gs
  have HLen : Hid ((scanV c.vw).length = c.gb) := scanV_length c.vw
  obtain ⟨l, hl⟩ : ∃ l, l = scanV c.vw := ⟨_, rfl⟩
  rw [← hl] at k1 HLen ⊢
  have hb1 : 1 ≤ c.gb := hgs.1
  have hb2 : c.gb ≤ 256 := hgs.2.1
  clear hl h hg hgs
  go_enter Tryz.func67, Tryz.ntmps67
  go_wp2_with (go_at_call 102; refine k1.mono ?_; rintro e w1 ⟨g, cap, rfl, ho, hb⟩; have HO : Hid (OwnL w.heap.size w1 g c.gb cap l) := ho; have HB : Hid (Below w.heap.size w w1) := hb; clear ho hb)
  go_loopg [23] c.gb (fun kx s23 wr => ∃ k : Nat, k + kx = c.gb ∧ s23 = .int .i64 (k : Nat) ∧ Hid (Ov w1 wr c.p g c.gb cap (maxS (l.take k))))
  case atStart => exact ⟨0, by omega, rfl, ⟨Row.new w1 [_, _, _, _] _, below_new w1 _⟩⟩
  case round =>
    obtain ⟨k, hk, rfl, HV⟩ := hrel
    by_cases hlt : k < c.gb
    · obtain ⟨b, hb⟩ : ∃ b, l[k]? = some b := ⟨_, List.getElem?_eq_getElem (by have := HLen.out; omega)⟩
      have HS : Hid (maxS (l.take (k + 1)) = max (maxS (l.take k)) b.seq) := maxS_take hb
      have hA : BlAt wr g (k * 6) b := by
        rcases (HO.out.later HV.out.bel).row with e | ⟨b', off, e, hx⟩
        · rw [e] at hb; simp at hb
        · cases e
          have := hx k b hb
          rwa [Nat.zero_add] at this
      obtain ⟨g0, g1, g2, g3, g4, g5⟩ := hA
      obtain ⟨S, hS⟩ : ∃ S, S = maxS (l.take k) := ⟨_, rfl⟩
      rw [← hS] at HV HS
      clear hS hb
      have c2 : wr.cell? ⟨w1.heap.size, 2, none⟩ = some (.int .u64 S) := HV.out.box.cell (i := 2) rfl
      have n0 : ¬ (k : Int) < 0 := by omega
      have n1 : (k : Int) < (c.gb : Int) := by omega
      have hw : w1.heap.size < wr.heap.size := HV.out.box.lt
      have fz := HV.out.box.frozen
      go_wp2
      have HV2 : Hid (Ov w1 (wr.alloc (.cells #[.int .i64 b.st, .int .i64 b.cnt, .int .i64 b.leb, .int .i64 b.used, .int .u64 b.seq, .bool b.closed] 130)) c.p g c.gb cap S) := ⟨HV.out.box.later (below_new _ _), Below.after HV.out.bel (below_new _ _)⟩
      have hR : Row (wr.alloc (.cells #[.int .i64 b.st, .int .i64 b.cnt, .int .i64 b.leb, .int .i64 b.used, .int .u64 b.seq, .bool b.closed] 130)) wr.heap.size (blCells b) 130 := Row.new wr (blCells b) _
      obtain ⟨W2, hW2⟩ : ∃ W2, W2 = wr.alloc (.cells #[.int .i64 b.st, .int .i64 b.cnt, .int .i64 b.leb, .int .i64 b.used, .int .u64 b.seq, .bool b.closed] 130) := ⟨_, rfl⟩
      rw [← hW2] at HV2 hR ⊢
      clear hW2 g0 g1 g2 g3 g4 g5 c2 fz HV
      have d2 : W2.cell? ⟨w1.heap.size, 2, none⟩ = some (.int .u64 S) := HV2.out.box.cell (i := 2) rfl
      have d4 : W2.cell? ⟨wr.heap.size, 4, none⟩ = some (.int .u64 b.seq) := hR.cell (i := 4) rfl
      have fz := HV2.out.box.frozen
      clear hR
      go_region
      have HV3 : Hid (Ov w1 (W2.setCell ⟨w1.heap.size, 2, none⟩ (.int .u64 (max S b.seq))).drew c.p g c.gb cap (max S b.seq)) := ⟨(HV2.out.box.set (i := 2) (.int .u64 (max S b.seq)) (by simp [mgRow])).later (below_drew' _), (HV2.out.bel.setCell (Nat.le_refl _) _).drew⟩
      go_wp2
      go_roundg (c.gb - (k + 1))
      case measure => omega
      case rel => exact ⟨k + 1, by omega, by go_num, by rw [HS.out]; exact HV3⟩
    · have hkl : k = c.gb := by omega
      have HT : Hid (l.take k = l) := List.take_of_length_le (by have := HLen.out; omega)
      rw [HT.out] at HV
      clear HT
      go_wp2
      refine bodyPost_ret (v := .tuple #[.pointer (some ⟨w1.heap.size, 0, none⟩), .int .i64 0]) ?_ rfl ⟨⟨w1.heap.size, g, cap, l, (maxS l).toNat, false⟩, rfl, ?_, rfl, maxS_nat l, rfl, Below.after HB.out HV.out.bel, HB.out.size, ?_⟩
      · simp [results, Tryz.f67, go_sem]
      · obtain ⟨g', cap', e, q1, q2, q3, hr⟩ := Row.of_owns (HO.out.later HV.out.bel).2 hb1
        simp only [Value.slice.injEq, Option.some.injEq, Addr.mk.injEq] at e
        obtain rfl := e.1.1
        obtain rfl := e.2.2
        have hbs : base ≤ w.heap.size := Nat.le_trans (HLI.out.low _ (.inl rfl)) (Nat.le_of_lt (HLI.out.foot_lt (.inl rfl)))
        refine ⟨?_, hr, (HLI.out.later HB.out).later' HV.out.bel, HLen.out, ⟨by show l.length ≤ _; rw [HLen.out]; exact q1, q2⟩, ⟨Nat.le_trans hbs HB.out.size, Nat.le_trans hbs q3⟩⟩
        have := HV.out.box
        unfold mgRow at this
        unfold mgCells
        simp only [HLen.out, maxS_nat]
        exact this
      · obtain ⟨g', cap', e, q1, q2, q3, hr⟩ := Row.of_owns (HO.out.later HV.out.bel).2 hb1
        simp only [Value.slice.injEq, Option.some.injEq, Addr.mk.injEq] at e
        obtain rfl := e.1.1
        exact q3
end Go.Proofs.YthffehaokndkeaaGreatDoor
namespace Go.Proofs.YthffehaokndkeaaGreatDoor
open Go.RowKit
set_option maxRecDepth 10000

theorem kept_fresh {w w1 w2 : World} {m : Mg} {c : CS} (hp : w.heap.size ≤ m.p) (hbb : w.heap.size ≤ m.bb) (hb : Below w.heap.size w w1) (hk : Kept (MFoot m c) w1 w2) : Kept c.foot w w2 :=
  ⟨hk.os.trans hb.os, hk.tape.trans hb.tape, hk.output.trans hb.output, Nat.le_trans hb.size hk.size, fun k hk1 hk2 => by
    rw [hk.block k (Nat.lt_of_lt_of_le hk1 hb.size) (by
      rintro (e | e | e)
      · omega
      · omega
      · exact hk2 e)]
    exact hb.block k hk1⟩
end Go.Proofs.YthffehaokndkeaaGreatDoor
namespace Go.Proofs.YthffehaokndkeaaGreatDoor
open Go.RowKit
set_option maxRecDepth 10000

/-- A right manager, with what stands in its logical blocks; all that lay below base is as it was in w0. -/
structure Al (base t : Nat) (w0 : World) (gz : Nat) (w : World) (m : Mg) (c : CS) (P : List (List (List Nat))) (f : Int → Option (List (List Nat))) : Prop where
  ms : Ms base t w m c P
  gl : Hd.Glb w
  fn : ∀ l, cont m.bl P l = f l
  kp : Kept (fun k => base ≤ k) w0 w
  hb : 0 < base
  z : c.gz = gz
theorem Al.later {base t : Nat} {w0 : World} {gz : Nat} {w w' : World} {m : Mg} {c : CS} {P : List (List (List Nat))} {f : Int → Option (List (List Nat))} (h : Al base t w0 gz w m c P f) (hb : Below w.heap.size w w') : Al base t w0 gz w' m c P f :=
  ⟨h.ms.later hb, h.gl.later hb, h.fn, h.kp.trans (.of_below hb), h.hb, h.z⟩
theorem Glb.kp {w w' : World} {S : Nat → Prop} (h : Hd.Glb w) (hk : Kept S w w') (hn : ¬ S 0) : Hd.Glb w' := by
  obtain ⟨x, hx⟩ := h
  exact ⟨x, cell_kept hk hn hx⟩
theorem Al.done {base t t' : Nat} {w0 : World} {gz : Nat} {w w' : World} {m : Mg} {c : CS} {P : List (List (List Nat))} {f g : Int → Option (List (List Nat))} (h : Al base t w0 gz w m c P f) (hd : Done base t' w m c g w') : ∃ m' c' P', Al base t' w0 gz w' m' c' P' g ∧ Gm c c' ∧ m'.p = m.p ∧ MFoot m' c' = MFoot m c ∧ Kept (MFoot m c) w w' := by
  obtain ⟨m', c', P', h1, h2, h3, h4, h5, h6⟩ := hd
  refine ⟨m', c', P', ⟨h1, Glb.kp h.gl h6 (fun hf => ?_), h2, h.kp.trans (h6.mono h.ms.ml.foot_ge), h.hb, by rw [h3.gz]; exact h.z⟩, h3, h4, h5, h6⟩
  have := h.ms.ml.foot_ge _ hf
  have := h.hb
  omega
theorem Al.rd {base t : Nat} {w0 : World} {gz : Nat} {w w' : World} {m : Mg} {c : CS} {P : List (List (List Nat))} {f : Int → Option (List (List Nat))} {l : List Nat} {a : Option Addr} {n cap : Nat} (h : Al base t w0 gz w m c P f) (hr : RdP base w m c l a n cap w') : Al base t w0 gz w' m c P f :=
  ⟨h.ms.rd hr, Glb.kp h.gl hr.kp (fun e => by have := h.ms.ml.low.1; have := h.hb; omega), h.fn, h.kp.trans (hr.kp.mono fun k e => by rw [e]; exact h.ms.ml.low.1), h.hb, h.z⟩
theorem Al.below {base t : Nat} {w0 : World} {gz : Nat} {w : World} {m : Mg} {c : CS} {P : List (List (List Nat))} {f : Int → Option (List (List Nat))} (h : Al base t w0 gz w m c P f) (hb : base ≤ w0.heap.size) : Below base w0 w := h.kp.below hb (fun _ e => e)
theorem new_bytes (w : World) (x : Nat) : BRow (w.alloc (.cells #[.int .u8 (x : Int)] 5 (1, 2))) (some ⟨w.heap.size, 0, none⟩) [x] := by
  refine .inr ⟨w.heap.size, 0, rfl, fun i hi => ?_⟩
  simp at hi
  subst hi
  rw [Nat.zero_add, World.cell?_alloc_mark]
  rfl
theorem dt_lit {base : Nat} {W : World} {m : Mg} {c : CS} (h : MLies base W m c) (x : Nat) (hx : x < 256) : Dt (MFoot m c) (W.alloc (.cells #[.int .u8 (x : Int)] 5 (1, 2))) (some ⟨W.heap.size, 0, none⟩) [x] := by
  refine ⟨by simpa using hx, .inr ⟨W.heap.size, 0, rfl, MFoot_new h (Nat.le_refl _), ?_⟩⟩
  rcases new_bytes W x with e | ⟨b, off, e, hc⟩
  · cases e
  · cases e
    exact hc
theorem format_al {w : World} {c : CS} {base : Nat} {w0 : World} (h : Lies base w c) (hf : Fresh c) (hg : Hd.Glb w) (hgb : 0 < base) (ht : Typed w) (hte : 1 < base) (hk : Kept (fun k => base ≤ k) w0 w) :
    Calls Tryz.prog 32 #[.pointer (some ⟨c.p, 0, none⟩)] w fun e w' => ∃ m c' P, e = .returned (.tuple #[.pointer (some ⟨m.p, 0, none⟩), .int .i64 0]) ∧ Al base 1 w0 c.gz w' m c' P (fun _ => none) ∧ Gm c c' ∧ c'.fs = [] := by
  refine (format_new h hf hg hgb ht hte).mono ?_
  rintro e w' ⟨m, c', P, rfl, h1, h2, h3, h4, h5, h6⟩
  exact ⟨m, c', P, rfl, ⟨h1, Glb.kp hg h5 (by omega), h2, hk.trans h5, hgb, h3.gz⟩, h3, h6⟩
theorem al_write {base t : Nat} {w0 : World} {gz : Nat} {W : World} {m : Mg} {c : CS} {P : List (List (List Nat))} {f : Int → Option (List (List Nat))} (h : Al base t w0 gz W m c P f) (x : Nat) (hx : x < 256) (hg : (c.gr : Int) + 2 < c.gb) (hl : 2 + ((f 0).getD []).length < c.gp) (ht : t < 1000) :
    Calls Tryz.prog 90 #[.pointer (some ⟨m.p, 0, none⟩), .int .i64 0, .slice (some ⟨W.heap.size, 0, none⟩) 1 1] (W.alloc (.cells #[.int .u8 (x : Int)] 5 (1, 2))) fun e w' => e = .returned (.int .i64 0) ∧ ∃ m' c' P', Al base (t + 1) w0 gz w' m' c' P' (fun l => if l = 0 then some ((f 0).getD [] ++ [fillP gz [x]]) else f l) ∧ Gm c c' ∧ m'.p = m.p ∧ MFoot m' c' = MFoot m c ∧ Kept (MFoot m c) W w' := by
  have hb := below_new W (.cells #[.int .u8 (x : Int)] 5 (1, 2))
  have hA := h.later hb
  have hgz := h.ms.rp.rb.geo
  have := write_go hA.ms 0 1 (some ⟨W.heap.size, 0, none⟩) [x] (dt_lit h.ms.ml x hx) (by show (0 : Int) + _ + 2 < _; omega) (by simp; omega) (by show 2 + ((cont m.bl P 0).getD []).length < _; rw [h.fn 0]; exact hl) (by omega)
  refine Calls.mono this ?_
  rintro e w' ⟨rfl, hd⟩
  obtain ⟨m', c', P', h1, h2, h3, h4, h5⟩ := hA.done hd
  refine ⟨rfl, m', c', P', ⟨h1.ms, h1.gl, fun l => ?_, h1.kp, h1.hb, h1.z⟩, h2, h3, h4, (Kept.of_below hb).trans h5⟩
  rw [h1.fn l]
  show (if l = ((0 : Nat) : Int) then some ((cont m.bl P ((0 : Nat) : Int)).getD [] ++ [fillP c.gz [x]]) else cont m.bl P l) = _
  rw [h.z, h.fn l]
  have e0 : cont m.bl P ((0 : Nat) : Int) = f 0 := h.fn 0
  rw [e0]
  rfl
theorem al_change {base t : Nat} {w0 : World} {gz : Nat} {W : World} {m : Mg} {c : CS} {P : List (List (List Nat))} {f : Int → Option (List (List Nat))} (h : Al base t w0 gz W m c P f) (x : Nat) (hx : x < 256) (hg : (c.gr : Int) + 2 < c.gb) (ht : t < 1000) :
    Calls Tryz.prog 23 #[.pointer (some ⟨m.p, 0, none⟩), .int .i64 0, .slice (some ⟨W.heap.size + 1, 0, none⟩) 1 1] ((W.alloc (.cells #[.int .u8 (x : Int)] 5 (1, 2))).alloc (.cells #[.slice (some ⟨W.heap.size, 0, none⟩) 1 1] 39)) fun e w' => e = .returned (.int .i64 0) ∧ ∃ m' c' P', Al base (t + 1) w0 gz w' m' c' P' (fun l => if l = 0 then some [fillP gz [x]] else f l) ∧ Gm c c' ∧ m'.p = m.p ∧ MFoot m' c' = MFoot m c ∧ Kept (MFoot m c) W w' := by
  obtain ⟨W1, hW1⟩ : ∃ W1, W1 = W.alloc (.cells #[.int .u8 (x : Int)] 5 (1, 2)) := ⟨_, rfl⟩
  have hs1 : W1.heap.size = W.heap.size + 1 := by rw [hW1]; simp
  have hb1 : Below W.heap.size W W1 := by rw [hW1]; exact below_new W _
  have hd1 : Dt (MFoot m c) W1 (some ⟨W.heap.size, 0, none⟩) [x] := by rw [hW1]; exact dt_lit h.ms.ml x hx
  rw [← hW1, ← hs1]
  have hb2 := below_new W1 (.cells #[.slice (some ⟨W.heap.size, 0, none⟩) 1 1] 39)
  have hA := (h.later hb1).later hb2
  have hgz := h.ms.rp.rb.geo
  have hpd : PDt (MFoot m c) (W1.alloc (.cells #[.slice (some ⟨W.heap.size, 0, none⟩) 1 1] 39)) (some ⟨W1.heap.size, 0, none⟩) [[x]] := by
    refine .inr ⟨W1.heap.size, 0, rfl, MFoot_new (h.later hb1).ms.ml (Nat.le_refl _), fun i d hd => ?_⟩
    cases i with
    | succ i => simp at hd
    | zero =>
      simp at hd
      subst hd
      exact ⟨some ⟨W.heap.size, 0, none⟩, 1, (Row.new W1 [.slice (some ⟨W.heap.size, 0, none⟩) 1 1] 39).cell (i := 0) rfl, hd1.kept (.of_below hb2)⟩
  have := change_go hA.ms 0 1 (some ⟨W1.heap.size, 0, none⟩) [[x]] hpd (by show (0 : Int) + _ + 2 < _; omega) (by simp; omega) (by simp; omega) (by omega)
  refine Calls.mono this ?_
  rintro e w' ⟨rfl, hd⟩
  obtain ⟨m', c', P', h1, h2, h3, h4, h5⟩ := hA.done hd
  refine ⟨rfl, m', c', P', ⟨h1.ms, h1.gl, fun l => ?_, h1.kp, h1.hb, h1.z⟩, h2, h3, h4, (Kept.of_below (Below.after hb1 hb2)).trans h5⟩
  rw [h1.fn l]
  show (if l = ((0 : Nat) : Int) then some ([[x]].map (fillP c.gz)) else cont m.bl P l) = _
  rw [h.z, h.fn l]
  rfl
theorem fill_lt (gz x : Nat) (hx : x < 256) : ∀ y ∈ fillP gz [x], y < 256 := by
  intro y hy
  unfold fillP at hy
  rcases List.mem_append.1 hy with h | h
  · simp at h; omega
  · simp at h; omega
theorem rd_open {base : Nat} {W w' : World} {m : Mg} {c : CS} {x : Nat} {a : Option Addr} {n cap : Nat} (hr : RdP base W m c (fillP c.gz [x]) a n cap w') (h : MLies base W m c) (hx : x < 256) (hz : c.gz = 128) : n = 128 ∧ ∃ b o, a = some ⟨b, o, none⟩ ∧ Dt (MFoot m c) w' (some ⟨b, o, none⟩) (fillP c.gz [x]) ∧ w'.cell? ⟨b, o, none⟩ = some (.int .u8 (x : Int)) := by
  refine ⟨by rw [hr.len, fillP_length (by simp; omega), hz], ?_⟩
  rcases hr.row with e | ⟨b, o, rfl, hc⟩
  · unfold fillP at e; simp at e
  · refine ⟨b, o, rfl, ⟨fill_lt _ _ hx, .inr ⟨b, o, rfl, ?_, hc⟩⟩, ?_⟩
    · rcases hr.fresh with e | e
      · unfold fillP at e; simp at e
      · exact MFoot_new h (e b o rfl)
    · have := hc 0 (by rw [fillP_length (by simp; omega)]; omega)
      rw [Nat.add_zero] at this
      rw [this]
      unfold fillP
      rfl
theorem dt_cell {S : Nat → Prop} {w : World} {b o x gz : Nat} (h : Dt S w (some ⟨b, o, none⟩) (fillP gz [x])) (hz : gz = 128) : w.cell? ⟨b, o, none⟩ = some (.int .u8 (x : Int)) := by
  rcases h.row with e | ⟨b', o', e, _, hc⟩
  · unfold fillP at e; simp at e
  · cases e
    have := hc 0 (by rw [fillP_length (by simp; omega)]; omega)
    rw [Nat.add_zero] at this
    rw [this]
    unfold fillP
    rfl
/-- The bytes lie on for a manager that is new. -/
theorem dt_fresh {w w' : World} {m m' : Mg} {c : CS} {a : Option Addr} {d : List Nat} (h : Dt (MFoot m c) w a d) (hk : Kept c.foot w w') (hp : w.heap.size ≤ m'.p) (hb : w.heap.size ≤ m'.bb) : Dt (MFoot m' c) w' a d := by
  refine ⟨h.lt, ?_⟩
  rcases h.row with e | ⟨b, off, e, hn, hc⟩
  · exact .inl e
  · by_cases hd : d = []
    · exact .inl hd
    · have hlt : b < w.heap.size := by
        have := hc 0 (List.length_pos_iff.2 hd)
        exact World.block_lt_of_cell? w _ this
      refine .inr ⟨b, off, e, ?_, fun i hi => cell_kept hk (fun hf => hn (.inr (.inr hf))) (hc i hi)⟩
      rintro (e2 | e2 | e2)
      · omega
      · omega
      · exact hn (.inr (.inr e2))
theorem al_read {base t : Nat} {w0 : World} {gz : Nat} {W : World} {m : Mg} {c : CS} {P : List (List (List Nat))} {f : Int → Option (List (List Nat))} (h : Al base t w0 gz W m c P f) (k : Nat) (hg : (c.gr : Int) + 2 < c.gb) (p : List (List Nat)) (hp : f 0 = some p) (l : List Nat) (hl : p[k]? = some l) :
    Calls Tryz.prog 75 #[.pointer (some ⟨m.p, 0, none⟩), .int .i64 0, .int .i64 (k : Nat)] W fun e w' => ∃ a n cap, e = .returned (.tuple #[.slice a n cap, .int .i64 0]) ∧ RdP base W m c l a n cap w' ∧ Al base t w0 gz w' m c P f := by
  refine (read_go h.ms 0 k (by omega) (by omega) p (by rw [h.fn 0]; exact hp) l hl).mono ?_
  rintro e w' ⟨a, n, cap, rfl, hr⟩
  exact ⟨a, n, cap, rfl, hr, h.rd hr⟩
end Go.Proofs.YthffehaokndkeaaGreatDoor
namespace Go.Proofs.YthffehaokndkeaaGreatDoor
open Go.RowKit
set_option maxRecDepth 10000

/-- A manager's first cell, its chip; nothing that S says is written is that box. -/
structure MOwn (S : Nat → Prop) (w : World) (p q : Nat) : Prop where
  cell : w.cell? ⟨p, 0, none⟩ = some (.pointer (some ⟨q, 0, none⟩))
  no : ¬ S p
theorem MOwn.kept {S : Nat → Prop} {w w' : World} {p q : Nat} (h : MOwn S w p q) (hk : Kept S w w') : MOwn S w' p q := ⟨cell_kept hk h.no h.cell, h.no⟩
theorem own_fresh {base : Nat} {w w' : World} {m m' : Mg} {c : CS} (h : MLies base w m c) (hk : Kept c.foot w w') (hp : w.heap.size ≤ m'.p) (hb : w.heap.size ≤ m'.bb) : MOwn (MFoot m' c) w' m.p c.p := by
  have hn := h.chip.apart h.box (by decide) (by decide) (by decide)
  have hlt := h.box.lt
  refine ⟨cell_kept hk hn h.cells.1, ?_⟩
  rintro (e | e | e)
  · omega
  · omega
  · exact hn e
theorem mchip_at {w : World} {p q : Nat} (c0 : w.cell? ⟨p, 0, none⟩ = some (.pointer (some ⟨q, 0, none⟩))) :
    Calls Tryz.prog 11 #[.pointer (some ⟨p, 0, none⟩)] w fun e w' => e = .returned (.pointer (some ⟨q, 0, none⟩)) ∧ w = w' := by
  go_enter Tryz.func11, Tryz.ntmps11
  go_wp2
  go_ret
  exact ⟨rfl, rfl⟩
theorem mlebs_at {base : Nat} {w : World} {p : Nat} {c : CS} (c0 : w.cell? ⟨p, 0, none⟩ = some (.pointer (some ⟨c.p, 0, none⟩))) (h : Lies base w c) :
    Calls Tryz.prog 88 #[.pointer (some ⟨p, 0, none⟩)] w fun e w' => e = .returned (.int .i64 (lebsI c.gb c.gp c.gz c.gr)) ∧ Below w.heap.size w w' := by
  have k1 := mchip_at c0
  have k2 := geometry_any h
  have k3 := fun W => lebs_any (c.gb : Nat) (c.gp : Nat) (c.gz : Nat) (c.gr : Nat) W
  clear h c0
  go_enter Tryz.func88, Tryz.ntmps88
  go_wp2_with (first
    | (go_at_call 11; refine k1.mono ?_; rintro e w1 ⟨rfl, rfl⟩)
    | (go_at_call 77; refine k2.mono ?_; rintro e w1 ⟨rfl, hb⟩)
    | (go_at_call 115; refine (k3 _).mono ?_; rintro e w2 ⟨rfl, hb2⟩))
  go_ret
  exact ⟨rfl, Below.after hb hb2⟩
theorem same_dt {S : Nat → Prop} {w : World} {a b : Option Addr} {gz x : Nat} {c1 c2 : Nat} (ha : Dt S w a (fillP gz [x])) (hb : Dt S w b (fillP gz [x])) (hz : gz = 128) :
    Calls Tryz.prog 53 #[.slice a 128 c1, .slice b 128 c2] w fun e w' => e = .returned (.bool true) ∧ w = w' := by
  have := same_any a c1 _ b c2 _ w ha.lt hb.lt ha.brow hb.brow
  rw [decide_eq_true rfl, fillP_length (by simp; omega), hz] at this
  exact this
end Go.Proofs.YthffehaokndkeaaGreatDoor
namespace Go.Proofs.YthffehaokndkeaaGreatDoor
open Go.RowKit
set_option maxRecDepth 10000

end Go.Proofs.YthffehaokndkeaaGreatDoor
namespace Go.Proofs.YthffehaokndkeaaGreatDoor
open Go.ChangeShapes Go.WideShapes Go.ChangeAt Go.RowKit

theorem own : ownKnob Tryz.prog.godebug = none := by kernel_rfl
theorem laidOut : laidOutB Tryz.prog = true := by kernel_rfl
theorem bytes8 : Tryz.prog.bytesOf 5 = 1 := by kernel_rfl
/-- The slice's elements are the bytes l; a nil one has none. -/
structure BArg (w : World) (a : Option Addr) (len cap : Nat) (l : List Nat) : Prop where
  len_eq : len = l.length
  le : len ≤ cap
  max : cap ≤ maxLen
  lt : ∀ x ∈ l, x < 256
  row : BRow w a l
  nil : a = none → len = 0 ∧ cap = 0

theorem toNats (zs : List Int) (hwz : ∀ n ∈ zs, (Lit.int .u8 n).wf = true) (i : Nat) (hi : i < zs.length) : (((zs.map Int.toNat).getD i 0 : Nat) : Int) = zs.getD i 0 := by
  have hb := bounds_u8 (hwz zs[i] (List.getElem_mem hi))
  simp [List.getD, hi]
  omega

theorem barg_mk {w : World} {x : Addr} {len cap : Nat} {zs : List Int} (hl : len ≤ cap) (hm : cap ≤ maxLen) (hz : zs.length = cap)
    (hcell : ∀ i, i < zs.length → w.cell? (x.add i) = some (.int .u8 (zs.getD i 0))) (hwz : ∀ n ∈ zs, (Lit.int .u8 n).wf = true) :
    BArg w (some x) len cap ((zs.take len).map Int.toNat) where
  len_eq := by simp; omega
  le := hl
  max := hm
  lt := by
    intro y hy
    simp only [List.mem_map] at hy
    obtain ⟨z, hz1, rfl⟩ := hy
    have := bounds_u8 (hwz z (List.mem_of_mem_take hz1))
    omega
  row := by
    by_cases h0 : len = 0
    · exact .inl (by simp [h0])
    · obtain ⟨b, off, spot⟩ := x
      have hc := hcell 0 (by omega)
      have hspot : spot = none := by simpa [Addr.add] using World.cell?_spot hc
      subst hspot
      refine .inr ⟨b, off, rfl, fun i hi => ?_⟩
      have hil : i < len := by simp at hi; omega
      have h1 := hcell i (by omega)
      have e : (⟨b, off, none⟩ : Addr).add i = ⟨b, off + i, none⟩ := by unfold Addr.add; split <;> simp_all
      rw [e] at h1
      rw [h1, toNats (zs.take len) (fun n hn => hwz n (List.mem_of_mem_take hn)) i (by simp; omega)]
      simp [List.getD, hil]
  nil := by intro h; cases h

theorem barg_open_sized {H : Type} {enc : TypeId × Value → H} {w : World} {a : Option Addr} {len cap fuel : Nat} {d : DataW H} {p : List MemPlace}
    (hf : DataW.trod enc Tryz.prog w 0 (fun _ => true) true fuel 39 (Value.slice a len cap).cells.toList = some (d, p)) :
    ∃ l, BArg w a len cap l ∧ (cap = 0 ∨ ∃ elems spare, d = .slice elems spare ∧ elems.length + spare.length = cap) := by
  rcases open_ints Tryz.underlying39 Tryz.underlying5 (by kernel_rfl) hf with ⟨hcs, _⟩ | ⟨x, l, c, zs, hcs, _, hl, hm, hz, hx, hcell, hwz⟩
  · simp [Value.cells] at hcs
    obtain ⟨rfl, rfl, rfl⟩ := hcs
    exact ⟨[], ⟨rfl, Nat.le_refl _, by decide, by simp, .inl rfl, fun _ => ⟨rfl, rfl⟩⟩, .inl rfl⟩
  · simp [Value.cells] at hcs
    obtain ⟨rfl, rfl, rfl⟩ := hcs
    have hz' : zs.length = cap := by simpa using hz
    refine ⟨_, barg_mk hl hm hz' hcell hwz, .inr ⟨_, _, (Prod.mk.inj hx).1, ?_⟩⟩
    simp [lits]
    omega
theorem barg_open {H : Type} {enc : TypeId × Value → H} {w : World} {a : Option Addr} {len cap fuel : Nat} {d : DataW H} {p : List MemPlace}
    (hf : DataW.trod enc Tryz.prog w 0 (fun _ => true) true fuel 39 (Value.slice a len cap).cells.toList = some (d, p)) :
    ∃ l, BArg w a len cap l := by
  obtain ⟨l, h, _⟩ := barg_open_sized hf
  exact ⟨l, h⟩
end Go.Proofs.YthffehaokndkeaaGreatDoor
namespace Go.Proofs.YthffehaokndkeaaGreatDoor
open Go.RowKit Go.ChangeShapes Go.WideShapes Go.ChangeAt
set_option maxRecDepth 10000

set_option maxRecDepth 100000 in
theorem garg_open {H : Type} {enc : TypeId × Value → H} {w : World} {cs : Array Value} {fuel : Nat} {x : DataW H × List MemPlace} (hsz : cs.size = Tryz.prog.cellsOf 23)
    (hf : DataW.trod enc Tryz.prog w 0 (fun _ => true) true fuel 23 (Value.agg cs).cells.toList = some x) : ∃ b p z r, cs = #[.int .i64 b, .int .i64 p, .int .i64 z, .int .i64 r] := by
  rw [show Tryz.prog.cellsOf 23 = 4 by kernel_rfl] at hsz
  obtain ⟨xs, k, hk, hxy, _, hxl, hff⟩ := DataW.trod_struct Tryz.underlying23 hf
  obtain ⟨v0, v1, v2, v3, rfl⟩ : ∃ v0 v1 v2 v3, cs = #[v0, v1, v2, v3] := by
    obtain ⟨l⟩ := cs
    match l, hsz with
    | [v0, v1, v2, v3], _ => exact ⟨v0, v1, v2, v3, rfl⟩
  match xs, hxl with
  | [y0, y1, y2, y3], _ =>
    have g0 := hff 0 _ rfl
    have g1 := hff 1 _ rfl
    have g2 := hff 2 _ rfl
    have g3 := hff 3 _ rfl
    have ci : Tryz.prog.cellsOf 3 = 1 := by kernel_rfl
    simp [ci, Value.cells] at g0 g1 g2 g3
    obtain ⟨z0, e0, _, _⟩ := DataW.trod_int Tryz.underlying3 g0
    obtain ⟨z1, e1, _, _⟩ := DataW.trod_int Tryz.underlying3 g1
    obtain ⟨z2, e2, _, _⟩ := DataW.trod_int Tryz.underlying3 g2
    obtain ⟨z3, e3, _, _⟩ := DataW.trod_int Tryz.underlying3 g3
    simp at e0 e1 e2 e3
    exact ⟨z0, z1, z2, z3, by rw [e0, e1, e2, e3]⟩
theorem right_nums {b p z r : Int} (h : rightB b p z r = true) : ∃ gb gp gz gr : Nat, b = gb ∧ p = gp ∧ z = gz ∧ r = gr ∧ 1 ≤ gb ∧ gb ≤ 256 ∧ 1 ≤ gp ∧ gp ≤ 64 ∧ 1 ≤ gz ∧ gz ≤ 512 := by
  unfold rightB at h
  simp only [Bool.and_eq_true, decide_eq_true_eq] at h
  obtain ⟨h1, h2, _, h3, _, _, h4⟩ := h
  exact ⟨b.toNat, p.toNat, z.toNat, r.toNat, by omega, by omega, by omega, by omega, by omega, by omega, by omega, by omega, by omega, by omega⟩
theorem plan_nil : (0 : Nat) ≤ 256 ∧ planOk [] := ⟨by decide, by simp [planOk]⟩
theorem new_c0 (b p z r : Int) (W : World) (h : rightB b p z r = false) :
    Calls Tryz.prog 31 #[.agg #[.int .i64 b, .int .i64 p, .int .i64 z, .int .i64 r], .slice none 0 0] W fun e w' => e = .returned (.tuple #[.pointer none, .int .i64 22]) ∧ Below W.heap.size W w' :=
  new_shape b p z r none 0 0 [] W rfl (.inl rfl) plan_nil h
set_option maxHeartbeats 1000000 in
theorem mwrite_no {base : Nat} {w : World} {m : Mg} {c : CS} (h : MLies base w m c) (leb : Int) (a : Option Addr) (n dc : Nat) (hh : hasB c leb = false) :
    Calls Tryz.prog 90 #[.pointer (some ⟨m.p, 0, none⟩), .int .i64 leb, .slice a n dc] w fun e w' => e = .returned (.int .i64 22) ∧ Below w.heap.size w w' := by
  obtain ⟨W3, hW3, hb3, r0, r1, r2⟩ := box3 w (.pointer (some ⟨m.p, 0, none⟩)) (.int .i64 leb) (.slice a n dc) 26 3 39
  have HM : Hid (∀ X, Below w.heap.size w X → MLies base X m c) := fun X hb => h.later hb
  have HB3 : Hid (Below w.heap.size w W3 ∧ Row W3 w.heap.size [.pointer (some ⟨m.p, 0, none⟩)] 26 ∧ Row W3 (w.heap.size + 1) [.int .i64 leb] 3 ∧ Row W3 (w.heap.size + 1 + 1) [.slice a n dc] 39) := ⟨hb3, r0, r1, r2⟩
  have p0 : W3.cell? ⟨w.heap.size, 0, none⟩ = some (.pointer (some ⟨m.p, 0, none⟩)) := r0.cell (i := 0) rfl
  have ne := Wd.non W3
  have z0 : ∀ p : Wd W3, p.v.cell? ⟨w.heap.size, 0, none⟩ = some (.pointer (some ⟨m.p, 0, none⟩)) := fun p => (HB3.out.2.1.later p.h).cell (i := 0) rfl
  have z1 : ∀ p : Wd W3, p.v.cell? ⟨w.heap.size + 1, 0, none⟩ = some (.int .i64 leb) := fun p => (HB3.out.2.2.1.later p.h).cell (i := 0) rfl
  have z2 : ∀ p : Wd W3, p.v.cell? ⟨w.heap.size + 1 + 1, 0, none⟩ = some (.slice a n dc) := fun p => (HB3.out.2.2.2.later p.h).cell (i := 0) rfl
  have cH := fun p : Wd W3 => quiet_call p (by have := mhas_any (HM.out p.v (Below.after hb3 p.h)) leb; rw [hh] at this; exact this)
  clear h hh hb3 r0 r1 r2
  go_enter Tryz.func90, Tryz.ntmps90
  go_wp2_with fail
  rw [← hW3]
  clear hW3
  refine quiet_below (by kernel_rfl) ?_
  repeat (first | go_big_quiet_skip | go_big_quiet_step (first
    | (go_at_call 58; exact cH _)))
  refine wpQuiet_nil ?_
  rintro _ ⟨p4, rfl⟩
  obtain ⟨w4, hw4⟩ : ∃ W, W = p4.v := ⟨_, rfl⟩
  have HB4 : Hid (Below w.heap.size w w4) := by rw [hw4]; exact Below.after HB3.out.1 p4.h
  rw [← hw4]
  clear hw4
  clear p4
  go_wp2
  go_ret
  exact ⟨rfl, HB4.out⟩
theorem dt_arg {base : Nat} {w W : World} {m : Mg} {c : CS} {a : Option Addr} {l : List Nat} (hl : ∀ x ∈ l, x < 256) (hr : BRow w a l) (hb : w.heap.size ≤ base) (hk : Kept (fun k => base ≤ k) w W) (h : MLies base W m c) : Dt (MFoot m c) W a l := by
  refine ⟨hl, ?_⟩
  rcases hr with e | ⟨b, off, e, hc⟩
  · exact .inl e
  · by_cases hd : l = []
    · exact .inl hd
    · have hlt : b < w.heap.size := World.block_lt_of_cell? w _ (hc 0 (List.length_pos_iff.2 hd))
      exact .inr ⟨b, off, e, fun hf => (by have := h.foot_ge _ hf; omega), fun i hi => cell_kept hk (show ¬ base ≤ b by omega) (hc i hi)⟩
/-- A manager with k pages in one logical block, and none in the others. -/
structure Fu (base k t : Nat) (w0 : World) (leb : Int) (c0 : CS) (w : World) (m : Mg) (c : CS) (P : List (List (List Nat))) (f : Int → Option (List (List Nat))) : Prop where
  al : Al base t w0 c0.gz w m c P f
  gm : Gm c0 c
  num : ((f leb).getD []).length = k
  els : ∀ l, l ≠ leb → f l = none
theorem Fu.later {base k t : Nat} {w0 : World} {leb : Int} {c0 : CS} {w w' : World} {m : Mg} {c : CS} {P : List (List (List Nat))} {f : Int → Option (List (List Nat))} (h : Fu base k t w0 leb c0 w m c P f) (hb : Below w.heap.size w w') : Fu base k t w0 leb c0 w' m c P f := ⟨h.al.later hb, h.gm, h.num, h.els⟩
theorem fu_write {base k t : Nat} {w0 : World} {leb : Int} {c0 : CS} {W : World} {m : Mg} {c : CS} {P : List (List (List Nat))} {f : Int → Option (List (List Nat))} (h : Fu base k t w0 leb c0 W m c P f) (a : Option Addr) (l : List Nat) (dc : Nat) (h0 : 0 ≤ leb) (h1 : leb + c.gr + 2 < c.gb) (hr : BRow w0 a l) (hl : ∀ x ∈ l, x < 256) (hb : w0.heap.size ≤ base) (hz : l.length ≤ c.gz) (hk : 2 + k < c.gp) (ht : t < 1000) :
    Calls Tryz.prog 90 #[.pointer (some ⟨m.p, 0, none⟩), .int .i64 leb, .slice a l.length dc] W fun e w' => e = .returned (.int .i64 0) ∧ ∃ m' c' P' f', Fu base (k + 1) (t + 1) w0 leb c0 w' m' c' P' f' ∧ m'.p = m.p := by
  obtain ⟨n, rfl⟩ : ∃ n : Nat, leb = n := ⟨leb.toNat, by omega⟩
  have hA := h.al
  have hfn := hA.fn n
  have hd := dt_arg hl hr hb hA.kp hA.ms.ml
  refine Calls.mono (write_go hA.ms n dc a l hd h1 hz (by rw [hfn, h.num]; exact hk) (by omega)) ?_
  rintro e w' ⟨rfl, hd⟩
  obtain ⟨m', c', P', q1, q2, q3, q4, q5⟩ := hA.done hd
  refine ⟨rfl, m', c', P', _, ⟨q1, h.gm.trans q2, ?_, fun l hl => ?_⟩, q3⟩
  · simp only [if_true]
    rw [hfn]
    simp [h.num]
  · simp only [if_neg hl]
    rw [hA.fn l]
    exact h.els l hl
theorem fu_full {base k t : Nat} {w0 : World} {leb : Int} {c0 : CS} {W : World} {m : Mg} {c : CS} {P : List (List (List Nat))} {f : Int → Option (List (List Nat))} (h : Fu base k t w0 leb c0 W m c P f) (a : Option Addr) (l : List Nat) (dc : Nat) (h0 : 0 ≤ leb) (h1 : leb + c.gr + 2 < c.gb) (hz : l.length ≤ c.gz) (hk : 2 + k = c.gp) (hk0 : 0 < k) :
    Calls Tryz.prog 90 #[.pointer (some ⟨m.p, 0, none⟩), .int .i64 leb, .slice a l.length dc] W fun e w' => e = .returned (.int .i64 28) ∧ ∃ m' c' P' f', Fu base k t w0 leb c0 w' m' c' P' f' ∧ m'.p = m.p := by
  obtain ⟨n, rfl⟩ : ∃ n : Nat, leb = n := ⟨leb.toNat, by omega⟩
  have hA := h.al
  have hfn := hA.fn n
  have hnum := h.num
  cases hp : f n with
  | none => rw [hp] at hnum; simp at hnum; omega
  | some p =>
    rw [hp] at hnum
    simp only [Option.getD_some] at hnum
    refine Calls.mono (write_full hA.ms n dc a l h1 hz p (by rw [hfn, hp]) (by omega)) ?_
    rintro e w' ⟨rfl, hd⟩
    obtain ⟨m', c', P', q1, q2, q3, q4, q5⟩ := hA.done hd
    refine ⟨rfl, m', c', P', _, ⟨q1, h.gm.trans q2, ?_, fun l hl => ?_⟩, q3⟩
    · rw [hfn]; exact h.num
    · rw [hA.fn l]; exact h.els l hl
theorem fu_used {base k t : Nat} {w0 : World} {leb : Int} {c0 : CS} {W : World} {m : Mg} {c : CS} {P : List (List (List Nat))} {f : Int → Option (List (List Nat))} (h : Fu base k t w0 leb c0 W m c P f) :
    Calls Tryz.prog 36 #[.pointer (some ⟨m.p, 0, none⟩), .int .i64 leb] W fun e w' => e = .returned (.int .i64 (k : Nat)) ∧ Below W.heap.size W w' := by
  have := used_go h.al.ms leb
  rw [h.al.fn leb, h.num] at this
  exact this
theorem Fu.other {base k t : Nat} {w0 : World} {leb : Int} {c0 : CS} {W : World} {m : Mg} {c : CS} {P : List (List (List Nat))} {f : Int → Option (List (List Nat))} (h : Fu base k t w0 leb c0 W m c P f) (o : Int) (ho : o ≠ leb) (a : Option Addr) (l : List Nat) (dc : Nat) (h0 : 0 ≤ o) (h1 : o + c.gr + 2 < c.gb) (hr : BRow w0 a l) (hl : ∀ x ∈ l, x < 256) (hb : w0.heap.size ≤ base) (hz : l.length ≤ c.gz) (ht : t < 1000) :
    Calls Tryz.prog 90 #[.pointer (some ⟨m.p, 0, none⟩), .int .i64 o, .slice a l.length dc] W fun e w' => e = .returned (.int .i64 0) ∧ ∃ m' c' P' f', Al base (t + 1) w0 c0.gz w' m' c' P' f' ∧ m'.p = m.p ∧ ((f' o).getD []).length = 1 := by
  obtain ⟨n, rfl⟩ : ∃ n : Nat, o = n := ⟨o.toNat, by omega⟩
  have hA := h.al
  have hfn := hA.fn n
  have hd := dt_arg hl hr hb hA.kp hA.ms.ml
  have hg := hA.ms.rp.rb.geo
  refine Calls.mono (write_go hA.ms n dc a l hd h1 hz (by rw [hfn, h.els _ ho]; simp; omega) (by omega)) ?_
  rintro e w' ⟨rfl, hd⟩
  obtain ⟨m', c', P', q1, q2, q3, q4, q5⟩ := hA.done hd
  refine ⟨rfl, m', c', P', _, q1, q3, ?_⟩
  simp only [if_true]
  rw [hfn, h.els _ ho]
  rfl
end Go.Proofs.YthffehaokndkeaaGreatDoor
namespace Go.Proofs.YthffehaokndkeaaGreatDoor
open Go.ChangeShapes Go.WideShapes Go.ChangeAt Go.RowKit

def laid : List (String × DataW Unit) := [("errors.errorType", Rows.laid_errors_errorType), ("pumice/header.errNoImage", Rows.laid_pumice_header_errNoImage)]
def laid1 : List (String × DataW Unit) := [("pumice/header.errNoImage", Rows.laid_pumice_header_errNoImage)]
theorem en : Tryz.prog.globalNamed "pumice/header.errNoImage" = some 0 := by kernel_rfl
theorem enType : (Tryz.prog.globals[0]?).map (·.type) = some 111 := by kernel_rfl
theorem star : "*" ++ "errors.errorString" = "*errors.errorString" := by decide
theorem rowES (u : TypeId) (h : Tryz.prog.typeName? 3 u = some "*errors.errorString") : u = 296 :=
  typeName_ptr_named (nm := "errors.errorString") (by rw [star]; kernel_rfl) (by kernel_rfl) (by decide) u (by rw [star]; exact h)
theorem et : Tryz.prog.globalNamed "errors.errorType" = some 1 := by kernel_rfl
theorem rt : (Tryz.prog.cutTypes.find? (·.1 == "internal/reflectlite.rtype")).map (·.2) = some 252 := by kernel_rfl
theorem oneRow : ((List.range 328).filter fun t => Tryz.prog.rowNamed t [101, 114, 114, 111, 114]) = [111] := by kernel_rfl
theorem typesN : Tryz.prog.types.size = 328 := by kernel_rfl
theorem laid_split {W : World} (h : laidMetH Tryz.prog laid W) : laidMet Tryz.prog laid1 W ∧ handlesMet Tryz.prog [("errors.errorType", Rows.laid_errors_errorType)] W := h
theorem typed_of {W : World} (h : laidMetH Tryz.prog laid W) : Typed W := by
  obtain ⟨name, u, ty, e1, e2, e3, e4, e5⟩ := (laid_split h).2 _ (List.mem_singleton.2 rfl)
  have en : name = [101, 114, 114, 111, 114] := (Option.some.inj e1).symm
  subst en
  obtain rfl := Option.some.inj (rt.symm.trans e2)
  have hm : ty ∈ (List.range 328).filter fun t => Tryz.prog.rowNamed t [101, 114, 114, 111, 114] := List.mem_filter.2 ⟨List.mem_range.2 (by rw [← typesN]; exact e3), e4⟩
  rw [oneRow] at hm
  obtain rfl := List.mem_singleton.1 hm
  have hh : typeHandle Tryz.prog 111 = .pointer (some ⟨3, 111, none⟩) := by kernel_rfl
  rw [hh] at e5
  simpa [Typed] using World.var?_cell et e5 0
theorem glb_of {W : World} (h : laidMetH Tryz.prog laid W) : Hd.Glb W := by
  obtain ⟨ps, ⟨g0, t0, cs0, f0, p0, q0, hg0, ht0, hv0, hd0, _, _⟩, _, _⟩ := (laid_split h).1
  obtain rfl := Option.some.inj (en.symm.trans hg0)
  obtain rfl := Option.some.inj (enType.symm.trans ht0)
  obtain ⟨l0⟩ := cs0
  obtain ⟨f1, u, v, rfl, hn, _⟩ := iface_of_trod Tryz.underlying111 hd0
  obtain rfl := rowES u hn
  exact ⟨v, by simpa using World.var?_cell hg0 hv0 0⟩
/-- A world for the witness: the variables hold what their initialisers lay. -/
def putC (cs : List Value) : Obj → Obj
  | .cells _ t frozen => .cells cs.toArray t frozen
  | o => o
noncomputable def laidX (X : World) : World := { X with heap := X.heap.modify 1 (putC [.iface 252 (.agg #[.pointer (some ⟨3, 111, none⟩)])]) }
theorem laidX_os (X : World) : (laidX X).os = X.os := rfl
noncomputable def laidWorld (os : Os) : World := laidX (World.laidAll Tryz.prog os laid1)
theorem laid_met (os : Os) (args : Array Value) : laidMetH Tryz.prog laid ((laidWorld os).forCall (fun _ _ => 0) ⟨#[], args, []⟩).memory :=
  laidMetH_of_parts (laidMet_of_run' 8 (by kernel_rfl) (by kernel_rfl)) (by kernel_rfl)
theorem laid_os (os : Os) : (laidWorld os).os = os := (laidX_os _).trans (World.laidAll_os _ _ _)
end Go.Proofs.YthffehaokndkeaaGreatDoor
