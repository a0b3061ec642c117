/-
  A new chip is formatted: what stands there.
  A chip is attached anew: the manager has the same blocks.
  A new chip; what stands in a logical block is read.
  A manager over a chip as it is: it is new.
  A right manager's chip is attached anew: the new manager is right, and what lay there is as it was.
  The example that must come at any rate.
  The example that must come at any rate: the elder manager's logical blocks, Unmap, two pages alike.
  The example that must come at any rate.
  What comes in, as the walks are told of it.
  A logical block takes as many pages as it has: what the walk of EbmFull needs besides.
  What the laid variables give, and a world that holds them.
-/
import Derived.Test.YtkfecngkdlajgaaGreatDoorKO
import Derived.Test.YtkfecngkdlajgaaGreatDoorKP
import Derived.Test.YtkfecngkdlajgaaGreatDoorKC
import Derived.Test.YtkfecngkdlajgaaGreatDoorGI
import Derived.Test.YtkfecngkdlajgaaGreatDoorCards
import Derived.Test.YtkfecngkdlajgaaGreatDoorTie
import Derived.Lib.SlBytesConst
import Derived.ProofKit
import Derived.OpenShut
import Derived.ShutString
import Derived.ChangeOld
import Derived.SizedLaws
import Derived.LaidHandle
import Derived.LaidLaws
import Derived.Lay
import Derived.Deep.DeepHandedRow
namespace Go.Proofs.YtkfecngkdlajgaaGreatDoor
open Go.RowKit
set_option maxRecDepth 10000

theorem clear_ok : ∀ (l : List Nat) (m : Mg) (c : CS) (P : List (List (List Nat))), RB m.bl c P → c.fs = [] → l.Nodup → (∀ n ∈ l, ∃ o, m.bl[n]? = some o ∧ o.st ≠ 1 ∧ o.cnt < 2147483647) →
    ∃ m' c' P', clearM l m c = (0, m', c') ∧ ClearV l m c ∧ RB m'.bl c' P' ∧ Gm c c' ∧ c'.fs = [] ∧ (m'.p = m.p ∧ m'.bb = m.bb ∧ m'.seq = m.seq ∧ m'.lost = m.lost) ∧ (∀ j, j ∉ l → m'.bl[j]? = m.bl[j]? ∧ P'[j]? = P[j]? ∧ c'.bks[j]? = c.bks[j]?) ∧ (∀ j ∈ l, ∀ o, m.bl[j]? = some o → m'.bl[j]? = some ⟨2, o.cnt + 1, 0, 0, 0, false⟩ ∧ P'[j]? = some [])
  | [], m, c, P, h, hf, _, _ => ⟨m, c, P, rfl, trivial, h, Gm.refl c, hf, ⟨rfl, rfl, rfl, rfl⟩, fun _ _ => ⟨rfl, rfl, rfl⟩, fun j hj => by simp at hj⟩
  | n :: l, m, c, P, h, hf, hnd, hl => by
    obtain ⟨o, ho, hs, hc⟩ := hl n (by simp)
    have hnl : n < c.gb := by rw [← h.lb]; exact (List.getElem?_eq_some_iff.1 ho).1
    obtain ⟨b, x, p, hb, hx, hp, hk, hpl⟩ := h.at hnl
    rw [ho] at hx
    cases hx
    obtain ⟨k, hk1, hk2, _⟩ := bok_live hk hs
    obtain ⟨x', c1, f1, f2, f3, f4, f5, f6, f7⟩ := free_ok h ho hs hk1 (by omega)
    obtain ⟨f61, f62⟩ := f6 hf
    subst f61
    have e : ((m.bl[n]?).getD zeroB).cnt.toNat = k := by rw [ho]; simp only [Option.getD_some]; rw [hk1, Int.toNat_natCast]
    have hn1 : n ∉ l := (List.nodup_cons.1 hnd).1
    obtain ⟨m', c', P', g1, g2, g3, g4, g5, g6, g7, g8⟩ := clear_ok l (m.put n ⟨2, (k : Int) + 1, 0, 0, 0, false⟩) c1 (P.set n []) f2 f62 (List.nodup_cons.1 hnd).2 (fun j hj => by
      obtain ⟨o', ho', hs', hc'⟩ := hl j (by simp [hj])
      have hne : j ≠ n := fun e => hn1 (e ▸ hj)
      exact ⟨o', by show (m.bl.set n _)[j]? = _; rw [List.getElem?_set_ne (fun e => hne e.symm)]; exact ho', hs', hc'⟩)
    refine ⟨m', c', P', ?_, ⟨⟨k, o, ho, hk1, hk2⟩, h.geo.2.2.2.2.1, by rw [e, f1], by rw [e, f1]; exact g2⟩, g3, f4.trans g4, g5, ⟨g6.1, g6.2.1, g6.2.2.1, g6.2.2.2⟩, ?_, ?_⟩
    · unfold clearM
      rw [e, f1]
      simp only [if_pos]
      exact g1
    · intro j hj
      have hjn : j ≠ n := fun e => hj (by simp [e])
      obtain ⟨q1, q2, q3⟩ := g7 j (fun e => hj (by simp [e]))
      refine ⟨q1.trans (List.getElem?_set_ne (fun e => hjn e.symm)), q2.trans (List.getElem?_set_ne (fun e => hjn e.symm)), q3.trans (f7 j hjn)⟩
    · intro j hj o' ho'
      rcases List.mem_cons.1 hj with rfl | hj
      · rw [ho] at ho'
        cases ho'
        obtain ⟨q1, q2, _⟩ := g7 j hn1
        have hjl : j < m.bl.length := (List.getElem?_eq_some_iff.1 ho).1
        refine ⟨q1.trans ?_, q2.trans (List.getElem?_set_self (by rw [h.lp]; exact hnl))⟩
        show (m.bl.set j _)[j]? = _
        rw [List.getElem?_set_self hjl, hk1]
      · have hjn : j ≠ n := fun e => hn1 (e ▸ hj)
        exact g8 j hj o' (by show (m.bl.set n _)[j]? = _; rw [List.getElem?_set_ne (fun e => hjn e.symm)]; exact ho')
/-- A chip on which nothing was ever done. -/
structure Fresh (c : CS) : Prop where
  on : c.on = true
  fs : c.fs = []
  wrong : c.wrong = 0
  len : c.bks.length = c.gb
  blk : ∀ b ∈ c.bks, b.pgs = List.replicate c.gp ⟨0, []⟩ ∧ b.next = 0 ∧ b.erases = 0 ∧ b.bad = false
  rt : rightB c.gb c.gp c.gz c.gr = true
theorem open_ffs (m n : Nat) : Hd.openL m (List.replicate n 255) = none := by
  refine Hd.openL_no fun h => ?_
  have h6 := h.2.1.1
  simp at h6
  obtain ⟨k, rfl⟩ : ∃ k, n = k + 2 := ⟨n - 2, by omega⟩
  have h2 : Hd.sizeL (List.replicate (k + 2) 255) = 65535 := by
    unfold Hd.sizeL
    rw [List.replicate_succ, List.replicate_succ]
    simp only [List.take_succ_cons, List.take_zero]
    decide +kernel
  have := h.2.1.2.2.1
  rw [h2] at this
  omega
theorem parseC_ffs (n : Nat) : Hd.parseC (List.replicate n 255) = none := by
  unfold Hd.parseC
  rw [open_ffs]
  exact if_neg (fun h => by cases h.1)
theorem Fresh.read {c : CS} (h : Fresh c) (hgp : 8 ≤ c.gp) {i k : Nat} (hi : i < c.gb) (hk : k < 8) : c.read i (k : Nat) = (List.replicate c.gz 255, 0) := by
  obtain ⟨b, hb⟩ : ∃ b, c.bks[i]? = some b := ⟨_, List.getElem?_eq_getElem (by rw [h.len]; exact hi)⟩
  obtain ⟨h1, _⟩ := h.blk _ (List.mem_of_getElem? hb)
  have : Tl c.gz b k (List.replicate c.gz 255) := ⟨⟨0, []⟩, by rw [h1, List.getElem?_replicate, if_pos (by omega)], rfl, rfl⟩
  exact this.read h.on hb
theorem right_geo {gb gp gz gr : Nat} (h : rightB gb gp gz gr = true) : 16 ≤ gb ∧ gb ≤ 256 ∧ 8 ≤ gp ∧ gp ≤ 64 ∧ 64 ≤ gz ∧ gz ≤ 512 ∧ gr + 2 ≤ gb := by
  unfold rightB at h
  simp only [Bool.and_eq_true, decide_eq_true_eq] at h
  obtain ⟨h1, h2, _, h4, _, _, h7⟩ := h
  have e : wrap64 ((gb : Int).tdiv 4) = (gb : Int) / 4 := by
    rw [Int.tdiv_eq_ediv_of_nonneg (by omega)]
    unfold wrap64; omega
  rw [e] at h7
  omega
theorem Fresh.geo {c : CS} (h : Fresh c) : 16 ≤ c.gb ∧ c.gb ≤ 256 ∧ 8 ≤ c.gp ∧ c.gp ≤ 64 ∧ 64 ≤ c.gz ∧ c.gz ≤ 512 ∧ c.gr + 2 ≤ c.gb := right_geo h.rt
theorem Fresh.sight {c : CS} (h : Fresh c) {i : Nat} (hi : i < c.gb) : ∃ s : Sg, sightV c.vw (i : Nat) = s ∧ s.marked = false ∧ s.blank = false ∧ s.counted = false := by
  refine ⟨_, rfl, ?_, ?_, ?_⟩
  · have hb := List.getElem?_eq_getElem (l := c.bks) (i := i) (by rw [h.len]; exact hi)
    show (match c.at (i : Nat) with | none => false | some b => b.bad) = false
    rw [at_nat, hb]
    exact (h.blk _ (List.mem_of_getElem? hb)).2.2.2
  · obtain ⟨b, hb⟩ : ∃ b, c.bks[i]? = some b := ⟨_, List.getElem?_eq_getElem (by rw [h.len]; exact hi)⟩
    show ((match c.at (i : Nat) with | none => 0 | some b => b.next) == 1) = false
    rw [at_nat, hb]
    show (b.next == 1) = false
    rw [(h.blk _ (List.mem_of_getElem? hb)).2.1]
    rfl
  · show (Hd.parseC (c.read (i : Nat) 0).1).isSome = false
    have := h.read h.geo.2.2.1 hi (k := 0) (by omega)
    rw [show ((0 : Nat) : Int) = 0 from rfl] at this
    rw [this, parseC_ffs]
    rfl
theorem many_zero : ∀ l : List Sg, (∀ s ∈ l, s.counted = false) → manyS l = 0
  | [], _ => rfl
  | s :: l, h => by
    have ih := many_zero l (fun x hx => h x (by simp [hx]))
    unfold manyS tells
    rw [ih, h s (by simp)]
    simp
theorem Fresh.scan {c : CS} (h : Fresh c) : scanV c.vw = List.replicate c.gb ⟨3, 0, 0, 0, 0, false⟩ := by
  have hs : ∀ s ∈ sightsV c.vw, s.marked = false ∧ s.blank = false ∧ s.counted = false := by
    intro s hs
    obtain ⟨k, hk, rfl⟩ := List.mem_map.1 hs
    obtain ⟨s', e, h1⟩ := h.sight (List.mem_range.1 hk)
    rw [e]; exact h1
  have hm : meanS (sightsV c.vw) = 0 := by
    unfold meanS
    rw [if_pos (many_zero _ fun s hx => (hs s hx).2.2)]
  have hb : blksV c.vw = List.replicate c.gb ⟨3, 0, 0, 0, 0, false⟩ := by
    refine List.eq_replicate_iff.2 ⟨blksV_length c.vw, fun b hb => ?_⟩
    obtain ⟨s, hsm, rfl⟩ := List.mem_map.1 hb
    obtain ⟨h1, h2, h3⟩ := hs s hsm
    rw [hm]
    have hst : s.state = 3 := by unfold Sg.state; simp [h1, h2, h3]
    unfold Sg.block
    rw [hst, if_neg (by decide), if_neg (by decide), h3]
    rfl
  rw [scan_ref, hb]
  refine List.ext_getElem? fun i => ?_
  rw [refL_get, List.getElem?_replicate]
  split
  · show some (fin1 _ _ _) = _
    rw [fin1_neg (fun hh => absurd hh.1 (by decide))]
  · rfl
theorem Fresh.rb {c : CS} (h : Fresh c) : RB (List.replicate c.gb ⟨3, 0, 0, 0, 0, false⟩) c (List.replicate c.gb []) := by
  refine ⟨h.len, by simp, by simp, h.geo, h.on, fun b hb => by rw [(h.blk b hb).1]; simp, ?_, fun f hf => by rw [h.fs] at hf; simp at hf, ?_⟩
  · intro i b x p hb hx hp
    rw [List.getElem?_replicate] at hx hp
    split at hx
    · rw [if_pos (by assumption)] at hp
      cases hx
      cases hp
      obtain ⟨_, _, h3, h4⟩ := h.blk b (List.mem_of_getElem? hb)
      exact .spoilt 0 (by omega) (by rw [h3]; rfl) h4
    · cases hx
  · rw [h.fs, cnt_zero (fun i x hx => by
      rw [List.getElem?_replicate] at hx
      split at hx
      · cases hx; show (3 : Int) ≠ 1; decide
      · cases hx)]
    simp
theorem among_all : ∀ (n k : Nat), amongN [3] k (List.replicate n ⟨3, 0, 0, 0, 0, false⟩) = List.range' k n ∧ amongN [2, 4] k (List.replicate n ⟨3, 0, 0, 0, 0, false⟩) = []
  | 0, _ => ⟨rfl, rfl⟩
  | n + 1, k => by
    obtain ⟨h1, h2⟩ := among_all n (k + 1)
    rw [List.replicate_succ]
    unfold amongN
    rw [h1, h2]
    exact ⟨rfl, rfl⟩
theorem maxS_zero : ∀ n : Nat, maxS (List.replicate n ⟨3, 0, 0, 0, 0, false⟩) = 0 := by
  intro n
  unfold maxS
  induction n with
  | zero => rfl
  | succ n ih => rw [List.replicate_succ, List.foldl_cons]; exact ih
theorem format_new {base : Nat} {w : World} {c : CS} (h : Lies base w c) (hf : Fresh c) (hg : Hd.Glb w) (hgb : 0 < base) (ht : Typed w) (hte : 1 < base) :
    Calls Tryz.prog 25 #[.pointer (some ⟨c.p, 0, none⟩)] w fun e w' => ∃ m c' P, e = .returned (.tuple #[.pointer (some ⟨m.p, 0, none⟩), .int .i64 0]) ∧ Ms base 1 w' m c' P ∧ (∀ l, cont m.bl P l = none) ∧ Gm c c' ∧ c'.foot = c.foot ∧ Kept (fun k => base ≤ k) w w' ∧ c'.fs = [] := by
  have hgeo := hf.geo
  have hrb := hf.rb
  have key : ∀ m : Mg, m.bl = scanV c.vw → ∃ m' c' P', clearM (amongN [3] 0 m.bl ++ amongN [2, 4] 0 m.bl) m c = (0, m', c') ∧ ClearV (amongN [3] 0 m.bl ++ amongN [2, 4] 0 m.bl) m c ∧ RB m'.bl c' P' ∧ Gm c c' ∧ c'.fs = [] ∧ (m'.p = m.p ∧ m'.bb = m.bb ∧ m'.seq = m.seq ∧ m'.lost = m.lost) ∧ (∀ j, j < c.gb → m'.bl[j]? = some ⟨2, 1, 0, 0, 0, false⟩ ∧ P'[j]? = some []) := by
    intro m hm
    rw [hf.scan] at hm
    obtain ⟨e1, e2⟩ := among_all c.gb 0
    rw [hm, e1, e2, List.append_nil]
    obtain ⟨m', c', P', g1, g2, g3, g4, g5, g6, g7, g8⟩ := clear_ok (List.range' 0 c.gb) m c (List.replicate c.gb []) (by rw [hm]; exact hrb) hf.fs List.nodup_range' (fun n hn => by
      have : n < c.gb := by simpa using hn
      exact ⟨⟨3, 0, 0, 0, 0, false⟩, by rw [hm, List.getElem?_replicate, if_pos this], by show (3 : Int) ≠ 1; decide, by show (0 : Int) < _; decide⟩)
    refine ⟨m', c', P', g1, g2, g3, g4, g5, g6, fun j hj => ?_⟩
    have := g8 j (by simpa using hj) ⟨3, 0, 0, 0, 0, false⟩ (by rw [hm, List.getElem?_replicate, if_pos hj])
    exact this
  have hsp : spentB c = false := by
    unfold spentB lebsI
    rw [if_pos hf.rt]
    have := hrb.good
    rw [cnt_zero (fun i x hx => by
      rw [List.getElem?_replicate] at hx
      split at hx
      · cases hx; show (3 : Int) ≠ 1; decide
      · cases hx)] at this
    simp
    omega
  refine (format_any h hf.on hg hgb hsp (fun i o ho h3 => ?_) (fun m hm => (key m hm).choose_spec.choose_spec.choose_spec.2.1)).mono ?_
  · rw [hf.scan, List.getElem?_replicate] at ho
    split at ho
    · cases ho
      rename_i hi
      have := hf.read hgeo.2.2.1 hi (k := 0) (by omega)
      rw [show ((0 : Nat) : Int) = 0 from rfl] at this
      rw [this, parseC_ffs]
      rfl
    · cases ho
  · rintro e w' ⟨m, hbl, hsq, hlo, rfl, hml, hp, hft, hk⟩
    obtain ⟨m', c', P', g1, g2, g3, g4, g5, g6, g7⟩ := key m hbl
    rw [g1] at hml hp hft
    have hst : ∀ (i : Nat) x, m'.bl[i]? = some x → x = ⟨2, 1, 0, 0, 0, false⟩ := fun i x hx => by
      have hi : i < c.gb := by rw [← g4.gb, ← g3.lb]; exact (List.getElem?_eq_some_iff.1 hx).1
      rw [(g7 i hi).1] at hx
      exact (Option.some.inj hx).symm
    have hseq : m'.seq = 0 := by
      have : (m.seq : Int) = 0 := by rw [hsq, hf.scan, maxS_zero]
      rw [g6.2.2.1]; omega
    refine ⟨m', c', P', by rw [g6.1], ⟨hml, ⟨g3, ?_, ?_, ?_, ?_, ?_, ?_, by rw [hseq, g5]; simp, g6.2.2.2.trans hlo, by rw [g4.wrong]; exact hf.wrong⟩, ?_, hte, by rw [g4.gb, g4.gp, g4.gz, g4.gr]; exact hf.rt⟩, ?_, g4, hft, hk, g5⟩
    · intro i b x p _ _ hx _ h4
      rw [hst i x hx] at h4
      exact absurd h4 (by show (2 : Int) ≠ 4; decide)
    · intro i j x y hx _ h4
      rw [hst i x hx] at h4
      exact absurd h4 (by show (2 : Int) ≠ 4; decide)
    · intro i x hx
      rw [hst i x hx]
      show (2 : Int) ≠ 3; decide
    · intro i x hx h4
      rw [hst i x hx] at h4
      exact absurd h4 (by show (2 : Int) ≠ 4; decide)
    · intro i x hx h4
      rw [hst i x hx] at h4
      exact absurd h4 (by show (2 : Int) ≠ 4; decide)
    · intro i x hx
      rw [hst i x hx]
      show (1 : Int) ≤ 1; decide
    · exact ht.keep hk (by omega)
    · intro l
      exact cont_none fun i x hx h4 => by
        rw [hst i x hx] at h4
        exact absurd h4 (by show (2 : Int) ≠ 4; decide)
end Go.Proofs.YtkfecngkdlajgaaGreatDoor
namespace Go.Proofs.YtkfecngkdlajgaaGreatDoor
open Go.RowKit
set_option maxRecDepth 10000

end Go.Proofs.YtkfecngkdlajgaaGreatDoor
namespace Go.Proofs.YtkfecngkdlajgaaGreatDoor
open Go.RowKit
set_option maxRecDepth 10000

/-- What New of a right geometry leaves, with no plan. -/
def NewC (gb gp gz gr : Nat) (w : World) (e : Ending) (w' : World) : Prop := ∃ c : CS, e = .returned (.tuple #[.pointer (some ⟨c.p, 0, none⟩), .int .i64 0]) ∧ Lies w.heap.size w' c ∧ Fresh c ∧ c.gb = gb ∧ c.gp = gp ∧ c.gz = gz ∧ c.gr = gr ∧ Below w.heap.size w w'
theorem new_chip (gb gp gz gr : Nat) (w : World) (hg : rightB gb gp gz gr = true) : Calls Tryz.prog 24 #[.agg #[.int .i64 gb, .int .i64 gp, .int .i64 gz, .int .i64 gr], .slice none 0 0] w (NewC gb gp gz gr w) := by
  have hr := right_geo hg
  refine (new_go gb gp gz gr none 0 0 [] w rfl (.inl rfl) ⟨by omega, by simp [planOk]⟩ hg (by omega) (by omega) (by omega) (by omega) (by omega) (by omega)).mono ?_
  rintro e w' ⟨p, q, s, rs, rfl, hrs, hs, _, hl, hb⟩
  have hs0 : s = [] := List.Perm.eq_nil hs
  subst hs0
  refine ⟨newC gb gp gz gr p q [] rs, rfl, hl, ⟨rfl, rfl, rfl, by show (rs.map _).length = gb; simpa using hrs, ?_, hg⟩, rfl, rfl, rfl, rfl, hb⟩
  intro b hb
  obtain ⟨r, _, rfl⟩ := List.mem_map.1 (show b ∈ rs.map (freshB gp) from hb)
  exact ⟨rfl, rfl, rfl, rfl⟩
theorem read_go {base t : Nat} {w : World} {m : Mg} {c : CS} {P : List (List (List Nat))} (h : Ms base t w m c P) (leb : Int) (k : Nat) (h0 : 0 ≤ leb) (hleb : leb + c.gr + 2 < c.gb) (p : List (List Nat)) (hp : cont m.bl P leb = some p) (l : List Nat) (hl : p[k]? = some l) :
    Calls Tryz.prog 138 #[.pointer (some ⟨m.p, 0, none⟩), .int .i64 leb, .int .i64 (k : Nat)] w fun e w' => ∃ a n cap, e = .returned (.tuple #[.slice a n cap, .int .i64 0]) ∧ RdP base w m c l a n cap w' := by
  have hg := h.rp.rb.geo
  have hk := (List.getElem?_eq_some_iff.1 hl).1
  have hpl := h.page_le leb
  rw [hp] at hpl
  simp only [Option.getD_some] at hpl
  rcases find_home h.rp leb with ⟨_, hc, _⟩ | ⟨i, x, p', hf, hx, h4, he, hpi, hc, hh, hu, hcl⟩
  · rw [hp] at hc; cases hc
  · rw [hp] at hc
    cases hc
    obtain ⟨b, p2, hb, hp2, hk2, _⟩ := h.rp.mapped hx h4
    rw [hpi] at hp2
    cases hp2
    obtain ⟨_, _, _, _, _, _, _, _, _, _, _, _, _, h9, _⟩ := bok_mapped hk2 h4
    have hrd := (h9 k l hl).read h.rp.rb.on hb
    rw [show ((2 + k : Nat) : Int) = 2 + (k : Int) by omega] at hrd
    exact mread_page h.ml h.rp.lost h.rp.rb.on (by omega) leb k i (h.has h0 hleb) (by omega) hf (by rw [hh, hu]; omega) l hrd
theorem used_go {base t : Nat} {w : World} {m : Mg} {c : CS} {P : List (List (List Nat))} (h : Ms base t w m c P) (leb : Int) :
    Calls Tryz.prog 95 #[.pointer (some ⟨m.p, 0, none⟩), .int .i64 leb] w fun e w' => e = .returned (.int .i64 (((cont m.bl P leb).getD []).length : Nat)) ∧ Below w.heap.size w w' := by
  have := mused_any h.ml leb
  rcases find_home h.rp leb with ⟨_, hc, hz⟩ | ⟨i, x, p', hf, hx, h4, he, hpi, hc, hh, hu, hcl⟩
  · rw [hc]; rw [hz] at this; exact this
  · rw [hc]; rw [hh, hu] at this; exact this
/-- A right manager lies on where only its own box is written anew. -/
theorem Ms.rd {base t : Nat} {w w' : World} {m : Mg} {c : CS} {P : List (List (List Nat))} {l : List Nat} {a : Option Addr} {n cap : Nat} (h : Ms base t w m c P) (hr : RdP base w m c l a n cap w') : Ms base t w' m c P :=
  ⟨hr.ml, h.rp, h.ty.keep hr.kp (fun e => by have := h.ml.low.1; have := h.gb; omega), h.gb, h.rt⟩
end Go.Proofs.YtkfecngkdlajgaaGreatDoor
namespace Go.Proofs.YtkfecngkdlajgaaGreatDoor
open Go.RowKit
set_option maxRecDepth 10000

end Go.Proofs.YtkfecngkdlajgaaGreatDoor
namespace Go.Proofs.YtkfecngkdlajgaaGreatDoor
open Go.RowKit
set_option maxRecDepth 10000

end Go.Proofs.YtkfecngkdlajgaaGreatDoor
namespace Go.Proofs.YtkfecngkdlajgaaGreatDoor
open Go.RowKit
set_option maxRecDepth 10000

/-- A right manager, with what stands in its logical blocks; all that lay below base is as it was in w0. -/
structure Al (base t : Nat) (w0 : World) (gz : Nat) (w : World) (m : Mg) (c : CS) (P : List (List (List Nat))) (f : Int → Option (List (List Nat))) : Prop where
  ms : Ms base t w m c P
  gl : Hd.Glb w
  fn : ∀ l, cont m.bl P l = f l
  kp : Kept (fun k => base ≤ k) w0 w
  hb : 0 < base
  z : c.gz = gz
theorem Glb.kp {w w' : World} {S : Nat → Prop} (h : Hd.Glb w) (hk : Kept S w w') (hn : ¬ S 0) : Hd.Glb w' := by
  obtain ⟨x, hx⟩ := h
  exact ⟨x, cell_kept hk hn hx⟩
theorem format_al {w : World} {c : CS} {base : Nat} {w0 : World} (h : Lies base w c) (hf : Fresh c) (hg : Hd.Glb w) (hgb : 0 < base) (ht : Typed w) (hte : 1 < base) (hk : Kept (fun k => base ≤ k) w0 w) :
    Calls Tryz.prog 25 #[.pointer (some ⟨c.p, 0, none⟩)] w fun e w' => ∃ m c' P, e = .returned (.tuple #[.pointer (some ⟨m.p, 0, none⟩), .int .i64 0]) ∧ Al base 1 w0 c.gz w' m c' P (fun _ => none) ∧ Gm c c' ∧ c'.fs = [] := by
  refine (format_new h hf hg hgb ht hte).mono ?_
  rintro e w' ⟨m, c', P, rfl, h1, h2, h3, h4, h5, h6⟩
  exact ⟨m, c', P, rfl, ⟨h1, Glb.kp hg h5 (by omega), h2, hk.trans h5, hgb, h3.gz⟩, h3, h6⟩
end Go.Proofs.YtkfecngkdlajgaaGreatDoor
namespace Go.Proofs.YtkfecngkdlajgaaGreatDoor
open Go.RowKit
set_option maxRecDepth 10000

end Go.Proofs.YtkfecngkdlajgaaGreatDoor
namespace Go.Proofs.YtkfecngkdlajgaaGreatDoor
open Go.RowKit
set_option maxRecDepth 10000

end Go.Proofs.YtkfecngkdlajgaaGreatDoor
namespace Go.Proofs.YtkfecngkdlajgaaGreatDoor
open Go.ChangeShapes Go.WideShapes Go.ChangeAt Go.RowKit

theorem own : ownKnob Tryz.prog.godebug = none := by kernel_rfl
theorem laidOut : laidOutB Tryz.prog = true := by kernel_rfl
end Go.Proofs.YtkfecngkdlajgaaGreatDoor
namespace Go.Proofs.YtkfecngkdlajgaaGreatDoor
open Go.RowKit Go.ChangeShapes Go.WideShapes Go.ChangeAt
set_option maxRecDepth 10000

set_option maxRecDepth 100000 in
theorem garg_open {H : Type} {enc : TypeId × Value → H} {w : World} {cs : Array Value} {fuel : Nat} {x : DataW H × List MemPlace} (hsz : cs.size = Tryz.prog.cellsOf 23)
    (hf : DataW.trod enc Tryz.prog w 0 (fun _ => true) true fuel 23 (Value.agg cs).cells.toList = some x) : ∃ b p z r, cs = #[.int .i64 b, .int .i64 p, .int .i64 z, .int .i64 r] := by
  rw [show Tryz.prog.cellsOf 23 = 4 by kernel_rfl] at hsz
  obtain ⟨xs, k, hk, hxy, _, hxl, hff⟩ := DataW.trod_struct Tryz.underlying23 hf
  obtain ⟨v0, v1, v2, v3, rfl⟩ : ∃ v0 v1 v2 v3, cs = #[v0, v1, v2, v3] := by
    obtain ⟨l⟩ := cs
    match l, hsz with
    | [v0, v1, v2, v3], _ => exact ⟨v0, v1, v2, v3, rfl⟩
  match xs, hxl with
  | [y0, y1, y2, y3], _ =>
    have g0 := hff 0 _ rfl
    have g1 := hff 1 _ rfl
    have g2 := hff 2 _ rfl
    have g3 := hff 3 _ rfl
    have ci : Tryz.prog.cellsOf 3 = 1 := by kernel_rfl
    simp [ci, Value.cells] at g0 g1 g2 g3
    obtain ⟨z0, e0, _, _⟩ := DataW.trod_int Tryz.underlying3 g0
    obtain ⟨z1, e1, _, _⟩ := DataW.trod_int Tryz.underlying3 g1
    obtain ⟨z2, e2, _, _⟩ := DataW.trod_int Tryz.underlying3 g2
    obtain ⟨z3, e3, _, _⟩ := DataW.trod_int Tryz.underlying3 g3
    simp at e0 e1 e2 e3
    exact ⟨z0, z1, z2, z3, by rw [e0, e1, e2, e3]⟩
theorem right_nums {b p z r : Int} (h : rightB b p z r = true) : ∃ gb gp gz gr : Nat, b = gb ∧ p = gp ∧ z = gz ∧ r = gr ∧ 1 ≤ gb ∧ gb ≤ 256 ∧ 1 ≤ gp ∧ gp ≤ 64 ∧ 1 ≤ gz ∧ gz ≤ 512 := by
  unfold rightB at h
  simp only [Bool.and_eq_true, decide_eq_true_eq] at h
  obtain ⟨h1, h2, _, h3, _, _, h4⟩ := h
  exact ⟨b.toNat, p.toNat, z.toNat, r.toNat, by omega, by omega, by omega, by omega, by omega, by omega, by omega, by omega, by omega, by omega⟩
theorem plan_nil : (0 : Nat) ≤ 256 ∧ planOk [] := ⟨by decide, by simp [planOk]⟩
theorem new_c0 (b p z r : Int) (W : World) (h : rightB b p z r = false) :
    Calls Tryz.prog 24 #[.agg #[.int .i64 b, .int .i64 p, .int .i64 z, .int .i64 r], .slice none 0 0] W fun e w' => e = .returned (.tuple #[.pointer none, .int .i64 22]) ∧ Below W.heap.size W w' :=
  new_shape b p z r none 0 0 [] W rfl (.inl rfl) plan_nil h
end Go.Proofs.YtkfecngkdlajgaaGreatDoor
namespace Go.Proofs.YtkfecngkdlajgaaGreatDoor
open Go.ChangeShapes Go.WideShapes Go.ChangeAt Go.RowKit

def laid : List (String × DataW Unit) := [("errors.errorType", Rows.laid_errors_errorType), ("pumice/header.errNoImage", Rows.laid_pumice_header_errNoImage)]
def laid1 : List (String × DataW Unit) := [("pumice/header.errNoImage", Rows.laid_pumice_header_errNoImage)]
theorem en : Tryz.prog.globalNamed "pumice/header.errNoImage" = some 0 := by kernel_rfl
theorem enType : (Tryz.prog.globals[0]?).map (·.type) = some 82 := by kernel_rfl
theorem star : "*" ++ "errors.errorString" = "*errors.errorString" := by decide
theorem rowES (u : TypeId) (h : Tryz.prog.typeName? 3 u = some "*errors.errorString") : u = 333 :=
  typeName_ptr_named (nm := "errors.errorString") (by rw [star]; kernel_rfl) (by kernel_rfl) (by decide) u (by rw [star]; exact h)
theorem et : Tryz.prog.globalNamed "errors.errorType" = some 1 := by kernel_rfl
theorem rt : (Tryz.prog.cutTypes.find? (·.1 == "internal/reflectlite.rtype")).map (·.2) = some 228 := by kernel_rfl
theorem oneRow : ((List.range 365).filter fun t => Tryz.prog.rowNamed t [101, 114, 114, 111, 114]) = [82] := by kernel_rfl
theorem typesN : Tryz.prog.types.size = 365 := by kernel_rfl
theorem laid_split {W : World} (h : laidMetH Tryz.prog laid W) : laidMet Tryz.prog laid1 W ∧ handlesMet Tryz.prog [("errors.errorType", Rows.laid_errors_errorType)] W := h
theorem typed_of {W : World} (h : laidMetH Tryz.prog laid W) : Typed W := by
  obtain ⟨name, u, ty, e1, e2, e3, e4, e5⟩ := (laid_split h).2 _ (List.mem_singleton.2 rfl)
  have en : name = [101, 114, 114, 111, 114] := (Option.some.inj e1).symm
  subst en
  obtain rfl := Option.some.inj (rt.symm.trans e2)
  have hm : ty ∈ (List.range 365).filter fun t => Tryz.prog.rowNamed t [101, 114, 114, 111, 114] := List.mem_filter.2 ⟨List.mem_range.2 (by rw [← typesN]; exact e3), e4⟩
  rw [oneRow] at hm
  obtain rfl := List.mem_singleton.1 hm
  have hh : typeHandle Tryz.prog 82 = .pointer (some ⟨3, 82, none⟩) := by kernel_rfl
  rw [hh] at e5
  simpa [Typed] using World.var?_cell et e5 0
theorem glb_of {W : World} (h : laidMetH Tryz.prog laid W) : Hd.Glb W := by
  obtain ⟨ps, ⟨g0, t0, cs0, f0, p0, q0, hg0, ht0, hv0, hd0, _, _⟩, _, _⟩ := (laid_split h).1
  obtain rfl := Option.some.inj (en.symm.trans hg0)
  obtain rfl := Option.some.inj (enType.symm.trans ht0)
  obtain ⟨l0⟩ := cs0
  obtain ⟨f1, u, v, rfl, hn, _⟩ := iface_of_trod Tryz.underlying82 hd0
  obtain rfl := rowES u hn
  exact ⟨v, by simpa using World.var?_cell hg0 hv0 0⟩
/-- A world for the witness: the variables hold what their initialisers lay. -/
def putC (cs : List Value) : Obj → Obj
  | .cells _ t frozen => .cells cs.toArray t frozen
  | o => o
noncomputable def laidX (X : World) : World := { X with heap := X.heap.modify 1 (putC [.iface 228 (.agg #[.pointer (some ⟨3, 82, none⟩)])]) }
theorem laidX_os (X : World) : (laidX X).os = X.os := rfl
noncomputable def laidWorld (os : Os) : World := laidX (World.laidAll Tryz.prog os laid1)
theorem laid_met (os : Os) (args : Array Value) : laidMetH Tryz.prog laid ((laidWorld os).forCall (fun _ _ => 0) ⟨#[], args, []⟩).memory :=
  laidMetH_of_parts (laidMet_of_run' 8 (by kernel_rfl) (by kernel_rfl)) (by kernel_rfl)
theorem laid_os (os : Os) : (laidWorld os).os = os := (laidX_os _).trans (World.laidAll_os _ _ _)
end Go.Proofs.YtkfecngkdlajgaaGreatDoor
