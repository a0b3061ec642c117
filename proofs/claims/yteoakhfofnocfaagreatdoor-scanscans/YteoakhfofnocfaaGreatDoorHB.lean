/-
  What a scan's list is, block by block: each logical block is mapped once.
  The pages of a block that is mapped can be read.
  Both chips made anew and played with; what lies on while a scan's list is gone through.
-/
import Derived.Test.YteoakhfofnocfaaGreatDoorGQ
import Derived.Test.YteoakhfofnocfaaGreatDoorGZ
import Derived.Test.YteoakhfofnocfaaGreatDoorGS
import Derived.Test.YteoakhfofnocfaaGreatDoorHA
import Derived.Test.YteoakhfofnocfaaGreatDoorGG
namespace Go.Proofs.YteoakhfofnocfaaGreatDoor
open Go.RowKit
set_option maxRecDepth 10000

/-- No two are mapped with one leb. -/
def Uniq (l : List Bl) : Prop := ∀ (i j : Nat) (x y : Bl), l[i]? = some x → l[j]? = some y → x.st = 4 → y.st = 4 → x.leb = y.leb → i = j
/-- A list's block is the one that was listed, or that one spoilt. -/
def Same1 (x b : Bl) : Prop := x = b ∨ (b.st = 4 ∧ x = spoilt b)
theorem same1_map {x b : Bl} (h : Same1 x b) (hx : x.st = 4) : x = b := by
  rcases h with h | ⟨_, h⟩
  · exact h
  · rw [h] at hx; cases hx
theorem get_snoc {α : Type} {l : List α} {x y : α} {i : Nat} (h : (l ++ [y])[i]? = some x) : l[i]? = some x ∨ (i = l.length ∧ x = y) := by
  by_cases hi : i < l.length
  · rw [List.getElem?_append_left hi] at h; exact .inl h
  · rw [List.getElem?_append_right (by omega)] at h
    have : i - l.length = 0 := by
      by_cases e : i - l.length = 0
      · exact e
      · obtain ⟨k, hk⟩ : ∃ k, i - l.length = k + 1 := ⟨i - l.length - 1, by omega⟩
        rw [hk] at h; simp at h
    rw [this] at h
    simp at h
    exact .inr ⟨by omega, h.symm⟩
theorem findI_none {l : List Bl} {leb : Int} (h : findI l leb = -1) : ∀ (i : Nat) (x : Bl), l[i]? = some x → x.st = 4 → x.leb ≠ leb := by
  intro i x hx hs e
  have hi := (List.getElem?_eq_some_iff.1 hx).1
  have hm : (i, x) ∈ sel 4 0 l := by
    have := sel_split (st := 4) (l := l) (i + 1)
    rw [this]
    refine List.mem_append_left _ ?_
    obtain ⟨h1, h2⟩ := List.getElem?_eq_some_iff.1 hx
    rw [sel_take h1, h2, if_pos hs]
    simp
  rcases firstL_cases leb (sel 4 0 l) with h1 | ⟨y, _, h2, _⟩
  · have key : ∀ p : List (Nat × Bl), (i, x) ∈ p → firstL leb p ≠ -1 := by
      intro p
      induction p with
      | nil => intro h; simp at h
      | cons z r ih =>
        intro hz
        unfold firstL
        split
        · omega
        · rename_i hne
          rcases List.mem_cons.1 hz with rfl | hz
          · exact absurd e hne
          · exact ih hz
    exact key _ hm h1
  · unfold findI at h
    rw [h2] at h
    omega
theorem enlist_uniq {l : List Bl} {b : Bl} (h : Uniq l) : Uniq (enlist l b) := by
  by_cases hb : b.st = 4
  · rcases find_cases l b.leb with hf | ⟨k, o, hf, ho, hos, hol⟩
    · have he : enlist l b = l ++ [b] := by unfold enlist; rw [if_pos hb, hf, if_pos (by decide)]
      rw [he]
      intro i j x y hx hy sx sy e
      rcases get_snoc hx with hx1 | ⟨rfl, rfl⟩ <;> rcases get_snoc hy with hy1 | ⟨rfl, rfl⟩
      · exact h i j x y hx1 hy1 sx sy e
      · exact absurd e (findI_none hf i x hx1 sx)
      · exact absurd e.symm (findI_none hf j y hy1 sy)
      · rfl
    · have hk := (List.getElem?_eq_some_iff.1 ho).1
      by_cases hs : o.seq < b.seq
      · have he : enlist l b = l.set k (spoilt o) ++ [b] := by
          unfold enlist
          rw [if_pos hb, hf, if_neg (by omega)]
          simp only [Int.toNat_natCast, ho]
          rw [if_pos hs]
        rw [he]
        have key : ∀ i x, (l.set k (spoilt o))[i]? = some x → x.st = 4 → i ≠ k ∧ l[i]? = some x := by
          intro i x hx sx
          by_cases e : i = k
          · subst e
            rw [List.getElem?_set_self hk] at hx
            cases hx
            cases sx
          · rw [List.getElem?_set_ne (fun q => e q.symm)] at hx
            exact ⟨e, hx⟩
        intro i j x y hx hy sx sy e
        rcases get_snoc hx with hx1 | ⟨rfl, rfl⟩ <;> rcases get_snoc hy with hy1 | ⟨rfl, rfl⟩
        · exact h i j x y (key i x hx1 sx).2 (key j y hy1 sy).2 sx sy e
        · obtain ⟨n1, n2⟩ := key i x hx1 sx
          exact absurd (h i k x o n2 ho sx hos (e.trans hol.symm)) n1
        · obtain ⟨n1, n2⟩ := key j y hy1 sy
          exact absurd (h j k y o n2 ho sy hos (e.symm.trans hol.symm)) n1
        · rfl
      · have he : enlist l b = l ++ [spoilt b] := by
          unfold enlist
          rw [if_pos hb, hf, if_neg (by omega)]
          simp only [Int.toNat_natCast, ho]
          rw [if_neg hs]
        rw [he]
        intro i j x y hx hy sx sy e
        rcases get_snoc hx with hx1 | ⟨rfl, rfl⟩
        · rcases get_snoc hy with hy1 | ⟨rfl, rfl⟩
          · exact h i j x y hx1 hy1 sx sy e
          · cases sy
        · cases sx
  · have he : enlist l b = l ++ [b] := by unfold enlist; rw [if_neg hb]
    rw [he]
    intro i j x y hx hy sx sy e
    rcases get_snoc hx with hx1 | ⟨rfl, rfl⟩
    · rcases get_snoc hy with hy1 | ⟨rfl, rfl⟩
      · exact h i j x y hx1 hy1 sx sy e
      · exact absurd sy hb
    · exact absurd sx hb
theorem enlist_same {l bs : List Bl} {b : Bl} (hl : l.length = bs.length) (h : ∀ (i : Nat) (x y : Bl), l[i]? = some x → bs[i]? = some y → Same1 x y) : ∀ (i : Nat) (x y : Bl), (enlist l b)[i]? = some x → (bs ++ [b])[i]? = some y → Same1 x y := by
  have tail : ∀ (l' : List Bl) (b' : Bl), l'.length = bs.length → (∀ (i : Nat) (x y : Bl), l'[i]? = some x → bs[i]? = some y → Same1 x y) → Same1 b' b → ∀ (i : Nat) (x y : Bl), (l' ++ [b'])[i]? = some x → (bs ++ [b])[i]? = some y → Same1 x y := by
    intro l' b' hl' h' hb' i x y hx hy
    rcases get_snoc hx with hx | ⟨rfl, rfl⟩
    · rcases get_snoc hy with hy | ⟨rfl, rfl⟩
      · exact h' i x y hx hy
      · have := (List.getElem?_eq_some_iff.1 hx).1
        omega
    · rcases get_snoc hy with hy | ⟨_, rfl⟩
      · have := (List.getElem?_eq_some_iff.1 hy).1
        omega
      · exact hb'
  unfold enlist
  split
  · rename_i hb
    split
    · exact tail l b hl h (.inl rfl)
    · rename_i hneg
      split
      · exact tail l b hl h (.inl rfl)
      · rename_i o ho
        split
        · refine tail _ b (by simpa using hl) ?_ (.inl rfl)
          intro i x y hx hy
          by_cases e : i = (findI l b.leb).toNat
          · have hlt := (List.getElem?_eq_some_iff.1 ho).1
            subst e
            rw [List.getElem?_set_self hlt] at hx
            cases hx
            rcases h _ o y ho hy with q | ⟨q, r⟩
            · rcases find_cases l b.leb with hf | ⟨k, o', hf, ho', hos, _⟩
              · exact absurd (show findI l b.leb < 0 by rw [hf]; decide) hneg
              · rw [hf] at ho
                simp only [Int.toNat_natCast] at ho
                rw [ho'] at ho
                cases ho
                exact .inr ⟨by rw [← q]; exact hos, by rw [q]⟩
            · refine .inr ⟨q, ?_⟩
              rw [r]
              rfl
          · rw [List.getElem?_set_ne (fun q => e q.symm)] at hx
            exact h i x y hx hy
        · exact tail l _ hl h (.inr ⟨hb, rfl⟩)
  · exact tail l b hl h (.inl rfl)
theorem fold_facts : ∀ (bs done l : List Bl), l.length = done.length → Uniq l → (∀ (i : Nat) (x y : Bl), l[i]? = some x → done[i]? = some y → Same1 x y) →
    Uniq (bs.foldl enlist l) ∧ ∀ (i : Nat) (x y : Bl), (bs.foldl enlist l)[i]? = some x → (done ++ bs)[i]? = some y → Same1 x y
  | [], done, l, _, hu, hs => by simpa using ⟨hu, hs⟩
  | b :: bs, done, l, hl, hu, hs => by
    have := fold_facts bs (done ++ [b]) (enlist l b) (by rw [enlist_length, hl]; simp) (enlist_uniq hu) (enlist_same hl hs)
    rw [List.append_assoc] at this
    exact this
theorem scan_facts (v : Vw) : Uniq (scanV v) ∧ ∀ (i : Nat) (x : Bl), (scanV v)[i]? = some x → Same1 x ((sightV v (i : Nat)).block (meanS (sightsV v))) := by
  have := fold_facts ((sightsV v).map (fun s => s.block (meanS (sightsV v)))) [] [] rfl (fun i j x y hx => by simp at hx) (fun i x y hx => by simp at hx)
  refine ⟨this.1, fun i x hx => ?_⟩
  refine this.2 i x _ hx ?_
  have hi : i < v.gb := by
    have h1 := (List.getElem?_eq_some_iff.1 hx).1
    rwa [scanV_length] at h1
  simp [sightsV, hi]
theorem find_uniq {l : List Bl} {i : Nat} {x : Bl} (hu : Uniq l) (hx : l[i]? = some x) (hs : x.st = 4) : findI l x.leb = i := by
  rcases find_cases l x.leb with h | ⟨k, o, h, ho, hos, hol⟩
  · exact absurd rfl (findI_none h i x hx hs)
  · rw [h, hu k i o x ho hx hos hs hol]
/-- What a scan's block is. -/
structure OneB (v : Vw) (i : Nat) (x : Bl) : Prop where
  low : 1 ≤ x.st ∧ x.st ≤ 4
  bad : (x.st == 1) = v.bd i
  free : x.st = 2 → v.nx i = 1
  zero : x.st ≠ 4 → x.leb = 0 ∧ x.used = 0 ∧ x.seq = 0 ∧ x.closed = false
  map : x.st = 4 → 0 ≤ x.leb ∧ x.leb < v.lebs ∧ x.used = (writtenV v i).1 ∧ (Hd.parseC (v.rd i 0).1).isSome = true ∧ (Hd.parseM (v.rd i 1).1).isSome = true
theorem one_block (v : Vw) (i : Nat) (mean : Int) : OneB v i ((sightV v i).block mean) := by
  have hm : (sightV v i).mapped = ((Hd.parseM (v.rd i 1).1).isSome && decide ((((Hd.parseM (v.rd i 1).1).getD (0, 0, 0)).1 : Int) < v.lebs)) := rfl
  have hmk : (sightV v i).marked = v.bd i := rfl
  have hbl : (sightV v i).blank = (v.nx i == 1) := rfl
  have hco : (sightV v i).counted = (Hd.parseC (v.rd i 0).1).isSome := rfl
  have hle : (sightV v i).leb = (((Hd.parseM (v.rd i 1).1).getD (0, 0, 0)).1 : Nat) := rfl
  have hus : (sightV v i).used = if (sightV v i).mapped then (writtenV v i).1 else 0 := rfl
  generalize sightV v i = s at *
  unfold Sg.block
  by_cases h1 : s.marked = true
  · have hs : s.state = 1 := by unfold Sg.state; rw [if_pos h1]
    rw [if_pos hs]
    exact ⟨(by decide), (by rw [← hmk, h1]; rfl), (fun h => by cases h), (fun _ => ⟨rfl, rfl, rfl, rfl⟩), (fun h => by cases h)⟩
  · have h1' : s.marked = false := by simpa using h1
    by_cases h2 : (s.counted && s.blank) = true
    · have hs : s.state = 2 := by unfold Sg.state; rw [if_neg h1, if_pos h2]
      rw [hs, if_neg (by decide), if_neg (by decide)]
      simp only [Bool.and_eq_true] at h2
      exact ⟨(by show (1 : Int) ≤ 2 ∧ (2 : Int) ≤ 4; decide), (by rw [← hmk, h1']; rfl), (fun _ => by rw [h2.2] at hbl; simpa using hbl.symm), (fun _ => ⟨rfl, rfl, rfl, rfl⟩), (fun h => by cases h)⟩
    · by_cases h4 : (s.counted && s.mapped && decide (s.pages ≤ s.used)) = true
      · have hs : s.state = 4 := by unfold Sg.state; rw [if_neg h1, if_neg h2, if_pos h4]
        rw [hs, if_neg (by decide), if_pos rfl]
        simp only [Bool.and_eq_true] at h4
        obtain ⟨⟨q1, q2⟩, _⟩ := h4
        rw [q2] at hm
        have hm' := hm.symm
        simp only [Bool.and_eq_true, decide_eq_true_eq] at hm'
        refine ⟨(by show (1 : Int) ≤ 4 ∧ (4 : Int) ≤ 4; decide), (by rw [← hmk, h1']; rfl), (fun h => by cases h), (fun h => absurd rfl h), fun _ => ⟨?_, ?_, ?_, ?_, hm'.1⟩⟩
        · show 0 ≤ s.leb; rw [hle]; omega
        · show s.leb < v.lebs; rw [hle]; exact hm'.2
        · show s.used = _; rw [hus, if_pos q2]
        · rw [← hco]; exact q1
      · have hs : s.state = 3 := by unfold Sg.state; rw [if_neg h1, if_neg h2, if_neg h4]
        rw [hs, if_neg (by decide), if_neg (by decide)]
        exact ⟨(by show (1 : Int) ≤ 3 ∧ (3 : Int) ≤ 4; decide), (by rw [← hmk, h1']; rfl), (fun h => by cases h), (fun _ => ⟨rfl, rfl, rfl, rfl⟩), (fun h => by cases h)⟩
theorem one_scan {v : Vw} {i : Nat} {x : Bl} (hx : (scanV v)[i]? = some x) : OneB v i x := by
  have hb := one_block v i (meanS (sightsV v))
  rcases (scan_facts v).2 i x hx with e | ⟨h4, e⟩
  · rw [e]; exact hb
  · rw [e]
    refine ⟨(by show (1 : Int) ≤ 3 ∧ (3 : Int) ≤ 4; decide), ?_, (fun h => by cases h), (fun _ => ⟨rfl, rfl, rfl, rfl⟩), (fun h => by cases h)⟩
    have := hb.bad
    rw [h4] at this
    rw [← this]
    rfl
end Go.Proofs.YteoakhfofnocfaaGreatDoor
namespace Go.Proofs.YteoakhfofnocfaaGreatDoor
open Go.RowKit
set_option maxRecDepth 10000

theorem open_ffs (m n : Nat) : Hd.openL m (List.replicate n 255) = none := by
  refine Hd.openL_no fun h => ?_
  have h6 := h.2.1.1
  simp at h6
  obtain ⟨k, rfl⟩ : ∃ k, n = k + 2 := ⟨n - 2, by omega⟩
  have h2 : Hd.sizeL (List.replicate (k + 2) 255) = 65535 := by
    unfold Hd.sizeL
    rw [List.replicate_succ, List.replicate_succ]
    simp only [List.take_succ_cons, List.take_zero]
    decide +kernel
  have := h.2.1.2.2.1
  rw [h2] at this
  omega
theorem parseM_ffs (n : Nat) : Hd.parseM (List.replicate n 255) = none := by
  unfold Hd.parseM Hd.mS
  rw [open_ffs]
  exact if_neg (fun h => by cases h.1)
theorem parseC_ffs (n : Nat) : Hd.parseC (List.replicate n 255) = none := by
  unfold Hd.parseC
  rw [open_ffs]
  exact if_neg (fun h => by cases h.1)
/-- What can't be read has no bytes. -/
theorem read_bad {c : CS} (n k : Int) (h : (c.read n k).2 ≠ 0) : (c.read n k).1 = [] := by
  by_cases hon : c.on = true
  · rcases hc : c.at n with _ | b
    · obtain ⟨x, e, _⟩ := read_err n k (.inr ⟨hon, hc⟩)
      rw [e]
    · rw [read_at n k hon hc] at h ⊢
      by_cases hk : k < 0
      · rw [if_pos hk]
      · rw [if_neg hk] at h ⊢
        rcases hp : b.pgs[k.toNat]? with _ | g
        · rfl
        · rw [hp] at h
          have h : g.err ≠ 0 := h
          show g.bytes c.gz = []
          unfold Pg.err at h
          unfold Pg.bytes
          by_cases e0 : g.st = 0
          · rw [if_pos e0] at h; exact absurd rfl h
          · rw [if_neg e0] at h ⊢
            by_cases e1 : g.st = 1
            · rw [if_pos e1] at h; exact absurd rfl h
            · rw [if_neg e1]
  · obtain ⟨x, e, _⟩ := read_err (c := c) n k (.inl (by simpa using hon))
    rw [e]
theorem read_okC {c : CS} {n k : Int} (h : (Hd.parseC (c.read n k).1).isSome = true) : (c.read n k).2 = 0 := by
  by_cases e : (c.read n k).2 = 0
  · exact e
  · rw [read_bad n k e, show ([] : List Nat) = List.replicate 0 255 from rfl, parseC_ffs] at h
    cases h
theorem read_okM {c : CS} {n k : Int} (h : (Hd.parseM (c.read n k).1).isSome = true) : (c.read n k).2 = 0 := by
  by_cases e : (c.read n k).2 = 0
  · exact e
  · rw [read_bad n k e, show ([] : List Nat) = List.replicate 0 255 from rfl, parseM_ffs] at h
    cases h
/-- A mapping's page is programmed. -/
theorem map_next {c : CS} (hb : ∀ b ∈ c.bks, b.clear) {n : Int} (h : (Hd.parseM (c.read n 1).1).isSome = true) : 2 ≤ c.vw.nx n := by
  show 2 ≤ (match c.at n with | none => 0 | some b => b.next)
  by_cases hon : c.on = true
  · rcases hc : c.at n with _ | b
    · obtain ⟨x, e, _⟩ := read_err n 1 (.inr ⟨hon, hc⟩)
      rw [e, show ([] : List Nat) = List.replicate 0 255 from rfl, parseM_ffs] at h
      cases h
    · simp only
      rw [read_at n 1 hon hc, if_neg (by decide)] at h
      by_cases hn : b.next ≤ 1
      · have hcl := hb b (List.mem_of_getElem? (at_some hc).1)
        rcases hp : b.pgs[(1 : Int).toNat]? with _ | g
        · rw [hp] at h
          rw [show (([], 22) : List Nat × Int).1 = List.replicate 0 255 from rfl, parseM_ffs] at h
          cases h
        · rw [hp] at h
          have := hcl 1 g hn hp
          simp only [Pg.bytes, this, if_true] at h
          rw [parseM_ffs] at h
          cases h
      · omega
  · obtain ⟨x, e, _⟩ := read_err (c := c) n 1 (.inl (by simpa using hon))
    rw [e, show ([] : List Nat) = List.replicate 0 255 from rfl, parseM_ffs] at h
    cases h
theorem writtenF_facts {v : Vw} {n : Int} : ∀ (f p : Nat), (p : Int) + f = v.nx n → (p : Int) - 2 ≤ (writtenF v n f p).1 ∧ (writtenF v n f p).1 ≤ v.nx n - 2 ∧ ∀ k : Nat, p ≤ k → (k : Int) < (writtenF v n f p).1 + 2 → (v.rd n k).2 = 0
  | 0, p, h => by
    unfold writtenF
    exact ⟨by show (p : Int) - 2 ≤ v.nx n - 2; omega, Int.le_refl _, fun k h1 h2 => by simp only at h2; omega⟩
  | f + 1, p, h => by
    unfold writtenF
    by_cases e : (v.rd n p).2 = 0
    · rw [if_pos e]
      obtain ⟨h1, h2, h3⟩ := writtenF_facts (v := v) (n := n) f (p + 1) (by omega)
      have ec : ((p + 1 : Nat) : Int) = (p : Int) + 1 := by omega
      rw [ec] at h1 h2 h3
      refine ⟨by omega, h2, fun k k1 k2 => ?_⟩
      by_cases ek : k = p
      · rw [ek]; exact e
      · exact h3 k (by omega) k2
    · rw [if_neg e]
      exact ⟨Int.le_refl _, by show (p : Int) - 2 ≤ v.nx n - 2; omega, fun k k1 k2 => by simp only at k2; omega⟩
/-- Of a mapped block all pages that are told can be read. -/
theorem map_pages {c : CS} (hg : Good c) (hb : ∀ b ∈ c.bks, b.clear) {i : Nat} {x : Bl} (ho : OneB c.vw i x) (h4 : x.st = 4) : 0 ≤ x.used ∧ x.used ≤ (c.gp : Int) - 2 ∧ ∀ k : Nat, (k : Int) < x.used + 2 → (c.vw.rd i k).2 = 0 := by
  obtain ⟨_, _, hu, hC, hM⟩ := ho.map h4
  have hn := map_next (n := (i : Int)) hb hM
  have hng : c.vw.nx i ≤ c.gp := by
    show (match c.at i with | none => 0 | some b => b.next) ≤ _
    rcases h : c.at i with _ | b
    · simp
    · exact (hg.plen b (List.mem_of_getElem? (at_some h).1)).2.2.2.2
  obtain ⟨h1, h2, h3⟩ := writtenF_facts (v := c.vw) (n := (i : Int)) (c.vw.nx i - 2).toNat 2 (by omega)
  have hw : (writtenV c.vw i).1 = (writtenF c.vw i (c.vw.nx i - 2).toNat ((2 : Nat) : Int)).1 := rfl
  rw [← hw] at h1 h2 h3
  rw [← hu] at h1 h2 h3
  refine ⟨by omega, by omega, fun k hk => ?_⟩
  by_cases k0 : k = 0
  · subst k0; exact read_okC hC
  · by_cases k1 : k = 1
    · subst k1; exact read_okM hM
    · exact h3 k (by omega) hk
end Go.Proofs.YteoakhfofnocfaaGreatDoor
namespace Go.Proofs.YteoakhfofnocfaaGreatDoor
open Go.ChangeShapes Go.WideShapes Go.ChangeAt Go.RowKit
set_option maxRecDepth 10000

set_option maxRecDepth 100000 in
theorem garg_open {H : Type} {enc : TypeId × Value → H} {w : World} {cs : Array Value} {fuel : Nat} {x : DataW H × List MemPlace} (hsz : cs.size = Tryz.prog.cellsOf 23)
    (hf : DataW.trod enc Tryz.prog w 0 (fun _ => true) true fuel 23 (Value.agg cs).cells.toList = some x) : ∃ b p z r, cs = #[.int .i64 b, .int .i64 p, .int .i64 z, .int .i64 r] := by
  rw [show Tryz.prog.cellsOf 23 = 4 by kernel_rfl] at hsz
  obtain ⟨xs, k, hk, hxy, _, hxl, hff⟩ := DataW.trod_struct Tryz.underlying23 hf
  obtain ⟨v0, v1, v2, v3, rfl⟩ : ∃ v0 v1 v2 v3, cs = #[v0, v1, v2, v3] := by
    obtain ⟨l⟩ := cs
    match l, hsz with
    | [v0, v1, v2, v3], _ => exact ⟨v0, v1, v2, v3, rfl⟩
  match xs, hxl with
  | [y0, y1, y2, y3], _ =>
    have g0 := hff 0 _ rfl
    have g1 := hff 1 _ rfl
    have g2 := hff 2 _ rfl
    have g3 := hff 3 _ rfl
    have ci : Tryz.prog.cellsOf 3 = 1 := by kernel_rfl
    simp [ci, Value.cells] at g0 g1 g2 g3
    obtain ⟨z0, e0, _, _⟩ := DataW.trod_int Tryz.underlying3 g0
    obtain ⟨z1, e1, _, _⟩ := DataW.trod_int Tryz.underlying3 g1
    obtain ⟨z2, e2, _, _⟩ := DataW.trod_int Tryz.underlying3 g2
    obtain ⟨z3, e3, _, _⟩ := DataW.trod_int Tryz.underlying3 g3
    simp at e0 e1 e2 e3
    exact ⟨z0, z1, z2, z3, by rw [e0, e1, e2, e3]⟩
theorem OArg.later {w W : World} {a : Option Addr} {n cap : Nat} {l : List OpD} (h : OArg w a n cap l) (hb : Below w.heap.size w W) : OArg W a n cap l := by
  refine ⟨h.len_eq, h.le, h.max, ?_, fun o ho => ?_⟩
  · rcases h.row with e | ⟨b, off, e, hc⟩
    · exact .inl e
    · refine .inr ⟨b, off, e, fun i o ho => ?_⟩
      obtain ⟨g0, g1, g2, g3, g4⟩ := hc i o ho
      have hbw : b < w.heap.size := World.block_lt_of_cell? w _ g0
      rw [hb.cell (p := ⟨b, off + i * 5, none⟩) hbw, hb.cell (p := ⟨b, off + i * 5 + 1, none⟩) hbw, hb.cell (p := ⟨b, off + i * 5 + 2, none⟩) hbw, hb.cell (p := ⟨b, off + i * 5 + 3, none⟩) hbw, hb.cell (p := ⟨b, off + i * 5 + 4, none⟩) hbw]
      exact ⟨g0, g1, g2, g3, g4⟩
  · obtain ⟨hd, hf⟩ := h.each o ho
    exact ⟨⟨hd.len_eq, hd.le, hd.max, hd.lt, hd.row.later hb, hd.nil⟩, ⟨hf.len_eq, hf.le, hf.max, frow_later hf.row hb, hf.nil⟩⟩
theorem right_nums {b p z r : Int} (h : rightB b p z r = true) : ∃ gb gp gz gr : Nat, b = gb ∧ p = gp ∧ z = gz ∧ r = gr ∧ 1 ≤ gb ∧ gb ≤ 256 ∧ 1 ≤ gp ∧ gp ≤ 64 ∧ 1 ≤ gz ∧ gz ≤ 512 := by
  unfold rightB at h
  simp only [Bool.and_eq_true, decide_eq_true_eq] at h
  obtain ⟨h1, h2, _, h3, _, _, h4⟩ := h
  exact ⟨b.toNat, p.toNat, z.toNat, r.toNat, by omega, by omega, by omega, by omega, by omega, by omega, by omega, by omega, by omega, by omega⟩
theorem plan_nil : (0 : Nat) ≤ 256 ∧ planOk [] := ⟨by decide, by simp [planOk]⟩
/-- The document's chip beside the code's, both new. -/
theorem new_d2 {W0 w1 : World} (gb gp gz gr : Nat) (hg : rightB gb gp gz gr = true) (g1 : 1 ≤ gb) (g2 : gb ≤ 256) (g3 : 1 ≤ gp) (g4 : gp ≤ 64) (g5 : 1 ≤ gz) (g6 : gz ≤ 512)
    (p q : Nat) (rs : List Nat) (hrs : rs.length = gb) (hl : Lies W0.heap.size w1 (newC gb gp gz gr p q [] rs)) (hb : Below W0.heap.size W0 w1) :
    Calls Tryz.prog 8 #[.agg #[.int .i64 gb, .int .i64 gp, .int .i64 gz, .int .i64 gr], .slice none 0 0] w1 fun e w' => ∃ (P : Nat) (d : DS), e = .returned (.tuple #[.pointer (some ⟨P, 0, none⟩), .int .i64 0]) ∧ Hid (St W0 w' p P 0 (newC gb gp gz gr p q [] rs) d) := by
  refine (d_new_go gb gp gz gr none 0 0 [] w1 rfl (.inl rfl) plan_nil hg g1 g2 g3 g4 g5 g6).mono ?_
  rintro e w' ⟨P, q2, qc, rs2, rfl, h2, hd, hb2⟩
  refine ⟨P, _, rfl, ⟨⟨hl.later hb2, hd.lower hb.size, Rel.new gb gp gz gr p q [] [] rs rs2 P q2 qc none 0 0 hrs h2 (List.Perm.refl _) List.Pairwise.nil plan_nil.2 (by decide), ?_⟩, rfl, rfl, Below.after hb hb2⟩⟩
  intro b o e hne
  exact absurd rfl hne
theorem new_c2 (gb gp gz gr : Nat) (W : World) (hg : rightB gb gp gz gr = true) (g1 : 1 ≤ gb) (g2 : gb ≤ 256) (g3 : 1 ≤ gp) (g4 : gp ≤ 64) (g5 : 1 ≤ gz) (g6 : gz ≤ 512) :
    Calls Tryz.prog 7 #[.agg #[.int .i64 gb, .int .i64 gp, .int .i64 gz, .int .i64 gr], .slice none 0 0] W fun e w' => ∃ p q rs, e = .returned (.tuple #[.pointer (some ⟨p, 0, none⟩), .int .i64 0]) ∧ Hid (rs.length = gb) ∧ Hid (Lies W.heap.size w' (newC gb gp gz gr p q [] rs)) ∧ Hid (Below W.heap.size W w') := by
  refine (new_go gb gp gz gr none 0 0 [] W rfl (.inl rfl) plan_nil hg g1 g2 g3 g4 g5 g6).mono ?_
  rintro e w' ⟨p, q, s, rs, rfl, h1, h2, _, h3, h4⟩
  have : s = [] := h2.eq_nil
  subst this
  exact ⟨p, q, rs, rfl, h1, h3, h4⟩
theorem new_c0 (b p z r : Int) (W : World) (h : rightB b p z r = false) :
    Calls Tryz.prog 7 #[.agg #[.int .i64 b, .int .i64 p, .int .i64 z, .int .i64 r], .slice none 0 0] W fun e w' => e = .returned (.tuple #[.pointer none, .int .i64 22]) ∧ Below W.heap.size W w' :=
  new_shape b p z r none 0 0 [] W rfl (.inl rfl) plan_nil h
/-- What lies on while a scan's list is gone through. -/
structure Go2 (W0 W : World) (gx : Nat) (gv : List Value) (c : CS) (g cap : Nat) (l : List Bl) : Prop where
  lies : Lies W0.heap.size W c
  bel : Below W0.heap.size W0 W
  geo : Row W gx gv 23
  own : OwnL W0.heap.size W g c.gb cap l
theorem Go2.later {W0 W W' : World} {gx : Nat} {gv : List Value} {c : CS} {g cap : Nat} {l : List Bl} (h : Go2 W0 W gx gv c g cap l) (hb : Below W.heap.size W W') : Go2 W0 W' gx gv c g cap l :=
  ⟨h.lies.later hb, Below.after h.bel hb, h.geo.later hb, h.own.later hb⟩
theorem power_at {base : Nat} {w : World} {c : CS} (h : Lies base w c) (p : Nat) (hp : c.p = p) :
    Calls Tryz.prog 25 #[.pointer (some ⟨p, 0, none⟩)] w fun e w' => e = .returned (.tuple #[]) ∧ Lies base w' { c with on := true } ∧ Kept c.foot w w' := by
  subst hp
  refine (power_any h).mono ?_
  rintro e w' ⟨he, hl, hk, _⟩
  exact ⟨he, hl, hk⟩
theorem quiet_call {w : World} {f : FuncId} {args : Array Value} {v : Value} (p : Hd.Wd w) (h : Calls Tryz.prog f args p.v fun e w' => e = .returned v ∧ Below p.v.heap.size p.v w') :
    Calls Tryz.prog f args p.v fun e w'' => e = .returned v ∧ ∃ q : Hd.Wd w, w'' = q.v := by
  refine h.mono ?_
  rintro e w' ⟨rfl, hb⟩
  exact ⟨rfl, ⟨w', Below.after p.h hb⟩, rfl⟩
theorem quiet_same {w : World} {f : FuncId} {args : Array Value} {v : Value} (p : Hd.Wd w) (h : Calls Tryz.prog f args p.v fun e w' => e = .returned v ∧ p.v = w') :
    Calls Tryz.prog f args p.v fun e w'' => e = .returned v ∧ ∃ q : Hd.Wd w, w'' = q.v := by
  refine h.mono ?_
  rintro e w' ⟨rfl, rfl⟩
  exact ⟨rfl, p, rfl⟩
end Go.Proofs.YteoakhfofnocfaaGreatDoor
