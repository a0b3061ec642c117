/-
  What a scan's list is, block by block: each logical block is mapped once.
  A scan's list is what the document's words say of each block by itself: a mapped block stays so unless another has the same logical block and is newer, or as new and stands ahead.
-/
import Derived.Test.YthffehaokndkeaaGreatDoorGQ
namespace Go.Proofs.YthffehaokndkeaaGreatDoor
open Go.RowKit
set_option maxRecDepth 10000

/-- No two are mapped with one leb. -/
def Uniq (l : List Bl) : Prop := ∀ (i j : Nat) (x y : Bl), l[i]? = some x → l[j]? = some y → x.st = 4 → y.st = 4 → x.leb = y.leb → i = j
/-- A list's block is the one that was listed, or that one spoilt. -/
def Same1 (x b : Bl) : Prop := x = b ∨ (b.st = 4 ∧ x = spoilt b)
theorem same1_map {x b : Bl} (h : Same1 x b) (hx : x.st = 4) : x = b := by
  rcases h with h | ⟨_, h⟩
  · exact h
  · rw [h] at hx; cases hx
theorem get_snoc {α : Type} {l : List α} {x y : α} {i : Nat} (h : (l ++ [y])[i]? = some x) : l[i]? = some x ∨ (i = l.length ∧ x = y) := by
  by_cases hi : i < l.length
  · rw [List.getElem?_append_left hi] at h; exact .inl h
  · rw [List.getElem?_append_right (by omega)] at h
    have : i - l.length = 0 := by
      by_cases e : i - l.length = 0
      · exact e
      · obtain ⟨k, hk⟩ : ∃ k, i - l.length = k + 1 := ⟨i - l.length - 1, by omega⟩
        rw [hk] at h; simp at h
    rw [this] at h
    simp at h
    exact .inr ⟨by omega, h.symm⟩
theorem findI_none {l : List Bl} {leb : Int} (h : findI l leb = -1) : ∀ (i : Nat) (x : Bl), l[i]? = some x → x.st = 4 → x.leb ≠ leb := by
  intro i x hx hs e
  have hi := (List.getElem?_eq_some_iff.1 hx).1
  have hm : (i, x) ∈ sel 4 0 l := by
    have := sel_split (st := 4) (l := l) (i + 1)
    rw [this]
    refine List.mem_append_left _ ?_
    obtain ⟨h1, h2⟩ := List.getElem?_eq_some_iff.1 hx
    rw [sel_take h1, h2, if_pos hs]
    simp
  rcases firstL_cases leb (sel 4 0 l) with h1 | ⟨y, _, h2, _⟩
  · have key : ∀ p : List (Nat × Bl), (i, x) ∈ p → firstL leb p ≠ -1 := by
      intro p
      induction p with
      | nil => intro h; simp at h
      | cons z r ih =>
        intro hz
        unfold firstL
        split
        · omega
        · rename_i hne
          rcases List.mem_cons.1 hz with rfl | hz
          · exact absurd e hne
          · exact ih hz
    exact key _ hm h1
  · unfold findI at h
    rw [h2] at h
    omega
theorem enlist_uniq {l : List Bl} {b : Bl} (h : Uniq l) : Uniq (enlist l b) := by
  by_cases hb : b.st = 4
  · rcases find_cases l b.leb with hf | ⟨k, o, hf, ho, hos, hol⟩
    · have he : enlist l b = l ++ [b] := by unfold enlist; rw [if_pos hb, hf, if_pos (by decide)]
      rw [he]
      intro i j x y hx hy sx sy e
      rcases get_snoc hx with hx1 | ⟨rfl, rfl⟩ <;> rcases get_snoc hy with hy1 | ⟨rfl, rfl⟩
      · exact h i j x y hx1 hy1 sx sy e
      · exact absurd e (findI_none hf i x hx1 sx)
      · exact absurd e.symm (findI_none hf j y hy1 sy)
      · rfl
    · have hk := (List.getElem?_eq_some_iff.1 ho).1
      by_cases hs : o.seq < b.seq
      · have he : enlist l b = l.set k (spoilt o) ++ [b] := by
          unfold enlist
          rw [if_pos hb, hf, if_neg (by omega)]
          simp only [Int.toNat_natCast, ho]
          rw [if_pos hs]
        rw [he]
        have key : ∀ i x, (l.set k (spoilt o))[i]? = some x → x.st = 4 → i ≠ k ∧ l[i]? = some x := by
          intro i x hx sx
          by_cases e : i = k
          · subst e
            rw [List.getElem?_set_self hk] at hx
            cases hx
            cases sx
          · rw [List.getElem?_set_ne (fun q => e q.symm)] at hx
            exact ⟨e, hx⟩
        intro i j x y hx hy sx sy e
        rcases get_snoc hx with hx1 | ⟨rfl, rfl⟩ <;> rcases get_snoc hy with hy1 | ⟨rfl, rfl⟩
        · exact h i j x y (key i x hx1 sx).2 (key j y hy1 sy).2 sx sy e
        · obtain ⟨n1, n2⟩ := key i x hx1 sx
          exact absurd (h i k x o n2 ho sx hos (e.trans hol.symm)) n1
        · obtain ⟨n1, n2⟩ := key j y hy1 sy
          exact absurd (h j k y o n2 ho sy hos (e.symm.trans hol.symm)) n1
        · rfl
      · have he : enlist l b = l ++ [spoilt b] := by
          unfold enlist
          rw [if_pos hb, hf, if_neg (by omega)]
          simp only [Int.toNat_natCast, ho]
          rw [if_neg hs]
        rw [he]
        intro i j x y hx hy sx sy e
        rcases get_snoc hx with hx1 | ⟨rfl, rfl⟩
        · rcases get_snoc hy with hy1 | ⟨rfl, rfl⟩
          · exact h i j x y hx1 hy1 sx sy e
          · cases sy
        · cases sx
  · have he : enlist l b = l ++ [b] := by unfold enlist; rw [if_neg hb]
    rw [he]
    intro i j x y hx hy sx sy e
    rcases get_snoc hx with hx1 | ⟨rfl, rfl⟩
    · rcases get_snoc hy with hy1 | ⟨rfl, rfl⟩
      · exact h i j x y hx1 hy1 sx sy e
      · exact absurd sy hb
    · exact absurd sx hb
theorem enlist_same {l bs : List Bl} {b : Bl} (hl : l.length = bs.length) (h : ∀ (i : Nat) (x y : Bl), l[i]? = some x → bs[i]? = some y → Same1 x y) : ∀ (i : Nat) (x y : Bl), (enlist l b)[i]? = some x → (bs ++ [b])[i]? = some y → Same1 x y := by
  have tail : ∀ (l' : List Bl) (b' : Bl), l'.length = bs.length → (∀ (i : Nat) (x y : Bl), l'[i]? = some x → bs[i]? = some y → Same1 x y) → Same1 b' b → ∀ (i : Nat) (x y : Bl), (l' ++ [b'])[i]? = some x → (bs ++ [b])[i]? = some y → Same1 x y := by
    intro l' b' hl' h' hb' i x y hx hy
    rcases get_snoc hx with hx | ⟨rfl, rfl⟩
    · rcases get_snoc hy with hy | ⟨rfl, rfl⟩
      · exact h' i x y hx hy
      · have := (List.getElem?_eq_some_iff.1 hx).1
        omega
    · rcases get_snoc hy with hy | ⟨_, rfl⟩
      · have := (List.getElem?_eq_some_iff.1 hy).1
        omega
      · exact hb'
  unfold enlist
  split
  · rename_i hb
    split
    · exact tail l b hl h (.inl rfl)
    · rename_i hneg
      split
      · exact tail l b hl h (.inl rfl)
      · rename_i o ho
        split
        · refine tail _ b (by simpa using hl) ?_ (.inl rfl)
          intro i x y hx hy
          by_cases e : i = (findI l b.leb).toNat
          · have hlt := (List.getElem?_eq_some_iff.1 ho).1
            subst e
            rw [List.getElem?_set_self hlt] at hx
            cases hx
            rcases h _ o y ho hy with q | ⟨q, r⟩
            · rcases find_cases l b.leb with hf | ⟨k, o', hf, ho', hos, _⟩
              · exact absurd (show findI l b.leb < 0 by rw [hf]; decide) hneg
              · rw [hf] at ho
                simp only [Int.toNat_natCast] at ho
                rw [ho'] at ho
                cases ho
                exact .inr ⟨by rw [← q]; exact hos, by rw [q]⟩
            · refine .inr ⟨q, ?_⟩
              rw [r]
              rfl
          · rw [List.getElem?_set_ne (fun q => e q.symm)] at hx
            exact h i x y hx hy
        · exact tail l _ hl h (.inr ⟨hb, rfl⟩)
  · exact tail l b hl h (.inl rfl)
theorem fold_facts : ∀ (bs done l : List Bl), l.length = done.length → Uniq l → (∀ (i : Nat) (x y : Bl), l[i]? = some x → done[i]? = some y → Same1 x y) →
    Uniq (bs.foldl enlist l) ∧ ∀ (i : Nat) (x y : Bl), (bs.foldl enlist l)[i]? = some x → (done ++ bs)[i]? = some y → Same1 x y
  | [], done, l, _, hu, hs => by simpa using ⟨hu, hs⟩
  | b :: bs, done, l, hl, hu, hs => by
    have := fold_facts bs (done ++ [b]) (enlist l b) (by rw [enlist_length, hl]; simp) (enlist_uniq hu) (enlist_same hl hs)
    rw [List.append_assoc] at this
    exact this
theorem scan_facts (v : Vw) : Uniq (scanV v) ∧ ∀ (i : Nat) (x : Bl), (scanV v)[i]? = some x → Same1 x ((sightV v (i : Nat)).block (meanS (sightsV v))) := by
  have := fold_facts ((sightsV v).map (fun s => s.block (meanS (sightsV v)))) [] [] rfl (fun i j x y hx => by simp at hx) (fun i x y hx => by simp at hx)
  refine ⟨this.1, fun i x hx => ?_⟩
  refine this.2 i x _ hx ?_
  have hi : i < v.gb := by
    have h1 := (List.getElem?_eq_some_iff.1 hx).1
    rwa [scanV_length] at h1
  simp [sightsV, hi]
theorem find_uniq {l : List Bl} {i : Nat} {x : Bl} (hu : Uniq l) (hx : l[i]? = some x) (hs : x.st = 4) : findI l x.leb = i := by
  rcases find_cases l x.leb with h | ⟨k, o, h, ho, hos, hol⟩
  · exact absurd rfl (findI_none h i x hx hs)
  · rw [h, hu k i o x ho hx hos hs hol]
/-- What a scan's block is. -/
structure OneB (v : Vw) (i : Nat) (x : Bl) : Prop where
  low : 1 ≤ x.st ∧ x.st ≤ 4
  bad : (x.st == 1) = v.bd i
  free : x.st = 2 → v.nx i = 1
  zero : x.st ≠ 4 → x.leb = 0 ∧ x.used = 0 ∧ x.seq = 0 ∧ x.closed = false
  map : x.st = 4 → 0 ≤ x.leb ∧ x.leb < v.lebs ∧ x.used = (writtenV v i).1 ∧ (Hd.parseC (v.rd i 0).1).isSome = true ∧ (Hd.parseM (v.rd i 1).1).isSome = true
theorem one_block (v : Vw) (i : Nat) (mean : Int) : OneB v i ((sightV v i).block mean) := by
  have hm : (sightV v i).mapped = ((Hd.parseM (v.rd i 1).1).isSome && decide ((((Hd.parseM (v.rd i 1).1).getD (0, 0, 0)).1 : Int) < v.lebs)) := rfl
  have hmk : (sightV v i).marked = v.bd i := rfl
  have hbl : (sightV v i).blank = (v.nx i == 1) := rfl
  have hco : (sightV v i).counted = (Hd.parseC (v.rd i 0).1).isSome := rfl
  have hle : (sightV v i).leb = (((Hd.parseM (v.rd i 1).1).getD (0, 0, 0)).1 : Nat) := rfl
  have hus : (sightV v i).used = if (sightV v i).mapped then (writtenV v i).1 else 0 := rfl
  generalize sightV v i = s at *
  unfold Sg.block
  by_cases h1 : s.marked = true
  · have hs : s.state = 1 := by unfold Sg.state; rw [if_pos h1]
    rw [if_pos hs]
    exact ⟨(by decide), (by rw [← hmk, h1]; rfl), (fun h => by cases h), (fun _ => ⟨rfl, rfl, rfl, rfl⟩), (fun h => by cases h)⟩
  · have h1' : s.marked = false := by simpa using h1
    by_cases h2 : (s.counted && s.blank) = true
    · have hs : s.state = 2 := by unfold Sg.state; rw [if_neg h1, if_pos h2]
      rw [hs, if_neg (by decide), if_neg (by decide)]
      simp only [Bool.and_eq_true] at h2
      exact ⟨(by show (1 : Int) ≤ 2 ∧ (2 : Int) ≤ 4; decide), (by rw [← hmk, h1']; rfl), (fun _ => by rw [h2.2] at hbl; simpa using hbl.symm), (fun _ => ⟨rfl, rfl, rfl, rfl⟩), (fun h => by cases h)⟩
    · by_cases h4 : (s.counted && s.mapped && decide (s.pages ≤ s.used)) = true
      · have hs : s.state = 4 := by unfold Sg.state; rw [if_neg h1, if_neg h2, if_pos h4]
        rw [hs, if_neg (by decide), if_pos rfl]
        simp only [Bool.and_eq_true] at h4
        obtain ⟨⟨q1, q2⟩, _⟩ := h4
        rw [q2] at hm
        have hm' := hm.symm
        simp only [Bool.and_eq_true, decide_eq_true_eq] at hm'
        refine ⟨(by show (1 : Int) ≤ 4 ∧ (4 : Int) ≤ 4; decide), (by rw [← hmk, h1']; rfl), (fun h => by cases h), (fun h => absurd rfl h), fun _ => ⟨?_, ?_, ?_, ?_, hm'.1⟩⟩
        · show 0 ≤ s.leb; rw [hle]; omega
        · show s.leb < v.lebs; rw [hle]; exact hm'.2
        · show s.used = _; rw [hus, if_pos q2]
        · rw [← hco]; exact q1
      · have hs : s.state = 3 := by unfold Sg.state; rw [if_neg h1, if_neg h2, if_neg h4]
        rw [hs, if_neg (by decide), if_neg (by decide)]
        exact ⟨(by show (1 : Int) ≤ 3 ∧ (3 : Int) ≤ 4; decide), (by rw [← hmk, h1']; rfl), (fun h => by cases h), (fun _ => ⟨rfl, rfl, rfl, rfl⟩), (fun h => by cases h)⟩
theorem one_scan {v : Vw} {i : Nat} {x : Bl} (hx : (scanV v)[i]? = some x) : OneB v i x := by
  have hb := one_block v i (meanS (sightsV v))
  rcases (scan_facts v).2 i x hx with e | ⟨h4, e⟩
  · rw [e]; exact hb
  · rw [e]
    refine ⟨(by show (1 : Int) ≤ 3 ∧ (3 : Int) ≤ 4; decide), ?_, (fun h => by cases h), (fun _ => ⟨rfl, rfl, rfl, rfl⟩), (fun h => by cases h)⟩
    have := hb.bad
    rw [h4] at this
    rw [← this]
    rfl
end Go.Proofs.YthffehaokndkeaaGreatDoor
namespace Go.Proofs.YthffehaokndkeaaGreatDoor
open Go.RowKit
set_option maxRecDepth 10000

def olderP (l : List Bl) (i : Nat) (b : Bl) : Prop := ∃ (k : Nat) (x : Bl), l[k]? = some x ∧ k ≠ i ∧ x.st = 4 ∧ x.leb = b.leb ∧ (b.seq < x.seq ∨ (x.seq = b.seq ∧ k < i))
open Classical in
noncomputable def fin1 (l : List Bl) (i : Nat) (b : Bl) : Bl := if b.st = 4 ∧ olderP l i b then spoilt b else b
noncomputable def refL (l : List Bl) : List Bl := l.mapIdx (fin1 l)
theorem refL_get (l : List Bl) (i : Nat) : (refL l)[i]? = (l[i]?).map (fin1 l i) := by simp [refL]
theorem refL_length (l : List Bl) : (refL l).length = l.length := by simp [refL]
theorem fin1_pos {l : List Bl} {i : Nat} {b : Bl} (h : b.st = 4) (ho : olderP l i b) : fin1 l i b = spoilt b := by unfold fin1; rw [if_pos ⟨h, ho⟩]
theorem fin1_neg {l : List Bl} {i : Nat} {b : Bl} (h : ¬ (b.st = 4 ∧ olderP l i b)) : fin1 l i b = b := by unfold fin1; rw [if_neg h]
theorem fin1_four {l : List Bl} {i : Nat} {b : Bl} (h : (fin1 l i b).st = 4) : fin1 l i b = b ∧ ¬ olderP l i b := by
  unfold fin1 at h ⊢
  split
  · rename_i q
    rw [if_pos q] at h
    cases h
  · rename_i q
    rw [if_neg q] at h
    exact ⟨rfl, fun ho => q ⟨h, ho⟩⟩
theorem champ (l : List Bl) (leb : Int) : ∀ n, (∃ (i : Nat) (x : Bl), i < n ∧ l[i]? = some x ∧ x.st = 4 ∧ x.leb = leb) → ∃ (c : Nat) (y : Bl), c < n ∧ l[c]? = some y ∧ y.st = 4 ∧ y.leb = leb ∧ ∀ (k : Nat) (x : Bl), k < n → l[k]? = some x → x.st = 4 → x.leb = leb → x.seq ≤ y.seq ∧ (x.seq = y.seq → c ≤ k)
  | 0, h => by obtain ⟨i, x, h, _⟩ := h; omega
  | n + 1, h => by
    by_cases hE : ∃ (i : Nat) (x : Bl), i < n ∧ l[i]? = some x ∧ x.st = 4 ∧ x.leb = leb
    · obtain ⟨c, y, hc, hy, y4, yl, hm⟩ := champ l leb n hE
      by_cases hb : ∃ b, l[n]? = some b ∧ b.st = 4 ∧ b.leb = leb ∧ y.seq < b.seq
      · obtain ⟨b, hb, b4, bl, hs⟩ := hb
        refine ⟨n, b, by omega, hb, b4, bl, fun k x hk hx x4 xl => ?_⟩
        by_cases e : k = n
        · subst e; rw [hb] at hx; cases hx; exact ⟨by omega, fun _ => by omega⟩
        · have := (hm k x (by omega) hx x4 xl).1
          exact ⟨by omega, fun _ => by omega⟩
      · refine ⟨c, y, by omega, hy, y4, yl, fun k x hk hx x4 xl => ?_⟩
        by_cases e : k = n
        · subst e
          have : ¬ y.seq < x.seq := fun q => hb ⟨x, hx, x4, xl, q⟩
          exact ⟨by omega, fun _ => by omega⟩
        · exact hm k x (by omega) hx x4 xl
    · obtain ⟨i, b, hi, hb, b4, bl⟩ := h
      have e : i = n := by
        by_cases e : i = n
        · exact e
        · exact absurd ⟨i, b, by omega, hb, b4, bl⟩ hE
      subst e
      refine ⟨i, b, by omega, hb, b4, bl, fun k x hk hx x4 xl => ?_⟩
      by_cases e : k = i
      · subst e; rw [hb] at hx; cases hx; exact ⟨by omega, fun _ => by omega⟩
      · exact absurd ⟨k, x, by omega, hx, x4, xl⟩ hE
theorem older_old {pre : List Bl} {b x : Bl} {i : Nat} (hx : pre[i]? = some x) : olderP (pre ++ [b]) i x ↔ olderP pre i x ∨ (b.st = 4 ∧ b.leb = x.leb ∧ x.seq < b.seq) := by
  have hi := (List.getElem?_eq_some_iff.1 hx).1
  constructor
  · rintro ⟨k, z, hz, hk, h4, hl, hs⟩
    rcases get_snoc hz with hz | ⟨rfl, rfl⟩
    · exact .inl ⟨k, z, hz, hk, h4, hl, hs⟩
    · refine .inr ⟨h4, hl, ?_⟩
      rcases hs with hs | ⟨_, hs⟩
      · exact hs
      · omega
  · rintro (⟨k, z, hz, hk, h4, hl, hs⟩ | ⟨h4, hl, hs⟩)
    · exact ⟨k, z, by rw [List.getElem?_append_left (List.getElem?_eq_some_iff.1 hz).1]; exact hz, hk, h4, hl, hs⟩
    · exact ⟨pre.length, b, by simp, by omega, h4, hl, .inl hs⟩
theorem older_new {pre : List Bl} {b : Bl} : olderP (pre ++ [b]) pre.length b ↔ ∃ (k : Nat) (x : Bl), pre[k]? = some x ∧ x.st = 4 ∧ x.leb = b.leb ∧ b.seq ≤ x.seq := by
  constructor
  · rintro ⟨k, z, hz, hk, h4, hl, hs⟩
    rcases get_snoc hz with hz | ⟨rfl, rfl⟩
    · exact ⟨k, z, hz, h4, hl, by omega⟩
    · exact absurd rfl hk
  · rintro ⟨k, z, hz, h4, hl, hs⟩
    have hk := (List.getElem?_eq_some_iff.1 hz).1
    exact ⟨k, z, by rw [List.getElem?_append_left hk]; exact hz, by omega, h4, hl, by omega⟩
/-- Two lists with one block more are the same if their blocks are. -/
theorem snoc_ext {l : List Bl} {pre : List Bl} {b b' : Bl} (hn : l.length = pre.length) (h1 : ∀ i x, pre[i]? = some x → l[i]? = some (fin1 (pre ++ [b]) i x)) (h2 : b' = fin1 (pre ++ [b]) pre.length b) : l ++ [b'] = refL (pre ++ [b]) := by
  apply List.ext_getElem?
  intro i
  rw [refL_get]
  by_cases hi : i < pre.length
  · rw [List.getElem?_append_left (by omega), List.getElem?_append_left hi]
    obtain ⟨x, hx⟩ : ∃ x, pre[i]? = some x := ⟨_, List.getElem?_eq_getElem hi⟩
    rw [h1 i x hx, hx]
    rfl
  · by_cases e : i = pre.length
    · subst e
      rw [← hn, List.getElem?_concat_length, hn, List.getElem?_concat_length, h2]
      rfl
    · rw [List.getElem?_eq_none (by simp; omega), List.getElem?_eq_none (by simp; omega)]
      rfl
theorem enl_ref (pre : List Bl) (b : Bl) : enlist (refL pre) b = refL (pre ++ [b]) := by
  have same : ∀ (i : Nat) (x : Bl), pre[i]? = some x → (x.st = 4 → b.st = 4 → b.leb = x.leb → x.seq < b.seq → olderP pre i x) → (refL pre)[i]? = some (fin1 (pre ++ [b]) i x) := by
    intro i x hx h
    rw [refL_get, hx]
    simp only [Option.map_some, Option.some.injEq]
    by_cases x4 : x.st = 4
    · by_cases ho : olderP pre i x
      · rw [fin1_pos x4 ho, fin1_pos x4 ((older_old hx).2 (.inl ho))]
      · rw [fin1_neg (fun q => ho q.2), fin1_neg (fun q => ?_)]
        rcases (older_old hx).1 q.2 with q | ⟨q1, q2, q3⟩
        · exact ho q
        · exact ho (h x4 q1 q2 q3)
    · rw [fin1_neg (fun q => x4 q.1), fin1_neg (fun q => x4 q.1)]
  by_cases b4 : b.st = 4
  · rcases find_cases (refL pre) b.leb with hf | ⟨k, o, hf, ho, o4, ol⟩
    · have he : enlist (refL pre) b = refL pre ++ [b] := by unfold enlist; rw [if_pos b4, hf, if_pos (by decide)]
      have none4 : ∀ (i : Nat) (x : Bl), pre[i]? = some x → x.st = 4 → x.leb ≠ b.leb := by
        intro i x hx x4 xl
        obtain ⟨c, y, hc, hy, y4, yl, hm⟩ := champ pre b.leb pre.length ⟨i, x, (List.getElem?_eq_some_iff.1 hx).1, hx, x4, xl⟩
        have hno : ¬ olderP pre c y := by
          rintro ⟨k, z, hz, hk, z4, zl, hs⟩
          obtain ⟨m1, m2⟩ := hm k z (List.getElem?_eq_some_iff.1 hz).1 hz z4 (zl.trans yl)
          rcases hs with hs | ⟨hs, hlt⟩
          · omega
          · have := m2 hs; omega
        refine findI_none hf c y ?_ y4 yl
        rw [refL_get, hy]
        simp only [Option.map_some, Option.some.injEq]
        exact fin1_neg (fun q => hno q.2)
      rw [he]
      refine snoc_ext (refL_length pre) (fun i x hx => same i x hx (fun x4 _ e _ => absurd e.symm (none4 i x hx x4))) ?_
      refine (fin1_neg ?_).symm
      rintro ⟨_, q⟩
      obtain ⟨k, x, hx, x4, xl, _⟩ := older_new.1 q
      exact none4 k x hx x4 xl
    · rw [refL_get] at ho
      obtain ⟨y, hy, hyo⟩ : ∃ y, pre[k]? = some y ∧ fin1 pre k y = o := by
        rcases h : pre[k]? with _ | y
        · rw [h] at ho; cases ho
        · rw [h] at ho; exact ⟨y, rfl, by simpa using ho⟩
      have hk := (List.getElem?_eq_some_iff.1 hy).1
      rw [← hyo] at o4
      obtain ⟨e1, hno⟩ := fin1_four o4
      rw [e1] at hyo
      subst hyo
      rw [e1] at o4
      have most : ∀ (i : Nat) (x : Bl), pre[i]? = some x → x.st = 4 → x.leb = b.leb → x.seq ≤ y.seq := by
        intro i x hx x4 xl
        by_cases q : y.seq < x.seq
        · refine absurd ⟨i, x, hx, ?_, x4, xl.trans ol.symm, .inl q⟩ hno
          rintro rfl
          rw [hy] at hx; cases hx; omega
        · omega
      have rest : ∀ (i : Nat) (x : Bl), pre[i]? = some x → i ≠ k → x.st = 4 → x.leb = b.leb → olderP pre i x := by
        intro i x hx hik x4 xl
        refine ⟨k, y, hy, fun e => hik e.symm, o4, ol.trans xl.symm, ?_⟩
        have h1 := most i x hx x4 xl
        by_cases q : x.seq < y.seq
        · exact .inl q
        · have e : y.seq = x.seq := by omega
          by_cases q2 : k < i
          · exact .inr ⟨e, q2⟩
          · exact absurd ⟨i, x, hx, hik, x4, xl.trans ol.symm, .inr ⟨e.symm, by omega⟩⟩ hno
      have hget : (refL pre)[(k : Int).toNat]? = some y := by
        rw [Int.toNat_natCast, refL_get, hy]
        simp only [Option.map_some, Option.some.injEq]
        exact e1
      by_cases hs : y.seq < b.seq
      · have he : enlist (refL pre) b = (refL pre).set k (spoilt y) ++ [b] := by
          unfold enlist
          rw [if_pos b4, hf, if_neg (by omega), hget]
          simp only
          rw [if_pos hs, Int.toNat_natCast]
        rw [he]
        refine snoc_ext (by rw [List.length_set, refL_length]) (fun i x hx => ?_) ?_
        · by_cases e : i = k
          · subst e
            rw [List.getElem?_set_self (by rw [refL_length]; exact hk)]
            rw [hy] at hx
            cases hx
            rw [fin1_pos o4 ((older_old hy).2 (.inr ⟨b4, ol.symm, hs⟩))]
          · rw [List.getElem?_set_ne (fun q => e q.symm)]
            exact same i x hx (fun x4 _ q _ => rest i x hx e x4 q.symm)
        · refine (fin1_neg ?_).symm
          rintro ⟨_, q⟩
          obtain ⟨j, x, hx, x4, xl, hsq⟩ := older_new.1 q
          have := most j x hx x4 xl
          omega
      · have he : enlist (refL pre) b = refL pre ++ [spoilt b] := by
          unfold enlist
          rw [if_pos b4, hf, if_neg (by omega), hget]
          simp only
          rw [if_neg hs]
        rw [he]
        refine snoc_ext (refL_length pre) (fun i x hx => same i x hx (fun x4 _ q hq => ?_)) ?_
        · refine rest i x hx ?_ x4 q.symm
          rintro rfl
          rw [hy] at hx; cases hx; omega
        · exact (fin1_pos b4 (older_new.2 ⟨k, y, hy, o4, ol, by omega⟩)).symm
  · have he : enlist (refL pre) b = refL pre ++ [b] := by unfold enlist; rw [if_neg b4]
    rw [he]
    exact snoc_ext (refL_length pre) (fun i x hx => same i x hx (fun _ q _ _ => absurd q b4)) (fin1_neg (fun q => b4 q.1)).symm
theorem fold_ref : ∀ (bs pre : List Bl), bs.foldl enlist (refL pre) = refL (pre ++ bs)
  | [], pre => by simp
  | b :: bs, pre => by rw [List.foldl_cons, enl_ref, fold_ref bs, List.append_assoc]; rfl
/-- A scan's blocks, each by itself. -/
noncomputable def blksV (v : Vw) : List Bl := (sightsV v).map (fun s => s.block (meanS (sightsV v)))
theorem blksV_length (v : Vw) : (blksV v).length = v.gb := by simp [blksV, sightsV_length]
theorem scan_ref (v : Vw) : scanV v = refL (blksV v) := by
  have := fold_ref (blksV v) []
  rw [List.nil_append] at this
  exact this
end Go.Proofs.YthffehaokndkeaaGreatDoor
