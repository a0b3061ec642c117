/-
  What a scan's list is, block by block: each logical block is mapped once.
  A scan's list is what the document's words say of each block by itself: a mapped block stays so unless another has the same logical block and is newer, or as new and stands ahead.
-/
import Derived.Test.YtkfecngkdlajgaaGreatDoorGQ
namespace Go.Proofs.YtkfecngkdlajgaaGreatDoor
open Go.RowKit
set_option maxRecDepth 10000

theorem get_snoc {α : Type} {l : List α} {x y : α} {i : Nat} (h : (l ++ [y])[i]? = some x) : l[i]? = some x ∨ (i = l.length ∧ x = y) := by
  by_cases hi : i < l.length
  · rw [List.getElem?_append_left hi] at h; exact .inl h
  · rw [List.getElem?_append_right (by omega)] at h
    have : i - l.length = 0 := by
      by_cases e : i - l.length = 0
      · exact e
      · obtain ⟨k, hk⟩ : ∃ k, i - l.length = k + 1 := ⟨i - l.length - 1, by omega⟩
        rw [hk] at h; simp at h
    rw [this] at h
    simp at h
    exact .inr ⟨by omega, h.symm⟩
theorem findI_none {l : List Bl} {leb : Int} (h : findI l leb = -1) : ∀ (i : Nat) (x : Bl), l[i]? = some x → x.st = 4 → x.leb ≠ leb := by
  intro i x hx hs e
  have hi := (List.getElem?_eq_some_iff.1 hx).1
  have hm : (i, x) ∈ sel 4 0 l := by
    have := sel_split (st := 4) (l := l) (i + 1)
    rw [this]
    refine List.mem_append_left _ ?_
    obtain ⟨h1, h2⟩ := List.getElem?_eq_some_iff.1 hx
    rw [sel_take h1, h2, if_pos hs]
    simp
  rcases firstL_cases leb (sel 4 0 l) with h1 | ⟨y, _, h2, _⟩
  · have key : ∀ p : List (Nat × Bl), (i, x) ∈ p → firstL leb p ≠ -1 := by
      intro p
      induction p with
      | nil => intro h; simp at h
      | cons z r ih =>
        intro hz
        unfold firstL
        split
        · omega
        · rename_i hne
          rcases List.mem_cons.1 hz with rfl | hz
          · exact absurd e hne
          · exact ih hz
    exact key _ hm h1
  · unfold findI at h
    rw [h2] at h
    omega
end Go.Proofs.YtkfecngkdlajgaaGreatDoor
namespace Go.Proofs.YtkfecngkdlajgaaGreatDoor
open Go.RowKit
set_option maxRecDepth 10000

def olderP (l : List Bl) (i : Nat) (b : Bl) : Prop := ∃ (k : Nat) (x : Bl), l[k]? = some x ∧ k ≠ i ∧ x.st = 4 ∧ x.leb = b.leb ∧ (b.seq < x.seq ∨ (x.seq = b.seq ∧ k < i))
open Classical in
noncomputable def fin1 (l : List Bl) (i : Nat) (b : Bl) : Bl := if b.st = 4 ∧ olderP l i b then spoilt b else b
noncomputable def refL (l : List Bl) : List Bl := l.mapIdx (fin1 l)
theorem refL_get (l : List Bl) (i : Nat) : (refL l)[i]? = (l[i]?).map (fin1 l i) := by simp [refL]
theorem refL_length (l : List Bl) : (refL l).length = l.length := by simp [refL]
theorem fin1_pos {l : List Bl} {i : Nat} {b : Bl} (h : b.st = 4) (ho : olderP l i b) : fin1 l i b = spoilt b := by unfold fin1; rw [if_pos ⟨h, ho⟩]
theorem fin1_neg {l : List Bl} {i : Nat} {b : Bl} (h : ¬ (b.st = 4 ∧ olderP l i b)) : fin1 l i b = b := by unfold fin1; rw [if_neg h]
theorem fin1_four {l : List Bl} {i : Nat} {b : Bl} (h : (fin1 l i b).st = 4) : fin1 l i b = b ∧ ¬ olderP l i b := by
  unfold fin1 at h ⊢
  split
  · rename_i q
    rw [if_pos q] at h
    cases h
  · rename_i q
    rw [if_neg q] at h
    exact ⟨rfl, fun ho => q ⟨h, ho⟩⟩
theorem champ (l : List Bl) (leb : Int) : ∀ n, (∃ (i : Nat) (x : Bl), i < n ∧ l[i]? = some x ∧ x.st = 4 ∧ x.leb = leb) → ∃ (c : Nat) (y : Bl), c < n ∧ l[c]? = some y ∧ y.st = 4 ∧ y.leb = leb ∧ ∀ (k : Nat) (x : Bl), k < n → l[k]? = some x → x.st = 4 → x.leb = leb → x.seq ≤ y.seq ∧ (x.seq = y.seq → c ≤ k)
  | 0, h => by obtain ⟨i, x, h, _⟩ := h; omega
  | n + 1, h => by
    by_cases hE : ∃ (i : Nat) (x : Bl), i < n ∧ l[i]? = some x ∧ x.st = 4 ∧ x.leb = leb
    · obtain ⟨c, y, hc, hy, y4, yl, hm⟩ := champ l leb n hE
      by_cases hb : ∃ b, l[n]? = some b ∧ b.st = 4 ∧ b.leb = leb ∧ y.seq < b.seq
      · obtain ⟨b, hb, b4, bl, hs⟩ := hb
        refine ⟨n, b, by omega, hb, b4, bl, fun k x hk hx x4 xl => ?_⟩
        by_cases e : k = n
        · subst e; rw [hb] at hx; cases hx; exact ⟨by omega, fun _ => by omega⟩
        · have := (hm k x (by omega) hx x4 xl).1
          exact ⟨by omega, fun _ => by omega⟩
      · refine ⟨c, y, by omega, hy, y4, yl, fun k x hk hx x4 xl => ?_⟩
        by_cases e : k = n
        · subst e
          have : ¬ y.seq < x.seq := fun q => hb ⟨x, hx, x4, xl, q⟩
          exact ⟨by omega, fun _ => by omega⟩
        · exact hm k x (by omega) hx x4 xl
    · obtain ⟨i, b, hi, hb, b4, bl⟩ := h
      have e : i = n := by
        by_cases e : i = n
        · exact e
        · exact absurd ⟨i, b, by omega, hb, b4, bl⟩ hE
      subst e
      refine ⟨i, b, by omega, hb, b4, bl, fun k x hk hx x4 xl => ?_⟩
      by_cases e : k = i
      · subst e; rw [hb] at hx; cases hx; exact ⟨by omega, fun _ => by omega⟩
      · exact absurd ⟨k, x, by omega, hx, x4, xl⟩ hE
theorem older_old {pre : List Bl} {b x : Bl} {i : Nat} (hx : pre[i]? = some x) : olderP (pre ++ [b]) i x ↔ olderP pre i x ∨ (b.st = 4 ∧ b.leb = x.leb ∧ x.seq < b.seq) := by
  have hi := (List.getElem?_eq_some_iff.1 hx).1
  constructor
  · rintro ⟨k, z, hz, hk, h4, hl, hs⟩
    rcases get_snoc hz with hz | ⟨rfl, rfl⟩
    · exact .inl ⟨k, z, hz, hk, h4, hl, hs⟩
    · refine .inr ⟨h4, hl, ?_⟩
      rcases hs with hs | ⟨_, hs⟩
      · exact hs
      · omega
  · rintro (⟨k, z, hz, hk, h4, hl, hs⟩ | ⟨h4, hl, hs⟩)
    · exact ⟨k, z, by rw [List.getElem?_append_left (List.getElem?_eq_some_iff.1 hz).1]; exact hz, hk, h4, hl, hs⟩
    · exact ⟨pre.length, b, by simp, by omega, h4, hl, .inl hs⟩
theorem older_new {pre : List Bl} {b : Bl} : olderP (pre ++ [b]) pre.length b ↔ ∃ (k : Nat) (x : Bl), pre[k]? = some x ∧ x.st = 4 ∧ x.leb = b.leb ∧ b.seq ≤ x.seq := by
  constructor
  · rintro ⟨k, z, hz, hk, h4, hl, hs⟩
    rcases get_snoc hz with hz | ⟨rfl, rfl⟩
    · exact ⟨k, z, hz, h4, hl, by omega⟩
    · exact absurd rfl hk
  · rintro ⟨k, z, hz, h4, hl, hs⟩
    have hk := (List.getElem?_eq_some_iff.1 hz).1
    exact ⟨k, z, by rw [List.getElem?_append_left hk]; exact hz, by omega, h4, hl, by omega⟩
/-- Two lists with one block more are the same if their blocks are. -/
theorem snoc_ext {l : List Bl} {pre : List Bl} {b b' : Bl} (hn : l.length = pre.length) (h1 : ∀ i x, pre[i]? = some x → l[i]? = some (fin1 (pre ++ [b]) i x)) (h2 : b' = fin1 (pre ++ [b]) pre.length b) : l ++ [b'] = refL (pre ++ [b]) := by
  apply List.ext_getElem?
  intro i
  rw [refL_get]
  by_cases hi : i < pre.length
  · rw [List.getElem?_append_left (by omega), List.getElem?_append_left hi]
    obtain ⟨x, hx⟩ : ∃ x, pre[i]? = some x := ⟨_, List.getElem?_eq_getElem hi⟩
    rw [h1 i x hx, hx]
    rfl
  · by_cases e : i = pre.length
    · subst e
      rw [← hn, List.getElem?_concat_length, hn, List.getElem?_concat_length, h2]
      rfl
    · rw [List.getElem?_eq_none (by simp; omega), List.getElem?_eq_none (by simp; omega)]
      rfl
theorem enl_ref (pre : List Bl) (b : Bl) : enlist (refL pre) b = refL (pre ++ [b]) := by
  have same : ∀ (i : Nat) (x : Bl), pre[i]? = some x → (x.st = 4 → b.st = 4 → b.leb = x.leb → x.seq < b.seq → olderP pre i x) → (refL pre)[i]? = some (fin1 (pre ++ [b]) i x) := by
    intro i x hx h
    rw [refL_get, hx]
    simp only [Option.map_some, Option.some.injEq]
    by_cases x4 : x.st = 4
    · by_cases ho : olderP pre i x
      · rw [fin1_pos x4 ho, fin1_pos x4 ((older_old hx).2 (.inl ho))]
      · rw [fin1_neg (fun q => ho q.2), fin1_neg (fun q => ?_)]
        rcases (older_old hx).1 q.2 with q | ⟨q1, q2, q3⟩
        · exact ho q
        · exact ho (h x4 q1 q2 q3)
    · rw [fin1_neg (fun q => x4 q.1), fin1_neg (fun q => x4 q.1)]
  by_cases b4 : b.st = 4
  · rcases find_cases (refL pre) b.leb with hf | ⟨k, o, hf, ho, o4, ol⟩
    · have he : enlist (refL pre) b = refL pre ++ [b] := by unfold enlist; rw [if_pos b4, hf, if_pos (by decide)]
      have none4 : ∀ (i : Nat) (x : Bl), pre[i]? = some x → x.st = 4 → x.leb ≠ b.leb := by
        intro i x hx x4 xl
        obtain ⟨c, y, hc, hy, y4, yl, hm⟩ := champ pre b.leb pre.length ⟨i, x, (List.getElem?_eq_some_iff.1 hx).1, hx, x4, xl⟩
        have hno : ¬ olderP pre c y := by
          rintro ⟨k, z, hz, hk, z4, zl, hs⟩
          obtain ⟨m1, m2⟩ := hm k z (List.getElem?_eq_some_iff.1 hz).1 hz z4 (zl.trans yl)
          rcases hs with hs | ⟨hs, hlt⟩
          · omega
          · have := m2 hs; omega
        refine findI_none hf c y ?_ y4 yl
        rw [refL_get, hy]
        simp only [Option.map_some, Option.some.injEq]
        exact fin1_neg (fun q => hno q.2)
      rw [he]
      refine snoc_ext (refL_length pre) (fun i x hx => same i x hx (fun x4 _ e _ => absurd e.symm (none4 i x hx x4))) ?_
      refine (fin1_neg ?_).symm
      rintro ⟨_, q⟩
      obtain ⟨k, x, hx, x4, xl, _⟩ := older_new.1 q
      exact none4 k x hx x4 xl
    · rw [refL_get] at ho
      obtain ⟨y, hy, hyo⟩ : ∃ y, pre[k]? = some y ∧ fin1 pre k y = o := by
        rcases h : pre[k]? with _ | y
        · rw [h] at ho; cases ho
        · rw [h] at ho; exact ⟨y, rfl, by simpa using ho⟩
      have hk := (List.getElem?_eq_some_iff.1 hy).1
      rw [← hyo] at o4
      obtain ⟨e1, hno⟩ := fin1_four o4
      rw [e1] at hyo
      subst hyo
      rw [e1] at o4
      have most : ∀ (i : Nat) (x : Bl), pre[i]? = some x → x.st = 4 → x.leb = b.leb → x.seq ≤ y.seq := by
        intro i x hx x4 xl
        by_cases q : y.seq < x.seq
        · refine absurd ⟨i, x, hx, ?_, x4, xl.trans ol.symm, .inl q⟩ hno
          rintro rfl
          rw [hy] at hx; cases hx; omega
        · omega
      have rest : ∀ (i : Nat) (x : Bl), pre[i]? = some x → i ≠ k → x.st = 4 → x.leb = b.leb → olderP pre i x := by
        intro i x hx hik x4 xl
        refine ⟨k, y, hy, fun e => hik e.symm, o4, ol.trans xl.symm, ?_⟩
        have h1 := most i x hx x4 xl
        by_cases q : x.seq < y.seq
        · exact .inl q
        · have e : y.seq = x.seq := by omega
          by_cases q2 : k < i
          · exact .inr ⟨e, q2⟩
          · exact absurd ⟨i, x, hx, hik, x4, xl.trans ol.symm, .inr ⟨e.symm, by omega⟩⟩ hno
      have hget : (refL pre)[(k : Int).toNat]? = some y := by
        rw [Int.toNat_natCast, refL_get, hy]
        simp only [Option.map_some, Option.some.injEq]
        exact e1
      by_cases hs : y.seq < b.seq
      · have he : enlist (refL pre) b = (refL pre).set k (spoilt y) ++ [b] := by
          unfold enlist
          rw [if_pos b4, hf, if_neg (by omega), hget]
          simp only
          rw [if_pos hs, Int.toNat_natCast]
        rw [he]
        refine snoc_ext (by rw [List.length_set, refL_length]) (fun i x hx => ?_) ?_
        · by_cases e : i = k
          · subst e
            rw [List.getElem?_set_self (by rw [refL_length]; exact hk)]
            rw [hy] at hx
            cases hx
            rw [fin1_pos o4 ((older_old hy).2 (.inr ⟨b4, ol.symm, hs⟩))]
          · rw [List.getElem?_set_ne (fun q => e q.symm)]
            exact same i x hx (fun x4 _ q _ => rest i x hx e x4 q.symm)
        · refine (fin1_neg ?_).symm
          rintro ⟨_, q⟩
          obtain ⟨j, x, hx, x4, xl, hsq⟩ := older_new.1 q
          have := most j x hx x4 xl
          omega
      · have he : enlist (refL pre) b = refL pre ++ [spoilt b] := by
          unfold enlist
          rw [if_pos b4, hf, if_neg (by omega), hget]
          simp only
          rw [if_neg hs]
        rw [he]
        refine snoc_ext (refL_length pre) (fun i x hx => same i x hx (fun x4 _ q hq => ?_)) ?_
        · refine rest i x hx ?_ x4 q.symm
          rintro rfl
          rw [hy] at hx; cases hx; omega
        · exact (fin1_pos b4 (older_new.2 ⟨k, y, hy, o4, ol, by omega⟩)).symm
  · have he : enlist (refL pre) b = refL pre ++ [b] := by unfold enlist; rw [if_neg b4]
    rw [he]
    exact snoc_ext (refL_length pre) (fun i x hx => same i x hx (fun _ q _ _ => absurd q b4)) (fin1_neg (fun q => b4 q.1)).symm
theorem fold_ref : ∀ (bs pre : List Bl), bs.foldl enlist (refL pre) = refL (pre ++ bs)
  | [], pre => by simp
  | b :: bs, pre => by rw [List.foldl_cons, enl_ref, fold_ref bs, List.append_assoc]; rfl
/-- A scan's blocks, each by itself. -/
noncomputable def blksV (v : Vw) : List Bl := (sightsV v).map (fun s => s.block (meanS (sightsV v)))
theorem blksV_length (v : Vw) : (blksV v).length = v.gb := by simp [blksV, sightsV_length]
theorem scan_ref (v : Vw) : scanV v = refL (blksV v) := by
  have := fold_ref (blksV v) []
  rw [List.nil_append] at this
  exact this
end Go.Proofs.YtkfecngkdlajgaaGreatDoor
