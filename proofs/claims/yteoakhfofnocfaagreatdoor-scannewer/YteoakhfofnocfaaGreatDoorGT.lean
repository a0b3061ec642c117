/-
  Two copies of one logical block, as lists.
-/
import Derived.Test.YteoakhfofnocfaaGreatDoorGS
namespace Go.Proofs.YteoakhfofnocfaaGreatDoor
open Go.RowKit
set_option maxRecDepth 10000

/-- A block with a count, a mapping, and t pages. -/
def nine (r : Nat) (M : List Nat) : Nat → Bk
  | 0 => ((freshB 16 r).more 0 (cImg 3)).more 1 M
  | t + 1 => (nine r M t).more (2 + t) (cImg 3)
theorem nine_facts (r : Nat) (M : List Nat) : ∀ t, t ≤ 14 → (nine r M t).next = 2 + (t : Int) ∧ (nine r M t).bad = false ∧ (nine r M t).pgs.length = 16 ∧ (nine r M t).pgs[0]? = some ⟨1, cImg 3⟩ ∧ (nine r M t).pgs[1]? = some ⟨1, M⟩ ∧ ∀ k, 2 ≤ k → k < 2 + t → ∃ d, (nine r M t).pgs[k]? = some ⟨1, d⟩
  | 0, _ => ⟨rfl, rfl, rfl, rfl, rfl, fun k h1 h2 => by omega⟩
  | t + 1, h => by
    obtain ⟨h1, h2, h3, h4, h5, h6⟩ := nine_facts r M t (by omega)
    refine ⟨?_, h2, ?_, ?_, ?_, ?_⟩
    · show ((2 + t : Nat) : Int) + 1 = _
      omega
    · show ((nine r M t).pgs.set (2 + t) _).length = 16
      simpa using h3
    · show ((nine r M t).pgs.set (2 + t) _)[0]? = _
      rw [List.getElem?_set_ne (by omega)]
      exact h4
    · show ((nine r M t).pgs.set (2 + t) _)[1]? = _
      rw [List.getElem?_set_ne (by omega)]
      exact h5
    · intro k k1 k2
      show ∃ d, ((nine r M t).pgs.set (2 + t) ⟨1, cImg 3⟩)[k]? = some ⟨1, d⟩
      by_cases e : k = 2 + t
      · subst e
        exact ⟨_, List.getElem?_set_self (by omega)⟩
      · rw [List.getElem?_set_ne (by omega)]
        exact h6 k k1 (by omega)
/-- The blocks behind the first programs; the tenth is still to come. -/
def twoL (r0 r1 r2 r3 r4 r5 r6 r7 r8 r9 r10 r11 r12 r13 r14 r15 old : Nat) : List Bk :=
  [freshB 16 r0, freshB 16 r1, ((freshB 16 r2).more 0 (cImg 3)).more 1 (mImg 5 old 0), freshB 16 r3, freshB 16 r4, freshB 16 r5, freshB 16 r6, freshB 16 r7, freshB 16 r8, freshB 16 r9, freshB 16 r10, freshB 16 r11, freshB 16 r12, freshB 16 r13, freshB 16 r14, freshB 16 r15]
/-- The chip with t pages behind the newer copy's mapping. -/
def Nine (p old fr pg t : Nat) (c : CS) : Prop := ∃ r0 r1 r2 r3 r4 r5 r6 r7 r8 r9 r10 r11 r12 r13 r14 r15, OnC c p ((twoL r0 r1 r2 r3 r4 r5 r6 r7 r8 r9 r10 r11 r12 r13 r14 r15 old).set 9 (nine r9 (mImg 5 fr pg) t))
theorem Nine.p {p old fr pg t : Nat} {c : CS} (h : Nine p old fr pg t c) : c.p = p := by
  obtain ⟨r0, r1, r2, r3, r4, r5, r6, r7, r8, r9, r10, r11, r12, r13, r14, r15, o⟩ := h
  exact o.p
theorem Nine.more {p old fr pg t : Nat} {c : CS} (h : Nine p old fr pg t c) (ht : t < 14) : ∃ c', c.program 9 (2 + (t : Int)) (cImg 3) = (0, c') ∧ Nine p old fr pg (t + 1) c' := by
  obtain ⟨r0, r1, r2, r3, r4, r5, r6, r7, r8, r9, r10, r11, r12, r13, r14, r15, o⟩ := h
  obtain ⟨h1, h2, _⟩ := nine_facts r9 (mImg 5 fr pg) t (by omega)
  obtain ⟨c', e, o'⟩ := o.prog (k := 9) (j := 2 + t) (b := nine r9 (mImg 5 fr pg) t) (d := cImg 3) rfl h2 (by rw [h1]; omega) (by omega) (by rw [cImg_length]; decide)
  refine ⟨c', ?_, r0, r1, r2, r3, r4, r5, r6, r7, r8, r9, r10, r11, r12, r13, r14, r15, ?_⟩
  · rw [← e]
    congr 1
  · rw [List.set_set] at o'
    exact o'
/-- The chip behind the statement's first calls. -/
structure ExN (p old fr pg : Nat) (c0 c1 c2 c3 c4 : CS) : Prop where
  one : c0.program 2 0 (cImg 3) = (0, c1)
  two : c1.program 2 1 (mImg 5 old 0) = (0, c2)
  three : c2.program 9 0 (cImg 3) = (0, c3)
  four : c3.program 9 1 (mImg 5 fr pg) = (0, c4)
  p0 : c0.p = p
  p1 : c1.p = p
  p2 : c2.p = p
  p3 : c3.p = p
  nine : Nine p old fr pg 0 c4
theorem exN_small (p q old fr pg : Nat) (rs : List Nat) (h : rs.length = 16) : ∃ c1 c2 c3 c4, ExN p old fr pg (smallC p q rs) c1 c2 c3 c4 := by
  obtain ⟨r0, r1, r2, r3, r4, r5, r6, r7, r8, r9, r10, r11, r12, r13, r14, r15, rfl⟩ := len16 h
  have o0 := onC_small p q [r0, r1, r2, r3, r4, r5, r6, r7, r8, r9, r10, r11, r12, r13, r14, r15]
  obtain ⟨c1, h1, o1⟩ := o0.prog (k := 2) (j := 0) (b := freshB 16 r2) (d := cImg 3) rfl rfl rfl (by decide) (by rw [cImg_length]; decide)
  obtain ⟨c2, h2, o2⟩ := o1.prog (k := 2) (j := 1) (b := (freshB 16 r2).more 0 (cImg 3)) (d := mImg 5 old 0) rfl rfl rfl (by decide) (by rw [mImg_length]; decide)
  obtain ⟨c3, h3, o3⟩ := o2.prog (k := 9) (j := 0) (b := freshB 16 r9) (d := cImg 3) rfl rfl rfl (by decide) (by rw [cImg_length]; decide)
  obtain ⟨c4, h4, o4⟩ := o3.prog (k := 9) (j := 1) (b := (freshB 16 r9).more 0 (cImg 3)) (d := mImg 5 fr pg) rfl rfl rfl (by decide) (by rw [mImg_length]; decide)
  exact ⟨c1, c2, c3, c4, h1, h2, h3, h4, rfl, o1.p, o2.p, o3.p, r0, r1, r2, r3, r4, r5, r6, r7, r8, r9, r10, r11, r12, r13, r14, r15, o4⟩
/-- The sights. -/
def svN (old fr pg t : Nat) : List Sg := [newS, newS, ⟨false, false, true, 3, true, 5, old, 0, 0, false⟩, newS, newS, newS, newS, newS, newS, ⟨false, false, true, 3, true, 5, fr, pg, t, false⟩, newS, newS, newS, newS, newS, newS]
def spS : Bl := ⟨3, 3, 0, 0, 0, false⟩
/-- What a scan tells then. -/
def resN (old fr pg t : Nat) : List Bl :=
  if pg ≤ t ∧ old < fr then [spS, spS, spS, spS, spS, spS, spS, spS, spS, ⟨4, 3, 5, t, fr, false⟩, spS, spS, spS, spS, spS, spS]
  else [spS, spS, ⟨4, 3, 5, 0, old, false⟩, spS, spS, spS, spS, spS, spS, spS, spS, spS, spS, spS, spS, spS]
theorem mean_N (old fr pg t : Nat) : meanS (svN old fr pg t) = 3 := rfl
theorem enl_sp (l : List Bl) : enlist l spS = l ++ [spS] := if_neg (by decide)
theorem enl_two (old : Nat) : enlist [spS, spS] ⟨4, 3, 5, 0, old, false⟩ = [spS, spS, ⟨4, 3, 5, 0, old, false⟩] := rfl
theorem find_two (old : Nat) : findI [spS, spS, ⟨4, 3, 5, 0, old, false⟩, spS, spS, spS, spS, spS, spS] 5 = (2 : Nat) := rfl
theorem enlist_newer {l : List Bl} {b o : Bl} {i : Nat} (hb : b.st = 4) (hf : findI l b.leb = i) (ho : l[i]? = some o) (hs : o.seq < b.seq) : enlist l b = l.set i (spoilt o) ++ [b] := by
  unfold enlist
  rw [if_pos hb, hf, if_neg (by omega)]
  simp only [Int.toNat_natCast, ho]
  rw [if_pos hs]
theorem enlist_older {l : List Bl} {b o : Bl} {i : Nat} (hb : b.st = 4) (hf : findI l b.leb = i) (ho : l[i]? = some o) (hs : ¬ o.seq < b.seq) : enlist l b = l ++ [spoilt b] := by
  unfold enlist
  rw [if_pos hb, hf, if_neg (by omega)]
  simp only [Int.toNat_natCast, ho]
  rw [if_neg hs]
theorem enl_nine_yes {old fr t : Nat} (hs : old < fr) : enlist [spS, spS, ⟨4, 3, 5, 0, old, false⟩, spS, spS, spS, spS, spS, spS] ⟨4, 3, 5, t, fr, false⟩ = [spS, spS, spS, spS, spS, spS, spS, spS, spS, ⟨4, 3, 5, t, fr, false⟩] :=
  enlist_newer (i := 2) (o := ⟨4, 3, 5, 0, old, false⟩) rfl (find_two old) rfl (by show (old : Int) < fr; omega)
theorem enl_nine_no {old fr t : Nat} (hs : ¬ old < fr) : enlist [spS, spS, ⟨4, 3, 5, 0, old, false⟩, spS, spS, spS, spS, spS, spS] ⟨4, 3, 5, t, fr, false⟩ = [spS, spS, ⟨4, 3, 5, 0, old, false⟩, spS, spS, spS, spS, spS, spS, spS] :=
  enlist_older (i := 2) (o := ⟨4, 3, 5, 0, old, false⟩) rfl (find_two old) rfl (by show ¬ (old : Int) < fr; omega)
theorem two_block (old : Nat) : Sg.block ⟨false, false, true, 3, true, 5, (old : Int), 0, 0, false⟩ 3 = ⟨4, 3, 5, 0, old, false⟩ := rfl
theorem new_block : Sg.block newS 3 = spS := rfl
theorem nine_yes {fr pg t : Nat} (hp : pg ≤ t) : Sg.block ⟨false, false, true, 3, true, 5, (fr : Int), pg, t, false⟩ 3 = ⟨4, 3, 5, t, fr, false⟩ := by
  have hs : Sg.state ⟨false, false, true, 3, true, 5, (fr : Int), pg, t, false⟩ = 4 := by
    unfold Sg.state
    have : decide ((pg : Int) ≤ t) = true := by simp; omega
    simp only [this]
    rfl
  unfold Sg.block
  rw [hs]
  rfl
theorem nine_no {fr pg t : Nat} (hp : ¬ pg ≤ t) : Sg.block ⟨false, false, true, 3, true, 5, (fr : Int), pg, t, false⟩ 3 = spS := by
  have hs : Sg.state ⟨false, false, true, 3, true, 5, (fr : Int), pg, t, false⟩ = 3 := by
    unfold Sg.state
    have : decide ((pg : Int) ≤ t) = false := by simp; omega
    simp only [this]
    rfl
  unfold Sg.block
  rw [hs]
  rfl
theorem blocks_N (old fr pg t : Nat) : blocksS (svN old fr pg t) 3 = resN old fr pg t := by
  unfold resN blocksS svN
  by_cases hp : pg ≤ t
  · by_cases hs : old < fr
    · rw [if_pos (And.intro hp hs)]
      simp only [List.map_cons, List.map_nil, new_block, two_block, nine_yes hp, List.foldl_cons, List.foldl_nil, enl_sp, List.nil_append, List.cons_append, enl_two, enl_nine_yes hs]
    · rw [if_neg (fun h : pg ≤ t ∧ old < fr => hs h.2)]
      simp only [List.map_cons, List.map_nil, new_block, two_block, nine_yes hp, List.foldl_cons, List.foldl_nil, enl_sp, List.nil_append, List.cons_append, enl_two, enl_nine_no hs]
  · simp only [List.map_cons, List.map_nil, new_block, two_block, nine_no hp, List.foldl_cons, List.foldl_nil, enl_sp, List.nil_append, List.cons_append, enl_two]
    rw [if_neg (fun h : pg ≤ t ∧ old < fr => hp h.1)]
theorem Nine.scan {p old fr pg t : Nat} {c : CS} (h : Nine p old fr pg t c) (ho : old < 18446744073709551616) (hf : fr < 18446744073709551616) (hp : pg ≤ 14) (ht : t ≤ 14) : scanV c.vw = resN old fr pg t ∧ c.on = true ∧ c.gb = 16 := by
  obtain ⟨r0, r1, r2, r3, r4, r5, r6, r7, r8, r9, r10, r11, r12, r13, r14, r15, o⟩ := h
  refine ⟨?_, o.on, o.gb⟩
  obtain ⟨f1, f2, f3, f4, f5, f6⟩ := nine_facts r9 (mImg 5 fr pg) t ht
  have nw : ∀ i r, (i = 0 ∧ r = r0 ∨ i = 1 ∧ r = r1 ∨ i = 3 ∧ r = r3 ∨ i = 4 ∧ r = r4 ∨ i = 5 ∧ r = r5 ∨ i = 6 ∧ r = r6 ∨ i = 7 ∧ r = r7 ∨ i = 8 ∧ r = r8 ∨ i = 10 ∧ r = r10 ∨ i = 11 ∧ r = r11 ∨ i = 12 ∧ r = r12 ∨ i = 13 ∧ r = r13 ∨ i = 14 ∧ r = r14 ∨ i = 15 ∧ r = r15) → sightV c.vw (i : Nat) = newS := by
    intro i r hh
    refine sight_new o (b := freshB 16 r) ?_ rfl rfl rfl rfl
    rcases hh with ⟨rfl, rfl⟩ | ⟨rfl, rfl⟩ | ⟨rfl, rfl⟩ | ⟨rfl, rfl⟩ | ⟨rfl, rfl⟩ | ⟨rfl, rfl⟩ | ⟨rfl, rfl⟩ | ⟨rfl, rfl⟩ | ⟨rfl, rfl⟩ | ⟨rfl, rfl⟩ | ⟨rfl, rfl⟩ | ⟨rfl, rfl⟩ | ⟨rfl, rfl⟩ | ⟨rfl, rfl⟩ <;> rfl
  have s2 := sight_map o (i := 2) (n := 3) (a := 5) (s := old) (g := 0) (t := 0) (b := ((freshB 16 r2).more 0 (cImg 3)).more 1 (mImg 5 old 0)) rfl (by decide) (by decide) ho (by decide) rfl rfl (fun k h1 h2 => by omega) rfl rfl
  have s9 := sight_map o (i := 9) (n := 3) (a := 5) (s := fr) (g := pg) (t := t) (b := nine r9 (mImg 5 fr pg) t) rfl (by decide) (by decide) hf (by omega) f4 f5 f6 f1 f2
  have hs : sightsV c.vw = svN old fr pg t := by
    rw [sights16 o.gb, nw 0 r0 (by simp), nw 1 r1 (by simp), s2, nw 3 r3 (by simp), nw 4 r4 (by simp), nw 5 r5 (by simp), nw 6 r6 (by simp), nw 7 r7 (by simp), nw 8 r8 (by simp), s9, nw 10 r10 (by simp), nw 11 r11 (by simp), nw 12 r12 (by simp), nw 13 r13 (by simp), nw 14 r14 (by simp), nw 15 r15 (by simp)]
    rfl
  unfold scanV
  rw [hs, mean_N, blocks_N]
theorem resN_length (old fr pg t : Nat) : (resN old fr pg t).length = 16 := by unfold resN; split <;> rfl
/-- Which of the two it is, and that the other one is spoilt. -/
theorem resN_yes {old fr pg t : Nat} (h : pg ≤ t ∧ old < fr) : findI (resN old fr pg t) 5 = 9 ∧ (resN old fr pg t)[2]? = some spS := by unfold resN; rw [if_pos h]; exact ⟨rfl, rfl⟩
theorem resN_no {old fr pg t : Nat} (h : ¬ (pg ≤ t ∧ old < fr)) : findI (resN old fr pg t) 5 = 2 ∧ (resN old fr pg t)[9]? = some spS := by unfold resN; rw [if_neg h]; exact ⟨rfl, rfl⟩
end Go.Proofs.YteoakhfofnocfaaGreatDoor
