/-
  Count and Mapping at whatever numbers, as one answer each; the laws' Same.
-/
import Derived.Test.YtdhbhjfpjmmonaaDoorHCard
namespace Go.Proofs.YtdhbhjfpjmmonaaDoor
open Go.RowKit Go.Extern.Stop Go.Stop Go.Extern M

open Classical in
noncomputable def cE (n page : Int) : Int := if countOk n ∧ pageOk page then 0 else 22
open Classical in
noncomputable def cL (n page : Int) : List Nat := if countOk n ∧ pageOk page then imgL (countL n.toNat) page.toNat else []
open Classical in
noncomputable def mE (a c page : Int) : Int := if (lebOk a ∧ pagesOk c) ∧ pageOk page then 0 else 22
open Classical in
noncomputable def mL (a b c page : Int) : List Nat := if (lebOk a ∧ pagesOk c) ∧ pageOk page then imgL (mapL a.toNat b.toNat c.toNat) page.toNat else []
theorem cE_ok {n page : Int} (h : countOk n ∧ pageOk page) : cE n page = 0 ∧ cL n page = imgL (countL n.toNat) page.toNat := ⟨if_pos h, if_pos h⟩
theorem cE_no {n page : Int} (h : ¬ (countOk n ∧ pageOk page)) : cE n page = 22 ∧ cL n page = [] := ⟨if_neg h, if_neg h⟩
theorem mE_ok {a b c page : Int} (h : (lebOk a ∧ pagesOk c) ∧ pageOk page) : mE a c page = 0 ∧ mL a b c page = imgL (mapL a.toNat b.toNat c.toNat) page.toNat := ⟨if_pos h, if_pos h⟩
theorem mE_no {a b c page : Int} (h : ¬ ((lebOk a ∧ pagesOk c) ∧ pageOk page)) : mE a c page = 22 ∧ mL a b c page = [] := ⟨if_neg h, if_neg h⟩
theorem cE_cases (n page : Int) : cE n page = 0 ∨ cE n page = 22 := by
  by_cases h : countOk n ∧ pageOk page
  · exact .inl (cE_ok h).1
  · exact .inr (cE_no h).1
theorem mE_cases (a c page : Int) : mE a c page = 0 ∨ mE a c page = 22 := by
  by_cases h : (lebOk a ∧ pagesOk c) ∧ pageOk page
  · exact .inl (if_pos h)
  · exact .inr (if_neg h)
theorem cE_zero {n page : Int} (h : cE n page = 0) : countOk n ∧ pageOk page := by
  by_cases hh : countOk n ∧ pageOk page
  · exact hh
  · rw [(cE_no hh).1] at h; cases h
theorem mE_zero {a c page : Int} (h : mE a c page = 0) : (lebOk a ∧ pagesOk c) ∧ pageOk page := by
  by_cases hh : (lebOk a ∧ pagesOk c) ∧ pageOk page
  · exact hh
  · have : mE a c page = 22 := if_neg hh
    rw [this] at h; cases h

/-- A list and an errno. -/
def ResPost (w : World) (l : List Nat) (n : Nat) (er : Int) (e : Ending) (w' : World) : Prop :=
  ∃ a c, e = .returned (.tuple #[.slice a n c, .int .i64 er]) ∧ Lies w' a n c l ∧ Below w.heap.size w w' ∧ (er = 0 → ∃ g, a = some ⟨g, 0, none⟩ ∧ c = n ∧ Own w w' (.slice (some ⟨g, 0, none⟩) n n) l)
theorem res_none {w w' : World} (hb : Below w.heap.size w w') : ResPost w [] 0 22 (.returned (.tuple #[.slice none 0 0, .int .i64 22])) w' :=
  ⟨none, 0, rfl, ⟨rfl, Nat.le_refl _, by decide, by simp, .inl rfl⟩, hb, fun h => by cases h⟩
theorem count_res (n page : Int) (w : World) : Calls Tryd.prog 7 #[.int .i64 n, .int .i64 page] w (ResPost w (cL n page) (cL n page).length (cE n page)) := by
  by_cases h : countOk n ∧ pageOk page
  · obtain ⟨e1, e2⟩ := cE_ok h
    rw [e1, e2, imgL_length]
    obtain ⟨⟨h1, h2⟩, h3, h4⟩ := h
    obtain ⟨n', rfl⟩ : ∃ n' : Nat, n = n' := ⟨n.toNat, by omega⟩
    obtain ⟨p', rfl⟩ : ∃ p' : Nat, page = p' := ⟨page.toNat, by omega⟩
    refine (count_made n' p' w (by omega) (by omega) (by omega)).mono ?_
    rintro e w' ⟨g, rfl, hl, hb, ho⟩
    exact ⟨_, _, rfl, hl, hb, fun _ => ⟨g, rfl, rfl, ho⟩⟩
  · obtain ⟨e1, e2⟩ := cE_no h
    rw [e1, e2]
    refine (count_no n page w h).mono ?_
    rintro e w' ⟨rfl, hb⟩
    exact res_none hb
theorem map_res (a b c page : Int) (w : World) (hb0 : 0 ≤ b ∧ b ≤ 18446744073709551615) : Calls Tryd.prog 9 #[.agg #[.int .i64 a, .int .u64 b, .int .i64 c], .int .i64 page] w (ResPost w (mL a b c page) (mL a b c page).length (mE a c page)) := by
  by_cases h : (lebOk a ∧ pagesOk c) ∧ pageOk page
  · obtain ⟨e1, e2⟩ := mE_ok (b := b) h
    rw [e1, e2, imgL_length]
    obtain ⟨⟨⟨h1, h2⟩, h3, h4⟩, h5, h6⟩ := h
    obtain ⟨a', rfl⟩ : ∃ n' : Nat, a = n' := ⟨a.toNat, by omega⟩
    obtain ⟨b', rfl⟩ : ∃ n' : Nat, b = n' := ⟨b.toNat, by omega⟩
    obtain ⟨c', rfl⟩ : ∃ n' : Nat, c = n' := ⟨c.toNat, by omega⟩
    obtain ⟨p', rfl⟩ : ∃ p' : Nat, page = p' := ⟨page.toNat, by omega⟩
    refine (map_made a' b' c' p' w (by omega) (by omega) (by omega) (by omega) (by omega)).mono ?_
    rintro e w' ⟨g, rfl, hl, hb, ho⟩
    exact ⟨_, _, rfl, hl, hb, fun _ => ⟨g, rfl, rfl, ho⟩⟩
  · obtain ⟨e1, e2⟩ := mE_no (b := b) h
    rw [e1, e2]
    refine (mapping_no a b c page w h).mono ?_
    rintro e w' ⟨rfl, hb⟩
    exact res_none hb
theorem same_res {w : World} {a b : Option Addr} {n m c d : Nat} {l k : List Nat} (R : Bool) (h1 : Lies w a n c l) (h2 : Lies w b m d k) (hR : R = decide (l = k)) :
    Calls Tryd.prog 11 #[.slice a n c, .slice b m d] w fun e w' => e = .returned (.bool R) ∧ w = w' := by
  subst hR
  have e1 := h1.len
  have e2 := h2.len
  subst e1 e2
  exact same_any a c l b d k w h1.lt h2.lt h1.row h2.row

/-- Unlike payloads have unlike images. -/
theorem img_inj {p q : List Nat} {page : Nat} (h1 : p.length = q.length) (h2 : p.length + 6 ≤ page) (h : imgL p page = imgL q page) : p = q := by
  rw [img_eq p page h2, img_eq q page (by omega)] at h
  have := (List.append_inj h (by rw [frameL_length, frameL_length, h1])).1
  have e : (frameL p ++ []).drop 6 = (frameL q ++ []).drop 6 := by rw [this]
  rw [drop6, drop6] at e
  simpa using e
theorem putL_inj {k a b : Nat} (ha : a < 256 ^ k) (hb : b < 256 ^ k) (h : putL k a = putL k b) : a = b := by
  have e := congrArg getL h
  rw [getL_putL, getL_putL, Nat.mod_eq_of_lt ha, Nat.mod_eq_of_lt hb] at e
  exact e
theorem unlike_c {n k page : Int} (h1 : cE n page = 0) (h2 : cE k page = 0) : decide (cL n page = cL k page) = (n == k) := by
  have g1 := cE_zero h1
  have g2 := cE_zero h2
  rw [(cE_ok g1).2, (cE_ok g2).2]
  obtain ⟨⟨a1, a2⟩, a3, a4⟩ := g1
  obtain ⟨⟨b1, b2⟩, _, _⟩ := g2
  by_cases e : n = k
  · subst e
    simp
  · have : ¬ imgL (countL n.toNat) page.toNat = imgL (countL k.toNat) page.toNat := fun h => by
      have := img_inj (by rw [countL_length, countL_length]) (by rw [countL_length]; omega) h
      simp only [countL, List.cons.injEq, true_and] at this
      have := putL_inj (by omega) (by omega) this
      omega
    simp [this, e]
theorem unlike_m {a b c a' b' c' page : Int} (hb : 0 ≤ b ∧ b ≤ 18446744073709551615) (hb' : 0 ≤ b' ∧ b' ≤ 18446744073709551615) (h1 : mE a c page = 0) (h2 : mE a' c' page = 0) :
    decide (mL a b c page = mL a' b' c' page) = (a == a' && b == b' && c == c') := by
  have g1 := mE_zero h1
  have g2 := mE_zero h2
  rw [(mE_ok g1).2, (mE_ok g2).2]
  obtain ⟨⟨⟨a1, a2⟩, a3, a4⟩, a5, a6⟩ := g1
  obtain ⟨⟨⟨b1, b2⟩, b3, b4⟩, _, _⟩ := g2
  by_cases e : a = a' ∧ b = b' ∧ c = c'
  · obtain ⟨rfl, rfl, rfl⟩ := e
    simp
  · have : ¬ imgL (mapL a.toNat b.toNat c.toNat) page.toNat = imgL (mapL a'.toNat b'.toNat c'.toNat) page.toNat := fun h => by
      have := img_inj (by rw [mapL_length, mapL_length]) (by rw [mapL_length]; omega) h
      simp only [mapL, List.cons.injEq, true_and] at this
      obtain ⟨j1, j2⟩ := List.append_inj this (by rw [putL_length, putL_length])
      obtain ⟨j2, j3⟩ := List.append_inj j2 (by rw [putL_length, putL_length])
      have k1 := putL_inj (by omega) (by omega) j1
      have k2 := putL_inj (by omega) (by omega) j2
      have k3 := putL_inj (by omega) (by omega) j3
      exact e ⟨by omega, by omega, by omega⟩
    have e2 : (a == a' && b == b' && c == c') = false := by
      rw [Bool.eq_false_iff]
      intro h
      simp at h
      exact e ⟨h.1.1, h.1.2, h.2⟩
    rw [e2]
    simp [this]
end Go.Proofs.YtdhbhjfpjmmonaaDoor
