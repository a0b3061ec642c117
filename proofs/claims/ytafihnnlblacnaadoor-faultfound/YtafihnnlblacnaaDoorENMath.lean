/-
  Names and numbers: no two errnos have one name; the numerals of numbers.
-/
import Derived.Test.YtafihnnlblacnaaDoorENam
namespace Go.Proofs.YtafihnnlblacnaaDoor
open Go.RowKit Go.Shelf

theorem dig_inj {a b : Nat} (ha : a < 10) (hb : b < 10) (h : UInt8.ofNat (48 + a) = UInt8.ofNat (48 + b)) : a = b := by
  have := congrArg UInt8.toNat h
  simp [UInt8.toNat_ofNat'] at this
  omega
theorem digits_ne (u : Nat) : Lib.decDigits u ≠ [] := by
  intro h
  have := Lib.decDigits_length u
  rw [h] at this
  have := Lib.nDigits_pos u
  simp at *
  omega
theorem digits_inj : ∀ (u v : Nat), Lib.decDigits u = Lib.decDigits v → u = v := by
  intro u
  induction u using Nat.strongRecOn with
  | _ u ih =>
    intro v h
    rw [Lib.decDigits.eq_def u, Lib.decDigits.eq_def v] at h
    split at h
    · split at h
      · rename_i h1 h2
        simp only [List.cons.injEq, and_true] at h
        exact dig_inj h1 h2 h
      · exfalso
        have := congrArg List.length h
        have h3 := digits_ne (v / 10)
        cases hd : Lib.decDigits (v / 10) with
        | nil => exact h3 hd
        | cons x l => rw [hd] at this; simp at this
    · split at h
      · exfalso
        have := congrArg List.length h
        have h3 := digits_ne (u / 10)
        cases hd : Lib.decDigits (u / 10) with
        | nil => exact h3 hd
        | cons x l => rw [hd] at this; simp at this
      · rename_i h1 h2
        obtain ⟨ha, hb⟩ := List.append_inj' h rfl
        have e1 := ih (u / 10) (by omega) (v / 10) ha
        simp only [List.cons.injEq, and_true] at hb
        have e2 := dig_inj (Nat.mod_lt _ (by omega)) (Nat.mod_lt _ (by omega)) hb
        omega
theorem digits_head (u : Nat) : ∃ c l, Lib.decDigits u = c :: l ∧ 48 ≤ c.toNat ∧ c.toNat ≤ 57 := by
  induction u using Nat.strongRecOn with
  | _ u ih =>
    rw [Lib.decDigits]
    split
    · rename_i h
      refine ⟨_, [], rfl, ?_, ?_⟩ <;> simp [UInt8.toNat_ofNat'] <;> omega
    · rename_i h
      obtain ⟨c, l, e, h1, h2⟩ := ih (u / 10) (by omega)
      exact ⟨c, l ++ _, by rw [e]; rfl, h1, h2⟩
theorem itoa_head (n : Int) : ∃ c l, Lib.itoa n = c :: l ∧ c.toNat ≤ 57 := by
  unfold Lib.itoa
  split
  · exact ⟨45, _, rfl, by decide⟩
  · obtain ⟨c, l, e, _, h⟩ := digits_head n.toNat
    exact ⟨c, l, e, h⟩
theorem itoa_inj {m n : Int} (h : Lib.itoa m = Lib.itoa n) : m = n := by
  unfold Lib.itoa at h
  split at h
  · split at h
    · have := digits_inj _ _ (List.cons.inj h).2
      omega
    · obtain ⟨c, l, e, h1, _⟩ := digits_head n.toNat
      rw [e] at h
      have := (List.cons.inj h).1
      subst this
      simp at h1
  · split at h
    · obtain ⟨c, l, e, h1, _⟩ := digits_head m.toNat
      rw [e] at h
      have := (List.cons.inj h).1
      subst this
      simp at h1
    · have := digits_inj _ _ h
      omega

theorem findOf_eq (s : ByteArray) : findOf s = (tab.find? (fun r => r.2.data.toList == s.data.toList)).map (·.1) := by
  unfold findOf
  simp only [ByteArray.toList_eq]
theorem known_all : tab.all (fun r => ((tab.find? (fun x => x.2.data.toList == r.2.data.toList)).map (·.1) == some r.1) && decide (cls r.1 < 6) && (match r.2.data.toList with | _ :: c :: _ => decide (58 ≤ c.toNat) | _ => false)) = true := by decide +kernel
theorem cls_zero (e : Int) : cls e = 0 ↔ e = 0 := by
  unfold cls
  constructor
  · intro h
    repeat' split at h
    all_goals first | assumption | omega
  · intro h; rw [if_pos h]
/-- An errno that api names, or not. -/
theorem named_or (e : Int) : (findOf (nameOf e) = some e ∧ cls e < 6) ∨ (findOf (nameOf e) = none ∧ cls e = 6 ∧ nameOf e = ⟨#[69]⟩ ++ ⟨(Lib.itoa e).toArray⟩) := by
  cases hf : tab.find? (fun r => r.1 == e) with
  | some r =>
    left
    have hm := List.mem_of_find?_eq_some hf
    have he : r.1 = e := by simpa using List.find?_some hf
    have hn : nameOf e = r.2 := by unfold nameOf; rw [hf]
    have := List.all_eq_true.1 known_all r hm
    simp only [Bool.and_eq_true, beq_iff_eq, decide_eq_true_eq] at this
    obtain ⟨⟨h1, h2⟩, _⟩ := this
    rw [findOf_eq, hn, h1, he] 
    rw [he] at h2
    exact ⟨rfl, h2⟩
  | none =>
    right
    have hn : nameOf e = ⟨#[69]⟩ ++ ⟨(Lib.itoa e).toArray⟩ := by unfold nameOf; rw [hf]
    refine ⟨?_, ?_, hn⟩
    · rw [findOf_eq, Option.map_eq_none_iff, List.find?_eq_none]
      intro r hr hb
      have h1 := List.all_eq_true.1 known_all r hr
      simp only [Bool.and_eq_true] at h1
      have h2 := h1.2
      have h3 : r.2.data.toList = 69 :: Lib.itoa e := by
        have := beq_iff_eq.1 hb
        rw [this, hn]
        rw [ByteArray.data_append]
        simp
      obtain ⟨c, l, hc, hle⟩ := itoa_head e
      rw [h3, hc] at h2
      simp at h2
      omega
    · have h := List.find?_eq_none.1 hf
      simp [tab] at h
      unfold cls
      simp
      omega
theorem name_inj {e f : Int} (h : nameOf e = nameOf f) : e = f := by
  rcases named_or e with ⟨h1, _⟩ | ⟨h1, _, h2⟩
  · rcases named_or f with ⟨k1, _⟩ | ⟨k1, _, k2⟩
    · rw [h, k1] at h1; exact (Option.some.inj h1).symm
    · rw [h, k1] at h1; cases h1
  · rcases named_or f with ⟨k1, _⟩ | ⟨k1, _, k2⟩
    · rw [h, k1] at h1; cases h1
    · rw [h2, k2] at h
      have h3 := congrArg (fun x => x.data.toList) h
      have h4 : 69 :: Lib.itoa e = 69 :: Lib.itoa f := by
        have e1 : ∀ n : Int, ((⟨#[69]⟩ : ByteArray) ++ ⟨(Lib.itoa n).toArray⟩).data.toList = 69 :: Lib.itoa n := fun n => by
          rw [ByteArray.data_append]
          simp
        rw [← e1, ← e1]; exact h3
      exact itoa_inj (List.cons.inj h4).2
end Go.Proofs.YtafihnnlblacnaaDoor
