/-
  A row in runs: each is sorted and holds what stood there at first.
-/
import Derived.Test.YtmaekpfkkpkgpaaGreatDoorSIns
namespace Go.Proofs.YtmaekpfkkpkgpaaGreatDoor
open Go.RowKit

/-- The l from s on. -/
def ck (d : List Int) (s l : Nat) : List Int := (d.drop s).take l
theorem ck_len {d : List Int} {s l : Nat} (h : s + l ≤ d.length) : (ck d s l).length = l := by
  unfold ck
  rw [List.length_take, List.length_drop]
  omega
theorem ck_left {P Z S : List Int} {s l : Nat} (h : s + l ≤ P.length) : ck (P ++ Z ++ S) s l = ck P s l := by
  unfold ck
  rw [List.append_assoc, List.drop_append_of_le_length (by omega), List.take_append_of_le_length (by rw [List.length_drop]; omega)]
theorem drop_right {P Z S : List Int} {s : Nat} (h : P.length + Z.length ≤ s) : (P ++ Z ++ S).drop s = S.drop (s - (P.length + Z.length)) := by
  rw [List.drop_append, List.drop_of_length_le (by rw [List.length_append]; omega), List.length_append]
  simp
theorem ck_mid {P Z S : List Int} {s l : Nat} (hs : s = P.length) (hl : l = Z.length) : ck (P ++ Z ++ S) s l = Z := by
  unfold ck
  rw [hs, hl, List.append_assoc, List.drop_left, List.take_left]
theorem ck_cut {d : List Int} {s l : Nat} : d = d.take s ++ ck d s l ++ d.drop (s + l) := by
  unfold ck
  rw [List.append_assoc, ← List.drop_drop, List.take_append_drop, List.take_append_drop]
theorem ck_two {d : List Int} {s b l : Nat} : ck d s (b + l) = ck d s b ++ ck d (s + b) l := by
  unfold ck
  rw [List.take_add, List.drop_drop]
/-- One run. -/
structure Ch (T : Int → Int → Prop) (V d : List Int) (s l : Nat) : Prop where
  pm : (ck d s l).Perm (ck V s l)
  sd : Sd T (ck d s l)
theorem Ch.left {T : Int → Int → Prop} {V P Z Z' S : List Int} {s l : Nat} (h : Ch T V (P ++ Z ++ S) s l) (hl : s + l ≤ P.length) : Ch T V (P ++ Z' ++ S) s l := by
  obtain ⟨h1, h2⟩ := h
  rw [ck_left hl] at h1 h2
  exact ⟨by rw [ck_left hl]; exact h1, by rw [ck_left hl]; exact h2⟩
theorem Ch.right {T : Int → Int → Prop} {V P Z Z' S : List Int} {s l : Nat} (h : Ch T V (P ++ Z ++ S) s l) (hz : Z'.length = Z.length) (hl : P.length + Z.length ≤ s) : Ch T V (P ++ Z' ++ S) s l := by
  have e : ck (P ++ Z' ++ S) s l = ck (P ++ Z ++ S) s l := by
    unfold ck
    rw [drop_right hl, drop_right (by omega), hz]
  exact ⟨by rw [e]; exact h.pm, by rw [e]; exact h.sd⟩
theorem row0_two {T lt : Int → Int → Prop} {V : List Int} (h : Row0 T lt V) {s b l : Nat} : ∀ x ∈ ck V s b, ∀ y ∈ ck V (s + b) l, (lt y x ↔ T y x) ∧ y ≠ x := by
  have h1 : (ck V s (b + l)).Pairwise fun x y => (lt y x ↔ T y x) ∧ y ≠ x := by
    unfold ck
    exact h.sublist ((List.take_sublist _ _).trans (List.drop_sublist _ _))
  rw [ck_two] at h1
  exact (List.pairwise_append.1 h1).2.2
theorem mem_ck {V : List Int} {s l : Nat} {x : Int} (h : x ∈ ck V s l) : x ∈ V := List.mem_of_mem_drop (List.mem_of_mem_take h)
/-- Two runs side by side can be merged. -/
theorem Ch.two {T lt : Int → Int → Prop} {U V d : List Int} {n s b l : Nat} (hV : Row0 T lt V) (hU : ∀ v ∈ V, v ∈ U) (hd : d.length = n) (h1 : Ch T V d s b) (h2 : Ch T V d (s + b) l) (hb : 1 ≤ b) (hl : 1 ≤ l) (hs : s + b + l ≤ n) : Two T lt U n (d.take s) (ck d s b) (ck d (s + b) l) (d.drop (s + b + l)) ∧ d = d.take s ++ ck d s b ++ ck d (s + b) l ++ d.drop (s + b + l) := by
  have e : d = d.take s ++ ck d s b ++ ck d (s + b) l ++ d.drop (s + b + l) := by
    have := ck_cut (d := d) (s := s) (l := b + l)
    rw [ck_two, ← Nat.add_assoc] at this
    simpa only [List.append_assoc] using this
  refine ⟨⟨h1.sd, h2.sd, fun x hx y hy => row0_two hV x (h1.pm.mem_iff.1 hx) y (h2.pm.mem_iff.1 hy), fun u hu => ?_, by rw [← e]; exact hd, by rw [ck_len (by omega)]; exact hb, by rw [ck_len (by omega)]; exact hl⟩, e⟩
  rcases List.mem_append.1 hu with q | q
  · exact hU u (mem_ck (h1.pm.mem_iff.1 q))
  · exact hU u (mem_ck (h2.pm.mem_iff.1 q))
/-- What a merge makes of them, and that the others are as they were. -/
theorem Ch.merged {T : Int → Int → Prop} {V d Z : List Int} {n s b l : Nat} (hd : d.length = n) (h1 : Ch T V d s b) (h2 : Ch T V d (s + b) l) (hs : s + b + l ≤ n) (hz : Mg T (ck d s b) (ck d (s + b) l) Z) :
    (d.take s ++ Z ++ d.drop (s + b + l)).length = n ∧ Ch T V (d.take s ++ Z ++ d.drop (s + b + l)) s (b + l) ∧ (∀ s' l', s' + l' ≤ s ∨ s + b + l ≤ s' → Ch T V d s' l' → Ch T V (d.take s ++ Z ++ d.drop (s + b + l)) s' l') := by
  have hzl : Z.length = b + l := by rw [hz.len, ck_len (by omega), ck_len (by omega)]
  have hpl : (d.take s).length = s := by rw [List.length_take]; omega
  have e : d = d.take s ++ ck d s (b + l) ++ d.drop (s + b + l) := by
    have := ck_cut (d := d) (s := s) (l := b + l)
    rw [← Nat.add_assoc] at this
    exact this
  refine ⟨?_, ⟨?_, ?_⟩, ?_⟩
  · simp only [List.length_append, List.length_drop]
    omega
  · rw [ck_mid hpl.symm hzl.symm, ck_two]
    exact hz.pm.trans (h1.pm.append h2.pm)
  · rw [ck_mid hpl.symm hzl.symm]
    exact hz.sd
  · intro s' l' q h
    rw [e] at h
    rcases q with q | q
    · exact h.left (by omega)
    · refine h.right ?_ ?_
      · rw [ck_len (by omega)]; exact hzl
      · rw [ck_len (by omega)]; omega
end Go.Proofs.YtmaekpfkkpkgpaaGreatDoor
