/-
  Texts as lists of bytes: the parts of a path, and what joins them.
-/
import Derived.Lib.CutLaws
namespace Go.Proofs.Ytnhoaafpdckmjaa.M

/-- What stands between the slashes of a text, also that of no byte. -/
def segs : List UInt8 → List (List UInt8)
  | [] => [[]]
  | c :: l => if c = 47 then [] :: segs l else match segs l with
    | [] => [[c]]
    | h :: t => (c :: h) :: t

theorem segs_ne (l : List UInt8) : segs l ≠ [] := by
  cases l with
  | nil => simp [segs]
  | cons c l => unfold segs; split <;> (try split) <;> simp
theorem segs_no : ∀ {a : List UInt8}, 47 ∉ a → segs a = [a]
  | [], _ => rfl
  | c :: l, h => by
    have h1 : ¬ c = 47 := fun e => h (by simp [e])
    have h2 : 47 ∉ l := fun e => h (List.mem_cons_of_mem _ e)
    unfold segs
    rw [if_neg h1, segs_no h2]
theorem segs_cut : ∀ {a : List UInt8} (b : List UInt8), 47 ∉ a → segs (a ++ 47 :: b) = a :: segs b
  | [], b, _ => by simp [segs]
  | c :: l, b, h => by
    have h1 : ¬ c = 47 := fun e => h (by simp [e])
    have h2 : 47 ∉ l := fun e => h (List.mem_cons_of_mem _ e)
    have e : segs (c :: (l ++ 47 :: b)) = (if c = 47 then [] :: segs (l ++ 47 :: b) else match segs (l ++ 47 :: b) with
      | [] => [[c]]
      | h :: t => (c :: h) :: t) := rfl
    show segs (c :: (l ++ 47 :: b)) = _
    rw [e, if_neg h1, segs_cut b h2]

/-- A path's parts: those of no byte are left out. -/
def parts (l : List UInt8) : List (List UInt8) := (segs l).filter (fun p => !p.isEmpty)

theorem parts_no {a : List UInt8} (h : 47 ∉ a) : parts a = if a = [] then [] else [a] := by
  unfold parts
  rw [segs_no h]
  cases a <;> simp
theorem parts_cut {a : List UInt8} (b : List UInt8) (h : 47 ∉ a) : parts (a ++ 47 :: b) = (if a = [] then [] else [a]) ++ parts b := by
  unfold parts
  rw [segs_cut b h]
  cases a <;> simp
theorem parts_slash (b : List UInt8) : parts (47 :: b) = parts b := by
  have := parts_cut (a := []) b (by simp)
  simpa using this

theorem segs_mem {x : UInt8} : ∀ {l : List UInt8} {p : List UInt8}, p ∈ segs l → x ∈ p → x ∈ l ∧ x ≠ 47
  | [], p, hp, hx => by simp [segs] at hp; subst hp; simp at hx
  | c :: l, p, hp, hx => by
    unfold segs at hp
    split at hp
    · rcases List.mem_cons.1 hp with rfl | h
      · simp at hx
      · have := segs_mem h hx
        exact ⟨List.mem_cons_of_mem _ this.1, this.2⟩
    · rename_i hc
      split at hp
      · rename_i he
        exact absurd he (segs_ne l)
      · rename_i h t he
        rcases List.mem_cons.1 hp with rfl | hq
        · rcases List.mem_cons.1 hx with rfl | hx
          · exact ⟨by simp, hc⟩
          · have := segs_mem (l := l) (p := h) (by rw [he]; simp) hx
            exact ⟨List.mem_cons_of_mem _ this.1, this.2⟩
        · have := segs_mem (l := l) (p := p) (by rw [he]; exact List.mem_cons_of_mem _ hq) hx
          exact ⟨List.mem_cons_of_mem _ this.1, this.2⟩
theorem parts_mem {l p : List UInt8} (h : p ∈ parts l) : p ≠ [] ∧ 47 ∉ p ∧ ∀ x ∈ p, x ∈ l := by
  unfold parts at h
  rw [List.mem_filter] at h
  refine ⟨by intro e; subst e; simp at h, fun e => (segs_mem h.1 e).2 rfl, fun x hx => (segs_mem h.1 hx).1⟩

/-- A slash ahead of each. -/
def slashed (ps : List (List UInt8)) : List UInt8 := ps.flatMap (fun p => 47 :: p)
/-- What joins parts: a slash, and the parts with slashes between them. -/
def joined (ps : List (List UInt8)) : List UInt8 := if ps = [] then [47] else slashed ps

theorem parts_slashed : ∀ {ps : List (List UInt8)}, (∀ p ∈ ps, p ≠ [] ∧ 47 ∉ p) → parts (slashed ps) = ps
  | [], _ => by simp [slashed, parts, segs]
  | p :: ps, h => by
    have hp := h p (by simp)
    have hps := fun q hq => h q (List.mem_cons_of_mem _ hq)
    have e : slashed (p :: ps) = 47 :: (p ++ slashed ps) := by simp [slashed]
    rw [e, parts_slash]
    cases ps with
    | nil => simp [slashed, parts_no hp.2, hp.1]
    | cons q qs =>
      have e2 : slashed (q :: qs) = 47 :: (q ++ slashed qs) := by simp [slashed]
      have ih := parts_slashed hps
      rw [e2, parts_cut _ hp.2, if_neg hp.1]
      rw [e2, parts_slash] at ih
      rw [ih]
      rfl
theorem parts_joined {ps : List (List UInt8)} (h : ∀ p ∈ ps, p ≠ [] ∧ 47 ∉ p) : parts (joined ps) = ps := by
  unfold joined
  split
  · rename_i e; subst e; simp [parts, segs]
  · exact parts_slashed h

/-- How many bytes: no more than a slash and the part for each. -/
theorem slashed_length : ∀ ps : List (List UInt8), (slashed ps).length = (ps.map (fun p => p.length + 1)).sum
  | [] => rfl
  | p :: ps => by
    have e : slashed (p :: ps) = 47 :: (p ++ slashed ps) := by simp [slashed]
    rw [e]
    simp [slashed_length ps]
    omega
theorem slashed_le {ps : List (List UInt8)} (h1 : ps.length ≤ 32) (h2 : ∀ p ∈ ps, p.length ≤ 24) : (slashed ps).length ≤ 800 := by
  have : ∀ (qs : List (List UInt8)), (∀ p ∈ qs, p.length ≤ 24) → (slashed qs).length ≤ 25 * qs.length := by
    intro qs
    induction qs with
    | nil => intro _; simp [slashed]
    | cons p qs ih =>
      intro h
      have e : slashed (p :: qs) = 47 :: (p ++ slashed qs) := by simp [slashed]
      have h3 := ih (fun q hq => h q (List.mem_cons_of_mem _ hq))
      have h4 := h p (by simp)
      rw [e]
      simp
      omega
  have := this ps h2
  omega

/-- What is left of the parts: the dropping of . and .. -/
def left1 (out : List (List UInt8)) (p : List UInt8) : List (List UInt8) := if p = [46] then out else if p = [46, 46] then out.dropLast else out ++ [p]
def lefts (ps : List (List UInt8)) : List (List UInt8) := ps.foldl left1 []
theorem lefts_snoc (ps : List (List UInt8)) (p : List UInt8) : lefts (ps ++ [p]) = left1 (lefts ps) p := by simp [lefts]
theorem left1_length (out : List (List UInt8)) (p : List UInt8) : (left1 out p).length ≤ out.length + 1 := by
  unfold left1
  split
  · omega
  · split <;> simp
    omega
theorem lefts_length (ps : List (List UInt8)) : (lefts ps).length ≤ ps.length := by
  have : ∀ (n : Nat) (ps : List (List UInt8)), ps.length = n → (lefts ps).length ≤ n := by
    intro n
    induction n with
    | zero => intro ps h; have := List.eq_nil_of_length_eq_zero h; subst this; simp [lefts]
    | succ n ih =>
      intro ps h
      have hne : ps ≠ [] := by intro e; subst e; simp at h
      have e := List.dropLast_concat_getLast hne
      rw [← e, lefts_snoc]
      have h1 := ih ps.dropLast (by simp; omega)
      have h2 := left1_length (lefts ps.dropLast) (ps.getLast hne)
      omega
  exact this _ ps rfl
theorem left1_mem {out : List (List UInt8)} {p q : List UInt8} (h : q ∈ left1 out p) : q ∈ out ∨ q = p := by
  unfold left1 at h
  split at h
  · exact .inl h
  · split at h
    · exact .inl (List.dropLast_subset _ h)
    · simpa using h
theorem lefts_mem {ps : List (List UInt8)} {q : List UInt8} (h : q ∈ lefts ps) : q ∈ ps := by
  have : ∀ (qs out : List (List UInt8)), q ∈ qs.foldl left1 out → q ∈ out ∨ q ∈ qs := by
    intro qs
    induction qs with
    | nil => intro out h; exact .inl h
    | cons p qs ih =>
      intro out h
      rcases ih _ h with h | h
      · rcases left1_mem h with h | h
        · exact .inl h
        · exact .inr (by simp [h])
      · exact .inr (List.mem_cons_of_mem _ h)
  rcases this ps [] h with h | h
  · simp at h
  · exact h

/-- A path is refused: the number of the error; 0: it is none. -/
def err (s : List UInt8) : Int :=
  if s = [] then 2 else if 255 < s.length then 36 else if 0 ∈ s then 22 else if 32 < (parts s).length ∨ ∃ p ∈ parts s, 24 < p.length then 36 else 0
/-- The parts that are told, the empty list with an error. -/
def told (s : List UInt8) : List (List UInt8) := if err s = 0 then parts s else []
/-- Does it end as a directory's? -/
def ends (s : List UInt8) : Bool := decide (err s = 0) && (s.getLast? == some 47)

theorem err_zero {s : List UInt8} : err s = 0 ↔ s ≠ [] ∧ s.length ≤ 255 ∧ 0 ∉ s ∧ (parts s).length ≤ 32 ∧ ∀ p ∈ parts s, p.length ≤ 24 := by
  unfold err
  constructor
  · intro h
    split at h
    · simp at h
    · split at h
      · simp at h
      · split at h
        · simp at h
        · split at h
          · simp at h
          · rename_i h1 h2 h3 h4
            refine ⟨h1, by omega, h3, ?_, ?_⟩
            · have := fun e => h4 (.inl e); omega
            · intro p hp
              exact Nat.le_of_not_lt (fun e => h4 (.inr ⟨p, hp, e⟩))
  · rintro ⟨h1, h2, h3, h4, h5⟩
    rw [if_neg h1, if_neg (by omega), if_neg h3, if_neg]
    rintro (h | ⟨p, hp, h⟩)
    · omega
    · have := h5 p hp; omega
end Go.Proofs.Ytnhoaafpdckmjaa.M
