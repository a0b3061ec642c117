/-
  The document's Parse, as mathematics: words, numbers, rows.
  The document's cut and numbers.
  The document's numbers of a line.
-/
import Derived.Test.YtmaekpfkkpkgpaaGreatDoorBBack
import Derived.Test.YtmaekpfkkpkgpaaGreatDoorBThose
import Derived.Test.YtmaekpfkkpkgpaaGreatDoorBSums
import Derived.Deep.LoopGhost
namespace Go.Proofs.YtmaekpfkkpkgpaaGreatDoor
open Go.RowKit Go.Shelf
set_option maxRecDepth 10000

/-- What stands ahead of the first such byte, and behind it. -/
def ahd (z : UInt8) : List UInt8 → List UInt8
  | [] => []
  | c :: l => if c = z then [] else c :: ahd z l
def bhd (z : UInt8) : List UInt8 → List UInt8
  | [] => []
  | c :: l => if c = z then l else bhd z l
theorem ahd_cut {z : UInt8} (b : List UInt8) : ∀ {a : List UInt8}, z ∉ a → ahd z (a ++ z :: b) = a ∧ bhd z (a ++ z :: b) = b
  | [], _ => by simp [ahd, bhd]
  | c :: a, h => by
    have h1 : c ≠ z := fun e => h (by simp [e])
    have ih := ahd_cut b (a := a) (fun e => h (List.mem_cons_of_mem _ e))
    rw [List.cons_append]
    unfold ahd bhd
    rw [if_neg h1, if_neg h1, ih.1, ih.2]
    exact ⟨rfl, rfl⟩
theorem ahd_no {z : UInt8} : ∀ {a : List UInt8}, z ∉ a → ahd z a = a ∧ bhd z a = []
  | [], _ => ⟨rfl, rfl⟩
  | c :: a, h => by
    have h1 : c ≠ z := fun e => h (by simp [e])
    have ih := ahd_no (a := a) (fun e => h (List.mem_cons_of_mem _ e))
    unfold ahd bhd
    rw [if_neg h1, if_neg h1, ih.1, ih.2]
    exact ⟨rfl, rfl⟩
theorem bhd_le (z : UInt8) : ∀ l : List UInt8, (bhd z l).length ≤ l.length
  | [] => Nat.le_refl _
  | c :: l => by
    unfold bhd
    have := bhd_le z l
    split <;> simp <;> omega
theorem bhd_lt (z : UInt8) {l : List UInt8} (h : l ≠ []) : (bhd z l).length < l.length := by
  cases l with
  | nil => exact absurd rfl h
  | cons c l =>
    unfold bhd
    have := bhd_le z l
    split <;> simp <;> omega
theorem ahd_le (z : UInt8) : ∀ l : List UInt8, (ahd z l).length ≤ l.length
  | [] => Nat.le_refl _
  | c :: l => by
    unfold ahd
    have := ahd_le z l
    split <;> simp <;> omega
def dgt (c : UInt8) : Bool := decide (48 ≤ c.toNat ∧ c.toNat ≤ 57)
/-- One digit more. -/
def dgS (n : Int) (c : UInt8) : Int := n * 10 + ((c.toNat : Int) - 48)
def valF (l : List UInt8) : Int := l.foldl dgS 0
theorem valF_snoc (l : List UInt8) (c : UInt8) : valF (l ++ [c]) = dgS (valF l) c := by unfold valF; rw [List.foldl_append]; rfl
/-- The number that a short word of digits tells. -/
def wordF (l : List UInt8) : Option Int := if l.all dgt = true ∧ l.length ≤ 9 then some (valF l) else none
def numsF : Nat → List UInt8 → List Int
  | 0, _ => []
  | k + 1, l => if l = [] then [] else match wordF (ahd 32 l) with
    | none => []
    | some n => n :: numsF k (bhd 32 l)
theorem numsF_more : ∀ (k : Nat) (l : List UInt8), l.length ≤ k → ∀ j, l.length ≤ j → numsF k l = numsF j l
  | 0, l, h, j, _ => by
    have : l = [] := List.eq_nil_of_length_eq_zero (by omega)
    subst this
    cases j <;> simp [numsF]
  | k + 1, l, h, 0, hj => by
    have : l = [] := List.eq_nil_of_length_eq_zero (by omega)
    subst this
    simp [numsF]
  | k + 1, l, h, j + 1, hj => by
    unfold numsF
    by_cases hl : l = []
    · rw [if_pos hl, if_pos hl]
    · rw [if_neg hl, if_neg hl]
      have := bhd_lt 32 hl
      rw [numsF_more k (bhd 32 l) (by omega) j (by omega)]
/-- The numbers of a line, as far as its words are short ones of digits. -/
def nums (l : List UInt8) : List Int := numsF l.length l
theorem nums_nil : nums [] = [] := rfl
theorem nums_step {l : List UInt8} (h : l ≠ []) : nums l = match wordF (ahd 32 l) with
    | none => []
    | some n => n :: nums (bhd 32 l) := by
  unfold nums
  have h1 := bhd_lt 32 h
  obtain ⟨k, hk⟩ : ∃ k, l.length = k + 1 := ⟨l.length - 1, by omega⟩
  rw [hk]
  conv => lhs; unfold numsF
  rw [if_neg h, numsF_more k (bhd 32 l) (by omega) _ (Nat.le_refl _)]
theorem val_dig (u : Nat) : valF (Lib.decDigits u) = (u : Int) := by
  induction u using Nat.strongRecOn with
  | ind u ih =>
    rw [Lib.decDigits]
    split
    · rename_i h
      unfold valF dgS
      simp only [List.foldl_cons, List.foldl_nil]
      rw [dig_nat h]
      omega
    · rename_i h
      rw [valF_snoc, ih (u / 10) (by omega)]
      unfold dgS
      rw [dig_nat (by omega)]
      omega
theorem word_itoa {n : Int} (h0 : 0 ≤ n) (h1 : n ≤ 16777216) : wordF (Lib.itoa n) = some n := by
  unfold wordF
  have ha := itoa_all h0
  have hl := itoa_len h0 h1
  rw [if_pos ⟨List.all_eq_true.2 (fun c hc => by unfold dgt; exact decide_eq_true (ha c hc)), by omega⟩]
  unfold Lib.itoa
  rw [if_neg (by omega), val_dig]
  congr 1
  omega
theorem word_closed : wordF [99, 108, 111, 115, 101, 100] = none := by decide
theorem nums_words (c : Bool) : ∀ ns : List Int, (∀ x ∈ ns, 0 ≤ x ∧ x ≤ 16777216) → nums (Lib.join (wordsOf ns c) [32]) = ns
  | [], _ => by
    unfold wordsOf
    cases c with
    | false => rfl
    | true =>
      have e : Lib.join ([].map Lib.itoa ++ (if true = true then [[(99 : UInt8), 108, 111, 115, 101, 100]] else [])) [32] = [99, 108, 111, 115, 101, 100] := by simp [Lib.join, List.intercalate]
      rw [e, nums_step (by simp), (ahd_no (z := 32) (a := [99, 108, 111, 115, 101, 100]) (by decide)).1, word_closed]
  | n :: ns, h => by
    have hn := h n (by simp)
    have hns : ∀ x ∈ ns, 0 ≤ x ∧ x ≤ 16777216 := fun x hx => h x (List.mem_cons_of_mem _ hx)
    have ih := nums_words c ns hns
    have h32 : (32 : UInt8) ∉ Lib.itoa n := no_dig (itoa_all hn.1) (by decide)
    have e0 : wordsOf (n :: ns) c = Lib.itoa n :: wordsOf ns c := rfl
    rw [e0]
    cases hw : wordsOf ns c with
    | nil =>
      have e : Lib.join [Lib.itoa n] [32] = Lib.itoa n := by simp [Lib.join, List.intercalate]
      rw [hw] at ih
      have e2 : nums (Lib.join ([] : List (List UInt8)) [32]) = [] := rfl
      rw [e2] at ih
      rw [e, nums_step (itoa_ne n), (ahd_no h32).1, (ahd_no h32).2, word_itoa hn.1 hn.2]
      dsimp only
      rw [nums_nil, ← ih]
    | cons y l =>
      have e : Lib.join (Lib.itoa n :: y :: l) [32] = Lib.itoa n ++ 32 :: Lib.join (y :: l) [32] := by simp [Lib.join, List.intercalate]
      rw [hw] at ih
      rw [e, nums_step (by simp), (ahd_cut _ h32).1, (ahd_cut _ h32).2, word_itoa hn.1 hn.2]
      dsimp only
      rw [ih]
theorem nums_line {ns : List Int} (hn : ns ≠ []) (h : ∀ x ∈ ns, 0 ≤ x ∧ x ≤ 16777216) (c : Bool) : nums (lineF ns ++ (if c = true then closedT else [])) = ns := by
  rw [line_words hn c, nums_words c ns h]
/-- Does a line end so? -/
def shut (l : List UInt8) : Bool := decide (7 < l.length ∧ l.drop (l.length - 7) = closedT)
theorem shut_line {ns : List Int} (hn : ns ≠ []) (h : ∀ x ∈ ns, 0 ≤ x ∧ x ≤ 16777216) (c : Bool) : shut (lineF ns ++ (if c = true then closedT else [])) = c := by
  cases c with
  | true =>
    have h1 := (line_no10 hn h false).2
    simp only [Bool.false_eq_true, if_false, List.append_nil] at h1
    have h2 : 0 < (lineF ns).length := List.length_pos_iff.2 h1
    have h3 : closedT.length = 7 := rfl
    simp only [if_true]
    unfold shut
    rw [decide_eq_true_iff]
    rw [List.length_append, h3]
    refine ⟨by omega, ?_⟩
    rw [show (lineF ns).length + 7 - 7 = (lineF ns).length by omega]
    simp
  | false =>
    unfold shut
    rw [decide_eq_false_iff_not]
    rintro ⟨_, h2⟩
    have h3 : (99 : UInt8) ∈ lineF ns ++ (if false = true then closedT else []) := List.mem_of_mem_drop (by rw [h2]; decide)
    rw [line_words hn false] at h3
    rcases join_mem _ h3 with e | ⟨x, hx, e⟩
    · exact absurd e (by decide)
    · unfold wordsOf at hx
      simp only [Bool.false_eq_true, if_false, List.append_nil] at hx
      obtain ⟨n, hm, rfl⟩ := List.mem_map.1 hx
      have := itoa_all (h n hm).1 99 e
      exact absurd this.2 (by decide)
/-- The book behind a line more, as the document reads it. -/
def drow (size : Int) (l : List PB) (line : List UInt8) : Option (List PB) := match nums line with
  | [a, b, c, d] => if (takeF l a b).1 ≠ 0 then none else if (useF size (takeF l a b).2 a c).1 ≠ 0 then none else if c < d then none else if (killF (useF size (takeF l a b).2 a c).2 a (c - d)).1 ≠ 0 then none else
      if shut line = true then some (closeF (killF (useF size (takeF l a b).2 a c).2 a (c - d)).2 a).2 else some (killF (useF size (takeF l a b).2 a c).2 a (c - d)).2
  | _ => none
def drows : Nat → Int → List PB → List UInt8 → Option (List PB)
  | 0, _, l, _ => some l
  | k + 1, size, l, s => if s = [] then some l else match drow size l (ahd 10 s) with
    | none => none
    | some l' => drows k size l' (bhd 10 s)
theorem drows_more : ∀ (k : Nat) (size : Int) (l : List PB) (s : List UInt8), s.length ≤ k → ∀ j, s.length ≤ j → drows k size l s = drows j size l s
  | 0, size, l, s, h, j, _ => by
    have : s = [] := List.eq_nil_of_length_eq_zero (by omega)
    subst this
    cases j <;> simp [drows]
  | k + 1, size, l, s, h, 0, hj => by
    have : s = [] := List.eq_nil_of_length_eq_zero (by omega)
    subst this
    simp [drows]
  | k + 1, size, l, s, h, j + 1, hj => by
    unfold drows
    by_cases hs : s = []
    · rw [if_pos hs, if_pos hs]
    · rw [if_neg hs, if_neg hs]
      have := bhd_lt 10 hs
      split
      · rfl
      · exact drows_more k size _ (bhd 10 s) (by omega) j (by omega)
def drowsA (size : Int) (l : List PB) (s : List UInt8) : Option (List PB) := drows s.length size l s
theorem drowsA_nil (size : Int) (l : List PB) : drowsA size l [] = some l := rfl
theorem drowsA_step (size : Int) (l : List PB) {s : List UInt8} (h : s ≠ []) : drowsA size l s = match drow size l (ahd 10 s) with
    | none => none
    | some l' => drowsA size l' (bhd 10 s) := by
  unfold drowsA
  have h1 := bhd_lt 10 h
  obtain ⟨k, hk⟩ : ∃ k, s.length = k + 1 := ⟨s.length - 1, by omega⟩
  rw [hk]
  conv => lhs; unfold drows
  rw [if_neg h]
  split
  · rfl
  · exact drows_more k size _ (bhd 10 s) (by omega) _ (Nat.le_refl _)
/-- The book that the document reads. -/
def dread (s : List UInt8) : Option (Int × List PB) := if (10 : UInt8) ∈ s then match nums (ahd 10 s) with
    | [n, size] => if newOk n size then (drowsA size (List.replicate n.toNat PB.none) (bhd 10 s)).map (fun l => (size, l)) else none
    | _ => none
  else none
def dparse (s : List UInt8) : Option (Int × List PB) := match dread s with
  | some (size, l) => if textF size l = s then some (size, l) else none
  | none => none
theorem drow_ok {size : Int} {l l' : List PB} {line : List UInt8} (h : AllOk size l) (e : drow size l line = some l') : AllOk size l' ∧ l'.length = l.length := by
  unfold drow at e
  split at e
  · rename_i a b c d hns
    have o1 := take_ok h a b
    have o2 := use_ok o1 a c
    have o3 := kill_ok o2 a (c - d)
    have o4 := close_ok o3 a
    have n1 := take_len l a b
    have n2 := use_len size (takeF l a b).2 a c
    have n3 := kill_len (useF size (takeF l a b).2 a c).2 a (c - d)
    have n4 := close_len (killF (useF size (takeF l a b).2 a c).2 a (c - d)).2 a
    split at e
    · cases e
    · split at e
      · cases e
      · split at e
        · cases e
        · split at e
          · cases e
          · split at e
            · cases e; exact ⟨o4, by omega⟩
            · cases e; exact ⟨o3, by omega⟩
  · cases e
theorem drows_ok {size : Int} : ∀ (k : Nat) {l l' : List PB} {s : List UInt8}, AllOk size l → drows k size l s = some l' → AllOk size l' ∧ l'.length = l.length
  | 0, l, l', s, h, e => by cases e; exact ⟨h, rfl⟩
  | k + 1, l, l', s, h, e => by
    unfold drows at e
    split at e
    · cases e; exact ⟨h, rfl⟩
    · split at e
      · cases e
      · rename_i l2 e2
        have h2 := drow_ok h e2
        have h3 := drows_ok k h2.1 e
        exact ⟨h3.1, by omega⟩
theorem dread_ok {s : List UInt8} {size : Int} {l : List PB} (e : dread s = some (size, l)) : BkOk size l := by
  unfold dread at e
  split at e
  · split at e
    · rename_i n sz hns
      split at e
      · rename_i hok
        cases hd : drowsA sz (List.replicate n.toNat PB.none) (bhd 10 s) with
        | none => rw [hd] at e; cases e
        | some l2 =>
          rw [hd] at e
          cases e
          have h0 := bkOk_new (n := n.toNat) (size := size) (by obtain ⟨a, b, c, d⟩ := hok; exact ⟨by omega, by omega, c, d⟩)
          have h1 := drows_ok _ h0.ok hd
          have h2 := h0.n1
          have h3 := h0.n2
          exact ⟨h0.s1, h0.s2, by omega, by omega, h1.1⟩
      · cases e
    · cases e
  · cases e
theorem drow_back {size : Int} {l X : List PB} {line : List UInt8} {a b c d : Int} (hn : nums line = [a, b, c, d]) (hd : ¬ c < d) (e : entF size l [a, b, c, d] (shut line) = some X) : drow size l line = some X := by
  unfold drow
  rw [hn]
  unfold entF at e
  dsimp only at e ⊢
  split at e
  · cases e
  · rename_i h1
    rw [if_neg h1]
    split at e
    · cases e
    · rename_i h2
      rw [if_neg h2, if_neg hd]
      split at e
      · cases e
      · split at e
        · cases e
        · rename_i h4
          rw [if_neg h4]
          split at e
          · rename_i h5
            rw [h5, if_neg (by decide)]
            exact e
          · rename_i h5
            split at e
            · cases e
            · rw [if_pos (by cases hs : shut line; exact absurd hs h5; rfl)]
              exact e
theorem drows_back {size : Int} (hs : size ≤ 16777216) : ∀ (xs A : List PB), AllOk size xs → A.length + xs.length ≤ 256 → drowsA size (A ++ List.replicate xs.length PB.none) (rowsT A.length xs) = some (A ++ xs)
  | [], A, _, _ => by
    simp [rowsT, drowsA_nil]
  | x :: xs, A, h, hl => by
    have hx := h x (by simp)
    have hxs : AllOk size xs := fun y hy => h y (List.mem_cons_of_mem _ hy)
    simp only [List.length_cons] at hl
    have ih := drows_back hs xs (A ++ [x]) hxs (by simp; omega)
    rw [List.length_append, List.length_singleton] at ih
    simp only [rowsT]
    rw [List.length_cons, List.replicate_succ]
    by_cases hu : x.use = 0
    · have hx0 := hx.free hu
      unfold rowT
      rw [if_pos hu, List.nil_append]
      rw [hx0] at ih ⊢
      simpa using ih
    · unfold rowT
      rw [if_neg hu]
      have h1 := hx.use0
      have h2 := hx.use3
      have h3 := hx.l0
      have h4 := hx.lu
      have h5 := hx.us
      have hb : ∀ y ∈ [(A.length : Int), x.use, x.used, x.live], 0 ≤ y ∧ y ≤ 16777216 := by
        intro y hy
        simp at hy
        rcases hy with rfl | rfl | rfl | rfl <;> constructor <;> omega
      have hno := line_no10 (ns := [(A.length : Int), x.use, x.used, x.live]) (by simp) hb x.closed
      have hcut := ahd_cut (rowsT (A.length + 1) xs) hno.1
      rw [List.append_assoc, List.singleton_append, drowsA_step _ _ (by simp), hcut.1, hcut.2]
      rw [drow_back (nums_line (by simp) hb x.closed) (by omega) (by rw [shut_line (by simp) hb x.closed]; exact ent_back hx hu A _)]
      dsimp only
      simpa using ih
theorem dread_text {size : Int} {l : List PB} (h : BkOk size l) : dread (textF size l) = some (size, l) := by
  have h1 := h.s1
  have h2 := h.s2
  have h3 := h.n1
  have h4 := h.n2
  have hb : ∀ y ∈ [(l.length : Int), size], 0 ≤ y ∧ y ≤ 16777216 := by
    intro y hy
    simp at hy
    rcases hy with rfl | rfl <;> constructor <;> omega
  have hno := line_no10 (ns := [(l.length : Int), size]) (by simp) hb false
  have hnl := nums_line (ns := [(l.length : Int), size]) (by simp) hb false
  have e0 : lineF [(l.length : Int), size] ++ (if false = true then closedT else []) = lineF [(l.length : Int), size] := by simp
  rw [e0] at hno hnl
  have hcut := ahd_cut (rowsT 0 l) hno.1
  unfold dread textF
  rw [List.append_assoc, List.singleton_append, if_pos (by simp), hcut.1, hcut.2, hnl]
  dsimp only
  rw [if_pos ⟨by omega, by omega, h1, h2⟩, Int.toNat_natCast]
  have := drows_back h2 l [] h.ok (by simp; omega)
  simp only [List.nil_append, List.length_nil] at this
  rw [this]
  rfl
theorem dparse_text {size : Int} {l : List PB} (h : BkOk size l) : dparse (textF size l) = some (size, l) := by
  unfold dparse
  rw [dread_text h]
  dsimp only
  rw [if_pos rfl]
theorem dparse_some {s : List UInt8} {size : Int} {l : List PB} (h : dparse s = some (size, l)) : textF size l = s ∧ BkOk size l := by
  unfold dparse at h
  split at h
  · rename_i sz l2 e
    split at h
    · rename_i ht
      cases h
      exact ⟨ht, dread_ok e⟩
    · cases h
  · cases h
/-- Both read the same book. -/
theorem dparse_none {s : List UInt8} (h : parseF s = none) : dparse s = none := by
  cases hd : dparse s with
  | none => rfl
  | some r =>
    obtain ⟨size, l⟩ := r
    have := dparse_some hd
    rw [← this.1, parse_text this.2] at h
    cases h
theorem dparse_same {s : List UInt8} {size : Int} {l : List PB} (h : parseF s = some (size, l)) (hO : BkOk size l) : dparse s = some (size, l) := by
  rw [← parse_some h]
  exact dparse_text hO
end Go.Proofs.YtmaekpfkkpkgpaaGreatDoor
namespace Go.Proofs.YtmaekpfkkpkgpaaGreatDoor
open Go.RowKit Go.Shelf
set_option maxRecDepth 10000

theorem ahd_at {z : UInt8} {l : List UInt8} {k : Nat} (hk : k < l.length) (h : z ∉ l.take k) (e : l[k]'hk = z) : ahd z l = l.take k ∧ bhd z l = l.drop (k + 1) ∧ z ∈ l := by
  have e1 : l = l.take k ++ z :: l.drop (k + 1) := by
    rw [← e, ← List.drop_eq_getElem_cons hk, List.take_append_drop]
  have h2 := ahd_cut (l.drop (k + 1)) h
  rw [← e1] at h2
  exact ⟨h2.1, h2.2, by rw [← e]; exact List.getElem_mem hk⟩
theorem ext_take (s : List UInt8) (k : Nat) : (bs s).extract 0 k = bs (s.take k) := by rw [Lib.extract_eq, bs_data]; simp [bs]
theorem ext_drop (s : List UInt8) (k : Nat) : (bs s).extract k (bs s).size = bs (s.drop k) := by
  rw [Lib.extract_eq, bs_data, bs_size]
  rw [show s.length - k = (s.drop k).length by simp, List.take_length]
  rfl
theorem bs_at (s : List UInt8) (k : Nat) (h : k < (bs s).size) : ∃ hl : k < s.length, (bs s)[k]'h = s[k]'hl := ⟨by rw [← bs_size]; exact h, by simp [bs]; rfl⟩
set_option maxHeartbeats 2000000 in
theorem dcut_any (z : UInt8) (s : List UInt8) (hs : s.length ≤ 281474976710656) (w : World) :
    Calls Tryz.prog 38 #[.string (bs s), .int .u8 (z.toNat : Nat)] w fun e w' => e = .returned (.tuple #[.string (bs (ahd z s)), .string (bs (bhd z s)), .bool (decide (z ∈ s))]) ∧ Below w.heap.size w w' := by
  have hz := bs_size s
  have HG := hidW (bs_at s)
  have HX1 := hidW (ext_take s)
  have HX2 := hidW (ext_drop s)
  obtain ⟨X, hX⟩ : ∃ X, X = bs s := ⟨_, rfl⟩
  rw [← hX] at hz HG HX1 HX2 ⊢
  have HX := hidW hX
  have mixed := mixedT
  clear hX
  go_enter Tryz.func38, Tryz.ntmps38
  go_wp2
  go_loopw [7] (fun s7 wr => ∃ k q : Nat, k ≤ X.size ∧ s7 = .int .i64 (k : Nat) ∧ wr = w.drewN q ∧ Hid (z ∉ s.take k)) (fun s7 _ => X.size - (intOf s7).toNat)
  case atStart => exact ⟨0, 0, by omega, rfl, rfl, hidW (by simp)⟩
  case round =>
    obtain ⟨k, q, hk1, rfl, rfl, HN⟩ := hrel
    by_cases h1 : k < X.size
    · obtain ⟨x, hx⟩ : ∃ x, X[k]'h1 = x := ⟨_, rfl⟩
      have hkl : k < s.length := by omega
      have HLX : Hid (s[k]'hkl = x) := by obtain ⟨_, e⟩ := HG.out k h1; exact e.symm.trans hx
      have n1 : (k : Int) < (X.size : Int) := by omega
      by_cases hxz : x = z
      · subst hxz
        have HE := hidW (ahd_at hkl HN.out HLX.out)
        have c1 : (0 : Int) ≤ ↑k := by omega
        have c2 : (↑k : Int) ≤ ↑X.size := by omega
        have c3 : (0 : Int) ≤ ↑k + 1 := by omega
        have c4 : (↑k + 1 : Int) ≤ ↑X.size := by omega
        go_wp2_with fail
        go_region_o
        go_wp2
        go_ret3
        refine ⟨?_, Below.drew (below_drawn _ _)⟩
        rw [HE.out.1, HE.out.2.1, decide_eq_true HE.out.2.2, ← HX1.out, ← HX2.out, hz]
        rfl
      · have hne : ((x.toNat : Int) == (z.toNat : Int)) = false := by
          rw [beq_eq_false_iff_ne]; intro e; exact hxz (UInt8.toNat_inj.1 (by omega))
        have HN2 : Hid (z ∉ s.take (k + 1)) := by
          show _
          rw [List.take_succ_eq_append_getElem hkl, HLX.out]
          intro e
          rcases List.mem_append.1 e with e | e
          · exact HN.out e
          · exact hxz (List.mem_singleton.1 e).symm
        go_wp2
        go_roundw
        case rel => exact ⟨k + 1, q, by omega, by go_num, rfl, HN2⟩
        case measure => simp [intOf]; omega
    · have n1 : ¬ (k : Int) < (X.size : Int) := by omega
      have HE := hidW (ahd_no (z := z) (a := s) (by have := HN.out; rwa [List.take_of_length_le (by omega)] at this))
      have HM : Hid (decide (z ∈ s) = false) := by show _; rw [decide_eq_false_iff_not]; have := HN.out; rwa [List.take_of_length_le (by omega)] at this
      go_wp2
      go_ret3
      exact ⟨by rw [HE.out.1, HE.out.2, HM.out, HX.out]; rfl, below_drawn _ _⟩
end Go.Proofs.YtmaekpfkkpkgpaaGreatDoor
namespace Go.Proofs.YtmaekpfkkpkgpaaGreatDoor
open Go.RowKit Go.Shelf
set_option maxRecDepth 10000

theorem own_nil0 (w : World) (base : Nat) : OwnI base w (.slice none 0 0) [] := ⟨rfl, .inl ⟨rfl, rfl⟩⟩
theorem val_bnd : ∀ (k : Nat) (l : List UInt8), l.length = k → l.all dgt = true → 0 ≤ valF l ∧ valF l < 10 ^ k
  | 0, l, hk, _ => by rw [List.eq_nil_of_length_eq_zero hk]; exact ⟨by decide, by decide⟩
  | k + 1, l, hk, h => by
    rcases List.eq_nil_or_concat l with rfl | ⟨l', c, rfl⟩
    · simp at hk
    · rw [List.concat_eq_append] at hk h ⊢
      have h1 := List.all_append (xs := l') (ys := [c]) (f := dgt)
      rw [h1, Bool.and_eq_true] at h
      have ih := val_bnd k l' (by simpa using hk) h.1
      rw [valF_snoc]
      unfold dgS
      have hc : dgt c = true := by simpa using h.2
      unfold dgt at hc
      rw [decide_eq_true_iff] at hc
      rw [Int.pow_succ]
      omega
theorem val_small {l : List UInt8} (h : l.all dgt = true) (hl : l.length ≤ 8) : 0 ≤ valF l ∧ valF l < 100000000 := by
  have := val_bnd l.length l rfl h
  refine ⟨this.1, Int.lt_of_lt_of_le this.2 ?_⟩
  have : l.length = 0 ∨ l.length = 1 ∨ l.length = 2 ∨ l.length = 3 ∨ l.length = 4 ∨ l.length = 5 ∨ l.length = 6 ∨ l.length = 7 ∨ l.length = 8 := by omega
  rcases this with e | e | e | e | e | e | e | e | e <;> rw [e] <;> decide
/-- What is known of the numbers gathered so far. -/
structure Ng (w wr : World) (v : Value) (s rest : List UInt8) (A : List Int) : Prop where
  am : Am w wr v A
  eq : nums s = A ++ nums rest
  le : A.length + rest.length ≤ s.length
theorem str_nil {l : List UInt8} (h : l ≠ []) : ((bs l).toList == ([] : List UInt8)) = false := by rw [bs_toList, beq_eq_false_iff_ne]; exact h
set_option maxHeartbeats 8000000 in
theorem dnums_any (s : List UInt8) (hs : s.length ≤ 1048576) (w : World) :
    Calls Tryz.prog 39 #[.string (bs s)] w fun e w' => ∃ v, e = .returned v ∧ OwnI w.heap.size w' v (nums s) ∧ Below w.heap.size w w' := by
  have HS := hidW (show Ng w w (.slice none 0 0) s s [] from ⟨⟨Below.refl _ _, own_nil0 _ _⟩, by simp, by simp⟩)
  go_enter Tryz.func39, Tryz.ntmps39
  go_wp2_with fail
  go_loopg [0, 3] (s.length + 1) (fun kx s1 s3 wr => ∃ (rest : List UInt8) (v : Value) (A : List Int), rest.length < kx ∧ s1 = .string (bs rest) ∧ v = s3 ∧ Hid (Ng w wr v s rest A))
  case atStart => exact ⟨s, _, [], by omega, rfl, rfl, HS⟩
  case round =>
    obtain ⟨rest, v, A, hk, rfl, rfl, HA⟩ := hrel
    by_cases hr : rest = []
    · subst hr
      have hnil := bs_nil
      obtain ⟨a, cc, rfl⟩ := owns_form HA.out.am.own
      go_wp2
      go_ret
      exact ⟨_, rfl, by rw [HA.out.eq, nums_nil, List.append_nil]; exact HA.out.am.own, HA.out.am.bel⟩
    · have hne1 := bs_ne hr
      have hne2 := bs_ne2 hr
      have hlt := bhd_lt 32 hr
      have hle := ahd_le 32 rest
      have hrl : rest.length ≤ 1048576 := by have := HA.out.le; omega
      have hAl : A.length + 1 ≤ 1048576 := by have := HA.out.le; have := List.length_pos_iff.2 hr; omega
      have kC := hidW (fun W => dcut_any 32 rest (by omega) W)
      have HSt := hidW (nums_step hr)
      obtain ⟨L, hL⟩ : ∃ L, L = ahd 32 rest := ⟨_, rfl⟩
      obtain ⟨R, hR⟩ : ∃ R, R = bhd 32 rest := ⟨_, rfl⟩
      rw [← hL] at hle kC HSt
      rw [← hR] at hlt kC HSt
      clear hr hL hR
      go_wp2_with (go_at_call 38; refine (kC.out _).mono ?_; rintro e w1 ⟨rfl, hb1⟩; have HB1 := hidW hb1; clear hb1)
      have hz := bs_size L
      have HG := hidW (bs_at L)
      obtain ⟨X, hX⟩ : ∃ X, X = bs L := ⟨_, rfl⟩
      rw [← hX] at hz HG
      rw [← hX]
      clear hX kC
      go_loopg [7, 8] L.length (fun kx s7 s8 wi => ∃ (k : Nat) (n : Int), k + kx = L.length ∧ s7 = .int .i64 n ∧ s8 = .int .i64 (k : Nat) ∧ w1 = wi ∧ Hid (n = valF (L.take k) ∧ (L.take k).all dgt = true ∧ (0 < k → L.length ≤ 9)) ∧ 0 ≤ n ∧ n < 1000000000)
      case atStart => exact ⟨0, 0, by omega, rfl, rfl, rfl, ⟨rfl, by simp, by omega⟩, by decide, by decide⟩
      case round =>
        obtain ⟨k, n, hkk, rfl, rfl, rfl, HI, hn0, hn1⟩ := hrel
        by_cases h1 : k < X.size
        · obtain ⟨x, hx⟩ : ∃ x, X[k]'h1 = x := ⟨_, rfl⟩
          have hkl : k < L.length := by omega
          have HLX : Hid (L[k]'hkl = x) := by obtain ⟨_, e⟩ := HG.out k h1; exact e.symm.trans hx
          have n1 : (k : Int) < (X.size : Int) := by omega
          by_cases g1 : (x.toNat : Int) < 48
          · have HW := hidW (show wordF L = none by unfold wordF; rw [if_neg]; rintro ⟨q1, q2⟩; have q3 := List.all_eq_true.1 q1 x (by rw [← HLX.out]; exact List.getElem_mem _); unfold dgt at q3; rw [decide_eq_true_iff] at q3; omega)
            obtain ⟨a, cc, rfl⟩ := owns_form HA.out.am.own
            go_wp2
            go_ret
            exact ⟨_, rfl, by rw [HA.out.eq, HSt.out, HW.out]; dsimp only; rw [List.append_nil]; exact HA.out.am.own.later HB1.out, Below.after HA.out.am.bel HB1.out⟩
          by_cases g2 : 57 < (x.toNat : Int)
          · have HW := hidW (show wordF L = none by unfold wordF; rw [if_neg]; rintro ⟨q1, q2⟩; have q3 := List.all_eq_true.1 q1 x (by rw [← HLX.out]; exact List.getElem_mem _); unfold dgt at q3; rw [decide_eq_true_iff] at q3; omega)
            obtain ⟨a, cc, rfl⟩ := owns_form HA.out.am.own
            go_wp2
            go_ret
            exact ⟨_, rfl, by rw [HA.out.eq, HSt.out, HW.out]; dsimp only; rw [List.append_nil]; exact HA.out.am.own.later HB1.out, Below.after HA.out.am.bel HB1.out⟩
          by_cases g3 : 9 < (X.size : Int)
          · have HW := hidW (show wordF L = none by unfold wordF; rw [if_neg]; rintro ⟨q1, q2⟩; omega)
            obtain ⟨a, cc, rfl⟩ := owns_form HA.out.am.own
            go_wp2
            go_ret
            exact ⟨_, rfl, by rw [HA.out.eq, HSt.out, HW.out]; dsimp only; rw [List.append_nil]; exact HA.out.am.own.later HB1.out, Below.after HA.out.am.bel HB1.out⟩
          have hd : 0 ≤ (x.toNat : Int) - 48 ∧ (x.toNat : Int) - 48 ≤ 9 := ⟨by omega, by omega⟩
          obtain ⟨d, hdd⟩ : ∃ d : Int, (x.toNat : Int) - 48 = d := ⟨_, rfl⟩
          rw [hdd] at hd
          have hd0 := hd.1
          have hd1 := hd.2
          have hwd : IntKind.u8.wrap d = d := by rw [IntKind.wrap_u8]; omega
          have HI2 := hidW (show n * 10 + d = valF (L.take (k + 1)) ∧ (L.take (k + 1)).all dgt = true ∧ (0 < k + 1 → L.length ≤ 9) by
            rw [List.take_succ_eq_append_getElem hkl, HLX.out, valF_snoc, ← HI.out.1, List.all_append, HI.out.2.1]
            refine ⟨by unfold dgS; rw [hdd], ?_, by omega⟩
            simp [dgt]
            omega)
          have hn8 : n < 100000000 := by
            rw [HI.out.1]
            exact (val_small HI.out.2.1 (by rw [List.length_take]; omega)).2
          clear hd
          go_wp2
          go_roundg (L.length - (k + 1))
          case measure => omega
          case rel => exact ⟨k + 1, n * 10 + d, by omega, by first | rfl | go_num, by go_num, rfl, HI2, by omega, by omega⟩
        · have n1 : ¬ (k : Int) < (X.size : Int) := by omega
          have hk2 : k = L.length := by omega
          have HW := hidW (show wordF L = some n by
            have h2 := HI.out
            rw [hk2, List.take_length] at h2
            have h9 : L.length ≤ 9 := by
              by_cases h0 : 0 < k
              · exact h2.2.2 (by omega)
              · omega
            unfold wordF
            rw [if_pos ⟨h2.2.1, h9⟩, h2.1])
          have HLn := hidW hAl
          have HNew : Hid ((w1.alloc (.cells #[.int .i64 n] 3)).cell? ((⟨w1.heap.size, 0, none⟩ : Addr).add 0) = some (intV n) ∧ OwnI w.heap.size (w1.alloc (.cells #[.int .i64 n] 3)) v A ∧ Below w.heap.size w (w1.alloc (.cells #[.int .i64 n] 3))) := ⟨new_int w1 n _, (HA.out.am.own.later HB1.out).later (below_new _ _), Below.after (Below.after HA.out.am.bel HB1.out) (below_new _ _)⟩
          clear hk2 hAl
          go_wp2_with (at_builtin; refine wpList_append_int rfl (.tmp 47) (.tmp 49) rfl w.heap.size v A.length (A.map intV) rfl HNew.out.2.1 ⟨w1.heap.size, 0, none⟩ 1 n rfl HNew.out.1 (by have := HLn.out; unfold maxLen; omega) (by have := HLn.out; omega) HNew.out.2.2.size ?_; intro v5 w5 hown hgrow; have HO5 : Hid (OwnI w.heap.size w5 v5 (A ++ [n]) ∧ Below w.heap.size w w5) := ⟨by have := hown; unfold OwnI; rw [List.map_append, List.length_append]; exact this, HNew.out.2.2.grown hgrow HNew.out.2.2.size (fun q hq => HNew.out.2.1.block q hq)⟩; clear hown hgrow)
          go_roundg (R.length + 1)
          case measure => omega
          case rel => exact ⟨R, v5, A ++ [n], by omega, rfl, rfl, ⟨⟨HO5.out.2, HO5.out.1⟩, by rw [HA.out.eq, HSt.out, HW.out]; simp, by have := HA.out.le; simp; omega⟩⟩
end Go.Proofs.YtmaekpfkkpkgpaaGreatDoor
