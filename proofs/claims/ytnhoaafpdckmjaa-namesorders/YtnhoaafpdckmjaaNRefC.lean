/-
  The document's answers of Less and Sort.
-/
import Derived.Test.YtnhoaafpdckmjaaNOrd
import Derived.BigQuiet
namespace Go.Proofs.Ytnhoaafpdckmjaa
open Go.RowKit Go.Shelf M

theorem bl_take : ∀ {x y : List UInt8} {k : Nat}, x.take k = y.take k → k ≤ x.length → k ≤ y.length → Op.bytesLess x y = Op.bytesLess (x.drop k) (y.drop k)
  | x, y, 0, _, _, _ => by simp
  | [], _, k + 1, _, h, _ => by simp at h
  | _ :: _, [], k + 1, _, _, h => by simp at h
  | a :: x, b :: y, k + 1, h, h1, h2 => by
    simp at h h1 h2
    obtain ⟨rfl, h⟩ := h
    have hl : ¬ a < a := by rw [UInt8.lt_iff_toNat_lt]; omega
    simp only [Op.bytesLess, hl, decide_false, Bool.false_or, beq_self_eq_true, Bool.true_and, List.drop_succ_cons]
    exact bl_take h h1 h2
theorem bl_head {a b : UInt8} {x y : List UInt8} (h : a ≠ b) : Op.bytesLess (a :: x) (b :: y) = decide (a < b) := by
  have : (a == b) = false := beq_eq_false_iff_ne.2 h
  simp [Op.bytesLess, this]

set_option maxRecDepth 100000 in
set_option maxHeartbeats 2000000 in
theorem rless_any (l m : List UInt8) (hl : l.length ≤ maxLen) (hm : m.length ≤ maxLen) (w : World) :
    Calls Try.prog 23 #[.string (bs l), .string (bs m)] w fun e w' => e = .returned (.bool (Op.bytesLess l m)) ∧ ∃ q, w' = w.drewN q := by
  unfold maxLen at hl hm
  have hz1 := bs_size l
  have hz2 := bs_size m
  have HG1 : Hid (∀ k (h : k < (bs l).size), ∃ hl : k < l.length, (bs l)[k]'h = l[k]'hl) := fun k h => by
    refine ⟨by rw [← bs_size]; exact h, by simp [bs]; rfl⟩
  have HG2 : Hid (∀ k (h : k < (bs m).size), ∃ hl : k < m.length, (bs m)[k]'h = m[k]'hl) := fun k h => by
    refine ⟨by rw [← bs_size]; exact h, by simp [bs]; rfl⟩
  obtain ⟨X, hX⟩ : ∃ X, X = bs l := ⟨_, rfl⟩
  obtain ⟨Y, hY⟩ : ∃ Y, Y = bs m := ⟨_, rfl⟩
  rw [← hX] at hz1 HG1 ⊢
  rw [← hY] at hz2 HG2 ⊢
  clear hX hY
  have mixed := mixedT
  obtain ⟨R, hR⟩ : ∃ R, R = Op.bytesLess l m := ⟨_, rfl⟩
  have HRR : Hid (R = Op.bytesLess l m) := hR
  rw [← hR]
  clear hR
  go_enter Try.func23, Try.ntmps23
  go_wp2
  go_loopw [5] (fun s5 wr => ∃ k q : Nat, k ≤ X.size ∧ k ≤ Y.size ∧ s5 = .int .i64 k ∧ wr = w.drewN q ∧ l.take k = m.take k) (fun s5 _ => X.size - (intOf s5).toNat)
  case atStart => exact ⟨0, 0, by omega, by omega, rfl, rfl, by simp⟩
  case round =>
    obtain ⟨k, q, hk1, hk2, rfl, rfl, heq⟩ := hrel
    have HE : Hid (l.take k = m.take k) := heq
    clear heq
    have HB : Hid (R = Op.bytesLess (l.drop k) (m.drop k)) := by show _ = _; rw [HRR.out]; exact bl_take HE.out (by omega) (by omega)
    by_cases h1 : k < X.size
    · by_cases h2 : k < Y.size
      · obtain ⟨x, hx⟩ : ∃ x, X[k]'h1 = x := ⟨_, rfl⟩
        obtain ⟨y, hy⟩ : ∃ y, Y[k]'h2 = y := ⟨_, rfl⟩
        have hkl : k < l.length := by omega
        have hkm : k < m.length := by omega
        have HLX : Hid (l[k]'hkl = x) := by obtain ⟨_, e⟩ := HG1.out k h1; exact e.symm.trans hx
        have HLY : Hid (m[k]'hkm = y) := by obtain ⟨_, e⟩ := HG2.out k h2; exact e.symm.trans hy
        have HB2 : Hid (R = Op.bytesLess (x :: l.drop (k + 1)) (y :: m.drop (k + 1))) := by
          show _ = _
          rw [HB.out, ← HLX.out, ← HLY.out, List.drop_eq_getElem_cons hkl, List.drop_eq_getElem_cons hkm]
        by_cases hxy : x = y
        · subst hxy
          have HE2 : Hid (l.take (k + 1) = m.take (k + 1)) := by
            show _ = _
            rw [List.take_succ_eq_append_getElem hkl, List.take_succ_eq_append_getElem hkm, HLX.out, HLY.out, HE.out]
          go_wp2_with fail
          go_region_o
          go_wp2
          go_roundw
          case rel => exact ⟨k + 1, _, by omega, by omega, by go_num, rfl, HE2.out⟩
          case measure => simp [intOf]; omega
        · have hne : ((x.toNat : Int) != (y.toNat : Int)) = true := by
            rw [bne_iff_ne]; intro e; exact hxy (UInt8.toNat_inj.1 (by omega))
          have HRF : Hid (R = decide (x.toNat < y.toNat)) := by
            show _ = _
            rw [HB2.out, bl_head hxy]
            exact decide_eq_decide.2 (by rw [UInt8.lt_iff_toNat_lt])
          clear hxy
          go_wp2_with fail
          go_region_o
          go_wp2_with fail
          go_region_o
          go_wp2
          go_ret
          exact ⟨by rw [HRF.out]; rfl, _, rfl⟩
      · have hkY : k = Y.size := by omega
        have HRF : Hid (R = decide (l.length < m.length)) := by
          show _ = _
          have e : m.drop k = [] := List.drop_eq_nil_of_le (by omega)
          rw [HB.out, e, decide_eq_false (by omega)]
          cases l.drop k <;> rfl
        have h1I : (k : Int) < (X.size : Int) := by omega
        have h2I : ¬ (k : Int) < (Y.size : Int) := by omega
        clear hkY
        go_wp2
        go_ret
        exact ⟨by rw [HRF.out]; rfl, _, rfl⟩
    · have HRF : Hid (R = decide (l.length < m.length)) := by
        show _ = _
        have e : l.drop k = [] := List.drop_eq_nil_of_le (by omega)
        rw [HB.out, e]
        by_cases h2 : k < Y.size
        · rw [decide_eq_true (by omega), List.drop_eq_getElem_cons (l := m) (i := k) (by omega)]; rfl
        · have e : m.drop k = [] := List.drop_eq_nil_of_le (by omega)
          rw [decide_eq_false (by omega), e]; rfl
      have h1I : ¬ (k : Int) < (X.size : Int) := by omega
      go_wp2
      go_ret
      exact ⟨by rw [HRF.out]; rfl, _, rfl⟩

/-- x, put ahead of the first text that it stands ahead of. -/
def ins (x : ByteArray) : List ByteArray → List ByteArray
  | [] => [x]
  | y :: t => if lt x y = true then x :: y :: t else y :: ins x t
theorem ins_all {x : ByteArray} : ∀ {O : List ByteArray}, (∀ y ∈ O, lt x y = false) → ins x O = O ++ [x]
  | [], _ => rfl
  | y :: t, h => by
    unfold ins
    rw [if_neg (by rw [h y (by simp)]; decide), ins_all (fun z hz => h z (List.mem_cons_of_mem _ hz))]
    rfl
theorem ins_at {x y : ByteArray} : ∀ {P T : List ByteArray}, (∀ z ∈ P, lt x z = false) → lt x y = true → ins x (P ++ y :: T) = P ++ x :: y :: T
  | [], T, _, h => by show ins x (y :: T) = _; unfold ins; rw [if_pos h]; rfl
  | z :: P, T, h1, h2 => by
    show ins x (z :: (P ++ y :: T)) = _
    unfold ins
    rw [if_neg (by rw [h1 z (by simp)]; decide), ins_at (fun u hu => h1 u (List.mem_cons_of_mem _ hu)) h2]
    rfl
theorem ins_perm (x : ByteArray) : ∀ O : List ByteArray, (ins x O).Perm (x :: O)
  | [] => List.Perm.refl _
  | y :: t => by
    unfold ins
    split
    · exact List.Perm.refl _
    · exact ((ins_perm x t).cons y).trans (List.Perm.swap x y t)
theorem ins_order {x : ByteArray} : ∀ {O : List ByteArray}, inOrder O → inOrder (ins x O)
  | [], _ => by unfold ins inOrder; exact List.pairwise_singleton _ _
  | y :: t, h => by
    unfold inOrder at h
    rw [List.pairwise_cons] at h
    unfold ins
    split
    · rename_i hxy
      unfold inOrder
      refine List.pairwise_cons.2 ⟨?_, List.pairwise_cons.2 h⟩
      intro z hz
      rcases List.mem_cons.1 hz with rfl | hz
      · exact lt_asymm hxy
      · cases h3 : lt z x with
        | false => rfl
        | true => have := lt_trans h3 hxy; rw [h.1 z hz] at this; cases this
    · rename_i hxy
      unfold inOrder
      refine List.pairwise_cons.2 ⟨?_, ins_order h.2⟩
      intro z hz
      rcases List.mem_cons.1 ((ins_perm x t).subset hz) with rfl | hz
      · cases h3 : lt z y with
        | false => rfl
        | true => exact absurd h3 hxy
      · exact h.1 z hz
theorem order_unique : ∀ {l m : List ByteArray}, inOrder l → inOrder m → l.Perm m → l = m
  | [], m, _, _, h => (List.nil_perm.1 h).symm
  | a :: l, [], _, _, h => absurd (List.perm_nil.1 h) (by simp)
  | a :: l, b :: m, h1, h2, h => by
    unfold inOrder at h1 h2
    rw [List.pairwise_cons] at h1 h2
    have e : a = b := by
      by_cases e : a = b
      · exact e
      · have ha : a ∈ m := by rcases List.mem_cons.1 (h.subset (List.mem_cons_self ..)) with h | h; exact absurd h e; exact h
        have hb : b ∈ l := by rcases List.mem_cons.1 (h.symm.subset (List.mem_cons_self ..)) with h | h; exact absurd h.symm e; exact h
        have q1 := h1.1 b hb
        have q2 := h2.1 a ha
        rcases lt_total e with q | q
        · rw [q2] at q; cases q
        · rw [q1] at q; cases q
    subst e
    rw [order_unique h1.2 h2.2 ((List.perm_cons a).1 h)]
/-- One behind the other, each put in its place. -/
def rs (l : List ByteArray) : List ByteArray := l.foldl (fun O x => ins x O) []
theorem rs_snoc (l : List ByteArray) (x : ByteArray) : rs (l ++ [x]) = ins x (rs l) := by simp [rs]
theorem rs_facts (l : List ByteArray) : inOrder (rs l) ∧ (rs l).Perm l := by
  have : ∀ (n : Nat) (l : List ByteArray), l.length = n → inOrder (rs l) ∧ (rs l).Perm l := by
    intro n
    induction n with
    | zero => intro l h; have := List.eq_nil_of_length_eq_zero h; subst this; exact ⟨List.Pairwise.nil, List.Perm.refl _⟩
    | succ n ih =>
      intro l h
      have hne : l ≠ [] := by intro e; subst e; simp at h
      have e := List.dropLast_concat_getLast hne
      obtain ⟨q1, q2⟩ := ih l.dropLast (by simp; omega)
      rw [← e, rs_snoc]
      exact ⟨ins_order q1, (ins_perm _ _).trans ((q2.cons _).trans (List.perm_append_singleton _ _).symm)⟩
  exact this _ l rfl
theorem rs_sorted (l : List ByteArray) : rs l = sorted l :=
  order_unique (rs_facts l).1 (sorted_order l) ((rs_facts l).2.trans (sorted_perm l).symm)
theorem rs_length (l : List ByteArray) : (rs l).length = l.length := (rs_facts l).2.length_eq
theorem rs_take {l : List ByteArray} {i : Nat} {x : ByteArray} (h : l[i]? = some x) : rs (l.take (i + 1)) = ins x (rs (l.take i)) := by
  rw [List.take_add_one, h]; exact rs_snoc _ _
/-- What has been put down, k of the texts being passed; d: x is among them. -/
def Part (x : ByteArray) (O N : List ByteArray) (k : Nat) (d : Bool) : Prop :=
  (d = false ∧ N = O.take k ∧ ∀ y ∈ O.take k, lt x y = false) ∨ (d = true ∧ N ++ O.drop k = ins x O)
theorem part_pass {x y : ByteArray} {O N : List ByteArray} {k : Nat} (h : Part x O N k false) (hy : O[k]? = some y) (hl : lt x y = false) : Part x O (N ++ [y]) (k + 1) false := by
  rcases h with ⟨_, rfl, h2⟩ | ⟨h, _⟩
  · refine .inl ⟨rfl, by rw [List.take_add_one, hy]; rfl, ?_⟩
    intro z hz
    rw [List.take_add_one, hy] at hz
    rcases List.mem_append.1 hz with hz | hz
    · exact h2 z hz
    · simp at hz; rw [hz]; exact hl
  · cases h
theorem drop_at {O : List ByteArray} {k : Nat} {y : ByteArray} (hy : O[k]? = some y) : O.drop k = y :: O.drop (k + 1) := by
  obtain ⟨h, rfl⟩ := List.getElem?_eq_some_iff.1 hy
  exact List.drop_eq_getElem_cons h
theorem part_put {x y : ByteArray} {O N : List ByteArray} {k : Nat} (h : Part x O N k false) (hy : O[k]? = some y) (hl : lt x y = true) : Part x O (N ++ [x] ++ [y]) (k + 1) true := by
  rcases h with ⟨_, rfl, h2⟩ | ⟨h, _⟩
  · refine .inr ⟨rfl, ?_⟩
    have e : O = O.take k ++ y :: O.drop (k + 1) := by rw [← drop_at hy, List.take_append_drop]
    conv => rhs; rw [e]
    rw [ins_at h2 hl]
    simp
  · cases h
theorem part_more {x y : ByteArray} {O N : List ByteArray} {k : Nat} (h : Part x O N k true) (hy : O[k]? = some y) : Part x O (N ++ [y]) (k + 1) true := by
  rcases h with ⟨h, _⟩ | ⟨_, h⟩
  · cases h
  · refine .inr ⟨rfl, ?_⟩
    rw [← h, drop_at hy]
    simp
theorem part_end0 {x : ByteArray} {O N : List ByteArray} {k : Nat} (h : Part x O N k false) (hk : k = O.length) : N ++ [x] = ins x O := by
  rcases h with ⟨_, rfl, h2⟩ | ⟨h, _⟩
  · rw [hk, List.take_length] at h2 ⊢
    exact (ins_all h2).symm
  · cases h
theorem part_end1 {x : ByteArray} {O N : List ByteArray} {k : Nat} (h : Part x O N k true) (hk : k = O.length) : N = ins x O := by
  rcases h with ⟨h, _⟩ | ⟨_, h⟩
  · cases h
  · rw [hk, List.drop_length, List.append_nil] at h; exact h
end Go.Proofs.Ytnhoaafpdckmjaa
