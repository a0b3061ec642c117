/-
  The document's answers of Has, Right, parts and Split.
-/
import Derived.Test.YtnhoaafpdckmjaaNLong
namespace Go.Proofs.Ytnhoaafpdckmjaa
open Go.RowKit Go.Shelf M

theorem bs_get {l : List UInt8} {i : Nat} (h : i < (bs l).size) : ∃ hl : i < l.length, (bs l)[i]'h = l[i]'hl := ⟨by rw [← bs_size]; exact h, by simp [bs]; rfl⟩

set_option maxHeartbeats 1000000 in
theorem has_any (l : List UInt8) (c : UInt8) (hs : l.length ≤ maxLen) (w : World) :
    Calls Try.prog 31 #[.string (bs l), .int .u8 (c.toNat : Int)] w fun e w' => e = .returned (.bool (decide (c ∈ l))) ∧ w = w' := by
  unfold maxLen at hs
  have hz := bs_size l
  obtain ⟨S, hS⟩ : ∃ S, S = bs l := ⟨_, rfl⟩
  rw [← hS] at hz ⊢
  have HS : Hid (S = bs l) := hS
  obtain ⟨n, hn⟩ : ∃ n, n = S.size := ⟨_, rfl⟩
  clear hS
  go_enter Try.func31, Try.ntmps31
  go_wp2
  go_loop [5] (fun i => ∃ k : Nat, k ≤ S.size ∧ i = .int .i64 k ∧ c ∉ l.take k) (fun i => S.size - (intOf i).toNat)
  case atStart => exact ⟨0, by omega, rfl, by simp⟩
  case round =>
    obtain ⟨k, hk, rfl, hno⟩ := hrel
    have HN : Hid (c ∉ l.take k) := hno
    clear hno
    by_cases hlt : k < S.size
    · obtain ⟨x, hx⟩ : ∃ x, x = S[k]'hlt := ⟨_, rfl⟩
      have hkl : k < l.length := by omega
      have HX : Hid (x = l[k]'hkl) := by
        have H2 := HS.out
        subst H2
        obtain ⟨_, e⟩ := bs_get hlt
        exact hx.trans e
      by_cases hc : x = c
      · have e1 : ((x.toNat : Int) == (c.toNat : Int)) = true := by rw [hc]; simp
        have HM : Hid (decide (c ∈ l) = true) := decide_eq_true (by rw [← hc, HX.out]; exact List.getElem_mem _)
        have hx' := hx.symm
        clear hc hx
        go_wp2
        go_ret
        exact ⟨by rw [HM.out]; rfl, rfl⟩
      · have e1 : ((x.toNat : Int) == (c.toNat : Int)) = false := by
          rw [beq_eq_false_iff_ne]; intro e; exact hc (UInt8.toNat_inj.1 (by omega))
        have HM : Hid (c ∉ l.take (k + 1)) := by
          rw [List.take_succ_eq_append_getElem hkl, ← HX.out]
          intro h
          rcases List.mem_append.1 h with h | h
          · exact HN.out h
          · simp at h; exact hc h.symm
        have hx' := hx.symm
        clear hc hx
        go_wp2
        go_round
        case rel => exact ⟨k + 1, by omega, by go_num, HM.out⟩
        case measure => simp [intOf]; omega
    · have HM : Hid (decide (c ∈ l) = false) := decide_eq_false (by have := HN.out; rwa [List.take_of_length_le (by omega)] at this)
      go_wp2
      go_ret
      exact ⟨by rw [HM.out]; rfl, rfl⟩

theorem rright_cond (l : List UInt8) (a b c d : Bool) (ha : a = decide (47 ∈ l)) (hb : b = decide (0 ∈ l)) (hc : c = decide (l = [46])) (hd : d = decide (l = [46, 46])) :
    rightOf l = if l = [] then 2 else if (a || b || c || d) = true then 22 else if 24 < l.length then 36 else 0 := by
  subst ha hb hc hd
  unfold rightOf
  have e : ((decide (47 ∈ l) || decide (0 ∈ l) || decide (l = [46]) || decide (l = [46, 46])) = true) ↔ ((47 ∈ l ∨ 0 ∈ l) ∨ l = [46] ∨ l = [46, 46]) := by
    simp only [Bool.or_eq_true, decide_eq_true_eq]
    constructor
    · rintro (((h | h) | h) | h)
      · exact .inl (.inl h)
      · exact .inl (.inr h)
      · exact .inr (.inl h)
      · exact .inr (.inr h)
    · rintro ((h | h) | h | h)
      · exact .inl (.inl (.inl h))
      · exact .inl (.inl (.inr h))
      · exact .inl (.inr h)
      · exact .inr h
  simp only [e]

set_option maxHeartbeats 2000000 in
theorem rright_any (l : List UInt8) (hs : l.length ≤ maxLen) (w : World) :
    Calls Try.prog 12 #[.string (bs l)] w fun e w' => e = .returned (.int .i64 (rightOf l)) ∧ w = w' := by
  have h47 := fun w => has_any l 47 hs w
  have h00 := fun w => has_any l 0 hs w
  obtain ⟨a, ha⟩ : ∃ a, a = decide (47 ∈ l) := ⟨_, rfl⟩
  obtain ⟨b, hb⟩ : ∃ b, b = decide (0 ∈ l) := ⟨_, rfl⟩
  obtain ⟨c, hc⟩ : ∃ c, c = decide (l = [46]) := ⟨_, rfl⟩
  obtain ⟨d, hd⟩ : ∃ d, d = decide (l = [46, 46]) := ⟨_, rfl⟩
  rw [rright_cond l a b c d ha hb hc hd]
  rw [← ha] at h47
  rw [← hb] at h00
  have e47 : ((47 : UInt8).toNat : Int) = 47 := rfl
  have e00 : ((0 : UInt8).toNat : Int) = 0 := rfl
  rw [e47] at h47
  rw [e00] at h00
  have hl := bs_toList l
  have hz := bs_size l
  obtain ⟨S, hS⟩ : ∃ S, S = bs l := ⟨_, rfl⟩
  rw [← hS] at h47 h00 hl hz ⊢
  have ec : (S.toList == [46]) = c := by rw [hl, hc]; rw [Bool.eq_iff_iff]; simp
  have ed : (S.toList == [46, 46]) = d := by rw [hl, hd]; rw [Bool.eq_iff_iff]; simp
  have e0 : S.toList.isEmpty = decide (l = []) := by rw [hl]; cases l <;> rfl
  clear hS ha hb hc hd e47 e00
  by_cases hl0 : l = []
  · rw [if_pos hl0]
    have e1 : S.toList = [] := by rw [hl]; exact hl0
    rw [decide_eq_true hl0] at e0
    clear hl hz hl0 ec ed
    go_enter Try.func12, Try.ntmps12
    go_wp2
    go_ret
    exact ⟨rfl, rfl⟩
  · rw [if_neg hl0]
    have e1 : ¬ S.toList = [] := by rw [hl]; exact hl0
    rw [decide_eq_false hl0] at e0
    have M1 : Hid True := trivial
    cases a <;> cases b <;> cases c <;> cases d
    all_goals
      first
      | (rw [if_neg (by decide)]
         by_cases h4 : 24 < l.length
         · have e4 : (24 : Int) < (S.size : Int) := by omega
           rw [if_pos h4]
           clear hl hz hl0 h4
           go_enter Try.func12, Try.ntmps12
           go_wp2_with (first
             | (go_at_call 31; clear M1; refine (h47 _).mono ?_; rintro e w' ⟨rfl, rfl⟩)
             | (go_at_call 31; refine (h00 _).mono ?_; rintro e w' ⟨rfl, rfl⟩))
           go_ret
           exact ⟨rfl, rfl⟩
         · have e4 : ¬ (24 : Int) < (S.size : Int) := by omega
           rw [if_neg h4]
           clear hl hz hl0 h4
           go_enter Try.func12, Try.ntmps12
           go_wp2_with (first
             | (go_at_call 31; clear M1; refine (h47 _).mono ?_; rintro e w' ⟨rfl, rfl⟩)
             | (go_at_call 31; refine (h00 _).mono ?_; rintro e w' ⟨rfl, rfl⟩))
           go_ret
           exact ⟨rfl, rfl⟩)
      | (rw [if_pos (by decide)]
         clear hl hz hl0
         go_enter Try.func12, Try.ntmps12
         go_wp2_with (first
           | (go_at_call 31; clear M1; refine (h47 _).mono ?_; rintro e w' ⟨rfl, rfl⟩)
           | (go_at_call 31; refine (h00 _).mono ?_; rintro e w' ⟨rfl, rfl⟩))
         go_ret
         exact ⟨rfl, rfl⟩)

/-- The pieces that have come, k bytes being looked at, the piece at hand from f on. -/
def Got (l : List UInt8) (O : List ByteArray) (k f : Nat) : Prop :=
  f ≤ k ∧ (∀ j (hj : j < l.length), f ≤ j → j < k → l[j]'hj ≠ 47) ∧ pieces l = O ++ pieces (l.drop f)
theorem seg_no {l : List UInt8} {k f : Nat} (h : ∀ j (hj : j < l.length), f ≤ j → j < k → l[j]'hj ≠ 47) : 47 ∉ (l.drop f).take (k - f) := by
  intro hm
  obtain ⟨j, hj, e⟩ := List.getElem_of_mem hm
  simp at hj
  rw [List.getElem_take, List.getElem_drop] at e
  exact h (f + j) (by omega) (by omega) (by omega) e
theorem got_next {l : List UInt8} {O : List ByteArray} {k f : Nat} (h : Got l O k f) (hk : k < l.length) (hx : l[k]'hk ≠ 47) : Got l O (k + 1) f :=
  ⟨by have := h.1; omega, fun j hj h1 h2 => by by_cases e : j = k; subst e; exact hx; exact h.2.1 j hj h1 (by omega), h.2.2⟩
theorem got_cut {l : List UInt8} {O : List ByteArray} {k f : Nat} (h : Got l O k f) (hk : k < l.length) (hx : l[k]'hk = 47) :
    Got l (O ++ if k = f then [] else [bs ((l.drop f).take (k - f))]) (k + 1) (k + 1) := by
  obtain ⟨h1, h2, h3⟩ := h
  refine ⟨Nat.le_refl _, fun j _ h4 h5 => by omega, ?_⟩
  have e : l.drop f = (l.drop f).take (k - f) ++ 47 :: l.drop (k + 1) := by
    have e1 : (l.drop f).drop (k - f) = 47 :: l.drop (k + 1) := by
      rw [List.drop_drop, show f + (k - f) = k by omega, ← hx]
      exact (List.drop_eq_getElem_cons hk)
    rw [← e1, List.take_append_drop]
  rw [h3]
  conv => lhs; rw [e]
  rw [pieces_cut _ (seg_no h2)]
  by_cases hkf : k = f
  · rw [if_pos hkf, if_pos (by rw [hkf]; simp)]; simp
  · rw [if_neg hkf, if_neg (by intro e; have := congrArg List.length e; simp at this; omega)]; simp
theorem got_end {l : List UInt8} {O : List ByteArray} {f : Nat} (h : Got l O l.length f) : pieces l = O ++ if l.length = f then [] else [bs ((l.drop f).take (l.length - f))] := by
  obtain ⟨h1, h2, h3⟩ := h
  have e : (l.drop f).take (l.length - f) = l.drop f := List.take_of_length_le (by simp)
  have h4 := seg_no h2
  rw [e] at h4 ⊢
  rw [h3, pieces_no h4]
  congr 1
  by_cases hf : l.length = f
  · rw [if_pos hf, if_pos (by rw [← hf]; simp)]
  · rw [if_neg hf, if_neg (by intro e; have := congrArg List.length e; simp at this; omega)]
theorem extract_bs (l : List UInt8) (f k : Nat) : (bs l).extract f k = bs ((l.drop f).take (k - f)) := by rw [Lib.extract_eq, bs_data]; rfl
theorem pieces_len (l : List UInt8) : (pieces l).length ≤ l.length + 1 := by
  have hs : ∀ l : List UInt8, (segs l).length ≤ l.length + 1 := by
    intro l
    induction l with
    | nil => simp [segs]
    | cons c l ih =>
      unfold segs
      split
      · simp; exact ih
      · split
        · simp
        · rename_i h t he; rw [he] at ih; simp at ih ⊢; omega
  unfold pieces parts
  rw [List.length_map]
  exact Nat.le_trans (List.length_filter_le _ _) (hs l)

set_option maxRecDepth 100000 in
set_option maxHeartbeats 2000000 in
theorem rparts_any (l : List UInt8) (hs : l.length ≤ 255) (w : World) :
    Calls Try.prog 32 #[.string (bs l)] w fun e w' => ∃ v, e = .returned v ∧ SOwn w w' v (pieces l) := by
  have hz := bs_size l
  have HX : Hid (∀ f k, (bs l).extract f k = bs ((l.drop f).take (k - f))) := extract_bs l
  have HG : Hid (∀ k (h : k < (bs l).size), ∃ hl : k < l.length, (bs l)[k]'h = l[k]'hl) := fun k h => bs_get h
  obtain ⟨S, hS⟩ : ∃ S, S = bs l := ⟨_, rfl⟩
  rw [← hS] at hz HX HG ⊢
  obtain ⟨n, hn⟩ : ∃ n, n = l.length := ⟨_, rfl⟩
  have HN : Hid (n = l.length) := hn
  rw [← hn] at hz hs
  clear hn hS
  go_enter Try.func32, Try.ntmps32
  go_wp2
  go_loopw [3, 4, 5] (fun s3 s4 s5 wr => ∃ (O : List ByteArray) (k f m cap : Nat) (a : Option Addr), s5 = .int .i64 k ∧ s4 = .int .i64 f ∧ s3 = .slice a m cap ∧ m = O.length ∧ wr.ownsRow w.heap.size 9 1 (.slice a m cap) m (O.map Value.string) ∧ Below w.heap.size w wr ∧ O.length ≤ k ∧ k ≤ n + 1 ∧ ((k ≤ n ∧ Got l O k f) ∨ (k = n + 1 ∧ O = pieces l)))
    (fun _ _ s5 _ => n + 1 - (intOf s5).toNat)
  case atStart => exact ⟨[], 0, 0, 0, 0, none, rfl, rfl, rfl, rfl, World.ownsRow_nil _ _ _ _, Below.refl _ _, by simp, by omega, .inl ⟨by omega, Nat.le_refl _, fun j _ _ h => absurd h (Nat.not_lt_zero _), rfl⟩⟩
  case round =>
    obtain ⟨O, k, f, m, cap, a, rfl, rfl, rfl, hm, hown, hb, hOk, hkn, hcase⟩ := hrel
    have HM : Hid (m = O.length) := hm
    have HO : Hid (wr.ownsRow w.heap.size 9 1 (.slice a m cap) m (O.map Value.string)) := hown
    have HB : Hid (Below w.heap.size w wr) := hb
    have hwr := hb.size
    have hm2 : m ≤ k := by omega
    have HOk : Hid (O.length ≤ k) := hOk
    clear hm hown hb hOk
    rcases hcase with ⟨hk, hgot⟩ | ⟨hk, hO⟩
    · have HGOT : Hid (Got l O k f) := hgot
      have hfk : f ≤ k := hgot.1
      clear hgot
      have hkI : (k : Int) ≤ (S.size : Int) := by omega
      by_cases hkn' : k < n
      · have hlt : k < S.size := by omega
        have hne : ((k : Int) == (S.size : Int)) = false := by simp; omega
        obtain ⟨x, hx⟩ : ∃ x, S[k]'hlt = x := ⟨_, rfl⟩
        have hkl : k < l.length := by have := HN.out; omega
        have HLX : Hid (l[k]'hkl = x) := by obtain ⟨_, e⟩ := HG.out k hlt; exact e.symm.trans hx
        by_cases h47 : x = 47
        · have e47 : ((x.toNat : Int) == 47) = true := by rw [h47]; rfl
          have HC : Hid (Got l (O ++ if k = f then [] else [bs ((l.drop f).take (k - f))]) (k + 1) (k + 1)) := got_cut HGOT.out hkl (by rw [HLX.out]; exact h47)
          clear h47
          by_cases hkf : k = f
          · have hkI2 : ¬ (f : Int) < (k : Int) := by omega
            have HC2 : Hid (Got l O (k + 1) (k + 1)) := by have := HC.out; rw [if_pos hkf, List.append_nil] at this; exact this
            clear hkf
            go_wp2
            go_roundw
            case rel => exact ⟨O, k + 1, k + 1, m, cap, a, by go_num, by go_num, rfl, HM.out, HO.out, HB.out, by have := HOk.out; omega, by omega, .inl ⟨by omega, HC2.out⟩⟩
            case measure => simp [intOf]; omega
          · have hkI2 : (f : Int) < (k : Int) := by omega
            have hkI3 : (f : Int) ≤ (k : Int) := by omega
            have HC2 : Hid (Got l (O ++ [S.extract f k]) (k + 1) (k + 1)) := by have := HC.out; rw [if_neg hkf, ← HX.out] at this; exact this
            clear hkf
            go_wp2_with (at_builtin; go_must (refine wpList_append_strs rfl (.tmp 25) (.tmp 30) rfl w.heap.size (.slice a m cap) m (O.map Value.string) rfl (HO.out.alloc _) (some ⟨wr.heap.size, 0, none⟩) 1 1 [S.extract f k] rfl rfl (one_row _ _) (fun h => by cases h) (by unfold maxLen; omega) (by omega) (by simp; omega) ?_); intro v' w5 hown' hgrow; obtain ⟨g', cap2, rfl⟩ := ownsRow_succ hown'; have hb5 := grown_own (HB.out.alloc hwr _) hgrow (by simp; omega) (HO.out.alloc _))
            go_roundw
            case rel => exact ⟨O ++ [S.extract f k], k + 1, k + 1, m + 1, cap2, _, by go_num, by go_num, rfl, by rw [List.length_append, ← HM.out]; rfl, by rw [List.map_append]; exact hown', hb5, by rw [List.length_append]; have := HOk.out; simp; omega, by omega, .inl ⟨by omega, HC2.out⟩⟩
            case measure => simp [intOf]; omega
        · have e47 : ((x.toNat : Int) == 47) = false := by
            rw [beq_eq_false_iff_ne]; intro e; exact h47 (UInt8.toNat_inj.1 (by simp; omega))
          have HC : Hid (Got l O (k + 1) f) := got_next HGOT.out hkl (by rw [HLX.out]; exact h47)
          clear h47
          go_wp2
          go_roundw
          case rel => exact ⟨O, k + 1, f, m, cap, a, by go_num, rfl, rfl, HM.out, HO.out, HB.out, by have := HOk.out; omega, by omega, .inl ⟨by omega, HC.out⟩⟩
          case measure => simp [intOf]; omega
      · have hkeq : k = n := by omega
        subst hkeq
        have hne : ((k : Int) == (S.size : Int)) = true := by simp; omega
        have HC : Hid (pieces l = O ++ if k = f then [] else [bs ((l.drop f).take (k - f))]) := by
          have h1 := HGOT.out
          have h2 := HN.out
          rw [h2] at h1 ⊢
          exact got_end h1
        by_cases hkf : k = f
        · have hkI2 : ¬ (f : Int) < (k : Int) := by omega
          have HC2 : Hid (O = pieces l) := by have := HC.out; rw [if_pos hkf, List.append_nil] at this; exact this.symm
          clear hkf
          go_wp2
          go_roundw
          case rel => exact ⟨O, k + 1, k + 1, m, cap, a, by go_num, by go_num, rfl, HM.out, HO.out, HB.out, by have := HOk.out; omega, by omega, .inr ⟨rfl, HC2.out⟩⟩
          case measure => simp [intOf]
        · have hkI2 : (f : Int) < (k : Int) := by omega
          have hkI3 : (f : Int) ≤ (k : Int) := by omega
          have HC2 : Hid (O ++ [S.extract f k] = pieces l) := by have := HC.out; rw [if_neg hkf, ← HX.out] at this; exact this.symm
          clear hkf
          go_wp2_with (at_builtin; go_must (refine wpList_append_strs rfl (.tmp 25) (.tmp 30) rfl w.heap.size (.slice a m cap) m (O.map Value.string) rfl (HO.out.alloc _) (some ⟨wr.heap.size, 0, none⟩) 1 1 [S.extract f k] rfl rfl (one_row _ _) (fun h => by cases h) (by unfold maxLen; omega) (by omega) (by simp; omega) ?_); intro v' w5 hown' hgrow; obtain ⟨g', cap2, rfl⟩ := ownsRow_succ hown'; have hb5 := grown_own (HB.out.alloc hwr _) hgrow (by simp; omega) (HO.out.alloc _))
          go_roundw
          case rel => exact ⟨O ++ [S.extract f k], k + 1, k + 1, m + 1, cap2, _, by go_num, by go_num, rfl, by rw [List.length_append, ← HM.out]; rfl, by rw [List.map_append]; exact hown', hb5, by rw [List.length_append]; have := HOk.out; simp; omega, by omega, .inr ⟨rfl, HC2.out⟩⟩
          case measure => simp [intOf]
    · have HE : Hid (O = pieces l) := hO
      clear hO
      subst hk
      have hkI : ¬ ((n + 1 : Nat) : Int) ≤ (S.size : Int) := by omega
      go_wp2
      go_ret
      refine ⟨_, rfl, ?_, HB.out⟩
      have := HO.out
      rw [HE.out] at this
      have e := HM.out
      rw [HE.out] at e
      rw [e] at this ⊢
      exact this
end Go.Proofs.Ytnhoaafpdckmjaa
