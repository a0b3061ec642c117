/-
  The document's tree, where there is none; a list that is unlike another.
  The document's order of texts: Less.
-/
import Derived.Test.YtlfgeanafidopaaRB
import Derived.Test.YtlfgeanafidopaaRE
import Derived.Deep.RegionHeld3
import Derived.BigQuiet
namespace Go.Proofs.Ytlfgeanafidopaa.Bt
open Go.RowKit
set_option maxRecDepth 10000

set_option maxHeartbeats 1000000 in
theorem rget_nil (k : K) (w : World) : Calls Try.prog 33 #[.pointer none, .string k] w fun e w' => e = .returned (.tuple #[.string ⟨#[]⟩, .bool false]) ∧ w = w' := by
  go_enter Try.func33, Try.ntmps33
  go_wp2
  go_loopg [6] 0 (fun kx s wr => kx = 0 ∧ s = .int .i64 0 ∧ wr = w)
  case atStart => exact ⟨rfl, rfl, rfl⟩
  case round =>
    obtain ⟨rfl, rfl, rfl⟩ := hrel
    go_wp2
    go_ret2
    exact ⟨rfl, rfl⟩
set_option maxHeartbeats 1000000 in
theorem rput_nil (k v : K) (w : World) : Calls Try.prog 31 #[.pointer none, .string k, .string v] w fun e w' => e = .returned (.int .i64 14) ∧ w = w' := by
  go_enter Try.func31, Try.ntmps31
  go_wp2
  go_ret
  exact ⟨rfl, rfl⟩
set_option maxHeartbeats 1000000 in
theorem rdel_nil (k : K) (w : World) : Calls Try.prog 30 #[.pointer none, .string k] w fun e w' => e = .returned (.bool false) ∧ w = w' := by
  go_enter Try.func30, Try.ntmps30
  go_wp2_with (go_at_call 33; refine (rget_nil k w).mono ?_; rintro e w' ⟨rfl, rfl⟩)
  go_ret
  exact ⟨rfl, rfl⟩
set_option maxHeartbeats 1000000 in
theorem rrange_nil (k to : K) (m : Int) (w : World) : Calls Try.prog 34 #[.pointer none, .string k, .string to, .int .i64 m] w fun e w' => e = .returned (.slice none 0 0) ∧ w = w' := by
  go_enter Try.func34, Try.ntmps34
  go_wp2
  go_loopg [9, 10] 0 (fun kx s7 s8 wr => kx = 0 ∧ s7 = .slice none 0 0 ∧ s8 = .int .i64 0 ∧ wr = w)
  case atStart => exact ⟨rfl, rfl, rfl, rfl⟩
  case round =>
    obtain ⟨rfl, rfl, rfl, rfl⟩ := hrel
    go_wp2
    go_ret
    exact ⟨rfl, rfl⟩
set_option maxHeartbeats 1000000 in
theorem rnext_nil (k : K) (w : World) : Calls Try.prog 35 #[.pointer none, .string k] w fun e w' => e = .returned (nxtV none) ∧ Below w.heap.size w w' := by
  go_enter Try.func35, Try.ntmps35
  go_wp2
  go_loopg [6] 0 (fun kx s wr => kx = 0 ∧ s = .int .i64 0 ∧ wr = w.alloc (.cells #[.string ⟨#[]⟩, .string ⟨#[]⟩, .bool false] 54))
  case atStart => exact ⟨rfl, rfl, rfl⟩
  case round =>
    obtain ⟨rfl, rfl, rfl⟩ := hrel
    go_wp2
    refine bodyPost_ret (v := nxtV none) ?_ rfl ⟨rfl, below_new w _⟩
    simp [results, Try.f35, go_sem, nxtV, nodeOf]
set_option maxHeartbeats 1000000 in
theorem same_no (v u : Value) (l1 l2 : List KV) (w : World) (hv : NdAt w v l1) (hu : NdAt w u l2) (hne : l1.length ≠ l2.length) :
    Calls Try.prog 16 #[v, u] w fun e w' => e = .returned (.bool false) ∧ Below w.heap.size w w' := by
  obtain ⟨a, ca, ea⟩ := own_slice hv.own
  obtain ⟨b, cb, eb⟩ := own_slice hu.own
  subst ea eb
  clear hv hu
  generalize l1.length = N at *
  generalize l2.length = M at *
  have h1 : ((N : Int) != (M : Int)) = true := by simp; omega
  have h2 : ¬ (N : Int) = (M : Int) := by omega
  clear hne
  go_enter Try.func16, Try.ntmps16
  go_wp2
  go_ret
  exact ⟨rfl, Below.refl _ _⟩
set_option maxHeartbeats 1000000 in
theorem range_low (p : Nat) (k to : K) (m : Int) (w : World) (hm : m ≤ 0) : Calls Try.prog 17 #[.pointer (some ⟨p, 0, none⟩), .string k, .string to, .int .i64 m] w fun e w' => e = .returned (.slice none 0 0) ∧ Below w.heap.size w w' := by
  go_enter Try.func17, Try.ntmps17
  go_wp2
  refine bodyPost_ret (v := .slice none 0 0) ?_ rfl ⟨rfl, ?_⟩
  · simp [results, Try.f17, go_sem]
  · have h1 := below_new w (.cells #[.string k] 9)
    have h2 := bafter h1 (below_new _ (.cells #[.string to] 9))
    have h3 := bafter h2 (below_new _ (.cells #[.int .i64 m] 3))
    exact bafter h3 (below_new _ (.cells #[.slice none 0 0] 22))
theorem range_all {w : World} {p F : Nat} {x : Tre} {fs : List Nat} (h : Live w p F x fs) (k to : K) (m : Int) (hm2 : m < 9223372036854775808) (hsz : x.all.length < 1073741824) :
    Calls Try.prog 17 #[.pointer (some ⟨p, 0, none⟩), .string k, .string to, .int .i64 m] w fun e w' => ∃ v, e = .returned v ∧ NdAt w' v (rng k to m.toNat x.all) ∧ Below w.heap.size w w' := by
  by_cases hm : m ≤ 0
  · refine (range_low p k to m w hm).mono ?_
    rintro e w' ⟨rfl, hb⟩
    refine ⟨_, rfl, ⟨?_⟩, hb⟩
    have : rng k to m.toNat x.all = [] := by rw [show m.toNat = 0 by omega]; simp [rng]
    rw [this]
    exact World.ownsRow_nil _ 0 _ 3
  · obtain ⟨M, rfl⟩ : ∃ M : Nat, m = (M : Int) := ⟨m.toNat, by omega⟩
    refine (h.range k to M (by omega) (by omega) (.inr hsz)).mono ?_
    rintro e w' ⟨v, rfl, ht⟩
    exact ⟨v, rfl, ht.at, ht.2⟩
/-- Whether two lists are the same, whatever they are: where one is empty. -/
theorem same_nil (v : Value) (l : List KV) (w : World) (hv : NdAt w v l) (hl : l.length ≤ 4611686018427387904) :
    Calls Try.prog 16 #[v, .slice none 0 0] w fun e w' => ∃ b, e = .returned (.bool b) ∧ Below w.heap.size w w' := by
  have hu : NdAt w (.slice none 0 0) [] := ⟨World.ownsRow_nil _ 0 _ 3⟩
  cases l with
  | nil =>
    refine (same_yes _ _ [] w hv hu (by simp)).mono ?_
    rintro e w' ⟨rfl, hb⟩
    exact ⟨_, rfl, hb⟩
  | cons a r =>
    refine (same_no _ _ _ _ w hv hu (by simp)).mono ?_
    rintro e w' ⟨rfl, hb⟩
    exact ⟨_, rfl, hb⟩
end Go.Proofs.Ytlfgeanafidopaa.Bt
namespace Go.Proofs.Ytlfgeanafidopaa.Bt
open Go.RowKit
set_option maxRecDepth 10000

def bs (l : List UInt8) : ByteArray := ⟨l.toArray⟩
theorem bs_size (l : List UInt8) : (bs l).size = l.length := rfl
theorem bs_of (s : ByteArray) : bs s.data.toList = s := by cases s; rfl
theorem bl_take : ∀ {x y : List UInt8} {k : Nat}, x.take k = y.take k → k ≤ x.length → k ≤ y.length → Op.bytesLess x y = Op.bytesLess (x.drop k) (y.drop k)
  | x, y, 0, _, _, _ => by simp
  | [], _, k + 1, _, h, _ => by simp at h
  | _ :: _, [], k + 1, _, _, h => by simp at h
  | a :: x, b :: y, k + 1, h, h1, h2 => by
    simp at h h1 h2
    obtain ⟨rfl, h⟩ := h
    have hl : ¬ a < a := by rw [UInt8.lt_iff_toNat_lt]; omega
    simp only [Op.bytesLess, hl, decide_false, Bool.false_or, beq_self_eq_true, Bool.true_and, List.drop_succ_cons]
    exact bl_take h h1 h2
theorem bl_head {a b : UInt8} {x y : List UInt8} (h : a ≠ b) : Op.bytesLess (a :: x) (b :: y) = decide (a < b) := by
  have : (a == b) = false := beq_eq_false_iff_ne.2 h
  simp [Op.bytesLess, this]

set_option maxRecDepth 100000 in
set_option maxHeartbeats 2000000 in
theorem rless_any (l m : List UInt8) (hl : l.length ≤ maxLen) (hm : m.length ≤ maxLen) (w : World) :
    Calls Try.prog 43 #[.string (bs l), .string (bs m)] w fun e w' => e = .returned (.bool (Op.bytesLess l m)) ∧ ∃ q, w' = w.drewN q := by
  unfold maxLen at hl hm
  have hz1 := bs_size l
  have hz2 := bs_size m
  have HG1 : Hid (∀ k (h : k < (bs l).size), ∃ hl : k < l.length, (bs l)[k]'h = l[k]'hl) := fun k h => by
    refine ⟨by rw [← bs_size]; exact h, by simp [bs]; rfl⟩
  have HG2 : Hid (∀ k (h : k < (bs m).size), ∃ hl : k < m.length, (bs m)[k]'h = m[k]'hl) := fun k h => by
    refine ⟨by rw [← bs_size]; exact h, by simp [bs]; rfl⟩
  obtain ⟨X, hX⟩ : ∃ X, X = bs l := ⟨_, rfl⟩
  obtain ⟨Y, hY⟩ : ∃ Y, Y = bs m := ⟨_, rfl⟩
  rw [← hX] at hz1 HG1 ⊢
  rw [← hY] at hz2 HG2 ⊢
  clear hX hY
  obtain ⟨R, hR⟩ : ∃ R, R = Op.bytesLess l m := ⟨_, rfl⟩
  have HRR : Hid (R = Op.bytesLess l m) := hR
  rw [← hR]
  clear hR
  go_enter Try.func43, Try.ntmps43
  go_wp2
  go_loopw [5] (fun s5 wr => ∃ k q : Nat, k ≤ X.size ∧ k ≤ Y.size ∧ s5 = .int .i64 k ∧ wr = w.drewN q ∧ l.take k = m.take k) (fun s5 _ => X.size - (intOf s5).toNat)
  case atStart => exact ⟨0, 0, by omega, by omega, rfl, rfl, by simp⟩
  case round =>
    obtain ⟨k, q, hk1, hk2, rfl, rfl, heq⟩ := hrel
    have HE : Hid (l.take k = m.take k) := heq
    clear heq
    have HB : Hid (R = Op.bytesLess (l.drop k) (m.drop k)) := by show _ = _; rw [HRR.out]; exact bl_take HE.out (by omega) (by omega)
    by_cases h1 : k < X.size
    · by_cases h2 : k < Y.size
      · obtain ⟨x, hx⟩ : ∃ x, X[k]'h1 = x := ⟨_, rfl⟩
        obtain ⟨y, hy⟩ : ∃ y, Y[k]'h2 = y := ⟨_, rfl⟩
        have hkl : k < l.length := by omega
        have hkm : k < m.length := by omega
        have HLX : Hid (l[k]'hkl = x) := by obtain ⟨_, e⟩ := HG1.out k h1; exact e.symm.trans hx
        have HLY : Hid (m[k]'hkm = y) := by obtain ⟨_, e⟩ := HG2.out k h2; exact e.symm.trans hy
        have HB2 : Hid (R = Op.bytesLess (x :: l.drop (k + 1)) (y :: m.drop (k + 1))) := by
          show _ = _
          rw [HB.out, ← HLX.out, ← HLY.out, List.drop_eq_getElem_cons hkl, List.drop_eq_getElem_cons hkm]
        by_cases hxy : x = y
        · subst hxy
          have HE2 : Hid (l.take (k + 1) = m.take (k + 1)) := by
            show _ = _
            rw [List.take_succ_eq_append_getElem hkl, List.take_succ_eq_append_getElem hkm, HLX.out, HLY.out, HE.out]
          go_wp2
          go_quiet (fail)
          go_wp2
          go_roundw
          case rel => exact ⟨k + 1, _, by omega, by omega, by go_num, rfl, HE2.out⟩
          case measure => simp [intOf]; omega
        · have hne : ((x.toNat : Int) != (y.toNat : Int)) = true := by
            rw [bne_iff_ne]; intro e; exact hxy (UInt8.toNat_inj.1 (by omega))
          have HRF : Hid (R = decide (x.toNat < y.toNat)) := by
            show _ = _
            rw [HB2.out, bl_head hxy]
            exact decide_eq_decide.2 (by rw [UInt8.lt_iff_toNat_lt])
          clear hxy
          go_wp2
          go_quiet (fail)
          go_wp2
          go_quiet (fail)
          go_wp2
          go_ret
          exact ⟨by rw [HRF.out]; rfl, _, by first | rfl | rw [World.drewN_drewN, World.drewN_drewN]⟩
      · have hkY : k = Y.size := by omega
        have HRF : Hid (R = decide (l.length < m.length)) := by
          show _ = _
          have e : m.drop k = [] := List.drop_eq_nil_of_le (by omega)
          rw [HB.out, e, decide_eq_false (by omega)]
          cases l.drop k <;> rfl
        have h1I : (k : Int) < (X.size : Int) := by omega
        have h2I : ¬ (k : Int) < (Y.size : Int) := by omega
        clear hkY
        go_wp2
        go_ret
        exact ⟨by rw [HRF.out]; rfl, _, by first | rfl | rw [World.drewN_drewN, World.drewN_drewN]⟩
    · have HRF : Hid (R = decide (l.length < m.length)) := by
        show _ = _
        have e : l.drop k = [] := List.drop_eq_nil_of_le (by omega)
        rw [HB.out, e]
        by_cases h2 : k < Y.size
        · rw [decide_eq_true (by omega), List.drop_eq_getElem_cons (l := m) (i := k) (by omega)]; rfl
        · have e : m.drop k = [] := List.drop_eq_nil_of_le (by omega)
          rw [decide_eq_false (by omega), e]; rfl
      have h1I : ¬ (k : Int) < (X.size : Int) := by omega
      go_wp2
      go_ret
      exact ⟨by rw [HRF.out]; rfl, _, by first | rfl | rw [World.drewN_drewN, World.drewN_drewN]⟩

theorem less_any {a b : K} (ha : a.size ≤ maxLen) (hb : b.size ≤ maxLen) (w : World) : Calls Try.prog 43 #[.string a, .string b] w fun e w' => e = .returned (.bool (klt a b)) ∧ ∃ q, w' = w.drewN q := by
  have h := rless_any a.data.toList b.data.toList (by rw [Array.length_toList]; exact ha) (by rw [Array.length_toList]; exact hb) w
  rw [bs_of, bs_of] at h
  unfold klt
  rw [ByteArray.toList_eq, ByteArray.toList_eq]
  exact h
end Go.Proofs.Ytlfgeanafidopaa.Bt
