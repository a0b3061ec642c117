/-
  What Less and Sort answer.
-/
import Derived.Test.YtnhoaafpdckmjaaNAlive
import Derived.Sort.OwnSorted
namespace Go.Proofs.Ytnhoaafpdckmjaa
open Go.RowKit Go.Shelf M

/-- Does x stand ahead of y, by their bytes? -/
def lt (x y : ByteArray) : Bool := Op.bytesLess x.toList y.toList
theorem less_any (x y : ByteArray) (w : World) : Calls Try.prog 22 #[.string x, .string y] w fun e w' => e = .returned (.bool (lt x y)) ∧ w = w' := by
  unfold lt
  go_enter Try.func22, Try.ntmps22
  go_wp2
  go_ret
  exact ⟨rfl, rfl⟩

theorem clone_any (a : Option Addr) (n c : Nat) (l : List ByteArray) (w : World) (hn : n = l.length) (hbig : n * 16 ≤ 140737488355328) (hr : SRow w a l) (hnil : a = none → n = 0 ∧ c = 0) :
    Calls Try.prog 34 #[.slice a n c] w fun e w' => ∃ v, e = .returned v ∧ w'.ownsRow w.heap.size 9 1 v n (l.map Value.string) ∧ Below w.heap.size w w' := by
  cases a with
  | none =>
    obtain ⟨rfl, rfl⟩ := hnil rfl
    refine (Try.slices_Clone_string_nil 0 0 w).mono ?_
    rintro e w' ⟨rfl, rfl⟩
    have : l = [] := List.eq_nil_of_length_eq_zero hn.symm
    subst this
    exact ⟨_, rfl, World.ownsRow_nil _ _ _ _, Below.refl _ _⟩
  | some ad =>
    by_cases h0 : n = 0
    · subst h0
      refine (Try.slices_Clone_string_zero ad c w).mono ?_
      rintro e w' ⟨v, rfl, h1, _, h2⟩
      have : l = [] := List.eq_nil_of_length_eq_zero hn.symm
      subst this
      exact ⟨v, rfl, h1, h2⟩
    · rcases hr with rfl | ⟨b, off, ha, hc⟩
      · simp at hn; omega
      · cases ha
        refine (Try.slices_Clone_string b off n c l w (by omega) hbig hc).mono ?_
        rintro e w' ⟨v, rfl, h1, _, h2⟩
        rw [hn, List.take_length] at h1
        exact ⟨v, rfl, by rw [hn]; exact h1, h2⟩

/-- The texts in their order. -/
def sorted (l : List ByteArray) : List ByteArray := ((datas l).mergeSort (fun x y => decide (x ≤ y))).map bs
theorem enc_datas (l : List ByteArray) : (datas l).map Go.Proofs.encStr = l.map Value.string := by
  unfold datas
  rw [List.map_map]
  refine List.map_congr_left (fun x _ => ?_)
  show Value.string (bs x.data.toList) = _
  rw [bs_of]
theorem enc_sorted (l : List ByteArray) : (((datas l).mergeSort (fun x y => decide (x ≤ y))).map Go.Proofs.encStr) = (sorted l).map Value.string := by
  unfold sorted
  rw [List.map_map]
  rfl
theorem sorted_length (l : List ByteArray) : (sorted l).length = l.length := by unfold sorted datas; simp

/-- slices.Sort at a row of the call's own. -/
theorem libsort_any (v : Value) (base n : Nat) (l : List ByteArray) (w : World) (hn : n = l.length) (hbig : n < 4611686018427387904) (ho : w.ownsRow base 9 1 v n (l.map Value.string)) :
    Calls Try.prog 36 #[v] w fun e w' => e = .returned (.tuple #[]) ∧ w'.ownsRow base 9 1 v n ((sorted l).map Value.string) ∧ ∀ B w0, B ≤ base → Below B w0 w → Below B w0 w' := by
  have hd : (datas l).length = l.length := by unfold datas; simp
  rcases ho.2 with ⟨rfl, h0⟩ | ⟨g, cap, cur, rfl, hbase, hb, h1, h2, h3, h4⟩
  · refine (Try.slices_Sort_string_none none 0 w).mono ?_
    rintro e w' ⟨rfl, rfl⟩
    have : l = [] := List.eq_nil_of_length_eq_zero (by omega)
    subst this
    have e : sorted [] = [] := List.eq_nil_of_length_eq_zero (by rw [sorted_length]; rfl)
    rw [e]
    exact ⟨rfl, ho, fun _ _ _ h => h⟩
  · have hg : g < w.heap.size := (Array.getElem?_eq_some_iff.1 hb).1
    have hH := holds_of_block (ss := datas l) hb (by rw [enc_datas, hd, ← hn]; simpa using h4)
    have := Try.slices_Sort_string g 0 cap (datas l) w hH hg (by omega)
    rw [hd, ← hn] at this
    refine this.mono ?_
    rintro e w' ⟨rfl, q, os, rfl⟩
    refine ⟨rfl, ?_, fun B w0 hB hb0 => hb0.grown (grownBy_sorted _) (by omega) (fun k hk => by cases hk; omega)⟩
    have h5 := ownsRow_sorted (n := q) (os := os) (base := base) (cap := cap) (ss := datas l) (ts := (datas l).mergeSort (fun x y => decide (x ≤ y))) (by simp) hbase hb (by omega) h2 h3
    rw [enc_sorted, hd, ← hn] at h5
    exact h5

set_option maxHeartbeats 1000000 in
theorem sort_any (a : Option Addr) (n c : Nat) (l : List ByteArray) (w : World) (hn : n = l.length) (hbig : n * 16 ≤ 140737488355328) (hr : SRow w a l) (hnil : a = none → n = 0 ∧ c = 0) :
    Calls Try.prog 24 #[.slice a n c] w fun e w' => ∃ a' c', e = .returned (.slice a' n c') ∧ SRow w' a' (sorted l) ∧ n ≤ c' ∧ c' ≤ maxLen ∧ Below w.heap.size w w' := by
  have hcl := clone_any a n c l w hn hbig hr hnil
  have HSO : Hid (∀ v base W, W.ownsRow base 9 1 v n (l.map Value.string) → Calls Try.prog 36 #[v] W fun e w' => e = .returned (.tuple #[]) ∧ w'.ownsRow base 9 1 v n ((sorted l).map Value.string) ∧ ∀ B w0, B ≤ base → Below B w0 W → Below B w0 w') := fun v base W ho => libsort_any v base n l W hn (by omega) ho
  have HN : Hid (n = (sorted l).length) := by rw [sorted_length]; exact hn
  clear hn hr hnil hbig
  go_enter Try.func24, Try.ntmps24
  go_wp2_with (first
    | (go_at_call 34; go_must (refine hcl.mono ?_); rintro e w1 ⟨v, rfl, ho, hb⟩)
    | (go_at_call 36; go_must (refine (HSO.out v _ w1 ho).mono ?_); rintro e w2 ⟨rfl, ho2, hb2⟩))
  go_ret
  obtain ⟨a', c', hv, q1, _, q3, q4⟩ := owns_row' HN.out ho2
  exact ⟨a', c', by rw [← hv]; rfl, q1, q3, q4, hb2 _ _ (Nat.le_refl _) hb⟩
end Go.Proofs.Ytnhoaafpdckmjaa
