/-
  Does a text have a slash or a byte 0? What the library's ContainsAny answers; and what Right answers.
-/
import Derived.Test.YtplhlbajgijohabNRune
namespace Go.Proofs.Ytplhlbajgijohab
open Go.RowKit Go.Shelf M

/-- The first bytes of a text, i of them, are neither slashes nor 0. -/
def okTo (s : ByteArray) (i : Nat) : Prop := ∀ j (hj : j < s.size), j < i → (s[j]'hj) ≠ 47 ∧ (s[j]'hj) ≠ 0
theorem okTo_succ {s : ByteArray} {i d : Nat} (h : okTo s i) (hi : i < s.size) (hx : (s[i]'hi) ≠ 47 ∧ (s[i]'hi) ≠ 0) (hd : ∀ k, 0 < k → k < d → ∃ h : i + k < s.size, 128 ≤ (s[i + k]'h).toNat) : okTo s (i + d) := by
  intro j hj hlt
  by_cases h1 : j < i
  · exact h j hj h1
  · by_cases h2 : j = i
    · subst h2; exact hx
    · obtain ⟨k, rfl⟩ : ∃ k, j = i + k := ⟨j - i, by omega⟩
      obtain ⟨h3, h4⟩ := hd k (by omega) (by omega)
      refine ⟨fun e => ?_, fun e => ?_⟩ <;> rw [e] at h4 <;> simp at h4
theorem okTo_end {s : ByteArray} (h : okTo s s.size) : ¬ (47 ∈ s.data.toList ∨ 0 ∈ s.data.toList) := by
  rintro (hm | hm)
  · obtain ⟨j, hj, e⟩ := List.getElem_of_mem hm
    have hj' : j < s.size := by simpa using hj
    exact (h j hj' hj').1 (by rw [← e]; simp; rfl)
  · obtain ⟨j, hj, e⟩ := List.getElem_of_mem hm
    have hj' : j < s.size := by simpa using hj
    exact (h j hj' hj').2 (by rw [← e]; simp; rfl)
theorem mem_at {s : ByteArray} {i : Nat} (hi : i < s.size) (h : (s[i]'hi) = 47 ∨ (s[i]'hi) = 0) : 47 ∈ s.data.toList ∨ 0 ∈ s.data.toList := by
  have hm : (s[i]'hi) ∈ s.data.toList := by
    have : (s[i]'hi) = s.data.toList[i]'(by simpa using hi) := by simp; rfl
    rw [this]; exact List.getElem_mem _
  rcases h with h | h
  · rw [h] at hm; exact .inl hm
  · rw [h] at hm; exact .inr hm
theorem put_same (W : World) (B : Nat) (o : Obj) (h : B < W.heap.size) : (W.putObj B o).heap[B]? = some o := by
  unfold World.putObj
  simp [h]
theorem put_below {n : Nat} {w W : World} {B : Nat} {o o' : Obj} (h : Below n w W) (hB : n ≤ B) (ho : W.heap[B]? = some o) : Below n w (W.putObj B o') :=
  h.grown (row := some B) ⟨rfl, rfl, rfl, by simp, fun k _ hk => World.putObj_heap_other (fun e => hk (by rw [e]))⟩ (Nat.le_trans hB (Nat.le_of_lt (Array.getElem?_eq_some_iff.1 ho).1)) (fun k hk => by cases hk; exact hB)

/-- What is told of a text: k is a place just where there is such a byte. -/
def Tells (s : ByteArray) (k : Int) : Prop := 0 ≤ k ↔ (47 ∈ s.data.toList ∨ 0 ∈ s.data.toList)

set_option maxRecDepth 100000 in
set_option maxHeartbeats 2000000 in
theorem any_short (s : ByteArray) (h8 : s.size ≤ 8) (w : World) :
    Calls Try.prog 40 #[.string s, .string ⟨#[47, 0]⟩] w fun e w' => (∃ k, e = .returned (.int .i64 k) ∧ Tells s k) ∧ Below w.heap.size w w' := by
  have hsh : ∀ W, Calls Try.prog 44 #[.int .i64 (s.size : Int)] W fun e w' => e = .returned (.bool false) ∧ W = w' := by
    intro W
    refine (Try.strings_shouldUseASCIISet (s.size : Int) W).mono ?_
    rintro e w' ⟨rfl, rfl⟩
    rw [decide_eq_false (by omega)]
    exact ⟨rfl, rfl⟩
  go_enter Try.func40, Try.ntmps40
  go_wp2_with (go_at_call 44; refine (hsh _).mono ?_; rintro e w' ⟨rfl, rfl⟩)
  go_loopw [9, 10] (fun _ _ wr => ∃ i, wr.heap[w.heap.size]? = some (.stringIter s i) ∧ i ≤ s.size ∧ Below w.heap.size w wr ∧ okTo s i) (fun _ _ wr => s.size - wr.iterPos w.heap.size)
  case atStart => exact ⟨0, World.iter_heap w s 0, by omega, below_new _ _, fun j _ h => absurd h (Nat.not_lt_zero _)⟩
  case round =>
    obtain ⟨i, hB, hi, hb, hok⟩ := hrel
    have HB : Hid (wr.heap[w.heap.size]? = some (.stringIter s i)) := hB
    have HBE : Hid (Below w.heap.size w wr) := hb
    have HOK : Hid (okTo s i) := hok
    clear hB hb hok
    have hlt0 : w.heap.size < wr.heap.size := (Array.getElem?_eq_some_iff.1 HB.out).1
    by_cases hlt : i < s.size
    · have hnx := fun ty => next_any (P := Try.prog) wr w.heap.size s i ty HB.out hlt
      obtain ⟨d, hd⟩ : ∃ d, d = (Utf8.decode s i).2 := ⟨_, rfl⟩
      obtain ⟨r, hr⟩ : ∃ r, r = (Utf8.decode s i).1 := ⟨_, rfl⟩
      rw [← hd, ← hr] at hnx
      have HS : Hid (∀ k, 0 < k → k < d → ∃ h : i + k < s.size, 128 ≤ (s[i + k]'h).toNat) := by rw [hd]; exact decode_skip s i
      have hid : 1 ≤ d ∧ i + d ≤ s.size ∧ ((s[i]'hlt).toNat < 128 → r = (s[i]'hlt).toNat) ∧ (128 ≤ (s[i]'hlt).toNat → 128 ≤ r) := by
        by_cases hx : (s[i]'hlt).toNat < 128
        · have := decode_ascii s i hlt hx
          rw [this] at hd hr
          subst hd hr
          exact ⟨Nat.le_refl _, by omega, fun _ => rfl, fun h => by omega⟩
        · have h2 := decode_high s i hlt (by omega)
          rw [← hd, ← hr] at h2
          refine ⟨h2.2, ?_, fun h => absurd h hx, fun _ => h2.1⟩
          by_cases h1 : d = 1
          · omega
          · obtain ⟨h3, _⟩ := HS.out (d - 1) (by omega) (by omega)
            omega
      obtain ⟨hd1, hd2, hr1, hr2⟩ := hid
      have HP : Hid ((wr.putObj w.heap.size (.stringIter s (i + d))).heap[w.heap.size]? = some (.stringIter s (i + d))) := put_same _ _ _ hlt0
      have HPB : Hid (Below w.heap.size w (wr.putObj w.heap.size (.stringIter s (i + d)))) := put_below HBE.out (Nat.le_refl _) HB.out
      obtain ⟨W2, hW2⟩ : ∃ W2, W2 = wr.putObj w.heap.size (.stringIter s (i + d)) := ⟨_, rfl⟩
      rw [← hW2] at HP HPB hnx
      have HIP : Hid (wr.iterPos w.heap.size = i) := by show _ = _; unfold World.iterPos; rw [HB.out]
      clear hW2 hd hr
      by_cases hhit : (s[i]'hlt) = 47 ∨ (s[i]'hlt) = 0
      · have hr3 : (r : Int) = 47 ∨ (r : Int) = 0 := by
          rcases hhit with h | h
          · left; rw [hr1 (by rw [h]; decide), h]; rfl
          · right; rw [hr1 (by rw [h]; decide), h]; rfl
        have HM : Hid (47 ∈ s.data.toList ∨ 0 ∈ s.data.toList) := mem_at hlt hhit
        have hrune := rune_hit (r : Int) hr3 W2
        clear hhit hr3 hr1 hr2
        go_wp2_with (go_at_call 43; go_must (refine hrune.mono ?_); rintro e w3 ⟨⟨k, hk, rfl⟩, hb3⟩)
        go_ret
        exact ⟨⟨i, rfl, by show 0 ≤ (i : Int) ↔ _; exact ⟨fun _ => HM.out, fun _ => by omega⟩⟩, HPB.out.trans (hb3.mono HPB.out.size)⟩
      · have hx47 : (s[i]'hlt) ≠ 47 ∧ (s[i]'hlt) ≠ 0 := ⟨fun e => hhit (.inl e), fun e => hhit (.inr e)⟩
        have hr4 : (r : Int) ≠ 47 ∧ (r : Int) ≠ 0 := by
          by_cases hx : (s[i]'hlt).toNat < 128
          · rw [hr1 hx]
            refine ⟨fun e => hx47.1 (UInt8.toNat_inj.1 ?_), fun e => hx47.2 (UInt8.toNat_inj.1 ?_)⟩
            · simp; omega
            · simp; omega
          · have := hr2 (by omega); omega
        have HOK2 : Hid (okTo s (i + d)) := okTo_succ HOK.out hlt hx47 HS.out
        have hrune := rune_miss (r : Int) (by omega) hr4.1 hr4.2 W2
        clear hhit hr4 hr1 hr2 hx47
        go_wp2_with (go_at_call 43; go_must (refine hrune.mono ?_); rintro e w3 ⟨rfl, hb3⟩)
        have hB3 : w3.heap[w.heap.size]? = some (.stringIter s (i + d)) := (hb3.block _ (Array.getElem?_eq_some_iff.1 HP.out).1).trans HP.out
        go_roundw
        case rel => exact ⟨i + d, hB3, hd2, HPB.out.trans (hb3.mono HPB.out.size), HOK2.out⟩
        case measure =>
          rw [HIP.out]
          have : w3.iterPos w.heap.size = i + d := by unfold World.iterPos; rw [hB3]
          rw [this]
          omega
    · have hnx := fun ty => next_end (P := Try.prog) wr w.heap.size s i ty HB.out hlt
      obtain rfl : i = s.size := by omega
      have HE : Hid (¬ (47 ∈ s.data.toList ∨ 0 ∈ s.data.toList)) := okTo_end HOK.out
      go_wp2
      go_ret
      exact ⟨⟨-1, rfl, by show 0 ≤ (-1 : Int) ↔ _; exact ⟨fun h => by omega, fun h => absurd h HE.out⟩⟩, HBE.out⟩
end Go.Proofs.Ytplhlbajgijohab
