/-
  What Texts and the document's Within answer: whether two lists of texts are the same; whether one stands at the beginning of the other.
-/
import Derived.Test.YtnhoaafpdckmjaaNMem
import Derived.Shelf.RegionOpenPlain
import Derived.Deep.LoopGhost
import Derived.Deep.Draws
import Derived.Lib.Walk
import Derived.Lib.Slices
import Derived.Lib.SlicesS
import Derived.Lib.SlicesMore
namespace Go.Proofs.Ytnhoaafpdckmjaa
open Go.RowKit Go.Shelf Go.Lib M

theorem getD_lt {l : List ByteArray} {k : Nat} (h : k < l.length) : l[k]? = some (l.getD k ByteArray.empty) := by
  simp [List.getD, h]
theorem lists_eq {l m : List ByteArray} (hn : l.length = m.length) (h : ∀ j, j < l.length → l.getD j ByteArray.empty = m.getD j ByteArray.empty) : l = m := by
  refine List.ext_getElem? fun j => ?_
  by_cases hj : j < l.length
  · rw [getD_lt hj, getD_lt (by omega), h j hj]
  · rw [List.getElem?_eq_none (by omega), List.getElem?_eq_none (by omega)]
theorem prefix_iff {l m : List ByteArray} : m <+: l ↔ m.length ≤ l.length ∧ ∀ j, j < m.length → m.getD j ByteArray.empty = l.getD j ByteArray.empty := by
  constructor
  · rintro ⟨r, rfl⟩
    refine ⟨by simp, fun j hj => ?_⟩
    simp [List.getD, List.getElem?_append, hj]
  · rintro ⟨h1, h2⟩
    have : m = l.take m.length := by
      refine lists_eq (by simp; omega) fun j hj => ?_
      rw [h2 j hj]
      simp [List.getD, hj]
    rw [this]
    exact List.take_prefix _ _

theorem mixedT : Try.prog.follows Departure.mixedOrders = true := by kernel_rfl

set_option maxHeartbeats 1000000 in
theorem texts_any (a : Option Addr) (n c : Nat) (l : List ByteArray) (b : Option Addr) (m d : Nat) (k : List ByteArray) (w : World) (hn : n = l.length) (hm : m = k.length) (hbig : n ≤ maxLen) (ha : SRow w a l) (hb : SRow w b k) :
    Calls Try.prog 21 #[.slice a n c, .slice b m d] w fun e w' => e = .returned (.bool (decide (l = k))) ∧ ∃ q, w' = w.drewN q := by
  unfold maxLen at hbig
  have mixed := mixedT
  by_cases hnm : n = m
  · subst hnm
    have HN : Hid (n = l.length) := hn
    have HM : Hid (n = k.length) := hm
    have HA : Hid (SRow w a l) := ha
    have HB : Hid (SRow w b k) := hb
    clear hn hm ha hb
    go_enter Try.func21, Try.ntmps21
    go_wp2
    go_loopg [5] n (fun g s5 wr => ∃ i q : Nat, i ≤ n ∧ n - i ≤ g ∧ s5 = .int .i64 i ∧ wr = w.drewN q ∧ ∀ j, j < i → l.getD j ByteArray.empty = k.getD j ByteArray.empty)
    case atStart => exact ⟨0, 0, Nat.zero_le _, by omega, rfl, rfl, fun j hj => absurd hj (Nat.not_lt_zero _)⟩
    case round =>
      obtain ⟨i, q, hi, hg, rfl, rfl, heq⟩ := hrel
      have A : Hid (∀ j, j < i → l.getD j ByteArray.empty = k.getD j ByteArray.empty) := heq
      clear heq
      by_cases hlt : i < n
      · obtain ⟨b1, o1, rfl, hc1⟩ : ∃ b off, a = some ⟨b, off, none⟩ ∧ ∀ i, i < l.length → w.cell? ⟨b, off + i, none⟩ = some (.string (l.getD i ByteArray.empty)) := by
          rcases HA.out with h | h
          · have := HN.out; subst h; simp at this; omega
          · exact h
        obtain ⟨b2, o2, rfl, hc2⟩ : ∃ b' off, b = some ⟨b', off, none⟩ ∧ ∀ i, i < k.length → w.cell? ⟨b', off + i, none⟩ = some (.string (k.getD i ByteArray.empty)) := by
          rcases HB.out with h | h
          · have := HM.out; subst h; simp at this; omega
          · exact h
        have g1 := hc1 i (by have := HN.out; omega)
        have g2 := hc2 i (by have := HM.out; omega)
        clear hc1 hc2
        generalize hxk : l.getD i ByteArray.empty = x at g1
        generalize hyk : k.getD i ByteArray.empty = y at g2
        have B : Hid (l.getD i ByteArray.empty = x ∧ k.getD i ByteArray.empty = y) := ⟨hxk, hyk⟩
        clear hxk hyk
        by_cases hxy : x = y
        · subst hxy
          go_wp2_with fail
          go_region_o
          go_wp2
          go_roundg (n - (i + 1))
          case measure => omega
          case rel =>
            refine ⟨i + 1, q + 1, by omega, by omega, by go_num, rfl, fun j hj => ?_⟩
            by_cases e : j = i
            · subst e
              rw [B.out.1, B.out.2]
            · exact A.out j (by omega)
        · have hxy' : (x.toList == y.toList) = false := (Lib.bytes_beq_false_iff _ _).2 hxy
          go_wp2_with fail
          go_region_o
          go_wp2
          go_ret
          refine ⟨?_, q + 1, rfl⟩
          rw [decide_eq_false (fun e => hxy (by rw [← B.out.1, ← B.out.2, e]))]
          rfl
      · have : i = n := by omega
        subst this
        go_wp2
        go_ret
        refine ⟨?_, q, rfl⟩
        rw [decide_eq_true (lists_eq (by rw [← HN.out, ← HM.out]) (by rw [← HN.out]; exact A.out))]
        rfl
  · have hnm' : ¬ (n : Int) = (m : Int) := by omega
    have HD : Hid (¬ l = k) := fun e => hnm (by rw [hn, hm, e])
    clear hn hm ha hb
    go_enter Try.func21, Try.ntmps21
    go_wp2
    go_ret
    refine ⟨?_, 0, rfl⟩
    rw [decide_eq_false HD.out]
    rfl

set_option maxHeartbeats 1000000 in
theorem rwithin_any (a : Option Addr) (n c : Nat) (l : List ByteArray) (b : Option Addr) (m d : Nat) (k : List ByteArray) (w : World) (hn : n = l.length) (hm : m = k.length) (hbig : n ≤ maxLen) (ha : SRow w a l) (hb : SRow w b k) :
    Calls Try.prog 27 #[.slice a n c, .slice b m d] w fun e w' => e = .returned (.bool (decide (k <+: l))) ∧ ∃ q, w' = w.drewN q := by
  unfold maxLen at hbig
  have mixed := mixedT
  by_cases hnm : m ≤ n
  · have hnm' : ¬ (n : Int) < (m : Int) := by omega
    have HN : Hid (n = l.length) := hn
    have HM : Hid (m = k.length) := hm
    have HA : Hid (SRow w a l) := ha
    have HB : Hid (SRow w b k) := hb
    clear hn hm ha hb
    go_enter Try.func27, Try.ntmps27
    go_wp2
    go_loopg [5] m (fun g s5 wr => ∃ i q : Nat, i ≤ m ∧ m - i ≤ g ∧ s5 = .int .i64 i ∧ wr = w.drewN q ∧ ∀ j, j < i → k.getD j ByteArray.empty = l.getD j ByteArray.empty)
    case atStart => exact ⟨0, 0, Nat.zero_le _, by omega, rfl, rfl, fun j hj => absurd hj (Nat.not_lt_zero _)⟩
    case round =>
      obtain ⟨i, q, hi, hg, rfl, rfl, heq⟩ := hrel
      have A : Hid (∀ j, j < i → k.getD j ByteArray.empty = l.getD j ByteArray.empty) := heq
      clear heq
      by_cases hlt : i < m
      · have hlt2 : i < n := by omega
        obtain ⟨b1, o1, rfl, hc1⟩ : ∃ b off, a = some ⟨b, off, none⟩ ∧ ∀ i, i < l.length → w.cell? ⟨b, off + i, none⟩ = some (.string (l.getD i ByteArray.empty)) := by
          rcases HA.out with h | h
          · have := HN.out; subst h; simp at this; omega
          · exact h
        obtain ⟨b2, o2, rfl, hc2⟩ : ∃ b' off, b = some ⟨b', off, none⟩ ∧ ∀ i, i < k.length → w.cell? ⟨b', off + i, none⟩ = some (.string (k.getD i ByteArray.empty)) := by
          rcases HB.out with h | h
          · have := HM.out; subst h; simp at this; omega
          · exact h
        have g1 := hc1 i (by have := HN.out; omega)
        have g2 := hc2 i (by have := HM.out; omega)
        clear hc1 hc2
        generalize hxk : l.getD i ByteArray.empty = x at g1
        generalize hyk : k.getD i ByteArray.empty = y at g2
        have B : Hid (l.getD i ByteArray.empty = x ∧ k.getD i ByteArray.empty = y) := ⟨hxk, hyk⟩
        clear hxk hyk
        by_cases hxy : y = x
        · subst hxy
          go_wp2_with fail
          go_region_o
          go_wp2
          go_roundg (m - (i + 1))
          case measure => omega
          case rel =>
            refine ⟨i + 1, q + 1, by omega, by omega, by go_num, rfl, fun j hj => ?_⟩
            by_cases e : j = i
            · subst e
              rw [B.out.1, B.out.2]
            · exact A.out j (by omega)
        · have hxy' : (y.toList == x.toList) = false := (Lib.bytes_beq_false_iff _ _).2 hxy
          go_wp2_with fail
          go_region_o
          go_wp2
          go_ret
          refine ⟨?_, q + 1, rfl⟩
          rw [decide_eq_false (fun e => hxy (by rw [← B.out.1, ← B.out.2, (prefix_iff.1 e).2 i (by have := HM.out; omega)]))]
          rfl
      · have : i = m := by omega
        subst this
        go_wp2
        go_ret
        refine ⟨?_, q, rfl⟩
        rw [decide_eq_true (prefix_iff.2 ⟨by rw [← HN.out, ← HM.out]; exact hnm, by rw [← HM.out]; exact A.out⟩)]
        rfl
  · have hnm' : (n : Int) < (m : Int) := by omega
    have HD : Hid (¬ k <+: l) := fun e => hnm (by rw [hn, hm]; exact (prefix_iff.1 e).1)
    clear hn hm ha hb hnm
    go_enter Try.func27, Try.ntmps27
    go_wp2
    go_ret
    refine ⟨?_, 0, rfl⟩
    rw [decide_eq_false HD.out]
    rfl
end Go.Proofs.Ytnhoaafpdckmjaa
