/-
  What Put of package bits answers: a number's lowest bytes, in new memory.
-/
import Derived.Test.YtplhlbajgijohabMem
namespace Go.Proofs.Ytplhlbajgijohab
open Go.RowKit M

/-- How many bytes Put makes. -/
def putN (bytes : Int) : Nat := (min (max bytes 0) 8).toNat

/-- Put's row behind k rounds: k bytes are written, the rest is 0. -/
def putRow (m n k : Nat) : List Nat := putL k n ++ List.replicate (m - k) 0
theorem putRow_length (m n k : Nat) (h : k ≤ m) : (putRow m n k).length = m := by simp [putRow, putL_length]; omega
theorem putRow_set (m n k : Nat) (h : k < m) : ((putRow m n k).map u8v).set k (u8v (n / 256 ^ k % 256)) = (putRow m n (k + 1)).map u8v := by
  obtain ⟨j, hj⟩ : ∃ j, m - k = j + 1 := ⟨m - k - 1, by omega⟩
  have hj2 : m - (k + 1) = j := by omega
  unfold putRow
  rw [hj, hj2, putL_succ_last, List.replicate_succ, List.map_append, List.set_append_right _ _ (by simp [putL_length])]
  simp [putL_length]
theorem putRow_zero (m n : Nat) : (madeCells #[Value.int IntKind.u8 0] m).toList = (putRow m n 0).map u8v := by
  rw [toList_madeCells_one]
  simp [putRow, putL, u8v]

theorem put_next {n k q : Nat} (h : q = n / 256 ^ k) : Value.int IntKind.u64 ((q : Int) / 256) = Value.int IntKind.u64 ((n / 256 ^ (k + 1) : Nat) : Int) := by
  rw [Nat.pow_succ, ← Nat.div_div_eq_div_mul, ← h]
  rfl
theorem put_stored {w : World} {base g m n k q : Nat} (hk : k < m) (h : q = n / 256 ^ k)
    (ho : w.ownsRow base 5 1 (.slice (some ⟨g, 0, none⟩) m m) m ((putRow m n k).map u8v)) :
    (w.setCell ⟨g, k, none⟩ (Value.int IntKind.u8 ((q : Int) % 256))).ownsRow base 5 1 (.slice (some ⟨g, 0, none⟩) m m) m ((putRow m n (k + 1)).map u8v) := by
  have := (ho.stored k (u8v (n / 256 ^ k % 256))).1
  rw [putRow_set m n k hk] at this
  have e : Value.int IntKind.u8 ((q : Int) % 256) = u8v (n / 256 ^ k % 256) := by
    rw [← h]
    rfl
  rw [e]
  exact this
theorem put_end {w : World} {base g m n : Nat}
    (ho : w.ownsRow base 5 1 (.slice (some ⟨g, 0, none⟩) m m) m ((putRow m n m).map u8v)) :
    w.ownsRow base 5 1 (.slice (some ⟨g, 0, none⟩) m m) (putL m n).length ((putL m n).map u8v) := by
  have e : putRow m n m = putL m n := by simp [putRow]
  rw [e] at ho
  rw [putL_length]
  exact ho

set_option maxRecDepth 10000 in
set_option maxHeartbeats 1000000 in
theorem put_any (n : Nat) (hn : n < 18446744073709551616) (bytes : Int) (m : Nat) (hm : putN bytes = m) (w : World) :
    Calls Try.prog 25 #[.int .u64 n, .int .i64 bytes] w fun e w' => e = .returned (.slice (some ⟨w.heap.size, 0, none⟩) m m) ∧ Own w w' (.slice (some ⟨w.heap.size, 0, none⟩) m m) (putL m n) := by
  have hmm : (bytes < 0 ∧ m = 0) ∨ (0 ≤ bytes ∧ bytes ≤ 8 ∧ bytes = (m : Int)) ∨ (8 < bytes ∧ m = 8) := by unfold putN at hm; omega
  have hm8 : m ≤ 8 := by unfold putN at hm; omega
  have hmL : m ≤ maxLen := by unfold maxLen; omega
  clear hm
  obtain ⟨i0, hi, hz0, hz1, hz2⟩ := info_parts info8
  have HM : Hid (i0.bytes * m ≤ 281474976710656) := by show _ ≤ _; rw [hz2]; omega
  go_enter Try.func25, Try.ntmps25
  go_wp2_with (at_make; refine wpList_make_full _ rfl _ _ 53 rfl w.heap.size 5 i0 (.int .u8 0) 1 Try.underlying53 hi hz0 hz1 _ _ _ _ m rfl rfl (by (repeat' split) <;> omega) (by (repeat' split) <;> omega) HM.out hmL (Nat.le_refl _) ?_; intro w1 hown hgrow)
  all_goals
    have hown1 : w1.ownsRow w.heap.size 5 1 (.slice (some ⟨w.heap.size, 0, none⟩) m m) m ((putRow m n 0).map u8v) := by
      have := hown
      simp only [Value.cells, Nat.mul_one] at this
      rw [← putRow_zero]
      exact this
    have hbel : Below w.heap.size w w1 := (Below.refl _ _).grown hgrow (Nat.le_refl _) (fun k hk => by cases hk)
    clear hown hgrow hmm HM
    go_wp2
    go_loopw [0, 13] (fun s i wr => ∃ k : Nat, k ≤ m ∧ i = .int .i64 k ∧ s = .int .u64 (n / 256 ^ k : Nat) ∧ wr.ownsRow w.heap.size 5 1 (.slice (some ⟨w.heap.size, 0, none⟩) m m) m ((putRow m n k).map u8v) ∧ Below w.heap.size w wr) (fun _ i _ => m - (intOf i).toNat)
    case atStart => exact ⟨0, by omega, rfl, by simp, hown1, hbel⟩
    case round =>
      obtain ⟨k, hk, rfl, rfl, hown, hb⟩ := hrel
      obtain ⟨q, hq⟩ : ∃ q, q = n / 256 ^ k := ⟨_, rfl⟩
      have hqn : q < 18446744073709551616 := by rw [hq]; exact Nat.lt_of_le_of_lt (Nat.div_le_self _ _) hn
      have HQ : Hid (q = n / 256 ^ k) := hq
      rw [← hq]
      clear hq
      by_cases hlt : k < m
      · have hcell : ∃ v0, wr.cell? ⟨w.heap.size, k, none⟩ = some v0 := by
          rw [hown.cellAt k (by omega)]
          exact ⟨_, List.getElem?_eq_getElem (by simp [putRow_length m n k hk]; omega)⟩
        obtain ⟨v0, hcell⟩ := hcell
        have hfr := hown.frozenAt k
        have HO : Hid (wr.ownsRow w.heap.size 5 1 (.slice (some ⟨w.heap.size, 0, none⟩) m m) m ((putRow m n k).map u8v)) := hown
        clear hown
        go_wp2
        go_roundw
        case rel => exact ⟨k + 1, by omega, by go_num, put_next HQ.out, put_stored hlt HQ.out HO.out, hb.setCell (Nat.le_refl _) _⟩
        case measure => simp [intOf]; omega
      · go_wp2
        go_ret
        have hkm : k = m := by omega
        subst hkm
        exact ⟨rfl, put_end hown, hb⟩
end Go.Proofs.Ytplhlbajgijohab
