/-
  The document's Get and Put of layer 1.
-/
import Derived.Test.YtfalbbcbgkiejaaPut
import Derived.Deep.AppendLies
namespace Go.Proofs.Ytfalbbcbgkiejaa
open Go.RowKit M

theorem get_next {l : List Nat} {k x : Nat} (hk : k < l.length) (h8 : k < 8) (hb : ∀ x ∈ l, x < 256) (hx : x = l.getD k 0) :
    bits BinOp.or IntKind.u64 ((getL (l.take k) : Nat) : Int) (IntKind.u64.wrap ((x : Int) * 2 ^ (8 * k))) = ((getL (l.take (k + 1)) : Nat) : Int) := by
  have hx256 : x < 256 := by rw [hx]; exact hb _ (by simp [List.getD, hk])
  have hc := getL_lt (l.take k) (fun y hy => hb y (List.mem_of_mem_take hy))
  have hlen : (l.take k).length = k := by simp; omega
  rw [hlen] at hc
  have hpow : (256 : Nat) ^ k = 2 ^ (8 * k) := by rw [Nat.pow_mul]
  rw [hpow] at hc
  have hle : 2 ^ (8 * k) ≤ 2 ^ 56 := Nat.pow_le_pow_right (by decide) (by omega)
  have hxl : x * 2 ^ (8 * k) < 256 * 2 ^ (8 * k) := (Nat.mul_lt_mul_right (Nat.two_pow_pos _)).2 hx256
  have hxl2 : x * 2 ^ (8 * k) < 18446744073709551616 := by omega
  have e1 : IntKind.u64.wrap ((x : Int) * 2 ^ (8 * k)) = ((x * 2 ^ (8 * k) : Nat) : Int) := by
    rw [IntKind.wrap_u64]
    have : ((x : Int) * 2 ^ (8 * k)) = ((x * 2 ^ (8 * k) : Nat) : Int) := by simp
    rw [this]
    omega
  rw [e1, u64_or_nat _ _ (by omega) hxl2, Nat.or_comm, nat_join (8 * k) (x * 2 ^ (8 * k)) _ (Nat.mul_mod_left _ _) hc, take_succ_getD l k hk, getL_append, hlen, ← hx, hpow]
  simp only [getL, Nat.mul_zero, Nat.add_zero]
  rw [Nat.mul_comm, Nat.add_comm]

set_option maxRecDepth 10000 in
set_option maxHeartbeats 1000000 in
theorem ref_get (a : Option Addr) (cap : Nat) (l : List Nat) (w : World) (hl : l.length ≤ maxLen) (hb : ∀ x ∈ l, x < 256) (hr : BRow w a l) :
    Calls Try.prog 54 #[.slice a l.length cap] w fun e w' => e = .returned (.int .u64 (getL (l.take 8) : Nat)) ∧ w = w' := by
  unfold maxLen at hl
  obtain ⟨n, hn⟩ : ∃ n, n = l.length := ⟨_, rfl⟩
  rw [← hn] at hl ⊢
  have HN : Hid (n = l.length) := hn
  clear hn
  have HB : Hid (∀ x ∈ l, x < 256) := hb
  have HR : Hid (BRow w a l) := hr
  clear hb hr
  go_enter Try.func54, Try.ntmps54
  go_wp2
  go_loop [3, 4] (fun s i => ∃ k : Nat, k ≤ n ∧ k ≤ 8 ∧ i = .int .i64 k ∧ s = .int .u64 (getL (l.take k) : Nat)) (fun _ i => 8 - (intOf i).toNat)
  case atStart => exact ⟨0, by omega, by omega, rfl, rfl⟩
  case round =>
    obtain ⟨k, hk, hk8, rfl, rfl⟩ := hrel
    by_cases hlt : k < n
    · by_cases h8 : k < 8
      · obtain ⟨x, hx⟩ : ∃ x, x = l.getD k 0 := ⟨_, rfl⟩
        have hne : l ≠ [] := by intro e; have := HN.out; subst e; simp at this; omega
        obtain ⟨b, off, rfl, hcs⟩ : ∃ b off, a = some ⟨b, off, none⟩ ∧ ∀ i, i < l.length → w.cell? ⟨b, off + i, none⟩ = some (.int .u8 ((l.getD i 0 : Nat) : Int)) := by
          rcases HR.out with h | h
          · exact absurd h hne
          · exact h
        have hkl : k < l.length := by have := HN.out; omega
        have hcell := hcs k hkl
        rw [← hx] at hcell
        have hx256 : x < 256 := by rw [hx]; exact HB.out _ (by simp [List.getD, hkl])
        have HG : Hid (bits BinOp.or IntKind.u64 ((getL (l.take k) : Nat) : Int) (IntKind.u64.wrap ((x : Int) * 2 ^ (8 * k))) = ((getL (l.take (k + 1)) : Nat) : Int)) := get_next hkl h8 HB.out hx
        obtain ⟨c, hc⟩ : ∃ c, c = getL (l.take k) := ⟨_, rfl⟩
        rw [← hc] at HG ⊢
        clear hx hcs hkl hne hc
        go_wp2
        go_round
        case rel => exact ⟨k + 1, by omega, by omega, by go_num, by rw [HG.out]⟩
        case measure => simp [intOf]; omega
      · go_wp2
        go_ret
        have hk : k = 8 := by omega
        subst hk
        exact ⟨rfl, rfl⟩
    · go_wp2
      go_ret
      have e : l.take k = l.take 8 := by
        have := HN.out
        rw [List.take_of_length_le (by omega), List.take_of_length_le (by omega)]
      exact ⟨ret_int (by rw [e]), rfl⟩

theorem one_int (x : Int) : ∀ u ∈ [Value.int .u8 x], u.oneCell' = true := by
  intro u hu
  simp at hu
  subst hu
  rfl
theorem put_grow {w : World} {base k n : Nat} {v : Value} (h : w.ownsRow base 5 1 v (k + 1) ((putL k n).map u8v ++ [.int .u8 ((n : Int) / 2 ^ (8 * k) % 256)])) :
    w.ownsRow base 5 1 v (k + 1) ((putL (k + 1) n).map u8v) := by
  rw [putL_succ_last, List.map_append]
  have e : Value.int .u8 ((n : Int) / 2 ^ (8 * k) % 256) = u8v (n / 256 ^ k % 256) := by
    have hpow : (256 : Nat) ^ k = 2 ^ (8 * k) := by rw [Nat.pow_mul]
    rw [hpow]
    simp [u8v]
  rw [e] at h
  exact h
theorem ref_end {w : World} {base n : Nat} {v : Value} {l : List Nat} (hl : l.length = n) (h : w.ownsRow base 5 1 v n (l.map u8v)) : w.ownsRow base 5 1 v l.length (l.map u8v) := by
  rw [hl]
  exact h

set_option maxRecDepth 10000 in
set_option maxHeartbeats 1000000 in
theorem ref_put (n : Nat) (_hn : n < 18446744073709551616) (bytes : Int) (m : Nat) (hm : putN bytes = m) (w : World) :
    Calls Try.prog 32 #[.int .u64 n, .int .i64 bytes] w fun e w' => ∃ v, e = .returned v ∧ Own w w' v (putL m n) := by
  have hmm : (bytes < 0 ∧ m = 0) ∨ (0 ≤ bytes ∧ bytes ≤ 8 ∧ bytes = (m : Int)) ∨ (8 < bytes ∧ m = 8) := by unfold putN at hm; omega
  have hm8 : m ≤ 8 := by unfold putN at hm; omega
  have HMM : Hid (∀ k : Nat, k ≤ m → (k < m ↔ (k : Int) < bytes ∧ (k : Int) < 8)) := by intro k hk; omega
  clear hm hmm
  obtain ⟨i0, hi, hz0, hz1, hz2⟩ := info_parts info8
  go_enter Try.func32, Try.ntmps32
  go_wp2
  go_loopw [5, 6] (fun v i wr => ∃ k : Nat, k ≤ m ∧ i = .int .i64 k ∧ Hid (wr.ownsRow w.heap.size 5 1 v k ((putL k n).map u8v)) ∧ Below w.heap.size w wr) (fun _ i _ => m - (intOf i).toNat)
  case atStart => exact ⟨0, by omega, rfl, World.ownsRow_nil _ _ _ _, Below.refl _ _⟩
  case round =>
    obtain ⟨k, hk, rfl, hown, hb⟩ := hrel
    by_cases hlt : k < m
    · have h1 := (HMM.out k hk).1 hlt
      obtain ⟨h1, h8⟩ := h1
      have HKM : Hid (k + 1 ≤ maxLen ∧ (k + 1) * 1 ≤ 140737488355328 ∧ w.heap.size ≤ wr.heap.size + 1) := ⟨by unfold maxLen; omega, by omega, by have := hb.size; omega⟩
      have HV : Hid (∀ g, u5.ownBlock = some g → w.heap.size ≤ g) := fun g hg => (hown.out.lt g hg).1
      go_wp2_with (at_builtin; go_must (refine wpList_append_own _ rfl (.tmp 16) (.tmp 23) 25 rfl w.heap.size 5 i0 (.int .u8 0) 1 1 Try.underlying25 hi hz0 hz1 hz2 rfl (by omega) u5 k _ rfl (hown.out.alloc _) ⟨wr.heap.size, 0, none⟩ 1 1 [.int .u8 ((n : Int) / 2 ^ (8 * k) % 256)] rfl rfl (World.news_of_block (cs := #[.int .u8 ((n : Int) / 2 ^ (8 * k) % 256)]) (t := 5) (fr := (0, 0)) (heap_alloc_new wr _)) (one_int _) HKM.out.1 HKM.out.2.1 (by simpa using HKM.out.2.2) ?_); intro v' w1 hown1 hgrow1 _)
      have HO2 : Hid (w1.ownsRow w.heap.size 5 1 v' (k + 1) ((putL (k + 1) n).map u8v)) := put_grow hown1
      have hb2 : Below w.heap.size w w1 := (hb.alloc hb.size _).grown hgrow1 (by simpa using HKM.out.2.2) HV.out
      clear hown hb hown1 hgrow1
      go_wp2
      go_roundw
      case rel => exact ⟨k + 1, by omega, by go_num, HO2, hb2⟩
      case measure => simp [intOf]; omega
    · have hkm : k = m := by omega
      have h1 : ¬ ((k : Int) < bytes ∧ (k : Int) < 8) := fun h => hlt ((HMM.out k hk).2 h)
      by_cases h2 : (k : Int) < bytes
      all_goals
        go_wp2
        go_ret
        subst hkm
        exact ⟨_, rfl, ref_end (putL_length _ _) hown.out, hb⟩
end Go.Proofs.Ytfalbbcbgkiejaa
