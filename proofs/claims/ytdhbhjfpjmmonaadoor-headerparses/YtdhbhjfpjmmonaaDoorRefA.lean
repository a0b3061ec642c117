/-
  What the document's answers Put, Get, Sum, Blank and Fill are: the same lists and numbers.
-/
import Derived.Test.YtdhbhjfpjmmonaaDoorAlive
import Derived.Deep.AppendLies
namespace Go.Proofs.YtdhbhjfpjmmonaaDoor
open Go.RowKit M
set_option linter.unusedVariables false

set_option maxRecDepth 10000 in
set_option maxHeartbeats 400000 in
theorem ref_blank (a : Option Addr) (cap : Nat) (l : List Nat) (w : World) (hl : l.length ≤ maxLen) (hr : BRow w a l) :
    Calls Tryd.prog 43 #[.slice a l.length cap] w fun e w' => e = .returned (.bool (l.all (· == 255))) ∧ w = w' := by
  unfold maxLen at hl
  obtain ⟨n, hn⟩ : ∃ n, n = l.length := ⟨_, rfl⟩
  rw [← hn] at hl ⊢
  have HN : Hid (n = l.length) := hn
  clear hn
  have HR : Hid (BRow w a l) := hr
  clear hr
  obtain ⟨R, hR⟩ : ∃ R, R = l.all (· == 255) := ⟨_, rfl⟩
  rw [← hR]
  have HRR : Hid (R = l.all (· == 255)) := hR
  clear hR
  go_enter Tryd.func43, Tryd.ntmps43
  go_wp2
  go_loop [3] (fun i => ∃ k : Nat, k ≤ n ∧ i = .int .i64 k ∧ (l.take k).all (· == 255) = true) (fun i => n - (intOf i).toNat)
  case atStart => exact ⟨0, by omega, rfl, rfl⟩
  case round =>
    obtain ⟨k, hk, rfl, hall⟩ := hrel
    have HA : Hid ((l.take k).all (· == 255) = true) := hall
    clear hall
    by_cases hlt : k < n
    · obtain ⟨x, hx⟩ : ∃ x, x = l.getD k 0 := ⟨_, rfl⟩
      have hne : l ≠ [] := by intro e; have := HN.out; subst e; simp at this; omega
      obtain ⟨b, off, rfl, hcs⟩ : ∃ b off, a = some ⟨b, off, none⟩ ∧ ∀ i, i < l.length → w.cell? ⟨b, off + i, none⟩ = some (.int .u8 ((l.getD i 0 : Nat) : Int)) := by
        rcases HR.out with h | h
        · exact absurd h hne
        · exact h
      have hkl : k < l.length := by have := HN.out; omega
      have hcell := hcs k hkl
      rw [← hx] at hcell
      have HX : Hid (x = l.getD k 0) := hx
      clear hx hcs hkl hne
      go_wp2
      · go_ret
        have hx : ((x : Int) != 255) = true := by assumption
        have hkl : k < l.length := by have := HN.out; omega
        have hR : R = false := by
          rw [HRR.out]
          refine all_false_of_take l k hkl ?_
          rw [← HX.out]
          intro e
          subst e
          simp at hx
        subst hR
        exact ⟨rfl, rfl⟩
      · have hx : ((x : Int) != 255) = false := by assumption
        have hkl : k < l.length := by have := HN.out; omega
        have hx2 : x = 255 := by simp at hx; omega
        go_round
        case rel => exact ⟨k + 1, by omega, by go_num, by rw [all_take_succ l k hkl, HA.out, ← HX.out, hx2]; rfl⟩
        case measure => simp [intOf]; omega
    · go_wp2
      go_ret
      have hkn : k = l.length := by have := HN.out; omega
      have hR : R = true := by
        rw [HRR.out]
        have := HA.out
        rw [hkn, List.take_length] at this
        exact this
      subst hR
      exact ⟨rfl, rfl⟩

set_option maxRecDepth 10000 in
set_option maxHeartbeats 1000000 in
theorem ref_sum (a : Option Addr) (cap : Nat) (l : List Nat) (w : World) (hl : l.length ≤ maxLen) (hb : ∀ x ∈ l, x < 256) (hr : BRow w a l) :
    Calls Tryd.prog 48 #[.slice a l.length cap] w fun e w' => e = .returned (.int .u32 (sumL l : Nat)) ∧ w = w' := by
  unfold maxLen at hl
  obtain ⟨n, hn⟩ : ∃ n, n = l.length := ⟨_, rfl⟩
  rw [← hn] at hl ⊢
  have HN : Hid (n = l.length) := hn
  clear hn
  have HB : Hid (∀ x ∈ l, x < 256) := hb
  have HR : Hid (BRow w a l) := hr
  clear hb hr
  go_enter Tryd.func48, Tryd.ntmps48
  go_wp2
  go_loop [3, 4] (fun s i => ∃ k : Nat, k ≤ n ∧ i = .int .i64 k ∧ s = .int .u32 (regL 4294967295 (l.take k) : Nat)) (fun _ i => n - (intOf i).toNat)
  case atStart => exact ⟨0, by omega, rfl, rfl⟩
  case round =>
    obtain ⟨k, hk, rfl, rfl⟩ := hrel
    have hreg : regL 4294967295 (l.take k) < 4294967296 := regL_lt _ _ (by decide) (fun x hx => HB.out x (List.mem_of_mem_take hx))
    by_cases hlt : k < n
    · obtain ⟨x, hx⟩ : ∃ x, x = l.getD k 0 := ⟨_, rfl⟩
      have hne : l ≠ [] := by intro e; have := HN.out; subst e; simp at this; omega
      obtain ⟨b, off, rfl, hcs⟩ : ∃ b off, a = some ⟨b, off, none⟩ ∧ ∀ i, i < l.length → w.cell? ⟨b, off + i, none⟩ = some (.int .u8 ((l.getD i 0 : Nat) : Int)) := by
        rcases HR.out with h | h
        · exact absurd h hne
        · exact h
      have hkl : k < l.length := by have := HN.out; omega
      have hcell := hcs k hkl
      rw [← hx] at hcell
      have hx256 : x < 256 := by rw [hx]; exact HB.out _ (by simp [List.getD, hkl])
      have HX : Hid (regL 4294967295 (l.take (k + 1)) = step8 (regL 4294967295 (l.take k) ^^^ x)) := by rw [take_succ_getD l k hkl, regL_snoc, hx]; exact rfl
      obtain ⟨c, hc⟩ : ∃ c, c = regL 4294967295 (l.take k) := ⟨_, rfl⟩
      rw [← hc] at HX hreg ⊢
      have hxor := u32_xor_nat c x hreg (by omega)
      have hlt2 := xor_lt32 hreg (show x < 4294967296 by omega)
      obtain ⟨q, hq⟩ : ∃ q, q = c ^^^ x := ⟨_, rfl⟩
      rw [← hq] at HX hxor hlt2
      clear hx hcs hkl hne hc hq
      go_wp2
      go_loop [3, 5] (fun s i => ∃ j : Nat, j ≤ 8 ∧ i = .int .i64 j ∧ s = .int .u32 (bitN j q : Nat)) (fun _ i => 8 - (intOf i).toNat)
      case atStart => exact ⟨0, by omega, rfl, rfl⟩
      case round =>
        obtain ⟨j, hj, rfl, rfl⟩ := hrel
        have hbq := bitN_lt j hlt2
        by_cases hj8 : j < 8
        · go_wp2
          · go_round
            case rel => exact ⟨j + 1, by omega, by go_num, by rw [bit_yes hbq ‹_›]; rfl⟩
            case measure => simp [intOf]; omega
          · go_round
            case rel => exact ⟨j + 1, by omega, by go_num, by rw [bit_no hbq ‹_›]; rfl⟩
            case measure => simp [intOf]; omega
        · go_wp2
          have hj8' : j = 8 := by omega
          subst hj8'
          go_round
          case rel => exact ⟨k + 1, by omega, by go_num, by rw [HX.out]; rfl⟩
          case measure => simp [intOf]; omega
    · go_wp2
      go_ret
      have hkn : k = l.length := by have := HN.out; omega
      rw [not_u32 _ hreg, hkn, List.take_length]
      exact ⟨rfl, rfl⟩

theorem get_next {l : List Nat} {k x : Nat} (hk : k < l.length) (h8 : k < 8) (hb : ∀ x ∈ l, x < 256) (hx : x = l.getD k 0) :
    bits BinOp.or IntKind.u64 ((getL (l.take k) : Nat) : Int) (IntKind.u64.wrap ((x : Int) * 2 ^ (8 * k))) = ((getL (l.take (k + 1)) : Nat) : Int) := by
  have hx256 : x < 256 := by rw [hx]; exact hb _ (by simp [List.getD, hk])
  have hc := getL_lt (l.take k) (fun y hy => hb y (List.mem_of_mem_take hy))
  have hlen : (l.take k).length = k := by simp; omega
  rw [hlen] at hc
  have hpow : (256 : Nat) ^ k = 2 ^ (8 * k) := by rw [Nat.pow_mul]
  rw [hpow] at hc
  have hle : 2 ^ (8 * k) ≤ 2 ^ 56 := Nat.pow_le_pow_right (by decide) (by omega)
  have hxl : x * 2 ^ (8 * k) < 256 * 2 ^ (8 * k) := (Nat.mul_lt_mul_right (Nat.two_pow_pos _)).2 hx256
  have hxl2 : x * 2 ^ (8 * k) < 18446744073709551616 := by omega
  have e1 : IntKind.u64.wrap ((x : Int) * 2 ^ (8 * k)) = ((x * 2 ^ (8 * k) : Nat) : Int) := by
    rw [IntKind.wrap_u64]
    have : ((x : Int) * 2 ^ (8 * k)) = ((x * 2 ^ (8 * k) : Nat) : Int) := by simp
    rw [this]
    omega
  rw [e1, u64_or_nat _ _ (by omega) hxl2, Nat.or_comm, nat_join (8 * k) (x * 2 ^ (8 * k)) _ (Nat.mul_mod_left _ _) hc, take_succ_getD l k hk, getL_append, hlen, ← hx, hpow]
  simp only [getL, Nat.mul_zero, Nat.add_zero]
  rw [Nat.mul_comm, Nat.add_comm]

set_option maxRecDepth 10000 in
set_option maxHeartbeats 1000000 in
theorem ref_get (a : Option Addr) (cap : Nat) (l : List Nat) (w : World) (hl : l.length ≤ maxLen) (hb : ∀ x ∈ l, x < 256) (hr : BRow w a l) :
    Calls Tryd.prog 31 #[.slice a l.length cap] w fun e w' => e = .returned (.int .u64 (getL (l.take 8) : Nat)) ∧ w = w' := by
  unfold maxLen at hl
  obtain ⟨n, hn⟩ : ∃ n, n = l.length := ⟨_, rfl⟩
  rw [← hn] at hl ⊢
  have HN : Hid (n = l.length) := hn
  clear hn
  have HB : Hid (∀ x ∈ l, x < 256) := hb
  have HR : Hid (BRow w a l) := hr
  clear hb hr
  go_enter Tryd.func31, Tryd.ntmps31
  go_wp2
  go_loop [3, 4] (fun s i => ∃ k : Nat, k ≤ n ∧ k ≤ 8 ∧ i = .int .i64 k ∧ s = .int .u64 (getL (l.take k) : Nat)) (fun _ i => 8 - (intOf i).toNat)
  case atStart => exact ⟨0, by omega, by omega, rfl, rfl⟩
  case round =>
    obtain ⟨k, hk, hk8, rfl, rfl⟩ := hrel
    by_cases hlt : k < n
    · by_cases h8 : k < 8
      · obtain ⟨x, hx⟩ : ∃ x, x = l.getD k 0 := ⟨_, rfl⟩
        have hne : l ≠ [] := by intro e; have := HN.out; subst e; simp at this; omega
        obtain ⟨b, off, rfl, hcs⟩ : ∃ b off, a = some ⟨b, off, none⟩ ∧ ∀ i, i < l.length → w.cell? ⟨b, off + i, none⟩ = some (.int .u8 ((l.getD i 0 : Nat) : Int)) := by
          rcases HR.out with h | h
          · exact absurd h hne
          · exact h
        have hkl : k < l.length := by have := HN.out; omega
        have hcell := hcs k hkl
        rw [← hx] at hcell
        have hx256 : x < 256 := by rw [hx]; exact HB.out _ (by simp [List.getD, hkl])
        have HG : Hid (bits BinOp.or IntKind.u64 ((getL (l.take k) : Nat) : Int) (IntKind.u64.wrap ((x : Int) * 2 ^ (8 * k))) = ((getL (l.take (k + 1)) : Nat) : Int)) := get_next hkl h8 HB.out hx
        obtain ⟨c, hc⟩ : ∃ c, c = getL (l.take k) := ⟨_, rfl⟩
        rw [← hc] at HG ⊢
        clear hx hcs hkl hne hc
        go_wp2
        go_round
        case rel => exact ⟨k + 1, by omega, by omega, by go_num, by rw [HG.out]⟩
        case measure => simp [intOf]; omega
      · go_wp2
        go_ret
        have hk : k = 8 := by omega
        subst hk
        exact ⟨rfl, rfl⟩
    · go_wp2
      go_ret
      have e : l.take k = l.take 8 := by
        have := HN.out
        rw [List.take_of_length_le (by omega), List.take_of_length_le (by omega)]
      exact ⟨ret_int (by rw [e]), rfl⟩

theorem one_int (x : Int) : ∀ u ∈ [Value.int .u8 x], u.oneCell' = true := by
  intro u hu
  simp at hu
  subst hu
  rfl
theorem put_grow {w : World} {base k n : Nat} {v : Value} (h : w.ownsRow base 5 1 v (k + 1) ((putL k n).map u8v ++ [.int .u8 ((n : Int) / 2 ^ (8 * k) % 256)])) :
    w.ownsRow base 5 1 v (k + 1) ((putL (k + 1) n).map u8v) := by
  rw [putL_succ_last, List.map_append]
  have e : Value.int .u8 ((n : Int) / 2 ^ (8 * k) % 256) = u8v (n / 256 ^ k % 256) := by
    have hpow : (256 : Nat) ^ k = 2 ^ (8 * k) := by rw [Nat.pow_mul]
    rw [hpow]
    simp [u8v]
  rw [e] at h
  exact h
theorem ref_end {w : World} {base n : Nat} {v : Value} {l : List Nat} (hl : l.length = n) (h : w.ownsRow base 5 1 v n (l.map u8v)) : w.ownsRow base 5 1 v l.length (l.map u8v) := by
  rw [hl]
  exact h

set_option maxRecDepth 10000 in
set_option maxHeartbeats 1000000 in
theorem ref_put (n : Nat) (hn : n < 18446744073709551616) (bytes : Int) (m : Nat) (hm : putN bytes = m) (w : World) :
    Calls Tryd.prog 24 #[.int .u64 n, .int .i64 bytes] w fun e w' => ∃ v, e = .returned v ∧ Own w w' v (putL m n) := by
  have hmm : (bytes < 0 ∧ m = 0) ∨ (0 ≤ bytes ∧ bytes ≤ 8 ∧ bytes = (m : Int)) ∨ (8 < bytes ∧ m = 8) := by unfold putN at hm; omega
  have hm8 : m ≤ 8 := by unfold putN at hm; omega
  have HMM : Hid (∀ k : Nat, k ≤ m → (k < m ↔ (k : Int) < bytes ∧ (k : Int) < 8)) := by intro k hk; omega
  clear hm hmm
  obtain ⟨i0, hi, hz0, hz1, hz2⟩ := info_parts info8
  go_enter Tryd.func24, Tryd.ntmps24
  go_wp2
  go_loopw [5, 6] (fun v i wr => ∃ k : Nat, k ≤ m ∧ i = .int .i64 k ∧ Hid (wr.ownsRow w.heap.size 5 1 v k ((putL k n).map u8v)) ∧ Below w.heap.size w wr) (fun _ i _ => m - (intOf i).toNat)
  case atStart => exact ⟨0, by omega, rfl, World.ownsRow_nil _ _ _ _, Below.refl _ _⟩
  case round =>
    obtain ⟨k, hk, rfl, hown, hb⟩ := hrel
    by_cases hlt : k < m
    · have h1 := (HMM.out k hk).1 hlt
      obtain ⟨h1, h8⟩ := h1
      have HKM : Hid (k + 1 ≤ maxLen ∧ (k + 1) * 1 ≤ 140737488355328 ∧ w.heap.size ≤ wr.heap.size + 1) := ⟨by unfold maxLen; omega, by omega, by have := hb.size; omega⟩
      have HV : Hid (∀ g, u5.ownBlock = some g → w.heap.size ≤ g) := fun g hg => (hown.out.lt g hg).1
      go_wp2_with (at_builtin; go_must (refine wpList_append_own _ rfl (.tmp 16) (.tmp 23) 25 rfl w.heap.size 5 i0 (.int .u8 0) 1 1 Tryd.underlying25 hi hz0 hz1 hz2 rfl (by omega) u5 k _ rfl (hown.out.alloc _) ⟨wr.heap.size, 0, none⟩ 1 1 [.int .u8 ((n : Int) / 2 ^ (8 * k) % 256)] rfl rfl (World.news_of_block (cs := #[.int .u8 ((n : Int) / 2 ^ (8 * k) % 256)]) (t := 5) (fr := (0, 0)) (heap_alloc_new wr _)) (one_int _) HKM.out.1 HKM.out.2.1 (by simpa using HKM.out.2.2) ?_); intro v' w1 hown1 hgrow1 _)
      have HO2 : Hid (w1.ownsRow w.heap.size 5 1 v' (k + 1) ((putL (k + 1) n).map u8v)) := put_grow hown1
      have hb2 : Below w.heap.size w w1 := (hb.alloc hb.size _).grown hgrow1 (by simpa using HKM.out.2.2) HV.out
      clear hown hb hown1 hgrow1
      go_wp2
      go_roundw
      case rel => exact ⟨k + 1, by omega, by go_num, HO2, hb2⟩
      case measure => simp [intOf]; omega
    · have hkm : k = m := by omega
      have h1 : ¬ ((k : Int) < bytes ∧ (k : Int) < 8) := fun h => hlt ((HMM.out k hk).2 h)
      by_cases h2 : (k : Int) < bytes
      all_goals
        go_wp2
        go_ret
        subst hkm
        exact ⟨_, rfl, ref_end (putL_length _ _) hown.out, hb⟩

theorem fillL_succ (l : List Nat) (n k : Nat) (h : k < n) : (fillL l n).take (k + 1) = (fillL l n).take k ++ [if k < l.length then l.getD k 0 else 255] := by
  rw [take_succ_getD _ k (by rw [fillL_length]; exact h)]
  congr 2
  by_cases hk : k < l.length
  · rw [if_pos hk]
    simp only [fillL, List.getD]
    rw [List.getElem?_append_left (by simp; omega), List.getElem?_take, if_pos h]
  · rw [if_neg hk]
    simp only [fillL, List.getD]
    rw [List.getElem?_append_right (by simp; omega), List.getElem?_replicate, if_pos (by simp; omega)]
    rfl

theorem fill_grow {w : World} {base k n x : Nat} {l : List Nat} {v : Value} (hk : k < n) (hx : x = if k < l.length then l.getD k 0 else 255) (h : w.ownsRow base 5 1 v (k + 1) (((fillL l n).take k).map u8v ++ [.int .u8 (x : Int)])) :
    w.ownsRow base 5 1 v (k + 1) (((fillL l n).take (k + 1)).map u8v) := by
  rw [fillL_succ l n k hk, ← hx, List.map_append]
  exact h
theorem row_at {w : World} {a : Option Addr} {l : List Nat} {k : Nat} (h : BRow w a l) (hk : k < l.length) : ∃ b off, a = some ⟨b, off, none⟩ ∧ b < w.heap.size ∧ w.cell? ⟨b, off + k, none⟩ = some (.int .u8 ((l.getD k 0 : Nat) : Int)) := by
  rcases h with h | ⟨b, off, ha, hc⟩
  · subst h; simp at hk
  · exact ⟨b, off, ha, World.block_lt_of_cell? w _ (hc k hk), hc k hk⟩

set_option maxRecDepth 10000 in
set_option maxHeartbeats 1000000 in
theorem ref_fill (a : Option Addr) (cap : Nat) (l : List Nat) (n : Nat) (hn : n ≤ 1048576) (w : World) (hl : l.length ≤ maxLen) (hr : BRow w a l) :
    Calls Tryd.prog 37 #[.slice a l.length cap, .int .i64 n] w fun e w' => ∃ v, e = .returned v ∧ Own w w' v (fillL l n) := by
  unfold maxLen at hl
  have HR : Hid (BRow w a l) := hr
  obtain ⟨len, hlen⟩ : ∃ len, len = l.length := ⟨_, rfl⟩
  have HL : Hid (len = l.length) := hlen
  rw [← hlen] at hl ⊢
  clear hr hlen
  obtain ⟨i0, hi, hz0, hz1, hz2⟩ := info_parts info8
  go_enter Tryd.func37, Tryd.ntmps37
  go_wp2
  go_loopw [5, 6] (fun v i wr => ∃ k : Nat, k ≤ n ∧ i = .int .i64 k ∧ Hid (wr.ownsRow w.heap.size 5 1 v k (((fillL l n).take k).map u8v)) ∧ Below w.heap.size w wr) (fun _ i _ => n - (intOf i).toNat)
  case atStart => exact ⟨0, by omega, rfl, World.ownsRow_nil _ _ _ _, Below.refl _ _⟩
  case round =>
    obtain ⟨k, hk, rfl, hown, hb⟩ := hrel
    by_cases hlt : k < n
    · have HKM : Hid (k + 1 ≤ maxLen ∧ (k + 1) * 1 ≤ 140737488355328 ∧ w.heap.size ≤ wr.heap.size + 1) := ⟨by unfold maxLen; omega, by omega, by have := hb.size; omega⟩
      have HV : Hid (∀ g, u5.ownBlock = some g → w.heap.size ≤ g) := fun g hg => (hown.out.lt g hg).1
      by_cases hin : k < len
      · obtain ⟨x, hx⟩ : ∃ x, x = l.getD k 0 := ⟨_, rfl⟩
        have hkl : k < l.length := by have := HL.out; omega
        obtain ⟨b, off, rfl, hb0, hc0⟩ := row_at (k := k) HR.out hkl
        have hcell := (hb.cell (p := ⟨b, off + k, none⟩) hb0).trans hc0
        rw [← hx] at hcell
        have HX : Hid (x = if k < l.length then l.getD k 0 else 255) := by show _ = _; rw [if_pos hkl, hx]
        clear hx hkl hc0 hb0
        go_wp2_with (at_builtin; go_must (refine wpList_append_own _ rfl (.tmp 16) (.tmp 21) 25 rfl w.heap.size 5 i0 (.int .u8 0) 1 1 Tryd.underlying25 hi hz0 hz1 hz2 rfl (by omega) u5 k _ rfl (hown.out.alloc _) ⟨wr.heap.size, 0, none⟩ 1 1 [.int .u8 (x : Int)] rfl rfl (World.news_of_block (cs := #[.int .u8 (x : Int)]) (t := 5) (fr := (0, 0)) (heap_alloc_new wr _)) (one_int _) HKM.out.1 HKM.out.2.1 (by simpa using HKM.out.2.2) ?_); intro v' w1 hown1 hgrow1 _)
        have HO2 : Hid (w1.ownsRow w.heap.size 5 1 v' (k + 1) (((fillL l n).take (k + 1)).map u8v)) := fill_grow hlt HX.out hown1
        have hb2 : Below w.heap.size w w1 := (hb.alloc hb.size _).grown hgrow1 (by simpa using HKM.out.2.2) HV.out
        clear hown hb hown1 hgrow1 hcell
        go_wp2
        go_roundw
        case rel => exact ⟨k + 1, by omega, by go_num, HO2, hb2⟩
        case measure => simp [intOf]; omega
      · have HX : Hid (255 = if k < l.length then l.getD k 0 else 255) := by show _ = _; rw [if_neg (by have := HL.out; omega)]
        go_wp2_with (at_builtin; go_must (refine wpList_append_own _ rfl (.tmp 23) (.tmp 24) 25 rfl w.heap.size 5 i0 (.int .u8 0) 1 1 Tryd.underlying25 hi hz0 hz1 hz2 rfl (by omega) u5 k _ rfl (hown.out.alloc _) ⟨wr.heap.size, 0, none⟩ 1 1 [.int .u8 255] rfl rfl (World.news_of_block (cs := #[.int .u8 255]) (t := 5) (fr := (0, 0)) (heap_alloc_new wr _)) (one_int _) HKM.out.1 HKM.out.2.1 (by simpa using HKM.out.2.2) ?_); intro v' w1 hown1 hgrow1 _)
        have HO2 : Hid (w1.ownsRow w.heap.size 5 1 v' (k + 1) (((fillL l n).take (k + 1)).map u8v)) := fill_grow hlt HX.out hown1
        have hb2 : Below w.heap.size w w1 := (hb.alloc hb.size _).grown hgrow1 (by simpa using HKM.out.2.2) HV.out
        clear hown hb hown1 hgrow1
        go_wp2
        go_roundw
        case rel => exact ⟨k + 1, by omega, by go_num, HO2, hb2⟩
        case measure => simp [intOf]; omega
    · go_wp2
      go_ret
      have hkn : k = n := by omega
      subst hkn
      have h := hown.out
      rw [List.take_of_length_le (by rw [fillL_length]; exact Nat.le_refl _)] at h
      exact ⟨_, rfl, ref_end (fillL_length _ _) h, hb⟩
theorem ref_fill_no (a : Option Addr) (len cap : Nat) (n : Int) (hn : n < 0) (w : World) :
    Calls Tryd.prog 37 #[.slice a len cap, .int .i64 n] w fun e w' => e = .returned (.slice none 0 0) ∧ w = w' := by
  go_enter Tryd.func37, Tryd.ntmps37
  go_wp2
  refine wp_loop_rounds 1 ?_
  rw [rounds_succ]
  go_wp2
  go_ret
  exact ⟨rfl, rfl⟩
end Go.Proofs.YtdhbhjfpjmmonaaDoor
