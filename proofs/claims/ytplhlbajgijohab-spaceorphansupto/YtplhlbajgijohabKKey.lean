/-
  The keys of a file system's things: what the functions of package node that make them answer.
-/
import Derived.Test.YtplhlbajgijohabKTxt
import Derived.Deep.RegionHeld3
import Derived.Deep.RegionWith
import Derived.BigQuiet
namespace Go.Proofs.Ytplhlbajgijohab
open Go.RowKit M

/-- A number's lowest 16 bits, the higher byte first. -/
def hi2 (n : Int) : List UInt8 := u8s [(n / 256 % 256).toNat, (n % 256).toNat]
theorem conv_new2 (a b : Nat) (W : World) :
    (convert 53 9 (.slice (some ⟨W.heap.size, 0, none⟩) 2 2)).run Try.prog (W.alloc (.cells #[.int .u8 (a : Int), .int .u8 (b : Int)] 5)) = .ok (.string (bs (u8s [a, b]))) (W.alloc (.cells #[.int .u8 (a : Int), .int .u8 (b : Int)] 5)) := by
  refine conv_row (l := [a, b]) 2 (.inr ⟨_, 0, rfl, fun i hi => ?_⟩)
  have hi' : i < 2 := by simpa using hi
  rcases i with _ | _ | i
  · simp
  · simp
  · omega
theorem conv_new1 (a : Nat) (W : World) :
    (convert 53 9 (.slice (some ⟨W.heap.size, 0, none⟩) 1 1)).run Try.prog (W.alloc (.cells #[.int .u8 (a : Int)] 5)) = .ok (.string (bs (u8s [a]))) (W.alloc (.cells #[.int .u8 (a : Int)] 5)) := by
  refine conv_row (l := [a]) 1 (.inr ⟨_, 0, rfl, fun i hi => ?_⟩)
  have hi' : i < 1 := by simpa using hi
  obtain rfl : i = 0 := by omega
  simp

theorem conv_new1d (a : Nat) (W : World) :
    (convert 53 9 (.slice (some ⟨W.heap.size, 0, none⟩) 1 1)).run Try.prog (W.alloc (.cells #[.int .u8 (a : Int)] 5)).drew = .ok (.string (bs (u8s [a]))) (W.alloc (.cells #[.int .u8 (a : Int)] 5)).drew := by
  refine conv_row (l := [a]) 1 (.inr ⟨_, 0, rfl, fun i hi => ?_⟩)
  have hi' : i < 1 := by simpa using hi
  obtain rfl : i = 0 := by omega
  simp
theorem conv_kept (a : Nat) {W w1 : World} (hb : Below (W.alloc (.cells #[.int .u8 (a : Int)] 5)).drew.heap.size (W.alloc (.cells #[.int .u8 (a : Int)] 5)).drew w1) :
    (convert 53 9 (.slice (some ⟨W.heap.size, 0, none⟩) 1 1)).run Try.prog w1 = .ok (.string (bs (u8s [a]))) w1 := by
  have h : BRow (W.alloc (.cells #[.int .u8 (a : Int)] 5)) (some ⟨W.heap.size, 0, none⟩) [a] := by
    refine .inr ⟨_, 0, rfl, fun i hi => ?_⟩
    have hi' : i < 1 := by simpa using hi
    obtain rfl : i = 0 := by omega
    simp
  exact conv_row (l := [a]) 1 (BRow.later (w := (W.alloc (.cells #[.int .u8 (a : Int)] 5)).drew) h hb)

theorem undrew {w w1 : World} (h : Below w.drew.heap.size w.drew w1) : Below w.heap.size w w1 := ⟨h.os, h.tape, h.output, h.size, h.block⟩

theorem high_any (n : Int) (w : World) :
    Calls Try.prog 27 #[.int .i64 n] w fun e w' => e = .returned (.string (bs (hi2 n))) ∧ Below w.heap.size w w' := by
  obtain ⟨a, ha⟩ : ∃ a : Nat, (n / 256 % 256) = (a : Int) := ⟨_, (Int.toNat_of_nonneg (by omega)).symm⟩
  obtain ⟨b, hb⟩ : ∃ b : Nat, (n % 256) = (b : Int) := ⟨_, (Int.toNat_of_nonneg (by omega)).symm⟩
  have HR : Hid (hi2 n = u8s [a, b]) := by show _ = _; unfold hi2; rw [ha, hb]; rfl
  have hcv := fun W => conv_new2 a b W
  go_enter Try.func27, Try.ntmps27
  go_wp2
  go_ret
  exact ⟨by rw [HR.out]; rfl, below_new _ _⟩

/-- What the keys of a kind of one inode begin with. -/
def pre3 (n : Int) (k : Nat) : List UInt8 := hi2 n ++ u8s [k]
theorem pre3_len (n : Int) (k : Nat) : (pre3 n k).length = 3 := rfl
theorem hi2_len (n : Int) : (hi2 n).length = 2 := rfl

set_option maxRecDepth 100000 in
set_option maxHeartbeats 1000000 in
theorem prefix_any (n : Int) (k : Nat) (w : World) :
    Calls Try.prog 26 #[.int .i64 n, .int .u8 (k : Int)] w fun e w' => e = .returned (.string (bs (pre3 n k))) ∧ Below w.heap.size w w' := by
  have hh := fun W => high_any n W
  have HR : Hid (bs (hi2 n) ++ bs (u8s [k]) = bs (pre3 n k)) := bs_app _ _
  have hz : (bs (hi2 n)).size = 2 := rfl
  have hz2 : (bs (u8s [k])).size = 1 := rfl
  obtain ⟨H, hH⟩ : ∃ H, H = bs (hi2 n) := ⟨_, rfl⟩
  rw [← hH] at HR hh hz
  clear hH
  have hcv := fun W => conv_new1 k W
  have hcvd := fun W => conv_new1d k W
  go_enter Try.func26, Try.ntmps26
  go_wp2
  go_region_with (go_at_call 27; refine (hh _).mono ?_; rintro e w1 ⟨rfl, hb⟩; try (have hc1 : (convert 53 9 (.slice (some ⟨w.heap.size, 0, none⟩) 1 1)).run Try.prog w1 = .ok (.string (bs (u8s [k]))) w1 := conv_kept k hb))
  all_goals
    go_wp2
    go_ret
    refine ⟨by rw [← HR.out]; rfl, ?_⟩
  · exact (undrew hb).alloc (undrew hb).size _
  · exact Below.after (below_new w _) (undrew hb)
  · exact Below.after (below_new w _) (undrew hb)

theorem inodeKey_any (n : Int) (w : World) :
    Calls Try.prog 42 #[.int .i64 n] w fun e w' => e = .returned (.string (bs (pre3 n 1))) ∧ Below w.heap.size w w' := by
  have hp : ∀ W, Calls Try.prog 26 #[.int .i64 n, .int .u8 1] W fun e w' => e = .returned (.string (bs (pre3 n 1))) ∧ Below W.heap.size W w' := fun W => prefix_any n 1 W
  obtain ⟨H, hH⟩ : ∃ H, H = bs (pre3 n 1) := ⟨_, rfl⟩
  rw [← hH] at hp ⊢
  clear hH
  go_enter Try.func42, Try.ntmps42
  go_wp2_with (go_at_call 26; refine (hp _).mono ?_; rintro e w1 ⟨rfl, hb⟩)
  go_ret
  exact ⟨rfl, hb⟩
theorem entryKey_any (n : Int) (l : List UInt8) (hl : l.length ≤ 140737488351232) (w : World) :
    Calls Try.prog 12 #[.int .i64 n, .string (bs l)] w fun e w' => e = .returned (.string (bs (pre3 n 2 ++ l))) ∧ Below w.heap.size w w' := by
  have hp : ∀ W, Calls Try.prog 26 #[.int .i64 n, .int .u8 2] W fun e w' => e = .returned (.string (bs (pre3 n 2))) ∧ Below W.heap.size W w' := fun W => prefix_any n 2 W
  have HR : Hid (bs (pre3 n 2) ++ bs l = bs (pre3 n 2 ++ l)) := bs_app _ _
  have hz : (bs (pre3 n 2)).size = 3 := rfl
  have hz2 : (bs l).size ≤ 140737488355328 := by rw [bs_size]; omega
  obtain ⟨H, hH⟩ : ∃ H, H = bs (pre3 n 2) := ⟨_, rfl⟩
  obtain ⟨L, hL⟩ : ∃ L, L = bs l := ⟨_, rfl⟩
  rw [← hH] at hp HR hz
  rw [← hL] at HR hz2 ⊢
  clear hH hL
  have hadd : ∀ W : World, (Op.stringOp .add H L).run Try.prog W = .ok (.string (H ++ L)) W := fun W => run_string_add_sum W H L (by omega)
  go_enter Try.func12, Try.ntmps12
  go_wp2_with (go_at_call 26; refine (hp _).mono ?_; rintro e w1 ⟨rfl, hb⟩)
  go_ret
  exact ⟨by rw [← HR.out]; rfl, hb⟩
theorem blockKey_any (n m : Int) (w : World) :
    Calls Try.prog 39 #[.int .i64 n, .int .i64 m] w fun e w' => e = .returned (.string (bs (pre3 n 3 ++ hi2 m))) ∧ Below w.heap.size w w' := by
  have hp : ∀ W, Calls Try.prog 26 #[.int .i64 n, .int .u8 3] W fun e w' => e = .returned (.string (bs (pre3 n 3))) ∧ Below W.heap.size W w' := fun W => prefix_any n 3 W
  have hh := fun W => high_any m W
  have HR : Hid (bs (pre3 n 3) ++ bs (hi2 m) = bs (pre3 n 3 ++ hi2 m)) := bs_app _ _
  have hz : (bs (pre3 n 3)).size = 3 := rfl
  have hz2 : (bs (hi2 m)).size = 2 := rfl
  obtain ⟨H, hH⟩ : ∃ H, H = bs (pre3 n 3) := ⟨_, rfl⟩
  obtain ⟨L, hL⟩ : ∃ L, L = bs (hi2 m) := ⟨_, rfl⟩
  rw [← hH] at hp HR hz
  rw [← hL] at hh HR hz2
  clear hH hL
  go_enter Try.func39, Try.ntmps39
  go_wp2_with (first
    | (go_at_call 26; refine (hp _).mono ?_; rintro e w1 ⟨rfl, hb⟩)
    | (go_at_call 27; refine (hh _).mono ?_; rintro e w2 ⟨rfl, hb2⟩))
  go_ret
  exact ⟨by rw [← HR.out]; rfl, Below.after hb hb2⟩
theorem orphanKey_any (m : Int) (w : World) :
    Calls Try.prog 13 #[.int .i64 m] w fun e w' => e = .returned (.string (bs (pre3 0 4 ++ hi2 m))) ∧ Below w.heap.size w w' := by
  have hp : ∀ W, Calls Try.prog 26 #[.int .i64 0, .int .u8 4] W fun e w' => e = .returned (.string (bs (pre3 0 4))) ∧ Below W.heap.size W w' := fun W => prefix_any 0 4 W
  have hh := fun W => high_any m W
  have HR : Hid (bs (pre3 0 4) ++ bs (hi2 m) = bs (pre3 0 4 ++ hi2 m)) := bs_app _ _
  have hz : (bs (pre3 0 4)).size = 3 := rfl
  have hz2 : (bs (hi2 m)).size = 2 := rfl
  obtain ⟨H, hH⟩ : ∃ H, H = bs (pre3 0 4) := ⟨_, rfl⟩
  obtain ⟨L, hL⟩ : ∃ L, L = bs (hi2 m) := ⟨_, rfl⟩
  rw [← hH] at hp HR hz
  rw [← hL] at hh HR hz2
  clear hH hL
  go_enter Try.func13, Try.ntmps13
  go_wp2_with (first
    | (go_at_call 26; refine (hp _).mono ?_; rintro e w1 ⟨rfl, hb⟩)
    | (go_at_call 27; refine (hh _).mono ?_; rintro e w2 ⟨rfl, hb2⟩))
  go_ret
  exact ⟨by rw [← HR.out]; rfl, Below.after hb hb2⟩

/-- The byte of a kind, and the next one. -/
def kb (k : Int) : Nat := (k % 256).toNat
def kb1 (k : Int) : Nat := ((k + 1) % 256).toNat
end Go.Proofs.Ytplhlbajgijohab
