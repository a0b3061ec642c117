/-
  The document's From of layer 6: one statement whose order is drawn: two calls, two conversions of a byte.
-/
import Derived.Test.YtefpcdpclpignaaKRKey
namespace Go.Proofs.Ytefpcdpclpignaa
open Go.RowKit M

theorem brow_n1 (a : Nat) (W : World) : BRow (W.alloc (.cells #[.int .u8 (a : Int)] 5)) (some ⟨W.heap.size, 0, none⟩) [a] := by
  refine .inr ⟨_, 0, rfl, fun i hi => ?_⟩
  have hi' : i < 1 := by simpa using hi
  obtain rfl : i = 0 := by omega
  simp
theorem brow_n2 (a : Nat) (W : World) (o : Obj) : BRow ((W.alloc o).alloc (.cells #[.int .u8 (a : Int)] 5)) (some ⟨W.heap.size + 1, 0, none⟩) [a] := by
  have h := brow_n1 a (W.alloc o)
  simpa using h
theorem cv (a : Nat) {W : World} {s : Addr} (h : BRow W (some s) [a]) : (convert 43 9 (.slice (some s) 1 1)).run Try.prog W = .ok (.string (bs (u8s [a]))) W := conv_row (l := [a]) 1 h
theorem BRow.dr {W : World} {s : Option Addr} {l : List Nat} (h : BRow W s l) : BRow W.drew s l := h
theorem c2 (a b : Nat) (W : World) : (convert 43 9 (.slice (some ⟨W.heap.size, 0, none⟩) 1 1)).run Try.prog ((W.alloc (.cells #[.int .u8 (a : Int)] 5)).alloc (.cells #[.int .u8 (b : Int)] 5)) = .ok (.string (bs (u8s [a]))) ((W.alloc (.cells #[.int .u8 (a : Int)] 5)).alloc (.cells #[.int .u8 (b : Int)] 5)) := cv a ((brow_n1 a W).later (below_new _ _))
theorem c2d (a b : Nat) (W : World) : (convert 43 9 (.slice (some ⟨W.heap.size, 0, none⟩) 1 1)).run Try.prog ((W.alloc (.cells #[.int .u8 (a : Int)] 5)).alloc (.cells #[.int .u8 (b : Int)] 5)).drew = .ok (.string (bs (u8s [a]))) ((W.alloc (.cells #[.int .u8 (a : Int)] 5)).alloc (.cells #[.int .u8 (b : Int)] 5)).drew := cv a ((brow_n1 a W).later (below_new _ _)).dr
theorem c3 (a b : Nat) (W : World) : (convert 43 9 (.slice (some ⟨W.heap.size + 1, 0, none⟩) 1 1)).run Try.prog ((W.alloc (.cells #[.int .u8 (a : Int)] 5)).alloc (.cells #[.int .u8 (b : Int)] 5)) = .ok (.string (bs (u8s [b]))) ((W.alloc (.cells #[.int .u8 (a : Int)] 5)).alloc (.cells #[.int .u8 (b : Int)] 5)) := cv b (brow_n2 b W _)
theorem c3d (a b : Nat) (W : World) : (convert 43 9 (.slice (some ⟨W.heap.size + 1, 0, none⟩) 1 1)).run Try.prog ((W.alloc (.cells #[.int .u8 (a : Int)] 5)).alloc (.cells #[.int .u8 (b : Int)] 5)).drew = .ok (.string (bs (u8s [b]))) ((W.alloc (.cells #[.int .u8 (a : Int)] 5)).alloc (.cells #[.int .u8 (b : Int)] 5)).drew := cv b (brow_n2 b W _).dr

set_option maxRecDepth 100000 in
set_option maxHeartbeats 16000000 in
theorem rfrom_l (n k s : Int) (a b : Nat) (H A B : ByteArray) (hk : IntKind.u8.wrap k = (a : Int)) (hk1 : IntKind.i64.wrap (k + 1) = s) (hk2 : IntKind.u8.wrap s = (b : Int)) (hA : Hid (H ++ bs (u8s [a]) = A)) (hB : Hid (H ++ bs (u8s [b]) = B)) (z1 : H.size = 2)
    (hp : ∀ W, Calls Try.prog 58 #[.int .i64 n] W fun e w' => e = .returned (.string H) ∧ Below W.heap.size W w') (w : World) :
    Calls Try.prog 12 #[.int .i64 n, .int .i64 k] w fun e w' => e = .returned (.tuple #[.string A, .string B]) ∧ Below w.heap.size w w' := by
  have sa := fun W => str_add H (bs (u8s [a])) 2 1 z1 rfl (by omega) W
  have sb := fun W => str_add H (bs (u8s [b])) 2 1 z1 rfl (by omega) W
  have f1 := fun W => conv_new1 a W
  have f2 := fun W => conv_new1d a W
  have f3 := fun W => conv_new1 b W
  have f4 := fun W => conv_new1d b W
  have g1 := fun W => c2 a b W
  have g2 := fun W => c2d a b W
  have g3 := fun W => c2 b a W
  have g4 := fun W => c2d b a W
  have g5 := fun W => c3 a b W
  have g6 := fun W => c3d a b W
  have g7 := fun W => c3 b a W
  have g8 := fun W => c3d b a W
  have M1 : Hid True := trivial
  go_enter Try.func12, Try.ntmps12
  go_wp2
  go_region_with (first
    | (go_at_call 58; clear M1; refine (hp _).mono ?_; rintro e w1 ⟨rfl, hb⟩; (first | (have HB1 : Hid (Below w.heap.size w w1) := undrew hb) | (have HB1 : Hid (Below w.heap.size w w1) := Below.after (below_new w _) (undrew hb)) | (have HB1 : Hid (Below w.heap.size w w1) := Below.after (Below.after (below_new w _) (below_new _ _)) (undrew hb))); (first | (have R1a : Hid (BRow w1 (some ⟨w.heap.size, 0, none⟩) [a]) := (brow_n1 a w).later (undrew hb)) | (have R1a : Hid (BRow w1 (some ⟨w.heap.size, 0, none⟩) [a]) := ((brow_n1 a w).later (below_new _ (.cells #[.int .u8 (b : Int)] 5))).later (undrew hb)) | skip); (first | (have T1a : Hid (BRow w1 (some ⟨w.heap.size + 1, 0, none⟩) [a]) := (brow_n2 a w (.cells #[.int .u8 (b : Int)] 5)).later (undrew hb)) | skip); (first | (have R1b : Hid (BRow w1 (some ⟨w.heap.size, 0, none⟩) [b]) := (brow_n1 b w).later (undrew hb)) | (have R1b : Hid (BRow w1 (some ⟨w.heap.size, 0, none⟩) [b]) := ((brow_n1 b w).later (below_new _ (.cells #[.int .u8 (a : Int)] 5))).later (undrew hb)) | skip); (first | (have T1b : Hid (BRow w1 (some ⟨w.heap.size + 1, 0, none⟩) [b]) := (brow_n2 b w (.cells #[.int .u8 (a : Int)] 5)).later (undrew hb)) | skip); (first | (have q11a := cv a R1a.out; have q11an := cv a (R1a.out.later (below_new w1 (.cells #[.int .u8 (b : Int)] 5)))) | skip); (first | (have t11a := cv a T1a.out) | skip); (first | (have q11b := cv b R1b.out; have q11bn := cv b (R1b.out.later (below_new w1 (.cells #[.int .u8 (a : Int)] 5)))) | skip); (first | (have t11b := cv b T1b.out) | skip); clear hb)
    | (go_at_call 58; refine (hp _).mono ?_; rintro e w2 ⟨rfl, hb⟩; (first | (have HB12 : Hid (Below w1.heap.size w1 w2) := hb) | (have HB12 : Hid (Below w1.heap.size w1 w2) := Below.after (below_new w1 _) hb) | (have HB12 : Hid (Below w1.heap.size w1 w2) := Below.after (Below.after (below_new w1 _) (below_new _ _)) hb)); have HB2 : Hid (Below w.heap.size w w2) := Below.after HB1.out HB12.out; (first | (have Z : Hid (BRow w2 (some ⟨w.heap.size, 0, none⟩) [a]) := R1a.out.later HB12.out; clear R1a; have R1a := Z; clear Z) | skip); (first | (have Z : Hid (BRow w2 (some ⟨w.heap.size + 1, 0, none⟩) [a]) := T1a.out.later HB12.out; clear T1a; have T1a := Z; clear Z) | skip); (first | (have Z : Hid (BRow w2 (some ⟨w.heap.size, 0, none⟩) [b]) := R1b.out.later HB12.out; clear R1b; have R1b := Z; clear Z) | skip); (first | (have Z : Hid (BRow w2 (some ⟨w.heap.size + 1, 0, none⟩) [b]) := T1b.out.later HB12.out; clear T1b; have T1b := Z; clear Z) | skip); (first | (have R2a : Hid (BRow w2 (some ⟨w1.heap.size, 0, none⟩) [a]) := (brow_n1 a w1).later hb) | (have R2a : Hid (BRow w2 (some ⟨w1.heap.size, 0, none⟩) [a]) := ((brow_n1 a w1).later (below_new _ (.cells #[.int .u8 (b : Int)] 5))).later hb) | skip); (first | (have T2a : Hid (BRow w2 (some ⟨w1.heap.size + 1, 0, none⟩) [a]) := (brow_n2 a w1 (.cells #[.int .u8 (b : Int)] 5)).later hb) | skip); (first | (have R2b : Hid (BRow w2 (some ⟨w1.heap.size, 0, none⟩) [b]) := (brow_n1 b w1).later hb) | (have R2b : Hid (BRow w2 (some ⟨w1.heap.size, 0, none⟩) [b]) := ((brow_n1 b w1).later (below_new _ (.cells #[.int .u8 (a : Int)] 5))).later hb) | skip); (first | (have T2b : Hid (BRow w2 (some ⟨w1.heap.size + 1, 0, none⟩) [b]) := (brow_n2 b w1 (.cells #[.int .u8 (a : Int)] 5)).later hb) | skip); (first | (have q21a := cv a R1a.out; have q21an := cv a (R1a.out.later (below_new w2 (.cells #[.int .u8 (b : Int)] 5)))) | skip); (first | (have t21a := cv a T1a.out) | skip); (first | (have q21b := cv b R1b.out; have q21bn := cv b (R1b.out.later (below_new w2 (.cells #[.int .u8 (a : Int)] 5)))) | skip); (first | (have t21b := cv b T1b.out) | skip); (first | (have q22a := cv a R2a.out; have q22an := cv a (R2a.out.later (below_new w2 (.cells #[.int .u8 (b : Int)] 5)))) | skip); (first | (have t22a := cv a T2a.out) | skip); (first | (have q22b := cv b R2b.out; have q22bn := cv b (R2b.out.later (below_new w2 (.cells #[.int .u8 (a : Int)] 5)))) | skip); (first | (have t22b := cv b T2b.out) | skip); clear hb))
  all_goals
    go_wp2
    go_ret2
    refine ⟨by rw [← hA.out, ← hB.out]; rfl, ?_⟩
    first | exact HB2.out | exact Below.after HB2.out (below_new _ _) | exact Below.after (Below.after HB2.out (below_new _ _)) (below_new _ _)

theorem kb_wrap (k : Int) : IntKind.u8.wrap k = ((kb k : Nat) : Int) := by
  unfold kb
  simp [IntKind.wrap, IntKind.bits, IntKind.signed]
  omega
theorem kb1_wrap (k : Int) : IntKind.u8.wrap (IntKind.i64.wrap (k + 1)) = ((kb1 k : Nat) : Int) := by
  unfold kb1
  simp [IntKind.wrap, IntKind.bits, IntKind.signed]
  omega
theorem rfrom_any (n k : Int) (w : World) :
    Calls Try.prog 12 #[.int .i64 n, .int .i64 k] w fun e w' => e = .returned (.tuple #[.string (bs (pre3 n (kb k))), .string (bs (pre3 n (kb1 k)))]) ∧ Below w.heap.size w w' :=
  rfrom_l n k _ _ _ (bs (hi2 n)) _ _ (kb_wrap k) rfl (kb1_wrap k) (show _ = _ from bs_app _ _) (show _ = _ from bs_app _ _) rfl (fun W => two_any n W) w
end Go.Proofs.Ytefpcdpclpignaa
