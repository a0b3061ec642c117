/-
  The chapter's examples: alive answers true, and turns nothing that was there.
-/
import Derived.Test.YtnogfmfagambeaaUnframe
import Derived.Lib.SlBytesConst
namespace Go.Proofs.Ytnogfmfagambeaa
open Go.RowKit M

theorem sum_a : sumL [97] = 3904355907 := by kernel_rfl
theorem sum_19 : sumL [49, 50, 51, 52, 53, 54, 55, 56, 57] = 3421780262 := by kernel_rfl
theorem frame_a : frameL [97] = [1, 0, 67, 190, 183, 232, 97] := by kernel_rfl
theorem size_a : sizeL [1, 0, 67, 190, 183, 232, 97] = 1 := by kernel_rfl
theorem body_a : bodyL [1, 0, 67, 190, 183, 232, 97] = [97] := by kernel_rfl
theorem is_a : isFrame [1, 0, 67, 190, 183, 232, 97] := by
  refine ⟨by decide, by rw [size_a]; decide, by rw [size_a]; decide, by rw [size_a]; decide, ?_⟩
  rw [body_a, sum_a]
  kernel_rfl
theorem put_1234 : putL 2 4660 = [52, 18] := by kernel_rfl

theorem brow_new (w : World) (cs : List Nat) (fz : Nat × Nat) : BRow (w.alloc (.cells (cs.map u8v).toArray 5 fz)) (some ⟨w.heap.size, 0, none⟩) cs := by
  refine .inr ⟨w.heap.size, 0, rfl, fun i hi => ?_⟩
  rw [cell_of_row _ w.heap.size (0 + i) _ 5 fz (heap_alloc_new w _)]
  simp [u8v, hi, List.getD]
theorem below_new (w : World) (o : Obj) : Below w.heap.size w (w.alloc o) := (Below.refl _ _).alloc (Nat.le_refl _) _

theorem size_new (w : World) (o : Obj) : (w.alloc o).heap.size = w.heap.size + 1 := by simp
theorem brow_a (w : World) : BRow (w.alloc (.cells #[Value.int IntKind.u8 97] 5 (1, 2))) (some ⟨w.heap.size, 0, none⟩) [97] := brow_new w [97] (1, 2)
theorem brow_19 (w : World) : BRow (w.alloc (.cells #[Value.int IntKind.u8 49, Value.int IntKind.u8 50, Value.int IntKind.u8 51, Value.int IntKind.u8 52, Value.int IntKind.u8 53, Value.int IntKind.u8 54, Value.int IntKind.u8 55, Value.int IntKind.u8 56, Value.int IntKind.u8 57] 5 (9, 10))) (some ⟨w.heap.size, 0, none⟩) [49, 50, 51, 52, 53, 54, 55, 56, 57] :=
  brow_new w [49, 50, 51, 52, 53, 54, 55, 56, 57] (9, 10)
theorem brow_12 (w : World) : BRow (w.alloc (.cells #[Value.int IntKind.u8 52, Value.int IntKind.u8 18] 5 (0, 0))) (some ⟨w.heap.size, 0, none⟩) [52, 18] := brow_new w [52, 18] (0, 0)

theorem frame_a_any (w : World) (b : Nat) (hr : BRow w (some ⟨b, 0, none⟩) [97]) :
    Calls Try.prog 18 #[.slice (some ⟨b, 0, none⟩) 1 1] w fun e w' => e = .returned (.tuple #[.slice (some ⟨w.heap.size, 0, none⟩) 7 7, .int .i64 0]) ∧ Own w w' (.slice (some ⟨w.heap.size, 0, none⟩) 7 7) [1, 0, 67, 190, 183, 232, 97] := by
  have := frame_yes (some ⟨b, 0, none⟩) 1 [97] w (by decide) (by decide) (by decide) hr
  rw [frame_a] at this
  exact this
theorem unframe_a_any (w : World) (b : Nat) (hr : BRow w (some ⟨b, 0, none⟩) [1, 0, 67, 190, 183, 232, 97]) :
    Calls Try.prog 20 #[.slice (some ⟨b, 0, none⟩) 7 7] w fun e w' => e = .returned (.tuple #[.slice (some ⟨w.heap.size, 0, none⟩) 1 1, .int .i64 7, .bool true]) ∧ Own w w' (.slice (some ⟨w.heap.size, 0, none⟩) 1 1) [97] := by
  have := unframe_is (some ⟨b, 0, none⟩) 7 [1, 0, 67, 190, 183, 232, 97] w (by decide) (by decide) (by decide) hr is_a
  rw [size_a, body_a] at this
  exact this
theorem sum_19_any (w : World) (b : Nat) (hr : BRow w (some ⟨b, 0, none⟩) [49, 50, 51, 52, 53, 54, 55, 56, 57]) :
    Calls Try.prog 22 #[.slice (some ⟨b, 0, none⟩) 9 9] w fun e w' => e = .returned (.int .u32 3421780262) ∧ w = w' := by
  have := sum_any (some ⟨b, 0, none⟩) 9 [49, 50, 51, 52, 53, 54, 55, 56, 57] w (by decide) (by decide) hr
  rw [sum_19] at this
  exact this
theorem put_1234_any (w : World) : Calls Try.prog 9 #[.int .u64 4660, .int .i64 2] w fun e w' => e = .returned (.slice (some ⟨w.heap.size, 0, none⟩) 2 2) ∧ Own w w' (.slice (some ⟨w.heap.size, 0, none⟩) 2 2) [52, 18] := by
  have := put_any 4660 (by decide) 2 2 rfl w
  rw [put_1234] at this
  exact this
theorem same_yes (w : World) (a b : Option Addr) (c d : Nat) (l : List Nat) (n : Nat) (hn : n = l.length) (hl : ∀ x ∈ l, x < 256) (ha : BRow w a l) (hb : BRow w b l) :
    Calls Try.prog 8 #[.slice a n c, .slice b n d] w fun e w' => e = .returned (.bool true) ∧ w = w' := by
  subst hn
  have := same_any a c l b d l w hl hl ha hb
  simpa using this
theorem own_at {w w' : World} {g n cap : Nat} {l : List Nat} (h : Own w w' (.slice (some ⟨g, 0, none⟩) n cap) l) : BRow w' (some ⟨g, 0, none⟩) l := by
  obtain ⟨a, c, hv, hr, _⟩ := h.row
  simp only [Value.slice.injEq] at hv
  rw [hv.1]
  exact hr
theorem bstr_a : (bstr [97]).toList = [97] := by
  rw [ByteArray.toList_eq]
  rfl

set_option maxHeartbeats 1000000 in
theorem alive_any (w : World) : Calls Try.prog 17 #[] w fun e w' => e = .returned (.bool true) ∧ Below w.heap.size w w' := by
  have hcv := fun (W : World) (C : Array Value) (n c : Nat) => Lib.run_convert_bytes_const (P := Try.prog) W 23 5 C n c Try.underlying23 Try.underlying5
  have hba := bstr_a
  go_enter Try.func17, Try.ntmps17
  go_wp2_with (first
    | (go_at_call 18; go_must (refine (frame_a_any _ _ (brow_a w)).mono ?_); rintro e w1 ⟨rfl, ho1⟩; have hb1 := Below.after (below_new w _) ho1.2; have hp1 := own_at ho1; simp only [size_new] at hp1; clear ho1)
    | (go_at_call 20; go_must (refine (unframe_a_any _ _ hp1).mono ?_); rintro e w2 ⟨rfl, ho2⟩; have hb2 := Below.after hb1 ho2.2; have hp2 := own_at ho2; clear hp1 ho2 hb1)
    | (go_at_call 22; go_must (refine (sum_19_any _ _ (brow_19 w2)).mono ?_); rintro e w' ⟨rfl, rfl⟩)
    | (go_at_call 9; go_must (refine (put_1234_any _).mono ?_); rintro e w3 ⟨rfl, ho3⟩; have hb23 := Below.after (below_new w2 _) ho3.2; have hp3 := hp2.later hb23; have hb3 := Below.after hb2 hb23; have hq3 := own_at ho3; simp only [size_new] at hq3; clear hp2 hb2 hb23 ho3)
    | (go_at_call 8; go_must (refine (same_yes _ _ _ _ _ [52, 18] 2 rfl (by decide) (hq3.later (below_new w3 _)) (brow_12 w3)).mono ?_); rintro e w' ⟨rfl, rfl⟩; have hcs := conv_row 1 (hp3.later (below_new w3 (.cells #[Value.int IntKind.u8 52, Value.int IntKind.u8 18] 5 (0, 0)))); simp only [List.length_cons, List.length_nil, Nat.zero_add] at hcs)
    | (go_at_call 24; refine (round_any _).mono ?_; rintro e w' ⟨rfl, rfl⟩))
  go_ret
  exact ⟨rfl, Below.after hb3 (below_new w3 _)⟩
end Go.Proofs.Ytnogfmfagambeaa
