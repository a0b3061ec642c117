/-
  The chapter's examples, which every statement asks for.
-/
import Derived.Test.YtplhlbajgijohabPD
import Derived.Test.YtplhlbajgijohabPG
namespace Go.Proofs.Ytplhlbajgijohab
open Go.RowKit
set_option maxRecDepth 10000

theorem nrow_new2 (w : World) (x y : Nw) (t : TypeId) : NRow (w.alloc (.cells #[.string x.k, .string x.v, .bool x.g, .string y.k, .string y.v, .bool y.g] t)) (some ⟨w.heap.size, 0, none⟩) [x, y] := by
  refine .inr ⟨_, 0, rfl, fun i z hi => ?_⟩
  rcases i with _ | _ | i
  · simp at hi; subst hi; simp
  · simp at hi; subst hi; simp
  · simp at hi
def tx (l : List UInt8) : KK := ⟨l.toArray⟩
def exL : List Nw := [⟨tx [97], tx [49], false⟩, ⟨tx [98], tx [50], false⟩]
def exG : List Nw := [⟨tx [97], tx [], true⟩, ⟨tx [99], tx [51, 51], false⟩]
theorem ex1 : aft exL = 134 := by decide +kernel
theorem ex2 : aft (exL ++ exG) = 135 := by decide +kernel
theorem exN (w : World) (a : Option Addr) (l : List Nw) (h : NRow w a l) (hl : l.length = 2) (hk : okK l) : NArg w a 2 2 l := ⟨hl.symm, Nat.le_refl _, by unfold maxLen; omega, h, hk.1, hk.2⟩
theorem okL : okK exL := by constructor <;> (intro y hy; simp only [exL, List.mem_cons, List.not_mem_nil, or_false] at hy; rcases hy with rfl | rfl <;> decide)
theorem okG : okK exG := by constructor <;> (intro y hy; simp only [exG, List.mem_cons, List.not_mem_nil, or_false] at hy; rcases hy with rfl | rfl <;> decide)
set_option maxHeartbeats 4000000 in
theorem alive_any (w : World) : Calls Try.prog 6 #[] w fun e w' => e = .returned (.bool true) ∧ Below w.heap.size w w' := by
  have k1 : ∀ W, Calls Try.prog 14 #[.agg #[.int .i64 16, .int .i64 16, .int .i64 128, .int .i64 2]] W fun e w' => e = .returned (.int .i64 2688) ∧ Below W.heap.size W w' := by
    intro W
    have h := limit_any 16 16 128 2 W
    rw [show limG 16 16 128 2 = 2688 by decide +kernel] at h
    exact h
  have k2 : ∀ W, Calls Try.prog 15 #[.agg #[.int .i64 16, .int .i64 16, .int .i64 128, .int .i64 2]] W fun e w' => e = .returned (.int .i64 2048) ∧ Below W.heap.size W w' := by
    intro W
    have h := most_any 16 16 128 2 W
    rw [show mosG 16 16 128 2 = 2048 by decide +kernel] at h
    exact h
  have k3 : ∀ W, Calls Try.prog 16 #[.string ⟨#[97, 98]⟩, .string ⟨#[99]⟩] W fun e w' => e = .returned (.int .i64 69) ∧ Below W.heap.size W w' := fun W => node_any ⟨#[97, 98]⟩ ⟨#[99]⟩ (by decide) (by decide) W
  have k4 := fun W => inodeC_any W
  have k5 : ∀ W, Calls Try.prog 18 #[.string ⟨#[97]⟩] W fun e w' => e = .returned (.int .i64 75) ∧ Below W.heap.size W w' := fun W => entryC_any ⟨#[97]⟩ (by decide) W
  have k6 : ∀ W, Calls Try.prog 19 #[.int .i64 129] W fun e w' => e = .returned (.int .i64 277) ∧ Below W.heap.size W w' := fun W => fileC_any 129 W
  have kc : Calls Try.prog 7 #[.slice (some ⟨w.heap.size + 1, 0, none⟩) 2 2, .slice (some ⟨w.heap.size + 1 + 1, 0, none⟩) 2 2] (((w.alloc (.cells #[.int .i64 16, .int .i64 16, .int .i64 128, .int .i64 2] 42)).alloc (.cells #[.string ⟨#[97]⟩, .string ⟨#[49]⟩, .bool false, .string ⟨#[98]⟩, .string ⟨#[50]⟩, .bool false] 24)).alloc (.cells #[.string ⟨#[97]⟩, .string ⟨#[]⟩, .bool true, .string ⟨#[99]⟩, .string ⟨#[51, 51]⟩, .bool false] 24))
      fun e w' => e = .returned (.tuple #[.int .i64 134, .int .i64 135]) ∧ Below (w.alloc (.cells #[.int .i64 16, .int .i64 16, .int .i64 128, .int .i64 2] 42)).heap.size (w.alloc (.cells #[.int .i64 16, .int .i64 16, .int .i64 128, .int .i64 2] 42)) w' := by
    obtain ⟨W, hW⟩ : ∃ W, W = w.alloc (.cells #[.int .i64 16, .int .i64 16, .int .i64 128, .int .i64 2] 42) := ⟨_, rfl⟩
    have hs : w.heap.size + 1 = W.heap.size := by rw [hW]; simp
    rw [hs, ← hW]
    have r1 := nrow_new2 W ⟨tx [97], tx [49], false⟩ ⟨tx [98], tx [50], false⟩ 24
    have r2 := nrow_new2 (W.alloc (.cells #[.string ⟨#[97]⟩, .string ⟨#[49]⟩, .bool false, .string ⟨#[98]⟩, .string ⟨#[50]⟩, .bool false] 24)) ⟨tx [97], tx [], true⟩ ⟨tx [99], tx [51, 51], false⟩ 24
    rw [show (W.alloc (.cells #[.string ⟨#[97]⟩, .string ⟨#[49]⟩, .bool false, .string ⟨#[98]⟩, .string ⟨#[50]⟩, .bool false] 24)).heap.size = W.heap.size + 1 by simp] at r2
    have h := changeC_any (some ⟨W.heap.size, 0, none⟩) 2 2 exL (some ⟨W.heap.size + 1, 0, none⟩) 2 2 exG _ (exN _ _ _ (r1.later (below_new _ _)) rfl okL) (exN _ _ _ r2 rfl okG) (by decide) (by decide)
    rw [ex1, ex2] at h
    refine h.mono ?_
    rintro e w' ⟨rfl, hb⟩
    exact ⟨rfl, Below.after (Below.after (below_new W _) (below_new _ _)) hb⟩
  have HX : Hid (Row (w.alloc (.cells #[.int .i64 16, .int .i64 16, .int .i64 128, .int .i64 2] 42)) w.heap.size [.int .i64 16, .int .i64 16, .int .i64 128, .int .i64 2] 42) := Row.new w [.int .i64 16, .int .i64 16, .int .i64 128, .int .i64 2] _
  go_enter Try.func6, Try.ntmps6
  go_wp2_with (first
    | (go_at_call 7; refine kc.mono ?_; rintro e w1 ⟨rfl, hb⟩; obtain ⟨x0, x1, x2, x3⟩ := (HX.out.later hb).cells4; have R1 : Hid (Row w1 w.heap.size [.int .i64 16, .int .i64 16, .int .i64 128, .int .i64 2] 42) := HX.out.later hb; have B1 : Hid (Below w.heap.size w w1) := Below.after (below_new _ _) hb; clear hb kc)
    | (go_at_call 14; refine (k1 _).mono ?_; rintro e w2 ⟨rfl, hb⟩; clear x0 x1 x2 x3; obtain ⟨x0, x1, x2, x3⟩ := (R1.out.later hb).cells4; have B2 : Hid (Below w.heap.size w w2) := Below.after B1.out hb; clear hb k1)
    | (go_at_call 15; refine (k2 _).mono ?_; rintro e w3 ⟨rfl, hb⟩; have B3 : Hid (Below w.heap.size w w3) := Below.after B2.out hb; clear hb k2)
    | (go_at_call 16; refine (k3 _).mono ?_; rintro e w4 ⟨rfl, hb⟩; have B4 : Hid (Below w.heap.size w w4) := Below.after B3.out hb; clear hb k3)
    | (go_at_call 17; refine (k4 _).mono ?_; rintro e w5 ⟨rfl, hb⟩; have B5 : Hid (Below w.heap.size w w5) := Below.after B4.out hb; clear hb k4)
    | (go_at_call 18; refine (k5 _).mono ?_; rintro e w6 ⟨rfl, hb⟩; have B6 : Hid (Below w.heap.size w w6) := Below.after B5.out hb; clear hb k5)
    | (go_at_call 19; refine (k6 _).mono ?_; rintro e w7 ⟨rfl, hb⟩; have B7 : Hid (Below w.heap.size w w7) := Below.after B6.out hb; clear hb k6))
  go_ret
  exact ⟨rfl, B7.out⟩
end Go.Proofs.Ytplhlbajgijohab
