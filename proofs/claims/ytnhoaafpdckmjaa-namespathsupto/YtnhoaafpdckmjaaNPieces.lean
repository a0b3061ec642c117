/-
  The pieces of a text, as a range over a function tells them.
-/
import Derived.Test.YtnhoaafpdckmjaaNCut
import Derived.RangeFuncBox
import Derived.RangeFuncNested
import Derived.RangeFuncBound
import Derived.RangeFuncCalls
import Derived.RangeFuncLeaves
import Derived.Shelf.Abstract
import Derived.Shelf.RegionOpen
import Derived.OwnWalkIn
import Derived.TacticsInMore
import Derived.LoopNIn
import Derived.LoopIn
import Derived.Maps.AppendAt
namespace Go.Proofs.Ytnhoaafpdckmjaa
open Go.RowKit Go.Shelf M
attribute [local go_sem] Oper.semAt_some

/-- The pieces of a text, as values. -/
def pieces (l : List UInt8) : List ByteArray := (parts l).map bs

theorem grown_drewN (w : World) (n : Nat) (row : Option Nat) : w.grownBy (w.drewN n) row := ⟨rfl, rfl, rfl, Nat.le_refl _, fun _ _ _ => rfl⟩

/-- How far a loop over the pieces has to go. -/
def leftN : Value → Value → Nat
  | .string s, .bool true => s.size + 1
  | _, _ => 0
theorem leftN_true (l : List UInt8) : leftN (.string (bs l)) (.bool true) = l.length + 1 := rfl
theorem leftN_false (l : List UInt8) : leftN (.string (bs l)) (.bool false) = 0 := rfl

theorem pieces_no {a : List UInt8} (h : 47 ∉ a) : pieces a = if a = [] then [] else [bs a] := by
  unfold pieces; rw [parts_no h]; split <;> rfl
theorem pieces_cut {a : List UInt8} (b : List UInt8) (h : 47 ∉ a) : pieces (a ++ 47 :: b) = (if a = [] then [] else [bs a]) ++ pieces b := by
  unfold pieces; rw [parts_cut b h, List.map_append]; split <;> rfl
theorem bs_ne {l : List UInt8} (h : l ≠ []) : ¬ (bs l).toList = [] := by
  rw [bs_toList]; exact h
theorem bs_ne2 {l : List UInt8} (h : l ≠ []) : (bs l).toList.isEmpty = false := by
  rw [bs_toList]; cases l with
  | nil => exact absurd rfl h
  | cons _ _ => rfl
theorem bs_nil : (bs []).toList = [] := by rw [bs_toList]
theorem str_ne {l : List UInt8} (h : l ≠ []) : bs l ≠ ⟨#[]⟩ := fun e => h (by have := congrArg (fun x => x.data.toList) e; simpa [bs] using this)

set_option maxRecDepth 100000 in
set_option maxHeartbeats 1000000 in
theorem pieces1_in (n : Nat) (hn : 1 ≤ n) (l Bn n₀ : Nat) (s : List UInt8) (hs : s.length < 9223372036854775000) (J Jx : List ByteArray → World → Prop) (hJd : ∀ pre W q, J pre W → J pre (W.drewN q))
    (hY : ∀ pre x W, J pre W → pre.length < (pieces s).length → YieldAt Fence.wide (n - 1) Try.prog l #[.string x] W fun e W' =>
      (e = .returned (.bool true) ∧ J (pre ++ [x]) W' ∧ Below n₀ W W') ∨ (e = .returned (.bool false) ∧ Jx (pre ++ [x]) W'))
    (W : World) (hBn : W.cell? ⟨Bn, 0, none⟩ = some (.string (bs s))) (h0 : J [] W) :
    CallsIn Fence.wide n Try.prog 39 #[.func (.yield l) #[] #[], .pointer (some ⟨Bn, 0, none⟩)] W fun e W' => (∃ v, e = .returned v) ∧
      ((∃ ys, ys = pieces s ∧ J ys W') ∨ (∃ pre, pre <+: pieces s ∧ Jx pre W')) := by
  refine callsIn_of_wp Try.func39 rfl trivial ?_ rfl
  simp only [Try.ntmps39, List.size_toArray, List.length_cons, List.length_nil, Nat.reduceAdd, Nat.reduceSub, Array.replicate_succ, Array.replicate_zero, List.push_toArray, List.append_toArray, List.nil_append, List.cons_append]
  gi_wp2
  gi_region
  gi_wp2
  gi_loopw [3, 4, 5] (fun _ r m wr => ∃ (pre : List ByteArray) (rest : List UInt8) (more : Bool), r = .string (bs rest) ∧ m = .bool more ∧ rest.length ≤ s.length ∧ pieces s = pre ++ (if more then pieces rest else []) ∧ J pre wr)
    (fun _ r m _ => leftN r m)
  case atStart =>
    exact ⟨[], s, true, rfl, rfl, Nat.le_refl _, by simp, by first | exact h0 | exact hJd _ _ 1 h0⟩
  case round =>
    obtain ⟨pre, rest, more, rfl, rfl, hle, hx, hJs⟩ := hrel
    cases more with
    | false =>
      gi_wp2
      go_end0
      exact ⟨⟨_, rfl⟩, .inl ⟨pre, by simpa using hx.symm, hJs⟩⟩
    | true =>
      have HX : Hid (pieces s = pre ++ pieces rest) := by show _ = _; simpa using hx
      clear hx
      by_cases h47 : 47 ∈ rest
      · obtain ⟨la, lb, hab, hla⟩ := first_of h47
        have hlen : la.length + lb.length < rest.length := by rw [hab]; simp
        have HC : ∀ w, Calls Try.prog 40 #[.string (bs rest), .string ⟨#[47]⟩] w fun e w' => e = .returned (.tuple #[.string (bs la), .string (bs lb), .bool true]) ∧ ∃ n, w' = w.drewN n := by
          intro w; rw [hab]; exact cut_yes la lb hla w (by omega)
        have HP : Hid (pieces rest = (if la = [] then [] else [bs la]) ++ pieces lb) := by show _ = _; rw [hab, pieces_cut lb hla]
        clear h47 hla hab
        by_cases hne : la = []
        · subst hne
          have hnil := bs_nil
          gi_wp2_with (refine ⟨trivial, ?_⟩; gi_at_call 40; refine (callsIn_wide.2 (HC _)).mono ?_; rintro e w' ⟨rfl, q, rfl⟩)
          refine ⟨(fun f h => trivial), ?_⟩
          gi_wp2
          go_roundw
          case rel => exact ⟨pre, lb, true, rfl, rfl, by simp at hlen; omega, by rw [HX.out, HP.out]; simp, hJd _ _ _ hJs⟩
          case measure => rw [leftN_true, leftN_true]; simp at hlen; omega
        · have hne1 := bs_ne hne
          have hne2 := bs_ne2 hne
          have hpl : pre.length < (pieces s).length := by rw [HX.out, HP.out, if_neg hne]; simp
          gi_wp2_with (refine ⟨trivial, ?_⟩; gi_at_call 40; refine (callsIn_wide.2 (HC _)).mono ?_; rintro e w' ⟨rfl, q, rfl⟩; obtain ⟨fn, tmps, assign, body, hy, hR⟩ := hY pre (bs la) (wr.drewN q) (hJd _ _ _ hJs) hpl)
          refine hR.mono ?_
          rintro e W3 (⟨rfl, hJ3, hk3⟩ | ⟨rfl, hJx3⟩)
          · gi_wp2
            refine ⟨⟨pre ++ [bs la], lb, true, rfl, rfl, by omega, by rw [HX.out, HP.out, if_neg hne]; simp, hJ3⟩, ?_⟩
            rw [leftN_true, leftN_true]
            omega
          · gi_wp2
            refine bodyPost_ret (results_none rfl _ _ _) rfl ?_
            exact ⟨⟨_, rfl⟩, .inr ⟨pre ++ [bs la], ⟨pieces lb, by rw [HX.out, HP.out, if_neg hne]; simp⟩, hJx3⟩⟩
      · have HC : ∀ w, Calls Try.prog 40 #[.string (bs rest), .string ⟨#[47]⟩] w fun e w' => e = .returned (.tuple #[.string (bs rest), .string (bs []), .bool false]) ∧ ∃ n, w' = w.drewN n :=
          fun w => cut_no rest h47 w
        have HP : Hid (pieces rest = if rest = [] then [] else [bs rest]) := pieces_no h47
        clear h47
        by_cases hne : rest = []
        · subst hne
          have hnil := bs_nil
          gi_wp2_with (refine ⟨trivial, ?_⟩; gi_at_call 40; refine (callsIn_wide.2 (HC _)).mono ?_; rintro e w' ⟨rfl, q, rfl⟩)
          refine ⟨(fun f h => trivial), ?_⟩
          gi_wp2
          go_roundw
          case rel => exact ⟨pre, [], false, rfl, rfl, by simp, by rw [HX.out, HP.out]; simp, hJd _ _ _ hJs⟩
          case measure => rw [leftN_true, leftN_false]; omega
        · have hne1 := bs_ne hne
          have hne2 := bs_ne2 hne
          have hpl : pre.length < (pieces s).length := by rw [HX.out, HP.out, if_neg hne]; simp
          gi_wp2_with (refine ⟨trivial, ?_⟩; gi_at_call 40; refine (callsIn_wide.2 (HC _)).mono ?_; rintro e w' ⟨rfl, q, rfl⟩; obtain ⟨fn, tmps, assign, body, hy, hR⟩ := hY pre (bs rest) (wr.drewN q) (hJd _ _ _ hJs) hpl)
          refine hR.mono ?_
          rintro e W3 (⟨rfl, hJ3, hk3⟩ | ⟨rfl, hJx3⟩)
          · gi_wp2
            refine ⟨⟨pre ++ [bs rest], [], false, rfl, rfl, by simp, by rw [HX.out, HP.out, if_neg hne]; simp, hJ3⟩, ?_⟩
            rw [leftN_true, leftN_false]
            omega
          · gi_wp2
            refine bodyPost_ret (results_none rfl _ _ _) rfl ?_
            exact ⟨⟨_, rfl⟩, .inr ⟨pre ++ [bs rest], ⟨[], by rw [HX.out, HP.out, if_neg hne]; simp⟩, hJx3⟩⟩

set_option maxHeartbeats 1000000 in
/-- The function value that tells the pieces: the text lies in a box of its own. -/
theorem pieces_in (n : Nat) (s : ByteArray) (w : World) :
    CallsIn Fence.wide n Try.prog 29 #[.string s] w fun e w' => e = .returned (.func (.func 39) #[] #[.pointer (some ⟨w.heap.size, 0, none⟩)]) ∧ w' = w.alloc (.cells #[.string s] 9) := by
  refine callsIn_of_wp Try.func29 rfl trivial ?_ rfl
  simp only [Try.ntmps29, List.size_toArray, List.length_cons, List.length_nil, Nat.reduceAdd, Nat.reduceSub, Array.replicate_succ, Array.replicate_zero, List.push_toArray, List.append_toArray, List.nil_append, List.cons_append]
  gi_wp2
  go_ret
  exact ⟨rfl, rfl⟩

theorem pieces_stops (n : Nat) (hn : 1 ≤ n) (Bn n₀ : Nat) (s : List UInt8) (hs : s.length < 9223372036854775000) (w : World) (hBn : Bn < w.heap.size) (hc : w.cell? ⟨Bn, 0, none⟩ = some (.string (bs s))) :
    SeqStopsK Fence.wide n Try.prog 39 #[.pointer (some ⟨Bn, 0, none⟩)] (fun x : ByteArray => #[Value.string x]) (Below n₀) (fun ys => ys = pieces s) (fun pre => pre <+: pieces s) (pieces s).length w := fun l J Jx W hW hJ _ hY h0 =>
  pieces1_in n hn l Bn n₀ s hs J Jx (fun pre W q h => hJ pre W _ none h (grown_drewN W q none) (fun r e => by cases e)) hY W ((hW.cell (p := ⟨Bn, 0, none⟩) hBn).trans hc) h0
end Go.Proofs.Ytnhoaafpdckmjaa
