/-
  The pieces of a text, as a range over a function tells them.
-/
import Derived.Test.YtmaekpfkkpkgpaaGreatDoorBCut
import Derived.RangeFuncBox
import Derived.RangeFuncNested
import Derived.RangeFuncBound
import Derived.RangeFuncCalls
import Derived.RangeFuncLeaves
import Derived.Shelf.Abstract
import Derived.Shelf.RegionOpen
import Derived.OwnWalkIn
import Derived.TacticsInMore
import Derived.LoopNIn
import Derived.LoopIn
import Derived.Maps.AppendAt
namespace Go.Proofs.YtmaekpfkkpkgpaaGreatDoor
open Go.RowKit Go.Shelf
attribute [local go_sem] Oper.semAt_some

/-- The pieces of a text, as values. -/
abbrev Pc := { x : ByteArray // x.size ≤ 281474976710656 }
def toPc (x : ByteArray) : Pc := if h : x.size ≤ 281474976710656 then ⟨x, h⟩ else ⟨⟨#[]⟩, by decide⟩
theorem toPc_val {l : List UInt8} (h : l.length ≤ 281474976710656) : (toPc (bs l)).1 = bs l := by
  unfold toPc
  rw [dif_pos (by rw [bs_size]; exact h)]
def pieces (z : UInt8) (l : List UInt8) : List Pc := (parts z l).map fun p => toPc (bs p)

theorem grown_drewN (w : World) (n : Nat) (row : Option Nat) : w.grownBy (w.drewN n) row := ⟨rfl, rfl, rfl, Nat.le_refl _, fun _ _ _ => rfl⟩

/-- How far a loop over the pieces has to go. -/
def leftN : Value → Value → Nat
  | .string s, .bool true => s.size + 1
  | _, _ => 0
theorem leftN_true (l : List UInt8) : leftN (.string (bs l)) (.bool true) = l.length + 1 := rfl
theorem leftN_false (l : List UInt8) : leftN (.string (bs l)) (.bool false) = 0 := rfl

theorem pieces_no {z : UInt8} {a : List UInt8} (h : z ∉ a) : pieces z a = if a = [] then [] else [toPc (bs a)] := by
  unfold pieces; rw [parts_no h]; split <;> rfl
theorem pieces_cut {z : UInt8} {a : List UInt8} (b : List UInt8) (h : z ∉ a) : pieces z (a ++ z :: b) = (if a = [] then [] else [toPc (bs a)]) ++ pieces z b := by
  unfold pieces; rw [parts_cut b h, List.map_append]; split <;> rfl
theorem bs_ne {l : List UInt8} (h : l ≠ []) : ¬ (bs l).toList = [] := by
  rw [bs_toList]; exact h
theorem bs_ne2 {l : List UInt8} (h : l ≠ []) : (bs l).toList.isEmpty = false := by
  rw [bs_toList]; cases l with
  | nil => exact absurd rfl h
  | cons _ _ => rfl
theorem bs_nil : (bs []).toList = [] := by rw [bs_toList]
theorem str_ne {l : List UInt8} (h : l ≠ []) : bs l ≠ ⟨#[]⟩ := fun e => h (by have := congrArg (fun x => x.data.toList) e; simpa [bs] using this)

theorem cell_same {W W' : World} {B i : Nat} (h : W'.heap[B]? = W.heap[B]?) : W'.cell? ⟨B, i, none⟩ = W.cell? ⟨B, i, none⟩ := by simp only [World.cell?, h]
set_option maxRecDepth 100000 in
set_option maxHeartbeats 1000000 in
theorem pieces1_in (z : UInt8) (n : Nat) (hn : 1 ≤ n) (l Bn Be : Nat) (s : List UInt8) (hs : s.length ≤ 281474976710656) (J Jx : List Pc → World → Prop) (hJd : ∀ pre W q, J pre W → J pre (W.drewN q))
    (hY : ∀ pre x W, J pre W → pre.length < (pieces z s).length → YieldAt Fence.wide (n - 1) Tryz.prog l #[.string x.1] W fun e W' =>
      (e = .returned (.bool true) ∧ J (pre ++ [x]) W' ∧ W'.heap[Be]? = W.heap[Be]?) ∨ (e = .returned (.bool false) ∧ Jx (pre ++ [x]) W'))
    (W : World) (hBn : W.cell? ⟨Bn, 0, none⟩ = some (.string (bs s))) (hBe : W.cell? ⟨Be, 0, none⟩ = some (.string ⟨#[z]⟩)) (h0 : J [] W) :
    CallsIn Fence.wide n Tryz.prog 68 #[.func (.yield l) #[] #[], .pointer (some ⟨Bn, 0, none⟩), .pointer (some ⟨Be, 0, none⟩)] W fun e W' => (∃ v, e = .returned v) ∧
      ((∃ ys, ys = pieces z s ∧ J ys W') ∨ (∃ pre, pre <+: pieces z s ∧ Jx pre W')) := by
  refine callsIn_of_wp Tryz.func68 rfl trivial ?_ rfl
  simp only [Tryz.ntmps68, List.size_toArray, List.length_cons, List.length_nil, Nat.reduceAdd, Nat.reduceSub, Array.replicate_succ, Array.replicate_zero, List.push_toArray, List.append_toArray, List.nil_append, List.cons_append]
  gi_wp2
  gi_region
  gi_wp2
  gi_loopw [4, 5, 6] (fun _ r m wr => ∃ (pre : List Pc) (rest : List UInt8) (more : Bool), wr.cell? ⟨Be, 0, none⟩ = some (.string ⟨#[z]⟩) ∧ r = .string (bs rest) ∧ m = .bool more ∧ rest.length ≤ s.length ∧ pieces z s = pre ++ (if more then pieces z rest else []) ∧ J pre wr)
    (fun _ r m _ => leftN r m)
  case atStart =>
    exact ⟨[], s, true, by first | exact hBe | (simpa using hBe), rfl, rfl, Nat.le_refl _, by simp, by first | exact h0 | exact hJd _ _ 1 h0⟩
  case round =>
    obtain ⟨pre, rest, more, hBe, rfl, rfl, hle, hx, hJs⟩ := hrel
    cases more with
    | false =>
      gi_wp2
      go_end0
      exact ⟨⟨_, rfl⟩, .inl ⟨pre, by simpa using hx.symm, hJs⟩⟩
    | true =>
      have HX : Hid (pieces z s = pre ++ pieces z rest) := by show _ = _; simpa using hx
      clear hx
      by_cases hz : z ∈ rest
      · obtain ⟨la, lb, hab, hla⟩ := first_of hz
        have hlen : la.length + lb.length < rest.length := by rw [hab]; simp
        have HC : ∀ w, Calls Tryz.prog 69 #[.string (bs rest), .string ⟨#[z]⟩] w fun e w' => e = .returned (.tuple #[.string (bs la), .string (bs lb), .bool true]) ∧ ∃ n, w' = w.drewN n := by
          intro w; rw [hab]; exact cut_yes z la lb hla w (by omega)
        have HP : Hid (pieces z rest = (if la = [] then [] else [toPc (bs la)]) ++ pieces z lb) := by show _ = _; rw [hab, pieces_cut lb hla]
        clear hz hla hab
        by_cases hne : la = []
        · subst hne
          have hnil := bs_nil
          gi_wp2_with (refine ⟨trivial, ?_⟩; gi_at_call 69; refine (callsIn_wide.2 (HC _)).mono ?_; rintro e w' ⟨rfl, q, rfl⟩)
          refine ⟨(fun f h => trivial), ?_⟩
          gi_wp2
          go_roundw
          case rel => exact ⟨pre, lb, true, by first | exact hBe | (simpa using hBe), rfl, rfl, by simp at hlen; omega, by rw [HX.out, HP.out]; simp, hJd _ _ _ hJs⟩
          case measure => rw [leftN_true, leftN_true]; simp at hlen; omega
        · have hne1 := bs_ne hne
          have hne2 := bs_ne2 hne
          have hpl : pre.length < (pieces z s).length := by rw [HX.out, HP.out, if_neg hne]; simp
          gi_wp2_with (refine ⟨trivial, ?_⟩; gi_at_call 69; refine (callsIn_wide.2 (HC _)).mono ?_; rintro e w' ⟨rfl, q, rfl⟩; have hYx := hY pre (toPc (bs la)) (wr.drewN q) (hJd _ _ _ hJs) hpl; rw [toPc_val (l := la) (by omega)] at hYx; obtain ⟨fn, tmps, assign, body, hy, hR⟩ := hYx)
          refine hR.mono ?_
          rintro e W3 (⟨rfl, hJ3, hk3⟩ | ⟨rfl, hJx3⟩)
          · gi_wp2
            refine ⟨⟨pre ++ [toPc (bs la)], lb, true, (cell_same hk3).trans hBe, rfl, rfl, by omega, by rw [HX.out, HP.out, if_neg hne]; simp, hJ3⟩, ?_⟩
            rw [leftN_true, leftN_true]
            omega
          · gi_wp2
            refine bodyPost_ret (results_none rfl _ _ _) rfl ?_
            exact ⟨⟨_, rfl⟩, .inr ⟨pre ++ [toPc (bs la)], ⟨pieces z lb, by rw [HX.out, HP.out, if_neg hne]; simp⟩, hJx3⟩⟩
      · have HC : ∀ w, Calls Tryz.prog 69 #[.string (bs rest), .string ⟨#[z]⟩] w fun e w' => e = .returned (.tuple #[.string (bs rest), .string (bs []), .bool false]) ∧ ∃ n, w' = w.drewN n :=
          fun w => cut_no z rest hz w
        have HP : Hid (pieces z rest = if rest = [] then [] else [toPc (bs rest)]) := pieces_no hz
        clear hz
        by_cases hne : rest = []
        · subst hne
          have hnil := bs_nil
          gi_wp2_with (refine ⟨trivial, ?_⟩; gi_at_call 69; refine (callsIn_wide.2 (HC _)).mono ?_; rintro e w' ⟨rfl, q, rfl⟩)
          refine ⟨(fun f h => trivial), ?_⟩
          gi_wp2
          go_roundw
          case rel => exact ⟨pre, [], false, by first | exact hBe | (simpa using hBe), rfl, rfl, by simp, by rw [HX.out, HP.out]; simp, hJd _ _ _ hJs⟩
          case measure => rw [leftN_true, leftN_false]; omega
        · have hne1 := bs_ne hne
          have hne2 := bs_ne2 hne
          have hpl : pre.length < (pieces z s).length := by rw [HX.out, HP.out, if_neg hne]; simp
          gi_wp2_with (refine ⟨trivial, ?_⟩; gi_at_call 69; refine (callsIn_wide.2 (HC _)).mono ?_; rintro e w' ⟨rfl, q, rfl⟩; have hYx := hY pre (toPc (bs rest)) (wr.drewN q) (hJd _ _ _ hJs) hpl; rw [toPc_val (l := rest) (by omega)] at hYx; obtain ⟨fn, tmps, assign, body, hy, hR⟩ := hYx)
          refine hR.mono ?_
          rintro e W3 (⟨rfl, hJ3, hk3⟩ | ⟨rfl, hJx3⟩)
          · gi_wp2
            refine ⟨⟨pre ++ [toPc (bs rest)], [], false, (cell_same hk3).trans hBe, rfl, rfl, by simp, by rw [HX.out, HP.out, if_neg hne]; simp, hJ3⟩, ?_⟩
            rw [leftN_true, leftN_false]
            omega
          · gi_wp2
            refine bodyPost_ret (results_none rfl _ _ _) rfl ?_
            exact ⟨⟨_, rfl⟩, .inr ⟨pre ++ [toPc (bs rest)], ⟨[], by rw [HX.out, HP.out, if_neg hne]; simp⟩, hJx3⟩⟩

set_option maxHeartbeats 1000000 in
/-- The function value that tells the pieces: the text and the end lie in boxes of their own. -/
theorem pieces_in (n : Nat) (s z : ByteArray) (w : World) :
    CallsIn Fence.wide n Tryz.prog 58 #[.string s, .string z] w fun e w' => e = .returned (.func (.func 68) #[] #[.pointer (some ⟨w.heap.size, 0, none⟩), .pointer (some ⟨w.heap.size + 1, 0, none⟩)]) ∧ w' = (w.alloc (.cells #[.string s] 9)).alloc (.cells #[.string z] 9) := by
  refine callsIn_of_wp Tryz.func58 rfl trivial ?_ rfl
  simp only [Tryz.ntmps58, List.size_toArray, List.length_cons, List.length_nil, Nat.reduceAdd, Nat.reduceSub, Array.replicate_succ, Array.replicate_zero, List.push_toArray, List.append_toArray, List.nil_append, List.cons_append]
  gi_wp2
  go_ret
  exact ⟨rfl, rfl⟩
/-- What a round of such a loop must keep: the end's box. -/
def KpB (B : Nat) (W W' : World) : Prop := W'.heap[B]? = W.heap[B]?
theorem kpb_t {B : Nat} {X Y Z : World} (h : KpB B X Y) (k : KpB B Y Z) : KpB B X Z := k.trans h
theorem kpb_b {B : Nat} {w : World} (hB : B < w.heap.size) (W : World) (l : Nat) (o o' : Obj) (hl : w.heap.size ≤ l) (_ : W.heap[l]? = some o) (_ : o.isCells = false) (_ : o.isWalk = false) : KpB B W (W.putObj l o') := by
  show (W.putObj l o').heap[B]? = W.heap[B]?
  simp only [World.putObj]
  rw [Array.getElem?_setIfInBounds_ne (by omega)]
theorem kpb_of {n₀ B : Nat} {W W' : World} (h : Below n₀ W W') (h1 : B < n₀) : KpB B W W' := h.block B h1

theorem pieces_stops (z : UInt8) (n : Nat) (hn : 1 ≤ n) (Bn Be : Nat) (s : List UInt8) (hs : s.length ≤ 281474976710656) (w : World) (hBn : Bn < w.heap.size) (hc : w.cell? ⟨Bn, 0, none⟩ = some (.string (bs s))) (hBe : Be < w.heap.size) (he : w.cell? ⟨Be, 0, none⟩ = some (.string ⟨#[z]⟩)) :
    SeqStopsK Fence.wide n Tryz.prog 68 #[.pointer (some ⟨Bn, 0, none⟩), .pointer (some ⟨Be, 0, none⟩)] (fun x : Pc => #[Value.string x.1]) (KpB Be) (fun ys => ys = pieces z s) (fun pre => pre <+: pieces z s) (pieces z s).length w := fun l J Jx W hW hJ _ hY h0 =>
  pieces1_in z n hn l Bn Be s hs J Jx (fun pre W q h => hJ pre W _ none h (grown_drewN W q none) (fun r e => by cases e)) hY W ((hW.cell (p := ⟨Bn, 0, none⟩) hBn).trans hc) ((hW.cell (p := ⟨Be, 0, none⟩) hBe).trans he) h0
end Go.Proofs.YtmaekpfkkpkgpaaGreatDoor
