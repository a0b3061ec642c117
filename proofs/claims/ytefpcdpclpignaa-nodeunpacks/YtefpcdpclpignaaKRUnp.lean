/-
  The document's answer of Unpack of layer 6.
-/
import Derived.Test.YtefpcdpclpignaaKRMark
import Derived.BigRegion
namespace Go.Proofs.Ytefpcdpclpignaa
open Go.RowKit M

set_option maxRecDepth 10000 in
set_option maxHeartbeats 1000000 in
theorem runp_len (a : Option Addr) (n cap : Nat) (l : List Nat) (hn : n = l.length) (h : n < 2) (w : World) (hr : BRow w a l) :
    Calls Try.prog 43 #[.slice a n cap] w fun e w' => e = .returned (.tuple #[Nd.zero.v, .bool false]) ∧ Below w.heap.size w w' := by
  have hcv : ∀ o : Obj, (convert 43 9 (.slice a n cap)).run Try.prog (w.alloc o) = .ok (.string (bs (u8s l))) (w.alloc o) := fun o => by rw [hn]; exact conv_row cap (hr.later (below_new _ _))
  have hz : (bs (u8s l)).size < 2 := by rw [bs_size, u8s_length]; omega
  obtain ⟨S, eS⟩ : ∃ S, S = bs (u8s l) := ⟨_, rfl⟩
  rw [← eS] at hcv hz
  have hz2 : (S.size : Int) < 2 := by omega
  clear eS hn hr h
  go_enter Try.func43, Try.ntmps43
  go_wp2
  (try simp only [Exit.inBlock, Exit.then])
  refine bodyPost_ret (v := .tuple #[Nd.zero.v, .bool false]) ?_ rfl ⟨rfl, ?_⟩
  · rw [results_cell_tmp rfl]
    go_simp
    rfl
  · first | exact below_set3 (below_new _ _) (Nat.le_refl _) _ _ _ | exact below_new _ _

/-- What is told of the text of bytes that begin with two. -/
structure Tx (S : ByteArray) (x y : UInt8) (r : List UInt8) : Prop where
  eq : S = bs (x :: y :: r)
theorem Tx.at0 {S : ByteArray} {x y : UInt8} {r : List UInt8} (h : Tx S x y r) (hs : 0 < S.size) : S[0]'hs = x := by
  have := h.eq; subst this; obtain ⟨_, e⟩ := bs_get hs; exact e
theorem Tx.at1 {S : ByteArray} {x y : UInt8} {r : List UInt8} (h : Tx S x y r) (hs : 1 < S.size) : S[1]'hs = y := by
  have := h.eq; subst this; obtain ⟨_, e⟩ := bs_get hs; exact e

set_option maxRecDepth 10000 in
set_option maxHeartbeats 1000000 in
theorem runp_tag (a : Option Addr) (n cap : Nat) (S : ByteArray) (x y : UInt8) (r : List UInt8) (hS : Tx S x y r) (hx : x ≠ 1 ∧ x ≠ 2) (w : World)
    (hcv : ∀ o : Obj, (convert 43 9 (.slice a n cap)).run Try.prog (w.alloc o) = .ok (.string S) (w.alloc o)) :
    Calls Try.prog 43 #[.slice a n cap] w fun e w' => e = .returned (.tuple #[Nd.zero.v, .bool false]) ∧ Below w.heap.size w w' := by
  have hz : S.size = 2 + r.length := by rw [hS.eq, bs_size]; simp; omega
  have hz0 : 0 < S.size := by omega
  have hz2 : decide ((S.size : Int) < 2) = false := decide_eq_false (by omega)
  have hx0 := hS.at0 hz0
  have d1 : ((x.toNat : Int) != 1) = true := by rw [bne_iff_ne]; intro e; exact hx.1 (UInt8.toNat_inj.1 (show x.toNat = 1 by omega))
  have d2 : ((x.toNat : Int) != 2) = true := by rw [bne_iff_ne]; intro e; exact hx.2 (UInt8.toNat_inj.1 (show x.toNat = 2 by omega))
  clear hS hx hz
  go_enter Try.func43, Try.ntmps43
  go_wp2
  (try simp only [Exit.inBlock, Exit.then])
  refine bodyPost_ret (v := .tuple #[Nd.zero.v, .bool false]) ?_ rfl ⟨rfl, ?_⟩
  · rw [results_cell_tmp rfl]
    go_simp
    rfl
  · first | exact below_set3 (below_new _ _) (Nat.le_refl _) _ _ _ | exact below_new _ _

set_option maxRecDepth 10000 in
set_option maxHeartbeats 1000000 in
theorem runp_short (a : Option Addr) (n cap : Nat) (S : ByteArray) (x y : UInt8) (r : List UInt8) (hS : Tx S x y r) (hx : x = 1 ∨ x = 2) (hl : r.length < y.toNat + 2) (w : World)
    (hcv : ∀ o : Obj, (convert 43 9 (.slice a n cap)).run Try.prog (w.alloc o) = .ok (.string S) (w.alloc o)) :
    Calls Try.prog 43 #[.slice a n cap] w fun e w' => e = .returned (.tuple #[Nd.zero.v, .bool false]) ∧ Below w.heap.size w w' := by
  have hz : S.size = 2 + r.length := by rw [hS.eq, bs_size]; simp; omega
  have hz0 : 0 < S.size := by omega
  have hz1 : 1 < S.size := by omega
  have hz2 : decide ((S.size : Int) < 2) = false := decide_eq_false (by omega)
  have hx0 := hS.at0 hz0
  have hx1 := hS.at1 hz1
  have hy := y.toNat_lt
  obtain ⟨k, ek⟩ : ∃ k, k = y.toNat := ⟨_, rfl⟩
  have hk : (y.toNat : Int) = (k : Int) := by rw [ek]
  rw [← ek] at hl hy
  have d3 : decide ((S.size : Int) < 2 + (k : Int) + 2) = true := decide_eq_true (by omega)
  rcases hx with rfl | rfl
  all_goals
    clear hS hz ek
    go_enter Try.func43, Try.ntmps43
    go_wp2
    (try simp only [Exit.inBlock, Exit.then])
    refine bodyPost_ret (v := .tuple #[Nd.zero.v, .bool false]) ?_ rfl ⟨rfl, ?_⟩
    · rw [results_cell_tmp rfl]
      go_simp
      rfl
    · first | exact below_set3 (below_new _ _) (Nat.le_refl _) _ _ _ | exact below_new _ _
end Go.Proofs.Ytefpcdpclpignaa
