/-
  Sums, what a node costs, what a list of nodes costs.
-/
import Derived.Test.YtplhlbajgijohabPM
import Derived.ProofKit
import Derived.OpenShut
import Derived.ShutString
import Derived.ChangeOld
import Derived.SizedLaws
import Derived.Deep.Slices
import Derived.Deep.SlicePairs
namespace Go.Proofs.Ytplhlbajgijohab
open Go.ChangeShapes Go.WideShapes Go.ChangeAt Go.RowKit Go.Deep
set_option maxRecDepth 10000

/-- The slice's elements are the numbers l. -/
def IRow (w : World) (a : Option Addr) (l : List Nat) : Prop :=
  l = [] ∨ ∃ b off, a = some ⟨b, off, none⟩ ∧ ∀ (i x : Nat), (l[i]? : Option Nat) = some x → w.cell? ⟨b, off + i, none⟩ = some (.int .i64 (x : Int))
theorem irow_new2 (w : World) (a b : Nat) (t : TypeId) : IRow (w.alloc (.cells #[.int .i64 (a : Int), .int .i64 (b : Int)] t)) (some ⟨w.heap.size, 0, none⟩) [a, b] := by
  refine .inr ⟨_, 0, rfl, fun i x hi => ?_⟩
  rcases i with _ | _ | i
  · simp at hi; subst hi; simp
  · simp at hi; subst hi; simp
  · simp at hi
theorem irow_new4 (w : World) (a b c d : Nat) (t : TypeId) : IRow (w.alloc (.cells #[.int .i64 (a : Int), .int .i64 (b : Int), .int .i64 (c : Int), .int .i64 (d : Int)] t)) (some ⟨w.heap.size, 0, none⟩) [a, b, c, d] := by
  refine .inr ⟨_, 0, rfl, fun i x hi => ?_⟩
  rcases i with _ | _ | _ | _ | i
  · simp at hi; subst hi; simp
  · simp at hi; subst hi; simp
  · simp at hi; subst hi; simp
  · simp at hi; subst hi; simp
  · simp at hi

set_option maxHeartbeats 2000000 in
theorem sum_any (most : Nat) (hm : most < 9223372036854775808) (a : Option Addr) (len cap : Nat) (l : List Nat) (hl : len = l.length) (hc : len ≤ cap) (hx : cap ≤ maxLen) (hb : ∀ x ∈ l, x < 9223372036854775808) (w : World) (hr : IRow w a l) :
    Calls Try.prog 31 #[.int .i64 (most : Int), .slice a len cap] w fun e w' => e = .returned (.int .i64 ((min most l.sum : Nat) : Int)) ∧ w = w' := by
  have HR : Hid (IRow w a l) := hr
  have HL : Hid (len = l.length) := hl
  have HB : Hid (∀ x ∈ l, x < 9223372036854775808) := hb
  unfold maxLen at hx
  obtain ⟨R, eR⟩ : ∃ R, R = min most l.sum := ⟨_, rfl⟩
  have HS : Hid (sumF most 0 l = R) := by show _ = _; rw [sumF_eq (Nat.zero_le _), Nat.zero_add, eR]
  rw [← eR]
  clear eR hr hl hb
  go_enter Try.func31, Try.ntmps31
  go_wp2
  go_loopg [5, 10] len (fun kx s5 s10 wr => ∃ (i t : Nat), i + kx = len ∧ s5 = .int .i64 (t : Nat) ∧ s10 = .int .i64 (i : Nat) ∧ wr = w ∧ t ≤ most ∧ Hid (sumF most t (l.drop i) = R))
  case atStart => exact ⟨0, 0, by omega, rfl, rfl, rfl, Nat.zero_le _, by rw [List.drop_zero]; exact HS.out⟩
  case round =>
    obtain ⟨i, t, hi, rfl, rfl, rfl, htm, I⟩ := hrel
    by_cases hlt : i < len
    · obtain ⟨x, hxi⟩ : ∃ x, l[i]? = some x := ⟨_, List.getElem?_eq_getElem (by have := HL.out; omega)⟩
      obtain ⟨hxl, hxe⟩ := List.getElem?_eq_some_iff.1 hxi
      have hdr : l.drop i = x :: l.drop (i + 1) := by rw [← hxe, ← List.drop_eq_getElem_cons hxl]
      rcases HR.out with e | ⟨b, off, rfl, hcl⟩
      · rw [e] at hxl; simp at hxl
      have q0 := hcl i x hxi
      have hx2 := HB.out x (List.mem_of_getElem? hxi)
      have hi1 : (i : Int) < (len : Int) := by omega
      have b1 : (0 : Int) ≤ (most : Int) - (t : Int) := by omega
      have b2 : (most : Int) - (t : Int) ≤ 9223372036854775807 := by omega
      have HT := I.out
      rw [hdr, sumF] at HT
      clear hcl hdr hxe hxl hxi
      by_cases hgt : most - t < x
      · rw [if_pos hgt] at HT
        have HT2 : Hid (most = R) := HT
        have hg : (most : Int) - (t : Int) < (x : Int) := by omega
        clear HT
        go_wp2
        go_ret
        exact ⟨ret_int (by rw [HT2.out]), rfl⟩
      · rw [if_neg hgt] at HT
        have HT2 : Hid (sumF most (t + x) (l.drop (i + 1)) = R) := HT
        have hg : ¬ (most : Int) - (t : Int) < (x : Int) := by omega
        clear HT
        go_wp2
        go_roundg (len - (i + 1))
        case measure => omega
        case rel => exact ⟨i + 1, t + x, by omega, by go_num, by go_num, rfl, by omega, HT2.out⟩
    · have hkl : i = len := by omega
      subst hkl
      have HT := I.out
      rw [HL.out, List.drop_eq_nil_of_le (Nat.le_refl _), sumF] at HT
      have HT2 : Hid (t = R) := HT
      clear HT I
      go_wp2
      go_ret
      exact ⟨ret_int (by rw [HT2.out]), rfl⟩

theorem node_any (k v : KK) (hk : k.size ≤ 140737488355328) (hv : v.size ≤ 140737488355328) (w : World) :
    Calls Try.prog 16 #[.string k, .string v] w fun e w' => e = .returned (.int .i64 ((cst k v : Nat) : Int)) ∧ Below w.heap.size w w' := by
  have hs : ∀ W : World, Calls Try.prog 31 #[.int .i64 9223372036854775807, .slice (some ⟨W.heap.size, 0, none⟩) 4 4] (W.alloc (.cells #[.int .i64 64, .int .i64 (k.size : Int), .int .i64 (k.size : Int), .int .i64 (v.size : Int)] 3)) fun e w' => e = .returned (.int .i64 ((cst k v : Nat) : Int)) ∧ (W.alloc (.cells #[.int .i64 64, .int .i64 (k.size : Int), .int .i64 (k.size : Int), .int .i64 (v.size : Int)] 3)) = w' := by
    intro W
    have h := sum_any 9223372036854775807 (by decide) (some ⟨W.heap.size, 0, none⟩) 4 4 [64, k.size, k.size, v.size] rfl (Nat.le_refl _) (by unfold maxLen; omega) (by intro x hx; simp only [List.mem_cons, List.not_mem_nil, or_false] at hx; omega) _ (irow_new4 W 64 k.size k.size v.size 3)
    have e : min 9223372036854775807 [64, k.size, k.size, v.size].sum = cst k v := by simp only [List.sum_cons, List.sum_nil, cst]; omega
    rw [e] at h
    exact h
  obtain ⟨C, eC⟩ : ∃ C, C = cst k v := ⟨_, rfl⟩
  rw [← eC] at hs ⊢
  clear eC
  go_enter Try.func16, Try.ntmps16
  go_wp2_with (go_at_call 31; refine (hs _).mono ?_; rintro e w1 ⟨rfl, rfl⟩)
  go_ret
  exact ⟨rfl, below_new _ _⟩

/-- The slice's elements are the nodes l. -/
def NRow (w : World) (a : Option Addr) (l : List Nw) : Prop :=
  l = [] ∨ ∃ b off, a = some ⟨b, off, none⟩ ∧ ∀ i y, l[i]? = some y → w.cell? ⟨b, off + i * 3, none⟩ = some (.string y.k) ∧ w.cell? ⟨b, off + i * 3 + 1, none⟩ = some (.string y.v) ∧ w.cell? ⟨b, off + i * 3 + 2, none⟩ = some (.bool y.g)
structure NArg (w : World) (a : Option Addr) (len cap : Nat) (l : List Nw) : Prop where
  len_eq : len = l.length
  le : len ≤ cap
  max : cap ≤ maxLen
  row : NRow w a l
  keys : ∀ y ∈ l, y.k.size ≤ 140737488355328
  vals : ∀ y ∈ l, y.v.size ≤ 140737488355328
theorem NRow.later {w w' : World} {a : Option Addr} {l : List Nw} (h : NRow w a l) (hb : Below w.heap.size w w') : NRow w' a l := by
  rcases h with h | ⟨b, off, ha, hc⟩
  · exact .inl h
  · refine .inr ⟨b, off, ha, fun i y hy => ?_⟩
    obtain ⟨q0, q1, q2⟩ := hc i y hy
    exact ⟨(hb.cell (p := ⟨b, off + i * 3, none⟩) (World.block_lt_of_cell? w _ q0)).trans q0, (hb.cell (p := ⟨b, off + i * 3 + 1, none⟩) (World.block_lt_of_cell? w _ q1)).trans q1, (hb.cell (p := ⟨b, off + i * 3 + 2, none⟩) (World.block_lt_of_cell? w _ q2)).trans q2⟩
theorem NArg.later {w w' : World} {a : Option Addr} {len cap : Nat} {l : List Nw} (h : NArg w a len cap l) (hb : Below w.heap.size w w') : NArg w' a len cap l :=
  ⟨h.len_eq, h.le, h.max, h.row.later hb, h.keys, h.vals⟩
theorem nrow_at {w : World} {a : Option Addr} {l : List Nw} (h : NRow w a l) {i : Nat} (hi : i < l.length) :
    ∃ b off y, a = some ⟨b, off, none⟩ ∧ l[i]? = some y ∧ y ∈ l ∧ l.take (i + 1) = l.take i ++ [y] ∧ l.drop i = y :: l.drop (i + 1) ∧ w.cell? ⟨b, off + i * 3, none⟩ = some (.string y.k) ∧ w.cell? ⟨b, off + i * 3 + 1, none⟩ = some (.string y.v) ∧ w.cell? ⟨b, off + i * 3 + 2, none⟩ = some (.bool y.g) := by
  rcases h with e | ⟨b, off, e, hc⟩
  · rw [e] at hi; simp at hi
  · have hy : l[i]? = some (l[i]'hi) := List.getElem?_eq_getElem hi
    exact ⟨b, off, _, e, hy, List.mem_of_getElem? hy, List.take_succ_eq_append_getElem hi, (List.drop_eq_getElem_cons hi), hc i _ hy⟩

/-- A sum of two that stops at top. -/
theorem sum2 (a b : Nat) (ha : a ≤ top) (hb : b < 9223372036854775808) (W : World) :
    Calls Try.prog 31 #[.int .i64 4611686018427387904, .slice (some ⟨W.heap.size, 0, none⟩) 2 2] (W.alloc (.cells #[.int .i64 (a : Int), .int .i64 (b : Int)] 3)) fun e w' => e = .returned (.int .i64 ((min top (a + b) : Nat) : Int)) ∧ (W.alloc (.cells #[.int .i64 (a : Int), .int .i64 (b : Int)] 3)) = w' := by
  unfold top at ha
  have h := sum_any top (by decide) (some ⟨W.heap.size, 0, none⟩) 2 2 [a, b] rfl (Nat.le_refl _) (by unfold maxLen; omega) (by intro x hx; simp only [List.mem_cons, List.not_mem_nil, or_false] at hx; omega) _ (irow_new2 W a b 3)
  have e : min top [a, b].sum = min top (a + b) := by simp only [List.sum_cons, List.sum_nil]; omega
  rw [e] at h
  exact h
theorem cst_lt {k v : KK} (hk : k.size ≤ 140737488355328) (hv : v.size ≤ 140737488355328) : cst k v < 9223372036854775808 := by unfold cst; omega

end Go.Proofs.Ytplhlbajgijohab
