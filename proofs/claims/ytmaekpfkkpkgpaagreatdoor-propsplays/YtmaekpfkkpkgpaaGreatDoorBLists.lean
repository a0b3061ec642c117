/-
  Frees, Totals, Victims of one block.
-/
import Derived.Test.YtmaekpfkkpkgpaaGreatDoorBThose
namespace Go.Proofs.YtmaekpfkkpkgpaaGreatDoor
open Go.RowKit Go.Shelf
set_option maxRecDepth 10000

theorem dirty_any (u s l : Int) (c : Bool) (w : World) (h1 : 0 ≤ l) (h2 : l ≤ s) (h3 : s ≤ 16777216) : Calls Tryz.prog 46 #[.agg #[.int .i64 u, .int .i64 s, .int .i64 l, .bool c]] w fun e w' => e = .returned (.int .i64 (s - l)) ∧ Below w.heap.size w w' := by
  go_enter Tryz.func46, Tryz.ntmps46
  go_wp2
  try go_quiet (fail)
  try go_wp2
  go_ret
  first
  | exact ⟨rfl, below_new _ _⟩
  | exact ⟨rfl, Below.after (below_new _ _) (below_drawn _ _)⟩
theorem frees1_any (x : PB) (w : World) : Calls Tryz.prog 55 #[.agg #[.int .i64 x.use, .int .i64 x.used, .int .i64 x.live, .bool x.closed]] w fun e w' => e = .returned (.bool (decide (x.use = 0))) ∧ Below w.heap.size w w' := by
  have kF := free_any x.use x.used x.live x.closed (w.alloc (.cells #[.int .i64 x.use, .int .i64 x.used, .int .i64 x.live, .bool x.closed] 54))
  go_enter Tryz.func55, Tryz.ntmps55
  go_wp2_with (go_at_call 42; refine kF.mono ?_; rintro e w1 ⟨rfl, hb1⟩; have HB1 := hidW hb1; clear hb1)
  go_ret
  exact ⟨rfl, Below.after (below_new _ _) HB1.out⟩
/-- The free ones. -/
def freesF (l : List PB) : List Int := thoseF (fun x => decide (x.use = 0)) 0 l
theorem frees_any {w : World} {p q cap : Nat} {size : Int} {l : List PB} (h : BLies w p q cap size l) (hn : l.length ≤ 256) :
    Calls Tryz.prog 32 #[.pointer (some ⟨p, 0, none⟩)] w fun e w' => ∃ v, e = .returned v ∧ OwnI w.heap.size w' v (freesF l) ∧ Below w.heap.size w w' := by
  have kT := those_free h hn (fun x => decide (x.use = 0)) (fun X x _ _ => frees1_any x X)
  clear h
  go_enter Tryz.func32, Tryz.ntmps32
  go_wp2_with (go_at_call 47; refine kT.mono ?_; rintro e w1 ⟨v, rfl, ho, hb1⟩; obtain ⟨a, cc, rfl⟩ := owns_form ho; have HB1 := hidW (And.intro ho hb1); clear hb1 ho)
  go_ret
  exact ⟨_, rfl, HB1.out.1, HB1.out.2⟩
def sumU : List PB → Int
  | [] => 0
  | x :: l => x.used + sumU l
def sumL : List PB → Int
  | [] => 0
  | x :: l => x.live + sumL l
theorem sumU_snoc (x : PB) : ∀ l, sumU (l ++ [x]) = sumU l + x.used
  | [] => by simp [sumU]
  | y :: l => by rw [List.cons_append]; simp only [sumU]; rw [sumU_snoc x l]; omega
theorem sumL_snoc (x : PB) : ∀ l, sumL (l ++ [x]) = sumL l + x.live
  | [] => by simp [sumL]
  | y :: l => by rw [List.cons_append]; simp only [sumL]; rw [sumL_snoc x l]; omega
theorem sums_le {size : Int} (hs : 0 ≤ size) : ∀ l, AllOk size l → 0 ≤ sumL l ∧ sumL l ≤ sumU l ∧ sumU l ≤ l.length * size
  | [], _ => by simp [sumL, sumU]
  | x :: l, h => by
    have h1 := h x (by simp)
    have h2 := sums_le hs l (fun y hy => h y (List.mem_cons_of_mem _ hy))
    have := h1.l0
    have := h1.lu
    have := h1.us
    simp only [sumL, sumU, List.length_cons]
    rw [show ((l.length + 1 : Nat) : Int) * size = l.length * size + size by rw [Int.natCast_add, Int.add_mul]; simp]
    omega
set_option maxHeartbeats 4000000 in
theorem totals_any {w : World} {p q cap : Nat} {size : Int} {l : List PB} (h : BLies w p q cap size l) (hO : BkOk size l) :
    Calls Tryz.prog 17 #[.pointer (some ⟨p, 0, none⟩)] w fun e w' => e = .returned (.tuple #[.int .i64 (freesF l).length, .int .i64 (sumU l), .int .i64 (sumL l), .int .i64 (sumU l - sumL l)]) ∧ Below w.heap.size w w' := by
  have c1 := h.box.cell (i := 1) rfl
  have HM : Hid (∀ X, Below w.heap.size w X → BLies X p q cap size l) := fun X hb => h.later hb
  have HO := hidW hO
  have hs2 := hO.s2
  have hs1 := hO.s1
  have hn := hO.n2
  clear h hO
  go_enter Tryz.func17, Tryz.ntmps17
  go_wp2_with fail
  go_loopg [3, 4, 5, 15] l.length (fun kx s3 s4 s5 s15 wr => ∃ (k : Nat) (A B : Int), k + kx = l.length ∧ s3 = .int .i64 A ∧ s4 = .int .i64 B ∧ s5 = .int .i64 (A - B) ∧ s15 = .int .i64 (k : Nat) ∧ Hid (A = sumU (l.take k) ∧ B = sumL (l.take k) ∧ Below w.heap.size w wr) ∧ 0 ≤ B ∧ B ≤ A ∧ A ≤ 5000000000)
  case atStart => exact ⟨0, 0, 0, by omega, rfl, rfl, rfl, rfl, ⟨rfl, rfl, Below.refl _ _⟩, by omega, by omega, by omega⟩
  case round =>
    obtain ⟨k, A, B, hk, rfl, rfl, rfl, rfl, HA, a1, a2, a3⟩ := hrel
    by_cases hlt : k < l.length
    · obtain ⟨x, hx⟩ : ∃ x, l[k]? = some x := ⟨_, List.getElem?_eq_getElem hlt⟩
      have hok := HO.out.ok x (List.mem_of_getElem? hx)
      obtain ⟨g0, g1, g2, g3⟩ := (HM.out wr HA.out.2.2).at hx
      have n0 : ¬ (k : Int) < 0 := by omega
      have n1 : (k : Int) < (l.length : Int) := by omega
      have b1 := hok.l0
      have b2 := hok.lu
      have b3 := hok.us
      have eU : sumU (l.take (k + 1)) = A + x.used := by rw [List.take_add_one, hx]; simp only [Option.toList]; rw [sumU_snoc, HA.out.1]
      have eL : sumL (l.take (k + 1)) = B + x.live := by rw [List.take_add_one, hx]; simp only [Option.toList]; rw [sumL_snoc, HA.out.2.1]
      have bnd := (sums_le (by omega) (l.take (k + 1)) (fun y hy => HO.out.ok y (List.mem_of_mem_take hy))).2.2
      have bnd2 : A + x.used ≤ 5000000000 := by
        rw [← eU]
        refine Int.le_trans bnd ?_
        have h5 : (((l.take (k + 1)).length : Nat) : Int) ≤ 256 := by rw [List.length_take]; omega
        have h6 : (((l.take (k + 1)).length : Nat) : Int) * size ≤ 256 * 16777216 := Int.mul_le_mul h5 hs2 (by omega) (by decide)
        omega
      have hEU := hidW eU
      have hEL := hidW eL
      have kD := dirty_any x.use x.used x.live x.closed (wr.alloc (.cells #[.int .i64 x.use, .int .i64 x.used, .int .i64 x.live, .bool x.closed] 54)) b1 b2 (by omega)
      have HB2 := hidW (Below.after HA.out.2.2 (below_new wr (.cells #[.int .i64 x.use, .int .i64 x.used, .int .i64 x.live, .bool x.closed] 54)))
      clear hx hok eU eL bnd
      go_wp2_with (go_at_call 46; refine kD.mono ?_; rintro e w3 ⟨rfl, hb3⟩; have HB3 := hidW (Below.after HB2.out hb3); clear hb3)
      go_roundg (l.length - (k + 1))
      case measure => omega
      case rel => exact ⟨k + 1, A + x.used, B + x.live, by omega, rfl, rfl, by congr 1; omega, by go_num, ⟨hEU.out.symm, hEL.out.symm, HB3.out⟩, by omega, by omega, bnd2⟩
    · have hkk : k = l.length := by omega
      have n1 : ¬ (k : Int) < (l.length : Int) := by omega
      have HA2 := HA
      rw [hkk, List.take_length] at HA2
      have kF := frees_any (HM.out wr HA.out.2.2) hn
      clear hkk hlt hk
      go_wp2_with (go_at_call 32; refine kF.mono ?_; rintro e w3 ⟨v3, rfl, ho3, hb3⟩; obtain ⟨a4, cc4, rfl⟩ := owns_form ho3; have HB3 := hidW (Below.after HA.out.2.2 hb3); clear hb3 ho3)
      refine bodyPost_ret (v := .tuple #[.int .i64 (freesF l).length, .int .i64 A, .int .i64 B, .int .i64 (A - B)]) ?_ rfl ⟨?_, HB3.out⟩
      · simp [results, Tryz.f17, go_sem]
      · rw [HA2.out.1, HA2.out.2.1]
end Go.Proofs.YtmaekpfkkpkgpaaGreatDoor
