/-
  The document's Of, Frees, Least, Totals.
-/
import Derived.Test.YtmaekpfkkpkgpaaGreatDoorRA5
import Derived.Test.YtmaekpfkkpkgpaaGreatDoorBSums
namespace Go.Proofs.YtmaekpfkkpkgpaaGreatDoor
open Go.RowKit
set_option maxRecDepth 10000

/-- The blocks of that use (of the use 0 the free ones). -/
def useB (use : Int) (x : PB) : Bool := decide (x.use = use)
theorem own_nil (w : World) (base : Nat) : OwnI base w (.slice none 0 0) [] := ⟨rfl, .inl ⟨rfl, rfl⟩⟩
set_option maxHeartbeats 4000000 in
theorem dof_any {w : World} {p q cap : Nat} {size : Int} {l : List PB} (h : DLies w p q cap size l) (hn : l.length ≤ 256) (use : Int) :
    Calls Tryz.prog 31 #[.pointer (some ⟨p, 0, none⟩), .int .i64 use] w fun e w' => ∃ v, e = .returned v ∧ OwnI w.heap.size w' v (thoseF (useB use) 0 l) ∧ Below w.heap.size w w' := by
  have HM : Hid (∀ X, Below w.heap.size w X → DLies X p q cap size l) := fun X hb => h.later hb
  have HAX := hidW (show Am w w (.slice none 0 0) [] from ⟨Below.refl _ _, own_nil _ _⟩)
  clear h
  go_enter Tryz.func31, Tryz.ntmps31
  go_wp2_with fail
  go_loopg [5, 6] l.length (fun kx s5 s6 wr => ∃ (k : Nat) (v : Value), k + kx = l.length ∧ v = s5 ∧ s6 = .int .i64 (k : Nat) ∧ Hid (Am w wr v (thoseF (useB use) 0 (l.take k))))
  case atStart => exact ⟨0, _, by omega, rfl, rfl, HAX⟩
  case round =>
    obtain ⟨k, v, hk, rfl, rfl, HA⟩ := hrel
    have c1 := (HM.out wr HA.out.bel).box.cell (i := 1) rfl
    by_cases hlt : k < l.length
    · obtain ⟨x, hx⟩ : ∃ x, l[k]? = some x := ⟨_, List.getElem?_eq_getElem hlt⟩
      have HT : Hid (thoseF (useB use) 0 (l.take (k + 1)) = thoseF (useB use) 0 (l.take k) ++ (if useB use x = true then [(k : Int)] else [])) := thoseF_take (useB use) hx
      obtain ⟨g0, g1, g2, g3⟩ := (HM.out wr HA.out.bel).at hx
      have n0 : ¬ (k : Int) < 0 := by omega
      have n1 : (k : Int) < (l.length : Int) := by omega
      have hll : (thoseF (useB use) 0 (l.take k)).length ≤ 256 := by
        have := thoseF_len (useB use) (l.take k) 0
        rw [List.length_take] at this
        omega
      obtain ⟨A, hA⟩ : ∃ A, A = thoseF (useB use) 0 (l.take k) := ⟨_, rfl⟩
      rw [← hA] at HA HT hll
      clear hx hA
      by_cases hq : x.use = use
      · have e0 : (x.use == use) = true := by simpa using hq
        have HT2 : Hid (thoseF (useB use) 0 (l.take (k + 1)) = A ++ [(k : Int)]) := (by have := HT.out; rw [if_pos (by unfold useB; simpa using hq)] at this; exact this : thoseF (useB use) 0 (l.take (k + 1)) = A ++ [(k : Int)])
        have HLn : Hid (A.length ≤ 256) := hll
        have HNew : Hid ((wr.alloc (.cells #[.int .i64 (k : Int)] 3)).cell? ((⟨wr.heap.size, 0, none⟩ : Addr).add 0) = some (intV (k : Int)) ∧ OwnI w.heap.size (wr.alloc (.cells #[.int .i64 (k : Int)] 3)) v A ∧ Below w.heap.size w (wr.alloc (.cells #[.int .i64 (k : Int)] 3))) := ⟨new_int wr k _, HA.out.own.later (below_new _ _), Below.after HA.out.bel (below_new _ _)⟩
        clear hll hq HT
        go_wp2_with (at_builtin; refine wpList_append_int rfl (.tmp 30) (.tmp 32) rfl w.heap.size v A.length (A.map intV) rfl HNew.out.2.1 ⟨wr.heap.size, 0, none⟩ 1 (k : Int) rfl HNew.out.1 (by have := HLn.out; unfold maxLen; omega) (by have := HLn.out; omega) HNew.out.2.2.size ?_; intro v5 w5 hown hgrow; have HO5 : Hid (OwnI w.heap.size w5 v5 (A ++ [(k : Int)]) ∧ Below w.heap.size w w5) := ⟨by have := hown; unfold OwnI; rw [List.map_append, List.length_append]; exact this, HNew.out.2.2.grown hgrow HNew.out.2.2.size (fun q hq => HNew.out.2.1.block q hq)⟩; clear hown hgrow)
        go_roundg (l.length - (k + 1))
        case measure => omega
        case rel => exact ⟨k + 1, v5, by omega, rfl, by go_num, ⟨HO5.out.2, by rw [HT2.out]; exact HO5.out.1⟩⟩
      · have e0 : (x.use == use) = false := by simpa using hq
        have HT2 : Hid (thoseF (useB use) 0 (l.take (k + 1)) = A) := (by have := HT.out; rw [if_neg (by unfold useB; simpa using hq), List.append_nil] at this; exact this : thoseF (useB use) 0 (l.take (k + 1)) = A)
        clear hq HT
        go_wp2
        go_roundg (l.length - (k + 1))
        case measure => omega
        case rel => exact ⟨k + 1, v, by omega, rfl, by go_num, by rw [HT2.out]; exact HA⟩
    · have hkk : k = l.length := by omega
      rw [hkk, List.take_length] at HA
      have n1 : ¬ (k : Int) < (l.length : Int) := by omega
      obtain ⟨a, cc, rfl⟩ := owns_form HA.out.own
      clear hkk hlt hk
      go_wp2
      go_ret
      exact ⟨_, rfl, HA.out.own, HA.out.bel⟩
theorem dfrees_any {w : World} {p q cap : Nat} {size : Int} {l : List PB} (h : DLies w p q cap size l) (hn : l.length ≤ 256) :
    Calls Tryz.prog 33 #[.pointer (some ⟨p, 0, none⟩)] w fun e w' => ∃ v, e = .returned v ∧ OwnI w.heap.size w' v (freesF l) ∧ Below w.heap.size w w' := by
  have kO := dof_any h hn 0
  have e0 : thoseF (useB 0) 0 l = freesF l := rfl
  rw [e0] at kO
  clear h e0
  go_enter Tryz.func33, Tryz.ntmps33
  go_wp2_with (go_at_call 31; refine kO.mono ?_; rintro e w3 ⟨v3, rfl, ho3, hb3⟩; have HO3 := hidW ho3; have HB3 := hidW hb3; obtain ⟨a4, cc4, rfl⟩ := owns_form ho3; clear hb3 ho3)
  go_ret
  exact ⟨_, rfl, HO3.out, HB3.out⟩
def leastF (l : List PB) : Int × Bool := match freesF l with
  | [] => (0, false)
  | x :: _ => (x, true)
set_option maxHeartbeats 1000000 in
theorem dleast_any {w : World} {p q cap : Nat} {size : Int} {l : List PB} (h : DLies w p q cap size l) (hn : l.length ≤ 256) :
    Calls Tryz.prog 29 #[.pointer (some ⟨p, 0, none⟩)] w fun e w' => e = .returned (.tuple #[.int .i64 (leastF l).1, .bool (leastF l).2]) ∧ Below w.heap.size w w' := by
  have kF := dfrees_any h hn
  obtain ⟨A, hA⟩ : ∃ A, A = freesF l := ⟨_, rfl⟩
  unfold leastF
  rw [← hA] at kF ⊢
  clear h hA
  cases A with
  | nil =>
    go_enter Tryz.func29, Tryz.ntmps29
    go_wp2_with (go_at_call 33; refine kF.mono ?_; rintro e w3 ⟨v3, rfl, ho3, hb3⟩; have HB3 := hidW hb3; obtain ⟨a4, cc4, rfl⟩ := owns_form ho3; clear hb3 ho3; simp only [List.length_nil])
    go_ret2
    exact ⟨rfl, HB3.out⟩
  | cons x A =>
    have hp : (0 : Int) < ((x :: A).length : Nat) := by simp
    have hz : (((x :: A).length : Nat) : Int) ≠ 0 := by simp; omega
    have hz2 : ((((x :: A).length : Nat) : Int) == 0) = false := by simpa using hz
    obtain ⟨m, hm⟩ : ∃ m, m = (x :: A).length := ⟨_, rfl⟩
    rw [← hm] at hp hz hz2
    have HMm := hidW hm
    clear hm
    go_enter Tryz.func29, Tryz.ntmps29
    go_wp2_with (go_at_call 33; refine kF.mono ?_; rintro e w3 ⟨v3, rfl, ho3, hb3⟩; have HB3 := hidW hb3; obtain ⟨g4, cc4, rfl, _, _, _, hr4⟩ := Row.of_owns ho3 (by simp); have r0 := hr4.cell (i := 0) (v := intV x) rfl; unfold intV at r0; clear hb3 ho3 hr4; rw [← HMm.out])
    go_ret2
    exact ⟨rfl, HB3.out⟩
set_option maxHeartbeats 4000000 in
theorem dtotals_any {w : World} {p q cap : Nat} {size : Int} {l : List PB} (h : DLies w p q cap size l) (hO : BkOk size l) :
    Calls Tryz.prog 30 #[.pointer (some ⟨p, 0, none⟩)] w fun e w' => e = .returned (.tuple #[.int .i64 (freesF l).length, .int .i64 (sumU l), .int .i64 (sumL l), .int .i64 (sumU l - sumL l)]) ∧ w = w' := by
  have c1 := h.box.cell (i := 1) rfl
  have HM : Hid (DLies w p q cap size l) := h
  have HO := hidW hO
  have hs2 := hO.s2
  have hs1 := hO.s1
  have hn := hO.n2
  clear h hO
  go_enter Tryz.func30, Tryz.ntmps30
  go_wp2_with fail
  go_loopg [6, 7, 8, 9] l.length (fun kx s6 s7 s8 s9 wr => ∃ (k F : Nat) (A B : Int), k + kx = l.length ∧ s6 = .int .i64 (F : Nat) ∧ s7 = .int .i64 A ∧ s8 = .int .i64 B ∧ s9 = .int .i64 (k : Nat) ∧ wr = w ∧ Hid (F = (freesF (l.take k)).length ∧ A = sumU (l.take k) ∧ B = sumL (l.take k)) ∧ F ≤ k ∧ 0 ≤ B ∧ B ≤ A ∧ A ≤ 5000000000)
  case atStart => exact ⟨0, 0, 0, 0, by omega, rfl, rfl, rfl, rfl, rfl, ⟨rfl, rfl, rfl⟩, by omega, by omega, by omega, by omega⟩
  case round =>
    obtain ⟨k, F, A, B, hk, rfl, rfl, rfl, rfl, rfl, HA, a0, a1, a2, a3⟩ := hrel
    by_cases hlt : k < l.length
    · obtain ⟨x, hx⟩ : ∃ x, l[k]? = some x := ⟨_, List.getElem?_eq_getElem hlt⟩
      have hok := HO.out.ok x (List.mem_of_getElem? hx)
      obtain ⟨g0, g1, g2, g3⟩ := HM.out.at hx
      have n0 : ¬ (k : Int) < 0 := by omega
      have n1 : (k : Int) < (l.length : Int) := by omega
      have b1 := hok.l0
      have b2 := hok.lu
      have b3 := hok.us
      have eF : (freesF (l.take (k + 1))).length = F + (if x.use = 0 then 1 else 0) := by
        unfold freesF
        rw [thoseF_take _ hx, List.length_append]
        have := HA.out.1
        unfold freesF at this
        rw [← this]
        congr 1
        by_cases h0 : x.use = 0 <;> simp [h0]
      have eU : sumU (l.take (k + 1)) = A + x.used := by rw [List.take_add_one, hx]; simp only [Option.toList]; rw [sumU_snoc, HA.out.2.1]
      have eL : sumL (l.take (k + 1)) = B + x.live := by rw [List.take_add_one, hx]; simp only [Option.toList]; rw [sumL_snoc, HA.out.2.2]
      have bnd := (sums_le (by omega) (l.take (k + 1)) (fun y hy => HO.out.ok y (List.mem_of_mem_take hy))).2.2
      have bnd2 : A + x.used ≤ 5000000000 := by
        rw [← eU]
        refine Int.le_trans bnd ?_
        have h5 : (((l.take (k + 1)).length : Nat) : Int) ≤ 256 := by rw [List.length_take]; omega
        have h6 : (((l.take (k + 1)).length : Nat) : Int) * size ≤ 256 * 16777216 := Int.mul_le_mul h5 hs2 (by omega) (by decide)
        omega
      have hEU := hidW eU
      have hEL := hidW eL
      clear hx hok eU eL bnd
      by_cases h0 : x.use = 0
      · rw [if_pos h0] at eF
        have e0 : (x.use == 0) = true := by simpa using h0
        have hEF := hidW eF
        clear eF h0
        go_wp2
        go_roundg (l.length - (k + 1))
        case measure => omega
        case rel => exact ⟨k + 1, F + 1, A + x.used, B + x.live, by omega, by go_num, rfl, rfl, by go_num, rfl, ⟨hEF.out.symm, hEU.out.symm, hEL.out.symm⟩, by omega, by omega, by omega, bnd2⟩
      · rw [if_neg h0] at eF
        have e0 : (x.use == 0) = false := by simpa using h0
        have hEF := hidW eF
        clear eF h0
        go_wp2
        go_roundg (l.length - (k + 1))
        case measure => omega
        case rel => exact ⟨k + 1, F, A + x.used, B + x.live, by omega, rfl, rfl, rfl, by go_num, rfl, ⟨hEF.out.symm, hEU.out.symm, hEL.out.symm⟩, by omega, by omega, by omega, bnd2⟩
    · have hkk : k = l.length := by omega
      have n1 : ¬ (k : Int) < (l.length : Int) := by omega
      have HA2 := HA
      rw [hkk, List.take_length] at HA2
      clear hkk hlt hk
      go_wp2
      refine bodyPost_ret (v := .tuple #[.int .i64 (F : Nat), .int .i64 A, .int .i64 B, .int .i64 (A - B)]) ?_ rfl ⟨?_, rfl⟩
      · simp [results, Tryz.f30, go_sem]
      · rw [HA2.out.1, HA2.out.2.1, HA2.out.2.2]
end Go.Proofs.YtmaekpfkkpkgpaaGreatDoor
