/-
  The document's answer of ParseMark of layer 6.
-/
import Derived.Test.YtefpcdpclpignaaKRUnp3
import Derived.Deep.RegionHeld3
namespace Go.Proofs.Ytefpcdpclpignaa
open Go.RowKit M

theorem rpm_len (a : Option Addr) (n cap : Nat) (h : n ≠ 10) (w : World) :
    Calls Try.prog 45 #[.slice a n cap] w fun e w' => e = .returned (.tuple #[.int .u64 0, .int .i64 0, .bool false]) ∧ Below w.heap.size w w' := by
  have h1 : ((n : Int) != 10) = true := by simp; omega
  go_enter Try.func45, Try.ntmps45
  go_wp2
  go_ret3
  exact ⟨rfl, Below.refl _ _⟩
theorem rpm_no (b off cap : Nat) (x y : Nat) (w : World) (c0 : w.cell? ⟨b, off, none⟩ = some (.int .u8 (x : Int))) (c9 : w.cell? ⟨b, off + 9, none⟩ = some (.int .u8 (y : Int))) (h : ((x : Int) != 3) = true ∨ (((x : Int) != 3) = false ∧ (y < 1 ∨ 16 < y))) :
    Calls Try.prog 45 #[.slice (some ⟨b, off, none⟩) 10 cap] w fun e w' => e = .returned (.tuple #[.int .u64 0, .int .i64 0, .bool false]) ∧ Below w.heap.size w w' := by
  rcases h with h | ⟨h, h2⟩
  · go_enter Try.func45, Try.ntmps45
    go_wp2
    go_ret3
    exact ⟨rfl, Below.refl _ _⟩
  · by_cases h3 : y < 1
    · have d1 : decide ((y : Int) < 1) = true := decide_eq_true (by omega)
      clear h2 h3
      go_enter Try.func45, Try.ntmps45
      go_wp2
      go_ret3
      exact ⟨rfl, Below.refl _ _⟩
    · have d1 : decide ((y : Int) < 1) = false := decide_eq_false (by omega)
      have d2 : decide ((16 : Int) < (y : Int)) = true := decide_eq_true (by omega)
      clear h2 h3
      go_enter Try.func45, Try.ntmps45
      go_wp2
      go_ret3
      exact ⟨rfl, Below.refl _ _⟩

set_option maxRecDepth 100000 in
set_option maxHeartbeats 2000000 in
theorem rpm_yes (b off cap : Nat) (y g : Nat) (hcap : 10 ≤ cap) (w : World) (c0 : w.cell? ⟨b, off, none⟩ = some (.int .u8 3)) (c9 : w.cell? ⟨b, off + 9, none⟩ = some (.int .u8 (y : Int))) (y1 : 1 ≤ y) (y2 : y ≤ 16)
    (hG : ∀ c, Calls Try.prog 78 #[.slice (some ⟨b, off + 1, none⟩) 8 c] w.drew fun e w' => e = .returned (.int .u64 (g : Int)) ∧ w.drew = w') :
    Calls Try.prog 45 #[.slice (some ⟨b, off, none⟩) 10 cap] w fun e w' => e = .returned (.tuple #[.int .u64 (g : Int), .int .i64 (y : Int), .bool true]) ∧ Below w.heap.size w w' := by
  have d1 : decide ((y : Int) < 1) = false := decide_eq_false (by omega)
  have d2 : decide ((16 : Int) < (y : Int)) = false := decide_eq_false (by omega)
  have g1 : (1 : Int) ≤ (cap : Int) := by omega
  have g2 : (9 : Int) ≤ (cap : Int) := by omega
  have g3 : ¬ cap = 1 := by omega
  have g4 : ¬ (cap : Int) = 1 := by omega
  have hw : IntKind.i64.wrap (y : Int) = (y : Int) := by rw [IntKind.wrap_i64]; omega
  clear y1 y2
  go_enter Try.func45, Try.ntmps45
  go_wp2_with fail
  go_region_held3 (fun w' => w'.cell? ⟨b, off + 9, none⟩ = some (.int .u8 (y : Int))) (first | assumption | go_keep)
    (first
    | (go_at_call 78; refine (hG _).mono ?_; rintro e w' ⟨rfl, rfl⟩))
  all_goals go_wp2
  all_goals go_ret3
  all_goals exact ⟨rfl, (Below.refl _ _).drew⟩

theorem rparseMark_any (a : Option Addr) (n cap : Nat) (l : List Nat) (hn : n = l.length) (hc : n ≤ cap) (hb : ∀ x ∈ l, x < 256) (w : World) (hr : BRow w a l) :
    Calls Try.prog 45 #[.slice a n cap] w fun e w' => e = .returned (.tuple #[.int .u64 ((bif pmOk (u8s l) then pmG (u8s l) else 0 : Nat) : Int), .int .i64 ((bif pmOk (u8s l) then pmC (u8s l) else 0 : Nat) : Int), .bool (pmOk (u8s l))]) ∧ Below w.heap.size w w' := by
  have hlen : (u8s l).length = n := by rw [u8s_length, hn]
  by_cases h10 : n = 10
  · subst h10
    obtain ⟨b, off, rfl, hcs⟩ : ∃ b off, a = some ⟨b, off, none⟩ ∧ ∀ i, i < l.length → w.cell? ⟨b, off + i, none⟩ = some (.int .u8 ((l.getD i 0 : Nat) : Int)) := by
      rcases hr with h | h
      · rw [h] at hn; simp at hn
      · exact h
    have c0 := hcs 0 (by omega)
    have c9 := hcs 9 (by omega)
    obtain ⟨x0, x1, x2, x3, x4, x5, x6, x7, x8, x9, rfl⟩ : ∃ x0 x1 x2 x3 x4 x5 x6 x7 x8 x9, l = [x0, x1, x2, x3, x4, x5, x6, x7, x8, x9] := by
      match l, hn with
      | [x0, x1, x2, x3, x4, x5, x6, x7, x8, x9], _ => exact ⟨_, _, _, _, _, _, _, _, _, _, rfl⟩
    simp only [List.getD_cons_zero, Nat.add_zero] at c0
    have c9' : w.cell? ⟨b, off + 9, none⟩ = some (.int .u8 (x9 : Int)) := c9
    have hb8 : ∀ x ∈ [x1, x2, x3, x4, x5, x6, x7, x8], x < 256 := fun x hx => hb x (List.mem_cons_of_mem _ (List.mem_append_left [x9] hx))
    have hx0 : x0 < 256 := hb x0 (by simp)
    have hx9 : x9 < 256 := hb x9 (by simp)
    have e0 : u8s [x0, x1, x2, x3, x4, x5, x6, x7, x8, x9] = u8s [x0] ++ (u8s [x1, x2, x3, x4, x5, x6, x7, x8] ++ u8s [x9]) := rfl
    have l1 : 1 ≤ (u8s [x0, x1, x2, x3, x4, x5, x6, x7, x8, x9]).length := by rw [hlen]; omega
    have hT : pmT (u8s [x0, x1, x2, x3, x4, x5, x6, x7, x8, x9]) = x0 := by
      unfold pmT
      rw [numV_le l1 (by decide), e0]
      show getL (nats (u8s [x0])) = x0
      rw [nats_u8s (by simpa using hx0)]
      rfl
    have hR : txR 1 (u8s [x0, x1, x2, x3, x4, x5, x6, x7, x8, x9]) = u8s [x1, x2, x3, x4, x5, x6, x7, x8] ++ u8s [x9] := by rw [txR_le' l1]; rfl
    have hG : pmG (u8s [x0, x1, x2, x3, x4, x5, x6, x7, x8, x9]) = getL [x1, x2, x3, x4, x5, x6, x7, x8] := by
      unfold pmG
      rw [hR, numV_le (by simp [u8s]) (by decide)]
      show getL (nats (u8s [x1, x2, x3, x4, x5, x6, x7, x8])) = _
      rw [nats_u8s hb8]
    have hC : pmC (u8s [x0, x1, x2, x3, x4, x5, x6, x7, x8, x9]) = x9 := by
      unfold pmC
      rw [hR, txR_le' (by simp [u8s])]
      show numV 1 (u8s [x9]) = x9
      rw [numV_le (by simp [u8s]) (by decide)]
      show getL (nats (u8s [x9])) = x9
      rw [nats_u8s (by simpa using hx9)]
      rfl
    have hO : pmOk (u8s [x0, x1, x2, x3, x4, x5, x6, x7, x8, x9]) = ((x0 == 3) && inB x9 1 16) := by unfold pmOk; rw [hT, hC, decide_eq_true hlen, Bool.true_and]
    rw [hO, hG, hC]
    by_cases h3 : x0 = 3
    · subst h3
      cases hi : inB x9 1 16
      · have hi' := of_decide_eq_false hi
        exact rpm_no b off cap 3 x9 w c0 c9' (.inr ⟨rfl, by omega⟩)
      · have hi' := of_decide_eq_true hi
        have hrow : BRow w.drew (some ⟨b, off + 1, none⟩) [x1, x2, x3, x4, x5, x6, x7, x8] := by
          refine .inr ⟨b, off + 1, rfl, fun i hi => ?_⟩
          have hi2 : i < 8 := by simpa using hi
          have h1 := hcs (i + 1) (by simp; omega)
          rw [show off + (i + 1) = off + 1 + i by omega] at h1
          simp only [List.getD_cons_succ] at h1
          have h2 : w.drew.cell? ⟨b, off + 1 + i, none⟩ = w.cell? ⟨b, off + 1 + i, none⟩ := rfl
          rw [h2, h1]
          have h3 : ∀ i, i < 8 → [x1, x2, x3, x4, x5, x6, x7, x8, x9].getD i 0 = [x1, x2, x3, x4, x5, x6, x7, x8].getD i 0 := by
            intro i hi
            rcases i with _ | _ | _ | _ | _ | _ | _ | _ | i <;> first | rfl | omega
          rw [h3 i hi2]
        have hl8 : [x1, x2, x3, x4, x5, x6, x7, x8].length ≤ maxLen := by show 8 ≤ maxLen; decide
        have hgt : ∀ c, Calls Try.prog 78 #[.slice (some ⟨b, off + 1, none⟩) 8 c] w.drew fun e w' => e = .returned (.int .u64 (getL [x1, x2, x3, x4, x5, x6, x7, x8] : Nat)) ∧ w.drew = w' := fun c => ref_get (some ⟨b, off + 1, none⟩) c [x1, x2, x3, x4, x5, x6, x7, x8] w.drew hl8 hb8 hrow
        exact rpm_yes b off cap x9 _ hc w c0 c9' (by omega) (by omega) hgt
    · have e3 : (x0 == 3) = false := by simpa using h3
      rw [e3]
      exact rpm_no b off cap x0 x9 w c0 c9' (.inl (by simp; omega))
  · have e0 : pmOk (u8s l) = false := by unfold pmOk; rw [decide_eq_false (by omega)]; rfl
    rw [e0]
    exact rpm_len a n cap h10 w
end Go.Proofs.Ytefpcdpclpignaa
