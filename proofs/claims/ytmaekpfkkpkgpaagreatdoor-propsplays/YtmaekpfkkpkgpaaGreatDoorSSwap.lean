/-
  swapRange and rotate, as they run.
-/
import Derived.Test.YtmaekpfkkpkgpaaGreatDoorSPure
import Derived.Test.YtmaekpfkkpkgpaaGreatDoorBDo
namespace Go.Proofs.YtmaekpfkkpkgpaaGreatDoor
open Go.RowKit
set_option maxRecDepth 10000

def iv (x : Int) : Value := .int .i64 x
/-- A row of numbers that is worked on; all else that was is as it was. -/
structure Dt (w : World) (g : Nat) (d : List Int) (W : World) : Prop where
  row : Row W g (d.map iv) 3
  kp : Kept (fun k => k = g) w W
theorem Dt.later {w W W' : World} {g : Nat} {d : List Int} (h : Dt w g d W) (hb : Below W.heap.size W W') : Dt w g d W' := ⟨h.row.later hb, h.kp.later hb⟩
theorem Dt.cell {w W : World} {g : Nat} {d : List Int} (h : Dt w g d W) {i : Nat} {x : Int} (hx : d[i]? = some x) : W.cell? ⟨g, i, none⟩ = some (.int .i64 x) := h.row.cell (by rw [List.getElem?_map, hx]; rfl)
theorem Dt.set {w W : World} {g : Nat} {d : List Int} (h : Dt w g d W) {i : Nat} (hi : i < d.length) (x : Int) : Dt w g (d.set i x) (W.setCell ⟨g, i, none⟩ (.int .i64 x)) := by
  refine ⟨?_, h.kp.setCell (p := ⟨g, i, none⟩) rfl _⟩
  have := h.row.set (i := i) (.int .i64 x) (by simpa using hi)
  rw [List.map_set]
  exact this
theorem Dt.swp {w W : World} {g : Nat} {d : List Int} (h : Dt w g d W) {i j : Nat} {x y : Int} (hx : d[i]? = some x) (hy : d[j]? = some y) : Dt w g (swp d i j) ((W.setCell ⟨g, i, none⟩ (.int .i64 y)).setCell ⟨g, j, none⟩ (.int .i64 x)) := by
  have h1 := (List.getElem?_eq_some_iff.1 hx).1
  have h2 := (List.getElem?_eq_some_iff.1 hy).1
  have := (h.set h1 y).set (i := j) (by rw [List.length_set]; exact h2) x
  unfold Go.Proofs.YtmaekpfkkpkgpaaGreatDoor.swp
  rw [hx, hy]
  exact this
set_option maxHeartbeats 4000000 in
theorem swap_any {w W : World} {g cap : Nat} {d : List Int} (h : Dt w g d W) (a b n : Nat) (fv : Value) (hd : d.length ≤ 256) (hab : a + n ≤ b) (hb : b + n ≤ d.length) :
    Calls Tryz.prog 93 #[.slice (some ⟨g, 0, none⟩) d.length cap, .int .i64 (a : Nat), .int .i64 (b : Nat), .int .i64 (n : Nat), fv] W fun e w' => e = .returned (.tuple #[]) ∧ Dt w g (swpN d a b n) w' := by
  obtain ⟨m, hm⟩ : ∃ m, m = d.length := ⟨_, rfl⟩
  rw [← hm]
  have HM := hidW hm
  have HD := hidW h
  rw [← hm] at hd hb
  clear hm h
  go_enter Tryz.func93, Tryz.ntmps93
  go_wp2_with fail
  go_loopw [10] (fun s10 wr => ∃ k : Nat, s10 = .int .i64 (k : Int) ∧ k ≤ n ∧ Hid (Dt w g (swpN d a b k) wr)) (fun s10 _ => n - (intOf s10).toNat)
  case atStart => exact ⟨0, rfl, by omega, HD⟩
  case round =>
    obtain ⟨k, rfl, hk, HK⟩ := hrel
    by_cases hkl : k < n
    · have hlen : (swpN d a b k).length = m := by rw [swpN_len]; exact HM.out.symm
      obtain ⟨x, hx⟩ : ∃ x, (swpN d a b k)[a + k]? = some x := ⟨_, List.getElem?_eq_getElem (by omega)⟩
      obtain ⟨y, hy⟩ : ∃ y, (swpN d a b k)[b + k]? = some y := ⟨_, List.getElem?_eq_getElem (by omega)⟩
      have c1 := HK.out.cell hx
      have c2 := HK.out.cell hy
      have f1 := HK.out.row.frozen (a + k)
      have f2 := HK.out.row.frozen (b + k)
      have HN := hidW (show Dt w g (swpN d a b (k + 1)) ((wr.setCell ⟨g, a + k, none⟩ (.int .i64 y)).setCell ⟨g, b + k, none⟩ (.int .i64 x)) from HK.out.swp hx hy)
      have c2' : ∀ z, (wr.setCell ⟨g, a + k, none⟩ (.int .i64 z)).cell? ⟨g, b + k, none⟩ = some (.int .i64 y) := fun z => (HK.out.set (i := a + k) (by omega) z).cell (by rw [List.getElem?_set_ne (by omega)]; exact hy)
      have hlt : (k : Int) < (n : Int) := by omega
      have w1 : IntKind.i64.wrap ((a : Int) + (k : Int)) = ((a + k : Nat) : Int) := by rw [IntKind.wrap_i64]; omega
      have w2 : IntKind.i64.wrap ((b : Int) + (k : Int)) = ((b + k : Nat) : Int) := by rw [IntKind.wrap_i64]; omega
      have n1 : (0 : Int) ≤ ((a + k : Nat) : Int) := by omega
      have n2 : ((a + k : Nat) : Int) < (m : Int) := by omega
      have n3 : (0 : Int) ≤ ((b + k : Nat) : Int) := by omega
      have n4 : ((b + k : Nat) : Int) < (m : Int) := by omega
      have HKL := hidW hkl
      clear hx hy hkl hlen
      go_wp2_with fail
      go_region
      go_wp2
      go_roundw
      case rel => exact ⟨k + 1, by go_num, HKL.out, HN.out.later (Below.refl _ _).drew⟩
      case measure => simp [intOf]; have := HKL.out; omega
    · have hlt : ¬ (k : Int) < (n : Int) := by omega
      have hkk : k = n := by omega
      rw [hkk] at HK
      clear hkl
      go_wp2
      go_end0
      exact ⟨rfl, HK.out⟩
set_option maxHeartbeats 4000000 in
theorem rot_any {w W : World} {g cap : Nat} {P X Y S : List Int} (h : Dt w g (P ++ X ++ Y ++ S) W) (fv : Value) (hd : (P ++ X ++ Y ++ S).length ≤ 256) (hX : 1 ≤ X.length) (hY : 1 ≤ Y.length) (n a m b : Nat) (hn : n = (P ++ X ++ Y ++ S).length) (ha : a = P.length) (hm : m = P.length + X.length) (hb : b = P.length + X.length + Y.length) :
    Calls Tryz.prog 81 #[.slice (some ⟨g, 0, none⟩) n cap, .int .i64 (a : Nat), .int .i64 (m : Nat), .int .i64 (b : Nat), fv] W fun e w' => e = .returned (.tuple #[]) ∧ Dt w g (P ++ Y ++ X ++ S) w' := by
  obtain ⟨D, hD⟩ : ∃ D, D = P ++ Y ++ X ++ S := ⟨_, rfl⟩
  rw [← hD]
  have h1 : n = P.length + X.length + Y.length + S.length := by rw [hn]; simp; omega
  have HS := hidW (show ∃ P' X' Y' S', P'.length + X'.length = m ∧ P'.length + X'.length + Y'.length + S'.length = n ∧ X'.length = X.length ∧ Y'.length = Y.length ∧ D = P' ++ Y' ++ X' ++ S' ∧ Dt w g (P' ++ X' ++ Y' ++ S') W from ⟨P, X, Y, S, by omega, by omega, rfl, rfl, hD, h⟩)
  have e1 : m - a = X.length := by omega
  have e2 : b - m = Y.length := by omega
  have hn2 : n ≤ 256 := by omega
  have hi1 : (m : Int) - (a : Int) = ((X.length : Nat) : Int) := by omega
  have hi2 : (b : Int) - (m : Int) = ((Y.length : Nat) : Int) := by omega
  obtain ⟨i0, hi0⟩ : ∃ i0, i0 = X.length := ⟨_, rfl⟩
  obtain ⟨j0, hj0⟩ : ∃ j0, j0 = Y.length := ⟨_, rfl⟩
  rw [← hi0] at hX hi1 HS
  rw [← hj0] at hY hi2 HS
  have hma : (a : Int) ≤ (m : Int) := by omega
  have hmb : (m : Int) ≤ (b : Int) := by omega
  have hb2 : (b : Int) ≤ 256 := by omega
  have HI := hidW (And.intro hi1 hi2)
  clear h hd hn ha hm hb hD h1 e1 e2 hi0 hj0
  go_enter Tryz.func81, Tryz.ntmps81
  go_wp2_with fail
  go_loopw [10, 11] (fun s10 s11 wr => ∃ i j : Nat, s10 = .int .i64 (i : Int) ∧ s11 = .int .i64 (j : Int) ∧ 1 ≤ i ∧ 1 ≤ j ∧ i ≤ m ∧ m + j ≤ n ∧ Hid (∃ P' X' Y' S', P'.length + X'.length = m ∧ P'.length + X'.length + Y'.length + S'.length = n ∧ X'.length = i ∧ Y'.length = j ∧ D = P' ++ Y' ++ X' ++ S' ∧ Dt w g (P' ++ X' ++ Y' ++ S') wr)) (fun s10 s11 _ => (intOf s10).toNat + (intOf s11).toNat)
  case atStart =>
    obtain ⟨P', X', Y', S', g1, g2, g3, g4, g5, g6⟩ := HS.out
    refine ⟨i0, j0, ?_, ?_, hX, hY, by omega, by omega, HS⟩
    · first | rfl | (simp [HI.out.1]) | (rw [HI.out.1])
    · first | rfl | (simp [HI.out.2]) | (rw [HI.out.2])
  case round =>
    obtain ⟨i, j, rfl, rfl, q1, q2, q3, q4, HK⟩ := hrel
    have w1 : (m : Int) - (i : Int) = ((m - i : Nat) : Int) := by omega
    by_cases hij : i = j
    · subst hij
      have e0 : ((i : Int) != (i : Int)) = false := by simp
      obtain ⟨P', X', Y', S', g1, g2, g3, g4, g5, g6⟩ := HK.out
      have kS := swap_any (cap := cap) g6 (m - i) m i fv (by simp; omega) (by omega) (by simp; omega)
      have e1 : swpN (P' ++ X' ++ Y' ++ S') (m - i) m i = D := by
        have := swpN_mid i X' Y' P' [] S' g3 g4
        simp only [List.append_nil, List.length_nil, Nat.add_zero] at this
        rw [g5, show m - i = P'.length by omega, ← this, show P'.length + i = m by omega]
      rw [e1, show (P' ++ X' ++ Y' ++ S').length = n by simp; omega] at kS
      clear g1 g2 g3 g4 g5 g6 e1 HK HS HI
      go_wp2_with (go_at_call 93; refine kS.mono ?_; rintro e v1 ⟨rfl, hd1⟩; have HD1 := hidW hd1; clear hd1)
      go_end0
      exact ⟨rfl, HD1.out⟩
    · have e0 : ((i : Int) != (j : Int)) = true := by simp; omega
      obtain ⟨P', X', Y', S', g1, g2, g3, g4, g5, g6⟩ := HK.out
      by_cases hgt : j < i
      · have hgt' : (j : Int) < (i : Int) := by omega
        obtain ⟨X1, X2, rfl, hx1⟩ : ∃ X1 X2, X' = X1 ++ X2 ∧ X1.length = j := ⟨X'.take j, X'.drop j, by simp, by simp; omega⟩
        rw [List.length_append] at g1 g2 g3
        have kS := swap_any (cap := cap) g6 (m - i) m j fv (by simp; omega) (by omega) (by simp; omega)
        have e1 : swpN (P' ++ (X1 ++ X2) ++ Y' ++ S') (m - i) m j = (P' ++ Y') ++ X2 ++ X1 ++ S' := by
          have := swpN_mid j X1 Y' P' X2 S' hx1 g4
          rw [show P' ++ (X1 ++ X2) ++ Y' ++ S' = P' ++ X1 ++ X2 ++ Y' ++ S' by simp, show m - i = P'.length by omega, show m = P'.length + j + X2.length by omega, this]
        rw [e1, show (P' ++ (X1 ++ X2) ++ Y' ++ S').length = n by simp; omega] at kS
        have HN := hidW (fun W' (hW : Dt w g ((P' ++ Y') ++ X2 ++ X1 ++ S') W') => show ∃ P' X' Y' S', P'.length + X'.length = m ∧ P'.length + X'.length + Y'.length + S'.length = n ∧ X'.length = i - j ∧ Y'.length = j ∧ D = P' ++ Y' ++ X' ++ S' ∧ Dt w g (P' ++ X' ++ Y' ++ S') W' from ⟨P' ++ Y', X2, X1, S', by simp; omega, by simp; omega, by omega, hx1, by rw [g5]; simp, hW⟩)
        have w2 : (i : Int) - (j : Int) = ((i - j : Nat) : Int) := by omega
        have HQ := hidW (And.intro hgt (And.intro q3 q4))
        clear g1 g2 g3 g4 g5 g6 e1 HK HS HI hij
        go_wp2_with (go_at_call 93; refine kS.mono ?_; rintro e v1 ⟨rfl, hd1⟩; have HD1 := hidW (HN.out _ hd1); clear hd1)
        go_roundw
        case rel => exact ⟨i - j, j, by first | rfl | (simp [w2]) | go_num, rfl, by have := HQ.out.1; omega, q2, by omega, q4, HD1⟩
        case measure => have := HQ.out.1; simp [intOf]; omega
      · have hgt' : ¬ (j : Int) < (i : Int) := by omega
        obtain ⟨Y1, Y2, rfl, hy2⟩ : ∃ Y1 Y2, Y' = Y1 ++ Y2 ∧ Y2.length = i := ⟨Y'.take (j - i), Y'.drop (j - i), by simp, by simp; omega⟩
        rw [List.length_append] at g2 g4
        have kS := swap_any (cap := cap) g6 (m - i) (m + j - i) i fv (by simp; omega) (by omega) (by simp; omega)
        have e1 : swpN (P' ++ X' ++ (Y1 ++ Y2) ++ S') (m - i) (m + j - i) i = P' ++ Y2 ++ Y1 ++ (X' ++ S') := by
          have := swpN_mid i X' Y2 P' Y1 S' g3 hy2
          rw [show P' ++ X' ++ (Y1 ++ Y2) ++ S' = P' ++ X' ++ Y1 ++ Y2 ++ S' by simp, show m - i = P'.length by omega, show m + j - i = P'.length + i + Y1.length by omega, this]
          simp
        rw [e1, show (P' ++ X' ++ (Y1 ++ Y2) ++ S').length = n by simp; omega] at kS
        have HN := hidW (fun W' (hW : Dt w g (P' ++ Y2 ++ Y1 ++ (X' ++ S')) W') => show ∃ P' X' Y' S', P'.length + X'.length = m ∧ P'.length + X'.length + Y'.length + S'.length = n ∧ X'.length = i ∧ Y'.length = j - i ∧ D = P' ++ Y' ++ X' ++ S' ∧ Dt w g (P' ++ X' ++ Y' ++ S') W' from ⟨P', Y2, Y1, X' ++ S', by omega, by simp; omega, hy2, by omega, by rw [g5]; simp, hW⟩)
        have w2 : (j : Int) - (i : Int) = ((j - i : Nat) : Int) := by omega
        have w3 : (m : Int) + (j : Int) - (i : Int) = ((m + j - i : Nat) : Int) := by omega
        have HQ := hidW (And.intro hgt (And.intro q3 (And.intro q4 hij)))
        clear g1 g2 g3 g4 g5 g6 e1 HK HS HI hij
        go_wp2_with (go_at_call 93; refine kS.mono ?_; rintro e v1 ⟨rfl, hd1⟩; have HD1 := hidW (HN.out _ hd1); clear hd1)
        go_roundw
        case rel => exact ⟨i, j - i, rfl, by first | rfl | (simp [w2]) | go_num, q1, by have := HQ.out; omega, q3, by omega, HD1⟩
        case measure => have := HQ.out; simp [intOf]; omega
end Go.Proofs.YtmaekpfkkpkgpaaGreatDoor
