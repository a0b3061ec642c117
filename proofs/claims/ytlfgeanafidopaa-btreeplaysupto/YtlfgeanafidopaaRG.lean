/-
  The document's rise: keys that do.
-/
import Derived.Test.YtlfgeanafidopaaQY
import Derived.Test.YtlfgeanafidopaaRF
namespace Go.Proofs.Ytlfgeanafidopaa.Bt
open Go.RowKit
set_option maxRecDepth 10000

set_option maxHeartbeats 4000000 in
theorem rise_any {w : World} {B : Nat} {ks : List K} (h : Whole w B (ks.map Value.string) 9) (hs : Ksrt ks) (hz : ∀ k ∈ ks, k.size ≤ maxLen) (hl : ks.length ≤ 1000000) (c : Nat) :
    Calls Try.prog 61 #[.slice (some ⟨B, 0, none⟩) ks.length c] w fun e w' => e = .returned (.bool true) ∧ ∃ q, w' = w.drewN q := by
  have HC : Hid (∀ (i : Nat) (k : K), ks[i]? = some k → w.cell? ⟨B, i, none⟩ = some (.string k)) := fun i k hk => by rw [h.cell, List.getElem?_map, hk]; rfl
  have HL : Hid (∀ i, i < ks.length → ∃ k, ks[i]? = some k) := fun i hi => ⟨_, List.getElem?_eq_getElem hi⟩
  have HS : Hid (∀ (i : Nat) (a b : K), ks[i]? = some a → ks[i + 1]? = some b → klt a b = true ∧ a.size ≤ maxLen ∧ b.size ≤ maxLen) := fun i a b ha hb => by
    obtain ⟨h1, e1⟩ := List.getElem?_eq_some_iff.1 ha
    obtain ⟨h2, e2⟩ := List.getElem?_eq_some_iff.1 hb
    refine ⟨?_, hz a (List.mem_of_getElem? ha), hz b (List.mem_of_getElem? hb)⟩
    have := (List.pairwise_iff_getElem.1 hs) i (i + 1) h1 h2 (by omega)
    rwa [e1, e2] at this
  obtain ⟨N, hN⟩ : ∃ N, N = ks.length := ⟨_, rfl⟩
  rw [← hN] at HL hl ⊢
  clear h hs hz hN
  go_enter Try.func61, Try.ntmps61
  go_wp2
  go_loopg [3] N (fun kx s wr => ∃ i q : Nat, i + kx = N + 1 ∧ 1 ≤ i ∧ s = .int .i64 (i : Nat) ∧ wr = w.drewN q)
  case atStart => exact ⟨1, 0, by omega, Nat.le_refl _, rfl, rfl⟩
  case round =>
    obtain ⟨i, q, hi, h1, rfl, rfl⟩ := hrel
    by_cases hlt : i < N
    · obtain ⟨j, hj⟩ : ∃ j, i = j + 1 := ⟨i - 1, by omega⟩
      obtain ⟨a, ha⟩ := HL.out j (by omega)
      obtain ⟨b, hb⟩ := HL.out i hlt
      have qa : (w.drewN q).cell? ⟨B, j, none⟩ = some (.string a) := HC.out j a ha
      have qb : (w.drewN q).cell? ⟨B, i, none⟩ = some (.string b) := HC.out i b hb
      obtain ⟨l1, l2, l3⟩ := HS.out j a b ha (by rw [← hj]; exact hb)
      have HLs : Hid (∀ W, Calls Try.prog 43 #[.string a, .string b] W fun e w' => e = .returned (.bool true) ∧ ∃ q, w' = W.drewN q) := fun W => by
        have := less_any l2 l3 W
        rwa [l1] at this
      have hi1 : (i : Int) < (N : Int) := by omega
      have hi2 : (0 : Int) ≤ (i : Int) := by omega
      have hj1 : IntKind.i64.wrap ((i : Int) - 1) = (j : Int) := by rw [IntKind.wrap_i64]; omega
      have hj2 : (j : Int) < (N : Int) := by omega
      have hj3 : (0 : Int) ≤ (j : Int) := by omega
      have HJ : Hid (i = j + 1) := hj
      clear ha hb l1 l2 l3 hj
      go_wp2
      go_region_held3 (fun w' => w'.cell? ⟨B, j, none⟩ = some (.string a) ∧ w'.cell? ⟨B, i, none⟩ = some (.string b)) (first | assumption | exact ⟨qa, qb⟩ | go_keep) (first
        | (go_at_call 43; refine (HLs.out _).mono ?_; rintro e W1 ⟨rfl, q1, rfl⟩))
      go_wp2
      go_roundg (N - i)
      case measure => omega
      case rel => exact ⟨i + 1, _, by omega, by omega, by go_num, rfl⟩
    · have hi1 : ¬ (i : Int) < (N : Int) := by omega
      go_wp2
      go_ret
      exact ⟨rfl, q, rfl⟩
end Go.Proofs.Ytlfgeanafidopaa.Bt
