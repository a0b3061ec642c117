/-
  The chapter's examples, which every statement asks for.
-/
import Derived.Test.YtefpcdpclpignaaKPack2
namespace Go.Proofs.Ytefpcdpclpignaa
open Go.RowKit M

theorem own_len {w w' : World} {v : Value} {l : List Nat} {n : Nat} (hn : l.length = n) (h : Own w w' v l) : ∃ a cap, v = .slice a n cap ∧ BRow w' a l ∧ n ≤ cap ∧ cap ≤ maxLen := by
  obtain ⟨a, cap, rfl, h1, h2, h3⟩ := h.row
  subst hn
  exact ⟨a, cap, rfl, h1, h2, h3⟩

set_option maxRecDepth 10000 in
set_option maxHeartbeats 4000000 in
theorem alive_any (w : World) :
    Calls Try.prog 21 #[] w fun e w' => e = .returned (.bool true) ∧ Below w.heap.size w w' := by
  obtain ⟨K, eK⟩ : ∃ K, K = pre3 1 1 := ⟨_, rfl⟩
  obtain ⟨V, eV⟩ : ∃ V, V = inVal 2 493 0 0 2 0 := ⟨_, rfl⟩
  have h1 : ∀ W, Calls Try.prog 22 #[.agg #[.int .i64 1, .int .i64 2, .int .i64 493, .int .i64 0, .int .i64 0, .int .i64 2, .int .i64 0]] W fun e w' => e = .returned (.tuple #[.agg #[.string (bs K), .string (bs V), .bool false], .int .i64 0]) ∧ Below W.heap.size W w' := by
    rw [eK, eV]; exact fun W => inode_yes ⟨1, 2, 493, 0, 0, 2, 0⟩ (by decide) W
  have h2 : ∀ W, Calls Try.prog 22 #[.agg #[.int .i64 1, .int .i64 2, .int .i64 512, .int .i64 0, .int .i64 0, .int .i64 0, .int .i64 0]] W fun e w' => e = .returned (.tuple #[.agg #[.string ⟨#[]⟩, .string ⟨#[]⟩, .bool false], .int .i64 22]) ∧ Below W.heap.size W w' :=
    fun W => inode_no ⟨1, 2, 512, 0, 0, 0, 0⟩ (by decide) W
  have kl : K.length = 3 := by rw [eK]; rfl
  have vl : V.length = 13 := by rw [eV]; rfl
  have h3 : ∀ W, Calls Try.prog 34 #[.agg #[.string (bs K), .string (bs V), .bool false]] W fun e w' => ∃ a cap, e = .returned (.tuple #[.slice a 20 cap, .int .i64 0]) ∧ Below W.heap.size W w' := by
    intro W
    refine (pack_yes ⟨K, V, false⟩ (by simp [Nd.ok, inB, kl, vl]) W).mono ?_
    rintro e w' ⟨v, rfl, ho⟩
    obtain ⟨a, cap, rfl, _⟩ := own_len (n := 20) (by rw [Nd.bytes_len]; simp [kl, vl]) ho
    exact ⟨a, cap, rfl, ho.2⟩
  have h4 : ∀ W, Calls Try.prog 36 #[.int .u64 5, .int .i64 2] W fun e w' => ∃ a cap, e = .returned (.tuple #[.slice a 10 cap, .int .i64 0]) ∧ Below W.heap.size W w' := by
    intro W
    refine (mark_yes 5 (by decide) 2 (by decide) (by decide) W).mono ?_
    rintro e w' ⟨v, rfl, ho⟩
    obtain ⟨a, cap, rfl, _⟩ := own_len (n := 10) rfl ho
    exact ⟨a, cap, rfl, ho.2⟩
  have h5 : ∀ W, Calls Try.prog 15 #[.int .i64 258, .string ⟨#[97]⟩] W fun e w' => e = .returned (.string ⟨#[1, 2, 2, 97]⟩) ∧ Below W.heap.size W w' := fun W => entryKey_any 258 [97] (by decide) W
  have h6 : ∀ W, Calls Try.prog 19 #[.int .i64 7] W fun e w' => e = .returned (.string ⟨#[0, 0, 4, 0, 7]⟩) ∧ Below W.heap.size W w' := fun W => orphanKey_any 7 W
  have z : (bs V).size = 13 := by rw [bs_size]; exact vl
  obtain ⟨KK, eKK⟩ : ∃ S, S = bs K := ⟨_, rfl⟩
  obtain ⟨VV, eVV⟩ : ∃ S, S = bs V := ⟨_, rfl⟩
  rw [← eKK] at h1 h3
  rw [← eVV] at h1 h3 z
  clear eK eV eKK eVV kl vl
  have M1 : Hid True := trivial
  go_enter Try.func21, Try.ntmps21
  go_wp2_with (first
    | (go_at_call 22; clear M1; refine (h1 _).mono ?_; rintro e w1 ⟨rfl, hb⟩; have B1 : Hid (Below w.heap.size w w1) := hb; clear hb)
    | (go_at_call 34; refine (h3 _).mono ?_; rintro e w2 ⟨a2, c2, rfl, hb⟩; have B2 : Hid (Below w.heap.size w w2) := Below.after (Below.after B1.out (below_new _ _)) hb; have R2 : Hid (Row w2 w1.heap.size [.string KK, .string VV, .bool false] 34) := (Row.new w1 [.string KK, .string VV, .bool false] 34).later hb; clear hb)
    | (go_at_call 36; refine (h4 _).mono ?_; rintro e w3 ⟨a3, c3, rfl, hb⟩; have B3 : Hid (Below w.heap.size w w3) := Below.after B2.out hb; have R3 : Hid (Row w3 w1.heap.size [.string KK, .string VV, .bool false] 34) := R2.out.later hb; clear hb)
    | (go_at_call 22; refine (h2 _).mono ?_; rintro e w4 ⟨rfl, hb⟩; have B4 : Hid (Below w.heap.size w w4) := Below.after B3.out hb; have R4 : Hid (Row w4 w1.heap.size [.string KK, .string VV, .bool false] 34) := R3.out.later hb; clear hb)
    | (go_at_call 15; refine (h5 _).mono ?_; rintro e w5 ⟨rfl, hb⟩; have B5 : Hid (Below w.heap.size w w5) := Below.after (Below.after B4.out (below_new _ _)) hb; have R5 : Hid (Row w5 w1.heap.size [.string KK, .string VV, .bool false] 34) := (R4.out.alloc _).later hb; clear hb)
    | (go_at_call 19; refine (h6 _).mono ?_; rintro e w6 ⟨rfl, hb⟩; have B6 : Hid (Below w.heap.size w w6) := Below.after B5.out hb; obtain ⟨x0, x1, x2, _, _, _⟩ := (R5.out.later hb).seen3; clear hb))
  go_ret
  exact ⟨rfl, B6.out⟩
end Go.Proofs.Ytefpcdpclpignaa
