/-
  slices.Clone at the chip's types.
-/
import Derived.Test.YtiejkbncpbhcdaaDDuo
import Derived.Shelf.SlicesE.Clone
namespace Go.Proofs.Ytiejkbncpbhcdaa
open Go.RowKit

theorem clone_bks (q qc n : Nat) (l : List Bk) (w : World) (hn : n = l.length) (h1 : 1 ≤ n) (h2 : n ≤ 256) (hr : Row w q (l.flatMap bkCells) 57) :
    Calls Try.prog 26 #[.slice (some ⟨q, 0, none⟩) n qc] w fun e w' => ∃ g gc, e = .returned (.slice (some ⟨g, 0, none⟩) n gc) ∧ (n ≤ gc ∧ gc ≤ maxLen ∧ w.heap.size ≤ g) ∧ Row w' g (l.flatMap bkCells) 57 ∧ Below w.heap.size w w' := by
  obtain ⟨i0, hi, hz0, hz1, hz2⟩ := info_parts infoB
  have := AnyE.slices_Clone Try.cloneB i0 (.agg #[.slice none 0 0, .int .i64 0, .int .i64 0, .bool false]) 4 48 hi hz0 hz1 hz2 rfl (by decide) (fun w => Try.sizeOf57 w) q 0 n qc (l.flatMap bkCells) w (by rw [flat_len bkCells 4 bk_len, hn]) (by unfold maxLen; omega) (by omega) (fun j u hj => by rw [Nat.zero_add]; exact hr.cell hj) (by
    intro u hu
    obtain ⟨b, _, hb⟩ := List.mem_flatMap.1 hu
    simp [bkCells] at hb
    rcases hb with rfl | rfl | rfl | rfl <;> rfl)
  refine this.mono ?_
  rintro e w' ⟨v', rfl, hown, _, hb⟩
  obtain ⟨g, gc, rfl, g1, g2, g3, g4⟩ := Row.of_owns hown (by omega)
  exact ⟨g, gc, rfl, ⟨g1, g2, g3⟩, g4, hb⟩
theorem clone_pgs (r rc n : Nat) (l : List Pg) (w : World) (hn : n = l.length) (h1 : 1 ≤ n) (h2 : n ≤ 64) (hr : Row w r (l.flatMap pgCells) 75) :
    Calls Try.prog 27 #[.slice (some ⟨r, 0, none⟩) n rc] w fun e w' => ∃ g gc, e = .returned (.slice (some ⟨g, 0, none⟩) n gc) ∧ (n ≤ gc ∧ gc ≤ maxLen ∧ w.heap.size ≤ g) ∧ Row w' g (l.flatMap pgCells) 75 ∧ Below w.heap.size w w' := by
  obtain ⟨i0, hi, hz0, hz1, hz2⟩ := info_parts infoP
  have := AnyE.slices_Clone Try.cloneP i0 (.agg #[.int .i64 0, .string ⟨#[]⟩]) 2 24 hi hz0 hz1 hz2 rfl (by decide) (fun w => Try.sizeOf75 w) r 0 n rc (l.flatMap pgCells) w (by rw [flat_len pgCells 2 pg_len, hn]) (by unfold maxLen; omega) (by omega) (fun j u hj => by rw [Nat.zero_add]; exact hr.cell hj) (by
    intro u hu
    obtain ⟨b, _, hb⟩ := List.mem_flatMap.1 hu
    simp [pgCells] at hb
    rcases hb with rfl | rfl <;> rfl)
  refine this.mono ?_
  rintro e w' ⟨v', rfl, hown, _, hb⟩
  obtain ⟨g, gc, rfl, g1, g2, g3, g4⟩ := Row.of_owns hown (by omega)
  exact ⟨g, gc, rfl, ⟨g1, g2, g3⟩, g4, hb⟩
theorem flts_of {w w' : World} {m : Nat} {l : List Flt} {v : Value} (hm : m = l.length) (hown : w'.ownsRow w.heap.size 78 3 v m (l.flatMap flCells)) : ∃ na nc, v = .slice na m nc ∧ Flts w' na nc l := by
  by_cases h0 : m = 0
  · obtain ⟨na, nc, rfl⟩ := own_form' hown
    have e : l = [] := List.eq_nil_of_length_eq_zero (by omega)
    subst e
    refine ⟨na, nc, rfl, by simp, ?_, .inl rfl, .inl rfl⟩
    rcases hown.2 with ⟨e1, _⟩ | ⟨g, cap, cur, e1, _, _, _, h2, _⟩
    · simp only [Value.slice.injEq] at e1; rw [e1.2.2]; decide
    · simp only [Value.slice.injEq] at e1; rw [e1.2.2]; exact h2
  · obtain ⟨g, cap, rfl, g1, g2, g3, g4⟩ := Row.of_owns hown (by omega)
    exact ⟨_, cap, rfl, by omega, g2, .inr ⟨g, 0, rfl, _, g4⟩, frow_of_row g4⟩
set_option maxRecDepth 20000 in
theorem clone_flts (a : Option Addr) (m cap : Nat) (l : List Flt) (w : World) (hm : m = l.length) (h256 : m ≤ 256) (hr : FRow w a l) :
    Calls Try.prog 28 #[.slice a m cap] w fun e w' => ∃ na nc, e = .returned (.slice na m nc) ∧ Flts w' na nc l ∧ Below w.heap.size w w' := by
  cases a with
  | none =>
    have e : l = [] := by
      rcases hr with e | ⟨b, off, e, _⟩
      · exact e
      · cases e
    subst e
    have e0 : m = 0 := hm
    subst e0
    refine (AnyE.slices_Clone_nil Try.cloneF 0 cap w).mono ?_
    rintro e w' ⟨rfl, rfl⟩
    exact ⟨none, 0, rfl, ⟨by simp, by decide, .inl rfl, .inl rfl⟩, Below.refl _ _⟩
  | some ad =>
    have HR : Hid (FRow w (some ad) l) := hr
    have HM : Hid (m = l.length) := hm
    clear hr hm
    have q24 : ∀ (w : World) (a : Option Addr) (n c n' c' : Nat), (binOp .eql 24 (.slice a n c) (.slice none n' c')).run Try.prog w = .ok (.bool a.isNone) w := fun w a n c n' c' => Lib.run_eql_slice_nil w _ _ a n c n' c' Try.underlying24
    go_enter Try.func28, Try.ntmps28
    go_wp2_with (at_builtin; go_must (refine wpList_append_flts rfl (.tmp 5) (.tmp 6) rfl w.heap.size (.slice (some ⟨w.heap.size, 0, none⟩) 0 0) 0 [] rfl (World.ownsRow_lit (e := 78) (size := 3) w #[] 0 (Nat.le_refl _) (by decide) rfl) (some ad) m cap l rfl HM.out (frow_later HR.out (below_new _ _)) (fun h => by cases h) (by unfold maxLen; omega) (by omega) (by simp) ?_); intro v2 w2 hown2 hgrow2; rw [Nat.zero_add, List.nil_append] at hown2; obtain ⟨na, nc, rfl, hf⟩ := flts_of HM.out hown2; have HF : Hid (Flts _ _ _ _) := hf; have hb2 : Below w.heap.size w w2 := (below_new w _).grown hgrow2 (by simp) (fun k hk => by simp [Value.ownBlock] at hk; omega); have HB2 : Hid (Below _ _ _) := hb2; clear hf hb2 hown2 hgrow2)
    go_ret
    exact ⟨na, nc, rfl, HF.out, HB2.out⟩
end Go.Proofs.Ytiejkbncpbhcdaa
