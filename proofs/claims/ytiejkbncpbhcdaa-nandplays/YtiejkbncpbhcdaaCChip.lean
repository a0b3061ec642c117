/-
  What the chip's methods answer, and what they leave.
-/
import Derived.Test.YtiejkbncpbhcdaaCLies
import Derived.Deep.RegionHeld3
namespace Go.Proofs.Ytiejkbncpbhcdaa
open Go.RowKit

/-- What Program answers, and the chip behind it. -/
def CS.program (c : CS) (block page : Int) (data : List Nat) : Int × CS :=
  if c.on = false then (6, c) else if block < 0 then (22, c) else
  match c.bks[block.toNat]? with
  | none => (22, c)
  | some b => if ¬ (0 ≤ page ∧ page < c.gp) ∨ c.gz < data.length then (22, c) else if b.bad = true ∨ page ≠ b.next then (1, { c with wrong := wrap64 (c.wrong + 1) })
    else (c.told, { c.operated with bks := c.bks.set block.toNat (b.programmed data c.extent) })
/-- What Erase answers, and the chip behind it. -/
def CS.erase (c : CS) (block : Int) : Int × CS :=
  if c.on = false then (6, c) else if block < 0 then (22, c) else
  match c.bks[block.toNat]? with
  | none => (22, c)
  | some b => if b.bad = true then (1, { c with wrong := wrap64 (c.wrong + 1) })
    else (c.told, { c.operated with bks := c.bks.set block.toNat (({ b with erases := wrap64 (b.erases + 1) } : Bk).erased c.extent) })
/-- What Mark answers, and the chip behind it. -/
def CS.mark (c : CS) (block : Int) : Int × CS :=
  if c.on = false then (6, c) else if block < 0 then (22, c) else
  match c.bks[block.toNat]? with
  | none => (22, c)
  | some b => (0, { c with bks := c.bks.set block.toNat { b with bad := true } })
/-- What Read answers. -/
def CS.read (c : CS) (block page : Int) : List Nat × Int :=
  if c.on = false then ([], 6) else if block < 0 then ([], 22) else
  match c.bks[block.toNat]? with
  | none => ([], 22)
  | some b => if page < 0 then ([], 22) else match b.pgs[page.toNat]? with
    | none => ([], 22)
    | some p => (p.bytes c.gz, p.err)
/-- The block of a number. -/
def CS.at (c : CS) (block : Int) : Option Bk := if block < 0 then none else c.bks[block.toNat]?

theorem view_any {base : Nat} {w : World} {c : CS} (h : Lies base w c) (n : Int) :
    Calls Try.prog 60 #[.pointer (some ⟨c.p, 0, none⟩), .int .i64 n] w fun e w' => e = .returned (.pointer (match c.at n with | none => none | some _ => some ⟨c.q, n.toNat * 4, none⟩)) ∧ w = w' := by
  obtain ⟨fa, fc, h1, _⟩ := h.chip
  have c4 : w.cell? ⟨c.p, 4, none⟩ = some (.slice (some ⟨c.q, 0, none⟩) c.bks.length c.qcap) := h1.cell (by rfl)
  by_cases h0 : n < 0
  · have e : c.at n = none := by unfold CS.at; rw [if_pos h0]
    rw [e]
    exact view_no _ _ _ _ n w c4 (.inl h0)
  · obtain ⟨i, rfl⟩ : ∃ i : Nat, n = i := ⟨n.toNat, by omega⟩
    have e : c.at i = c.bks[i]? := by unfold CS.at; rw [if_neg h0]; simp
    rw [e]
    by_cases hi : i < c.bks.length
    · rw [List.getElem?_eq_getElem hi]
      exact view_yes _ _ _ _ i w c4 hi
    · rw [List.getElem?_eq_none (by omega)]
      exact view_no _ _ _ _ i w c4 (.inr (by omega))

theorem bad_any {base : Nat} {w : World} {c : CS} (h : Lies base w c) (n : Int) :
    Calls Try.prog 41 #[.pointer (some ⟨c.p, 0, none⟩), .int .i64 n] w fun e w' => e = .returned (.bool (match c.at n with | none => false | some b => b.bad)) ∧ w = w' := by
  have hv := view_any h n
  rcases hb : c.at n with _ | b
  · rw [hb] at hv
    clear hb
    go_enter Try.func41, Try.ntmps41
    go_wp2_with (go_at_call 60; refine hv.mono ?_; rintro e w' ⟨rfl, rfl⟩)
    go_ret
    exact ⟨rfl, rfl⟩
  · rw [hb] at hv
    have hat := At.of h.bks (show c.bks[n.toNat]? = some b by unfold CS.at at hb; split at hb; · cases hb
                                                              · exact hb)
    have h3 := hat.bad
    clear hb hat
    go_enter Try.func41, Try.ntmps41
    go_wp2_with (go_at_call 60; refine hv.mono ?_; rintro e w' ⟨rfl, rfl⟩)
    go_ret
    exact ⟨rfl, rfl⟩
theorem at_some {c : CS} {n : Int} {b : Bk} (hb : c.at n = some b) : c.bks[n.toNat]? = some b ∧ 0 ≤ n := by
  unfold CS.at at hb
  split at hb
  · cases hb
  · exact ⟨hb, by omega⟩
theorem next_any {base : Nat} {w : World} {c : CS} (h : Lies base w c) (n : Int) :
    Calls Try.prog 23 #[.pointer (some ⟨c.p, 0, none⟩), .int .i64 n] w fun e w' => e = .returned (.int .i64 (match c.at n with | none => 0 | some b => b.next)) ∧ w = w' := by
  have hv := view_any h n
  rcases hb : c.at n with _ | b
  · rw [hb] at hv
    clear hb
    go_enter Try.func23, Try.ntmps23
    go_wp2_with (go_at_call 60; refine hv.mono ?_; rintro e w' ⟨rfl, rfl⟩)
    go_ret
    exact ⟨rfl, rfl⟩
  · rw [hb] at hv
    have h3 := (At.of h.bks (at_some hb).1).next
    clear hb
    go_enter Try.func23, Try.ntmps23
    go_wp2_with (go_at_call 60; refine hv.mono ?_; rintro e w' ⟨rfl, rfl⟩)
    go_ret
    exact ⟨rfl, rfl⟩
theorem erases_any {base : Nat} {w : World} {c : CS} (h : Lies base w c) (n : Int) :
    Calls Try.prog 44 #[.pointer (some ⟨c.p, 0, none⟩), .int .i64 n] w fun e w' => e = .returned (.int .i64 (match c.at n with | none => 0 | some b => b.erases)) ∧ w = w' := by
  have hv := view_any h n
  rcases hb : c.at n with _ | b
  · rw [hb] at hv
    clear hb
    go_enter Try.func44, Try.ntmps44
    go_wp2_with (go_at_call 60; refine hv.mono ?_; rintro e w' ⟨rfl, rfl⟩)
    go_ret
    exact ⟨rfl, rfl⟩
  · rw [hb] at hv
    have h3 := (At.of h.bks (at_some hb).1).erases
    clear hb
    go_enter Try.func44, Try.ntmps44
    go_wp2_with (go_at_call 60; refine hv.mono ?_; rintro e w' ⟨rfl, rfl⟩)
    go_ret
    exact ⟨rfl, rfl⟩
theorem on_any {base : Nat} {w : World} {c : CS} (h : Lies base w c) :
    Calls Try.prog 46 #[.pointer (some ⟨c.p, 0, none⟩)] w fun e w' => e = .returned (.bool c.on) ∧ w = w' := by
  obtain ⟨fa, fc, h1, _⟩ := h.chip
  have c5 : w.cell? ⟨c.p, 5, none⟩ = some (.bool c.on) := h1.cell (by rfl)
  go_enter Try.func46, Try.ntmps46
  go_wp2
  go_ret
  exact ⟨rfl, rfl⟩
theorem ops_any {base : Nat} {w : World} {c : CS} (h : Lies base w c) :
    Calls Try.prog 25 #[.pointer (some ⟨c.p, 0, none⟩)] w fun e w' => e = .returned (.int .i64 c.ops) ∧ w = w' := by
  obtain ⟨fa, fc, h1, _⟩ := h.chip
  have c5 : w.cell? ⟨c.p, 6, none⟩ = some (.int .i64 c.ops) := h1.cell (by rfl)
  go_enter Try.func25, Try.ntmps25
  go_wp2
  go_ret
  exact ⟨rfl, rfl⟩
theorem wrong_any {base : Nat} {w : World} {c : CS} (h : Lies base w c) :
    Calls Try.prog 24 #[.pointer (some ⟨c.p, 0, none⟩)] w fun e w' => e = .returned (.int .i64 c.wrong) ∧ w = w' := by
  obtain ⟨fa, fc, h1, _⟩ := h.chip
  have c5 : w.cell? ⟨c.p, 7, none⟩ = some (.int .i64 c.wrong) := h1.cell (by rfl)
  go_enter Try.func24, Try.ntmps24
  go_wp2
  go_ret
  exact ⟨rfl, rfl⟩
theorem reach_any {base : Nat} {w : World} {c : CS} (h : Lies base w c) (n : Int) :
    Calls Try.prog 29 #[.pointer (some ⟨c.p, 0, none⟩), .int .i64 n] w fun e w' => e = .returned (if c.on = false then .tuple #[.pointer none, .int .i64 6] else match c.at n with | none => .tuple #[.pointer none, .int .i64 22] | some _ => .tuple #[.pointer (some ⟨c.q, n.toNat * 4, none⟩), .int .i64 0]) ∧ w = w' := by
  obtain ⟨fa, fc, h1, _⟩ := h.chip
  have c4 : w.cell? ⟨c.p, 4, none⟩ = some (.slice (some ⟨c.q, 0, none⟩) c.bks.length c.qcap) := h1.cell (by rfl)
  have c5 : w.cell? ⟨c.p, 5, none⟩ = some (.bool c.on) := h1.cell (by rfl)
  by_cases ho : c.on = false
  · rw [if_pos ho]
    rw [ho] at c5
    exact reach_off _ _ _ _ n w c4 c5
  · rw [if_neg ho]
    have ho2 : c.on = true := by simpa using ho
    rw [ho2] at c5
    rcases hb : c.at n with _ | b
    · refine reach_no _ _ _ _ n w c4 c5 ?_
      unfold CS.at at hb
      split at hb
      · left; assumption
      · right; have := List.getElem?_eq_none_iff.1 hb; omega
    · obtain ⟨q1, q2⟩ := at_some hb
      obtain ⟨i, rfl⟩ : ∃ i : Nat, n = i := ⟨n.toNat, by omega⟩
      exact reach_yes _ _ _ _ i w c4 c5 (List.getElem?_eq_some_iff.1 q1).1
theorem reach_none {base : Nat} {w : World} {c : CS} (h : Lies base w c) (n x : Int) (hx : (c.on = false ∧ x = 6) ∨ (c.on = true ∧ c.at n = none ∧ x = 22)) :
    Calls Try.prog 29 #[.pointer (some ⟨c.p, 0, none⟩), .int .i64 n] w fun e w' => e = .returned (.tuple #[.pointer none, .int .i64 x]) ∧ w = w' := by
  refine (reach_any h n).mono ?_
  rintro e w' ⟨rfl, hw⟩
  refine ⟨?_, hw⟩
  rcases hx with ⟨h1, rfl⟩ | ⟨h1, h2, rfl⟩
  · rw [if_pos h1]
  · rw [if_neg (by rw [h1]; decide), h2]
theorem reach_some {base : Nat} {w : World} {c : CS} (h : Lies base w c) (n : Int) {b : Bk} (h1 : c.on = true) (h2 : c.at n = some b) :
    Calls Try.prog 29 #[.pointer (some ⟨c.p, 0, none⟩), .int .i64 n] w fun e w' => e = .returned (.tuple #[.pointer (some ⟨c.q, n.toNat * 4, none⟩), .int .i64 0]) ∧ w = w' := by
  refine (reach_any h n).mono ?_
  rintro e w' ⟨rfl, hw⟩
  refine ⟨?_, hw⟩
  rw [if_neg (by rw [h1]; decide), h2]
end Go.Proofs.Ytiejkbncpbhcdaa
