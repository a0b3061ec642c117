/-
  What the document's chip tells, and what little it changes: Bad, Next, Erases, Power, Mark, told.
-/
import Derived.Test.YtiejkbncpbhcdaaDMem
namespace Go.Proofs.Ytiejkbncpbhcdaa
open Go.RowKit

theorem d_len {base : Nat} {w : World} {d : DS} (h : DLies base w d) : w.cell? ⟨d.p, 4, none⟩ = some (.slice (some ⟨d.q, 0, none⟩) d.bks.length d.qcap) := h.chip.cell (by rfl)
theorem d_bad {base : Nat} {w : World} {d : DS} (h : DLies base w d) (n : Int) :
    Calls Try.prog 42 #[.pointer (some ⟨d.p, 0, none⟩), .int .i64 n] w fun e w' => e = .returned (.bool (match d.at n with | none => false | some b => b.bad)) ∧ w = w' := by
  have c4 := d_len h
  cases hb : d.at n with
  | none =>
    rcases dat_none hb with h0 | ⟨h0, h1⟩
    · clear hb h
      go_enter Try.func42, Try.ntmps42
      go_wp2
      go_ret
      exact ⟨rfl, rfl⟩
    · have h2 : ¬ n < (d.bks.length : Int) := by have := List.getElem?_eq_none_iff.1 h1; omega
      clear hb h h1
      go_enter Try.func42, Try.ntmps42
      go_wp2
      go_ret
      exact ⟨rfl, rfl⟩
  | some b =>
    obtain ⟨h1, h0⟩ := dat_some hb
    have hl := (List.getElem?_eq_some_iff.1 h1).1
    have h3 := (DAt.of h.bks h1).bad
    obtain ⟨i, rfl⟩ : ∃ i : Nat, n = i := ⟨n.toNat, by omega⟩
    have hl2 : (i : Int) < (d.bks.length : Int) := by simp at hl; omega
    simp only [Int.toNat_natCast] at h3
    clear hb h h1 hl
    go_enter Try.func42, Try.ntmps42
    go_wp2
    go_ret
    exact ⟨rfl, rfl⟩
theorem d_next {base : Nat} {w : World} {d : DS} (h : DLies base w d) (n : Int) :
    Calls Try.prog 43 #[.pointer (some ⟨d.p, 0, none⟩), .int .i64 n] w fun e w' => e = .returned (.int .i64 (match d.at n with | none => 0 | some b => b.next)) ∧ w = w' := by
  have c4 := d_len h
  cases hb : d.at n with
  | none =>
    rcases dat_none hb with h0 | ⟨h0, h1⟩
    · clear hb h
      go_enter Try.func43, Try.ntmps43
      go_wp2
      go_ret
      exact ⟨rfl, rfl⟩
    · have h2 : (d.bks.length : Int) ≤ n := by have := List.getElem?_eq_none_iff.1 h1; omega
      clear hb h h1
      go_enter Try.func43, Try.ntmps43
      go_wp2
      go_ret
      exact ⟨rfl, rfl⟩
  | some b =>
    obtain ⟨h1, h0⟩ := dat_some hb
    have hl := (List.getElem?_eq_some_iff.1 h1).1
    have h3 := (DAt.of h.bks h1).next
    obtain ⟨i, rfl⟩ : ∃ i : Nat, n = i := ⟨n.toNat, by omega⟩
    have hl2 : ¬ (d.bks.length : Int) ≤ (i : Int) := by simp at hl; omega
    have hl3 : (i : Int) < (d.bks.length : Int) := by omega
    simp only [Int.toNat_natCast] at h3
    clear hb h h1 hl
    go_enter Try.func43, Try.ntmps43
    go_wp2
    go_ret
    exact ⟨rfl, rfl⟩
theorem d_erases {base : Nat} {w : World} {d : DS} (h : DLies base w d) (n : Int) :
    Calls Try.prog 45 #[.pointer (some ⟨d.p, 0, none⟩), .int .i64 n] w fun e w' => e = .returned (.int .i64 (match d.at n with | none => 0 | some b => b.erases)) ∧ w = w' := by
  have c4 := d_len h
  cases hb : d.at n with
  | none =>
    rcases dat_none hb with h0 | ⟨h0, h1⟩
    · clear hb h
      go_enter Try.func45, Try.ntmps45
      go_wp2
      go_ret
      exact ⟨rfl, rfl⟩
    · have h2 : (d.bks.length : Int) ≤ n := by have := List.getElem?_eq_none_iff.1 h1; omega
      clear hb h h1
      go_enter Try.func45, Try.ntmps45
      go_wp2
      go_ret
      exact ⟨rfl, rfl⟩
  | some b =>
    obtain ⟨h1, h0⟩ := dat_some hb
    have hl := (List.getElem?_eq_some_iff.1 h1).1
    have h3 := (DAt.of h.bks h1).erases
    obtain ⟨i, rfl⟩ : ∃ i : Nat, n = i := ⟨n.toNat, by omega⟩
    have hl2 : ¬ (d.bks.length : Int) ≤ (i : Int) := by simp at hl; omega
    have hl3 : (i : Int) < (d.bks.length : Int) := by omega
    simp only [Int.toNat_natCast] at h3
    clear hb h h1 hl
    go_enter Try.func45, Try.ntmps45
    go_wp2
    go_ret
    exact ⟨rfl, rfl⟩

theorem u8_apart {base : Nat} {w : World} {d : DS} (h : DLies base w d) : ∀ b cs, Row w b cs 5 → ¬ d.foot b := by
  rintro b cs hr (rfl | rfl | hk)
  · exact hr.ne h.chip (by decide) rfl
  · exact hr.ne h.bks (by decide) rfl
  · obtain ⟨k, hb, rfl⟩ := List.mem_map.1 hk; exact hr.ne (h.pgs k hb).1 (by decide) rfl
theorem dfoot_set {d d' : DS} {i : Nat} {b b' : DBk} (hp : d'.p = d.p) (hq : d'.q = d.q) (hi : d.bks[i]? = some b) (hb : d'.bks = d.bks.set i b') (hr : b'.r = b.r) : d'.bks.map DBk.r = d.bks.map DBk.r ∧ d'.foot = d.foot := by
  have e : d'.bks.map DBk.r = d.bks.map DBk.r := by
    rw [hb, List.map_set, hr]
    exact set_self (by simp [hi])
  refine ⟨e, ?_⟩
  funext k
  unfold DS.foot
  rw [hp, hq, e]
/-- One block has changed, its pages lying where they lay. -/
theorem DLies.step {base : Nat} {w w' : World} {d d' : DS} {i : Nat} {b b' : DBk} (h : DLies base w d) (hp : d'.p = d.p) (hq : d'.q = d.q) (hpa : d'.pa = d.pa ∧ d'.plan = d.plan) (hi : d.bks[i]? = some b) (hb : d'.bks = d.bks.set i b') (hr : b'.r = b.r) (good : DGood d')
    (hk : Kept (fun k => k = d.p ∨ k = d.q ∨ k = b.r) w w') (h1 : Row w' d.p (dsCells d') 61)
    (h2 : Row w' d.q (d'.bks.flatMap dbCells) 64) (h3 : Row w' b.r (b'.pgs.flatMap dpCells) 102) (h4 : ∀ p ∈ b'.pgs, DOk w' p) : DLies base w' d' ∧ Kept d.foot w w' ∧ d'.foot = d.foot := by
  obtain ⟨e1, e2⟩ := dfoot_set hp hq hi hb hr
  have hbm : b ∈ d.bks := List.mem_of_getElem? hi
  have hmono : Kept d.foot w w' := hk.mono (by
    rintro k (rfl | rfl | rfl)
    · exact .inl rfl
    · exact .inr (.inl rfl)
    · exact .inr (.inr (List.mem_map.2 ⟨b, hbm, rfl⟩)))
  refine ⟨⟨by rw [hp]; exact h1, by rw [hq]; exact h2, ?_, by rw [e1]; exact h.nd, by rw [e2]; exact h.low, ?_, good⟩, hmono, e2⟩
  · intro x hx
    rw [hb] at hx
    obtain ⟨j, hj, rfl⟩ := List.getElem_of_mem hx
    rw [List.getElem_set] at *
    split
    · rw [hr]; exact ⟨h3, h4⟩
    · rename_i hne
      have hj2 : j < d.bks.length := by simpa using hj
      have hm : d.bks[j] ∈ d.bks := List.getElem_mem hj2
      refine ⟨(h.pgs _ hm).1.kept hk ?_, fun p hp => ((h.pgs _ hm).2 p hp).kept hmono (u8_apart h)⟩
      rintro (e | e | e)
      · exact (h.pgs _ hm).1.ne h.chip (by decide) e
      · exact (h.pgs _ hm).1.ne h.bks (by decide) e
      · obtain ⟨hi1, hi2⟩ := List.getElem?_eq_some_iff.1 hi
        have hnd := List.pairwise_iff_getElem.1 h.nd
        rcases Nat.lt_or_gt_of_ne hne with hlt | hlt
        · exact hnd i j (by simpa using hi1) (by simpa using hj2) hlt (by simp [e, hi2])
        · exact hnd j i (by simpa using hj2) (by simpa using hi1) hlt (by simp [e, hi2])
  · rw [hpa.1, hpa.2, e2]
    exact ⟨frow_kept h.plan.1 hmono (fun b o e hl => (h.plan.2 b o e hl).1), fun b o e hl => ⟨(h.plan.2 b o e hl).1, Nat.lt_of_lt_of_le (h.plan.2 b o e hl).2 hmono.size⟩⟩
theorem DLies.step0 {base : Nat} {w w' : World} {d d' : DS} (h : DLies base w d) (hp : d'.p = d.p) (hq : d'.q = d.q) (hpa : d'.pa = d.pa ∧ d'.plan = d.plan) (hb : d'.bks = d.bks) (good : DGood d')
    (hk : Kept (fun k => k = d.p) w w') (h1 : Row w' d.p (dsCells d') 61) : DLies base w' d' ∧ Kept d.foot w w' ∧ d'.foot = d.foot := by
  have e2 : d'.foot = d.foot := by funext k; unfold DS.foot; rw [hp, hq, hb]
  have hmono : Kept d.foot w w' := hk.mono (fun k e => .inl e)
  refine ⟨⟨by rw [hp]; exact h1, ?_, ?_, by rw [hb]; exact h.nd, by rw [e2]; exact h.low, ?_, good⟩, hmono, e2⟩
  · rw [hq, hb]; exact h.bks.kept hk (fun e => h.bks.ne h.chip (by decide) e)
  · rw [hb]; intro x hx; exact ⟨(h.pgs x hx).1.kept hk (fun e => (h.pgs x hx).1.ne h.chip (by decide) e), fun p hp => ((h.pgs x hx).2 p hp).kept hmono (u8_apart h)⟩
  · rw [hpa.1, hpa.2, e2]
    exact ⟨frow_kept h.plan.1 hmono (fun b o e hl => (h.plan.2 b o e hl).1), fun b o e hl => ⟨(h.plan.2 b o e hl).1, Nat.lt_of_lt_of_le (h.plan.2 b o e hl).2 hmono.size⟩⟩
theorem d_power {base : Nat} {w : World} {d : DS} (h : DLies base w d) :
    Calls Try.prog 36 #[.pointer (some ⟨d.p, 0, none⟩)] w fun e w' => e = .returned (.tuple #[]) ∧ DLies base w' { d with off := false } ∧ Kept d.foot w w' := by
  have c5 : w.cell? ⟨d.p, 5, none⟩ = some (.bool d.off) := h.chip.cell (by rfl)
  have f5 := h.chip.frozen 5
  have fin : ∀ W, W = w.setCell ⟨d.p, 5, none⟩ (.bool false) → DLies base W { d with off := false } ∧ Kept d.foot w W := by
    rintro W rfl
    have hk : Kept (fun k => k = d.p) w (w.setCell ⟨d.p, 5, none⟩ (.bool false)) := (Kept.refl (fun k => k = d.p) w).setCell (p := ⟨d.p, 5, none⟩) rfl _
    obtain ⟨r1, r2, _⟩ := h.step0 (d' := { d with off := false }) rfl rfl ⟨rfl, rfl⟩ rfl ⟨h.good.len, h.good.plen, h.good.qc, h.good.gs, h.good.dat, h.good.pln⟩ hk (h.chip.set (i := 5) (.bool false) (by simp [dsCells]))
    exact ⟨r1, r2⟩
  go_enter Try.func36, Try.ntmps36
  go_wp2
  go_end0
  exact ⟨rfl, fin _ rfl⟩
/-- What told answers, and the chip behind it. -/
def DS.tell (d : DS) (f : Flt) : Int × DS := if f.kind = 1 then (6, { d with off := true }) else if f.kind = 2 then (5, d) else (0, d)
theorem d_told {base : Nat} {w : World} {d : DS} (h : DLies base w d) (f : Flt) :
    Calls Try.prog 65 #[.pointer (some ⟨d.p, 0, none⟩), .agg #[.int .i64 f.num, .int .i64 f.kind, .int .i64 f.torn]] w fun e w' => e = .returned (.int .i64 (d.tell f).1) ∧ DLies base w' (d.tell f).2 ∧ Kept d.foot w w' := by
  have c5 : w.cell? ⟨d.p, 5, none⟩ = some (.bool d.off) := h.chip.cell (by rfl)
  have f5 := h.chip.frozen 5
  have hp := h.chip.lt
  unfold DS.tell
  by_cases h1 : f.kind = 1
  · rw [if_pos h1]
    have fin : ∀ W, W = (w.setCell ⟨d.p, 5, none⟩ (.bool true)).alloc (.cells #[.int .i64 f.num, .int .i64 f.kind, .int .i64 f.torn] 78) → DLies base W { d with off := true } ∧ Kept d.foot w W := by
      rintro W rfl
      have hk : Kept (fun k => k = d.p) w ((w.setCell ⟨d.p, 5, none⟩ (.bool true)).alloc (.cells #[.int .i64 f.num, .int .i64 f.kind, .int .i64 f.torn] 78)) := ((Kept.refl (fun k => k = d.p) w).setCell (p := ⟨d.p, 5, none⟩) rfl _).alloc _
      obtain ⟨r1, r2, _⟩ := h.step0 (d' := { d with off := true }) rfl rfl ⟨rfl, rfl⟩ rfl ⟨h.good.len, h.good.plen, h.good.qc, h.good.gs, h.good.dat, h.good.pln⟩ hk ((h.chip.set (i := 5) (.bool true) (by simp [dsCells])).alloc _)
      exact ⟨r1, r2⟩
    have e1 : (f.kind == 1) = true := by simpa using h1
    clear h1
    go_enter Try.func65, Try.ntmps65
    go_wp2
    go_ret
    exact ⟨rfl, fin _ rfl⟩
  · rw [if_neg h1]
    have e1 : (f.kind == 1) = false := by simpa using h1
    have fin : ∀ W, W = w.alloc (.cells #[.int .i64 f.num, .int .i64 f.kind, .int .i64 f.torn] 78) → DLies base W d ∧ Kept d.foot w W := by
      rintro W rfl; exact ⟨h.later (below_new w _), .of_below (below_new w _)⟩
    by_cases h2 : f.kind = 2
    · rw [if_pos h2]
      have e2 : (f.kind == 2) = true := by simpa using h2
      clear h1 h2
      go_enter Try.func65, Try.ntmps65
      go_wp2
      go_ret
      exact ⟨rfl, fin _ rfl⟩
    · rw [if_neg h2]
      have e2 : (f.kind == 2) = false := by simpa using h2
      clear h1 h2
      go_enter Try.func65, Try.ntmps65
      go_wp2
      go_ret
      exact ⟨rfl, fin _ rfl⟩
end Go.Proofs.Ytiejkbncpbhcdaa
