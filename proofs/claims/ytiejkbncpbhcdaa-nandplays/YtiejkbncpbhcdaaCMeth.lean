/-
  What the chip's methods do: Read, Mark, Power, Geometry.
-/
import Derived.Test.YtiejkbncpbhcdaaCChip
import Derived.Deep.RegionWith
namespace Go.Proofs.Ytiejkbncpbhcdaa
open Go.RowKit

/-- Bytes that a call tells: a slice that leads to them. -/
structure Got (w w' : World) (l : List Nat) (a : Option Addr) (m cap : Nat) : Prop where
  len : m = l.length
  fits : m ≤ cap
  most : cap ≤ 512
  row : BRow w' a l
  below : Below w.heap.size w w'
  fresh : l = [] ∨ ∀ b o, a = some ⟨b, o, none⟩ → w.heap.size ≤ b

theorem pages_read {q o r cap len k : Nat} {l : List Pg} (n : Nat) (w : World) (hk : k < l.length) (hl : len = l.length) (h1 : 1 ≤ n) (h2 : n ≤ 512) (hd : (l[k]).data.length ≤ n) (hb : ∀ x ∈ (l[k]).data, x < 256)
    (hc : w.cell? ⟨q, o, none⟩ = some (.slice (some ⟨r, 0, none⟩) len cap)) (hr : Row w r (l.flatMap pgCells) 75) :
    Calls Try.prog 59 #[.pointer (some ⟨q, o, none⟩), .int .i64 k, .int .i64 n] w fun e w' => ∃ a m cap, e = .returned (.tuple #[.slice a m cap, .int .i64 (l[k]).err]) ∧ Got w w' ((l[k]).bytes n) a m cap := by
  have hp := page_read l[k] n w h1 h2 hd hb
  obtain ⟨g0, g1⟩ := pg_cells hr hk
  have hkl : k < len := by omega
  generalize l[k] = p at *
  clear hr hd hb hk hl
  go_enter Try.func59, Try.ntmps59
  go_wp2_with (go_at_call 70; refine hp.mono ?_; rintro e w1 ⟨a, m, cap, rfl, q1, q2, q3, q4, q5, q7⟩; have q6 : Got w w1 (p.bytes n) a m cap := ⟨q1, q2, q3, q4, q5, q7⟩; clear q1 q2 q3 q4 q5 q7)
  go_ret2
  exact ⟨a, m, cap, rfl, q6⟩

theorem at_none {c : CS} {n : Int} (h : c.at n = none) : n < 0 ∨ (¬ n < 0 ∧ c.bks[n.toNat]? = none) := by
  unfold CS.at at h
  split at h
  · left; assumption
  · right; exact ⟨by assumption, h⟩
theorem read_err {c : CS} (block page : Int) (h : c.on = false ∨ (c.on = true ∧ c.at block = none)) : ∃ x, c.read block page = ([], x) ∧ ((c.on = false ∧ x = 6) ∨ (c.on = true ∧ c.at block = none ∧ x = 22)) ∧ x ≠ 0 := by
  rcases h with h | ⟨h, h2⟩
  · exact ⟨6, by unfold CS.read; rw [if_pos h], .inl ⟨h, rfl⟩, by decide⟩
  · refine ⟨22, ?_, .inr ⟨h, h2, rfl⟩, by decide⟩
    unfold CS.read
    rw [if_neg (by rw [h]; decide)]
    rcases at_none h2 with e | ⟨e, e2⟩
    · rw [if_pos e]
    · rw [if_neg e, e2]
theorem read_at {c : CS} (block page : Int) {b : Bk} (h : c.on = true) (hb : c.at block = some b) : c.read block page = if page < 0 then ([], 22) else match b.pgs[page.toNat]? with | none => ([], 22) | some p => (p.bytes c.gz, p.err) := by
  obtain ⟨h1, h2⟩ := at_some hb
  unfold CS.read
  rw [if_neg (by rw [h]; decide), if_neg (by omega), h1]
  rfl

set_option maxHeartbeats 2000000 in
theorem read_any {base : Nat} {w : World} {c : CS} (h : Lies base w c) (block page : Int) :
    Calls Try.prog 22 #[.pointer (some ⟨c.p, 0, none⟩), .int .i64 block, .int .i64 page] w fun e w' => ∃ a m cap, e = .returned (.tuple #[.slice a m cap, .int .i64 (c.read block page).2]) ∧ Got w w' (c.read block page).1 a m cap := by
  by_cases he : c.on = false ∨ (c.on = true ∧ c.at block = none)
  · obtain ⟨x, e1, e2, e3⟩ := read_err block page he
    have hv := reach_none h block x e2
    rw [e1]
    have k1 : (x != 0) = true := by simpa using e3
    clear e1 e2 e3 he h
    go_enter Try.func22, Try.ntmps22
    go_wp2_with (go_at_call 29; refine hv.mono ?_; rintro e w' ⟨rfl, rfl⟩)
    go_ret2
    exact ⟨_, 0, 0, rfl, rfl, Nat.le_refl _, by decide, .inl rfl, Below.refl _ _, .inl rfl⟩
  · have ho : c.on = true := by
      cases hc : c.on with
      | false => exact absurd (.inl hc) he
      | true => rfl
    obtain ⟨b, hb⟩ : ∃ b, c.at block = some b := by
      cases hc : c.at block with
      | none => exact absurd (.inr ⟨ho, hc⟩) he
      | some b => exact ⟨b, rfl⟩
    have hv := reach_some h block ho hb
    rw [read_at block page ho hb]
    obtain ⟨hb1, hb2⟩ := at_some hb
    have hbm : b ∈ c.bks := List.mem_of_getElem? hb1
    have c0 := (At.of h.bks hb1).list
    obtain ⟨l1, l2, l3, _, _⟩ := h.good.plen b hbm
    obtain ⟨_, _, _, _, z1, z2⟩ := h.good.gs
    obtain ⟨fa, fc, h1, _⟩ := h.chip
    have c2 : w.cell? ⟨c.p, 2, none⟩ = some (.int .i64 c.gz) := h1.cell (by rfl)
    have hhas := has_any c.q (block.toNat * 4) b.r b.pgs.length b.cap page w c0
    by_cases hp : 0 ≤ page ∧ page < (b.pgs.length : Int)
    · obtain ⟨k, rfl⟩ : ∃ k : Nat, page = k := ⟨page.toNat, by omega⟩
      have hk : k < b.pgs.length := by omega
      have hpr := pages_read (o := block.toNat * 4) c.gz w hk rfl z1 z2 (h.good.dat b hbm _ (List.getElem_mem hk)).1 (h.good.dat b hbm _ (List.getElem_mem hk)).2 c0 (h.pgs b hbm)
      have hprD : ∀ j, Calls Try.prog 59 #[.pointer (some ⟨c.q, block.toNat * 4, none⟩), .int .i64 k, .int .i64 c.gz] (w.drewN j) fun e w' => ∃ a m cap, e = .returned (.tuple #[.slice a m cap, .int .i64 (b.pgs[k]).err]) ∧ Got w w' ((b.pgs[k]).bytes c.gz) a m cap := by
        intro j
        have hj := (h.drewN j)
        exact pages_read (o := block.toNat * 4) c.gz (w.drewN j) hk rfl z1 z2 (h.good.dat b hbm _ (List.getElem_mem hk)).1 (h.good.dat b hbm _ (List.getElem_mem hk)).2 c0 (hj.pgs b hbm) |>.mono (fun e w' ⟨a, m, cap, q1, q2, q3, q4, q5, q6, q7⟩ => ⟨a, m, cap, q1, q2, q3, q4, q5, Below.after (below_drawn w j) q6, q7⟩)
      rw [if_neg (by omega), show ((k : Int).toNat) = k from rfl, List.getElem?_eq_getElem hk]
      rw [decide_eq_true hp] at hhas
      have hpr1 := hprD 1
      clear hprD hpr
      generalize b.pgs[k] = p at *
      clear hp he hb hb1 hbm c0 l1 l2 l3 h1 h hk
      generalize c.gz = gz at *
      go_enter Try.func22, Try.ntmps22
      go_wp2_with (first
        | (go_at_call 29; refine hv.mono ?_; rintro e w' ⟨rfl, rfl⟩)
        | (go_at_call 52; refine hhas.mono ?_; rintro e w' ⟨rfl, rfl⟩))
      go_region_with (go_at_call 59; refine hpr1.mono ?_; rintro e w1 ⟨a, m, cap, rfl, q1⟩)
      all_goals go_wp2
      all_goals go_ret2
      all_goals exact ⟨a, m, cap, rfl, q1⟩
    · rw [decide_eq_false hp] at hhas
      have e : (if page < 0 then (([], 22) : List Nat × Int) else match b.pgs[page.toNat]? with | none => ([], 22) | some p => (p.bytes c.gz, p.err)) = ([], 22) := by
        split
        · rfl
        · rw [List.getElem?_eq_none (by omega)]
      rw [e]
      clear e hp he hb hb1 hbm c0 l1 l2 l3 h1 h
      go_enter Try.func22, Try.ntmps22
      go_wp2_with (first
        | (go_at_call 29; refine hv.mono ?_; rintro e w' ⟨rfl, rfl⟩)
        | (go_at_call 52; refine hhas.mono ?_; rintro e w' ⟨rfl, rfl⟩))
      go_ret2
      exact ⟨_, 0, 0, rfl, rfl, Nat.le_refl _, by decide, .inl rfl, Below.refl _ _, .inl rfl⟩

theorem mark_any {base : Nat} {w : World} {c : CS} (h : Lies base w c) (block : Int) :
    Calls Try.prog 12 #[.pointer (some ⟨c.p, 0, none⟩), .int .i64 block] w fun e w' => e = .returned (.int .i64 (c.mark block).1) ∧ Lies base w' (c.mark block).2 ∧ Kept c.foot w w' ∧ (c.mark block).2.foot = c.foot := by
  by_cases he : c.on = false ∨ (c.on = true ∧ c.at block = none)
  · obtain ⟨x, _, e2, e3⟩ := read_err block 0 he
    have e1 : c.mark block = (x, c) := by
      unfold CS.mark
      rcases e2 with ⟨h1, rfl⟩ | ⟨h1, h2, rfl⟩
      · rw [if_pos h1]
      · rw [if_neg (by rw [h1]; decide)]
        rcases at_none h2 with e | ⟨e, e2⟩
        · rw [if_pos e]
        · rw [if_neg e, e2]
    have hv := reach_none h block x e2
    rw [e1]
    have k1 : (x == 0) = false := by simpa using e3
    clear e1 e2 e3 he
    go_enter Try.func12, Try.ntmps12
    go_wp2_with (go_at_call 29; refine hv.mono ?_; rintro e w' ⟨rfl, rfl⟩)
    go_ret
    exact ⟨rfl, h, Kept.refl _ _, trivial⟩
  · have ho : c.on = true := by
      cases hc : c.on with
      | false => exact absurd (.inl hc) he
      | true => rfl
    obtain ⟨b, hb⟩ : ∃ b, c.at block = some b := by
      cases hc : c.at block with
      | none => exact absurd (.inr ⟨ho, hc⟩) he
      | some b => exact ⟨b, rfl⟩
    have hv := reach_some h block ho hb
    obtain ⟨hb1, hb2⟩ := at_some hb
    have hbm : b ∈ c.bks := List.mem_of_getElem? hb1
    have e1 : c.mark block = (0, { c with bks := c.bks.set block.toNat { b with bad := true } }) := by
      unfold CS.mark
      rw [if_neg (by rw [ho]; decide), if_neg (by omega), hb1]
    rw [e1]
    have c3 := (At.of h.bks hb1).bad
    have f3 := h.bks.frozen (block.toNat * 4 + 3)
    have fin : ∀ W, W = w.setCell ⟨c.q, block.toNat * 4 + 3, none⟩ (.bool true) → Lies base W { c with bks := c.bks.set block.toNat { b with bad := true } } ∧ Kept c.foot w W ∧ ({ c with bks := c.bks.set block.toNat { b with bad := true } } : CS).foot = c.foot := by
      rintro W rfl
      have hq : Row (w.setCell ⟨c.q, block.toNat * 4 + 3, none⟩ (.bool true)) c.q _ _ := bk_bad { b with bad := true } h.bks hb1 rfl
      have hk : Kept (fun k => k = c.p ∨ k = c.q ∨ k = b.r) w (w.setCell ⟨c.q, block.toNat * 4 + 3, none⟩ (.bool true)) := (Kept.refl _ w).setCell (p := ⟨c.q, block.toNat * 4 + 3, none⟩) (.inr (.inl rfl)) _
      obtain ⟨fa, fc, h1, h2⟩ := h.chip
      have hpq := h1.ne h.bks (by decide)
      have hk1 : Kept (fun k => k = c.q) w (w.setCell ⟨c.q, block.toNat * 4 + 3, none⟩ (.bool true)) := (Kept.refl (fun k => k = c.q) w).setCell (p := ⟨c.q, block.toNat * 4 + 3, none⟩) rfl _
      have h1' : Row (w.setCell ⟨c.q, block.toNat * 4 + 3, none⟩ (.bool true)) c.p (csCells { c with bks := c.bks.set block.toNat { b with bad := true } } fa fc) 52 := by
        have : csCells { c with bks := c.bks.set block.toNat { b with bad := true } } fa fc = csCells c fa fc := by simp [csCells]
        rw [this]; exact h1.other _ _ hpq
      exact h.step rfl rfl hb1 rfl rfl (h.good.set (h.good.plen b hbm) (h.good.dat b hbm)) hk ⟨fa, fc, h1', h2.kept hk1 (fun x cs hx e => hx.ne h.bks (by decide) e)⟩ hq ((h.pgs b hbm).other _ _ (fun e => (h.pgs b hbm).ne h.bks (by decide) e))
    clear e1 he hb1 hb2 hbm hb
    go_enter Try.func12, Try.ntmps12
    go_wp2_with (go_at_call 29; refine hv.mono ?_; rintro e w' ⟨rfl, rfl⟩)
    go_ret
    exact ⟨rfl, fin _ rfl⟩

theorem power_any {base : Nat} {w : World} {c : CS} (h : Lies base w c) :
    Calls Try.prog 35 #[.pointer (some ⟨c.p, 0, none⟩)] w fun e w' => e = .returned (.tuple #[]) ∧ Lies base w' { c with on := true } ∧ Kept c.foot w w' ∧ ({ c with on := true } : CS).foot = c.foot := by
  obtain ⟨fa, fc, h1, h2⟩ := h.chip
  have c5 : w.cell? ⟨c.p, 5, none⟩ = some (.bool c.on) := h1.cell (by rfl)
  have f5 := h1.frozen 5
  have fin : ∀ W, W = w.setCell ⟨c.p, 5, none⟩ (.bool true) → Lies base W { c with on := true } ∧ Kept c.foot w W ∧ ({ c with on := true } : CS).foot = c.foot := by
    rintro W rfl
    have hk : Kept (fun k => k = c.p) w (w.setCell ⟨c.p, 5, none⟩ (.bool true)) := (Kept.refl (fun k => k = c.p) w).setCell (p := ⟨c.p, 5, none⟩) rfl _
    exact h.step0 rfl rfl rfl ⟨h.good.len, h.good.plen, h.good.qc, h.good.gs, h.good.dat, h.good.fok⟩ hk ⟨fa, fc, h1.set (i := 5) (.bool true) (by simp [csCells]), h2.kept hk (fault_block h1 hk)⟩
  clear h1 h2
  go_enter Try.func35, Try.ntmps35
  go_wp2
  go_end0
  exact ⟨rfl, fin _ rfl⟩

theorem geometry_any {base : Nat} {w : World} {c : CS} (h : Lies base w c) :
    Calls Try.prog 50 #[.pointer (some ⟨c.p, 0, none⟩)] w fun e w' => e = .returned (.agg #[.int .i64 c.gb, .int .i64 c.gp, .int .i64 c.gz, .int .i64 c.gr]) ∧ Below w.heap.size w w' := by
  obtain ⟨fa, fc, h1, h2⟩ := h.chip
  have c0 : w.cell? ⟨c.p, 0, none⟩ = some (.int .i64 c.gb) := h1.cell (by rfl)
  have c1 : w.cell? ⟨c.p, 1, none⟩ = some (.int .i64 c.gp) := h1.cell (by rfl)
  have c2 : w.cell? ⟨c.p, 2, none⟩ = some (.int .i64 c.gz) := h1.cell (by rfl)
  have c3 : w.cell? ⟨c.p, 3, none⟩ = some (.int .i64 c.gr) := h1.cell (by rfl)
  have hp := h1.lt
  clear h1 h2 h
  go_enter Try.func50, Try.ntmps50
  go_wp2
  refine bodyPost_ret (v := .agg #[.int .i64 c.gb, .int .i64 c.gp, .int .i64 c.gz, .int .i64 c.gr]) ?_ rfl ⟨rfl, ?_⟩
  · simp [results, Try.f50, go_sem]
  · exact below_new w _
end Go.Proofs.Ytiejkbncpbhcdaa
