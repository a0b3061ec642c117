/-
  What the chip's methods do: Read, Mark, Power, Geometry.
  What Program and Erase do with a chip.
-/
import Derived.Test.YtkfecngkdlajgaaGreatDoorGJ
import Derived.Deep.RegionWith
namespace Go.Proofs.YtkfecngkdlajgaaGreatDoor
open Go.RowKit
set_option maxRecDepth 10000

/-- Bytes that a call tells: a slice that leads to them. -/
structure Got (w w' : World) (l : List Nat) (a : Option Addr) (m cap : Nat) : Prop where
  len : m = l.length
  fits : m ≤ cap
  most : cap ≤ 512
  row : BRow w' a l
  below : Below w.heap.size w w'
  fresh : l = [] ∨ ∀ b o, a = some ⟨b, o, none⟩ → w.heap.size ≤ b

theorem pages_read {q o r cap len k : Nat} {l : List Pg} (n : Nat) (w : World) (hk : k < l.length) (hl : len = l.length) (h1 : 1 ≤ n) (h2 : n ≤ 512) (hd : (l[k]).data.length ≤ n) (hb : ∀ x ∈ (l[k]).data, x < 256)
    (hc : w.cell? ⟨q, o, none⟩ = some (.slice (some ⟨r, 0, none⟩) len cap)) (hr : Row w r (l.flatMap pgCells) 251) :
    Calls Tryz.prog 124 #[.pointer (some ⟨q, o, none⟩), .int .i64 k, .int .i64 n] w fun e w' => ∃ a m cap, e = .returned (.tuple #[.slice a m cap, .int .i64 (l[k]).err]) ∧ Got w w' ((l[k]).bytes n) a m cap := by
  have hp := page_read l[k] n w h1 h2 hd hb
  obtain ⟨g0, g1⟩ := pg_cells hr hk
  have hkl : k < len := by omega
  generalize l[k] = p at *
  clear hr hd hb hk hl
  go_enter Tryz.func124, Tryz.ntmps124
  go_wp2_with (go_at_call 163; refine hp.mono ?_; rintro e w1 ⟨a, m, cap, rfl, q1, q2, q3, q4, q5, q7⟩; have q6 : Got w w1 (p.bytes n) a m cap := ⟨q1, q2, q3, q4, q5, q7⟩; clear q1 q2 q3 q4 q5 q7)
  go_ret2
  exact ⟨a, m, cap, rfl, q6⟩

theorem at_none {c : CS} {n : Int} (h : c.at n = none) : n < 0 ∨ (¬ n < 0 ∧ c.bks[n.toNat]? = none) := by
  unfold CS.at at h
  split at h
  · left; assumption
  · right; exact ⟨by assumption, h⟩
theorem read_err {c : CS} (block page : Int) (h : c.on = false ∨ (c.on = true ∧ c.at block = none)) : ∃ x, c.read block page = ([], x) ∧ ((c.on = false ∧ x = 6) ∨ (c.on = true ∧ c.at block = none ∧ x = 22)) ∧ x ≠ 0 := by
  rcases h with h | ⟨h, h2⟩
  · exact ⟨6, by unfold CS.read; rw [if_pos h], .inl ⟨h, rfl⟩, by decide⟩
  · refine ⟨22, ?_, .inr ⟨h, h2, rfl⟩, by decide⟩
    unfold CS.read
    rw [if_neg (by rw [h]; decide)]
    rcases at_none h2 with e | ⟨e, e2⟩
    · rw [if_pos e]
    · rw [if_neg e, e2]
theorem read_at {c : CS} (block page : Int) {b : Bk} (h : c.on = true) (hb : c.at block = some b) : c.read block page = if page < 0 then ([], 22) else match b.pgs[page.toNat]? with | none => ([], 22) | some p => (p.bytes c.gz, p.err) := by
  obtain ⟨h1, h2⟩ := at_some hb
  unfold CS.read
  rw [if_neg (by rw [h]; decide), if_neg (by omega), h1]
  rfl

set_option maxHeartbeats 2000000 in
theorem read_any {base : Nat} {w : World} {c : CS} (h : Lies base w c) (block page : Int) :
    Calls Tryz.prog 85 #[.pointer (some ⟨c.p, 0, none⟩), .int .i64 block, .int .i64 page] w fun e w' => ∃ a m cap, e = .returned (.tuple #[.slice a m cap, .int .i64 (c.read block page).2]) ∧ Got w w' (c.read block page).1 a m cap := by
  by_cases he : c.on = false ∨ (c.on = true ∧ c.at block = none)
  · obtain ⟨x, e1, e2, e3⟩ := read_err block page he
    have hv := reach_none h block x e2
    rw [e1]
    have k1 : (x != 0) = true := by simpa using e3
    clear e1 e2 e3 he h
    go_enter Tryz.func85, Tryz.ntmps85
    go_wp2_with (go_at_call 122; refine hv.mono ?_; rintro e w' ⟨rfl, rfl⟩)
    go_ret2
    exact ⟨_, 0, 0, rfl, rfl, Nat.le_refl _, by decide, .inl rfl, Below.refl _ _, .inl rfl⟩
  · have ho : c.on = true := by
      cases hc : c.on with
      | false => exact absurd (.inl hc) he
      | true => rfl
    obtain ⟨b, hb⟩ : ∃ b, c.at block = some b := by
      cases hc : c.at block with
      | none => exact absurd (.inr ⟨ho, hc⟩) he
      | some b => exact ⟨b, rfl⟩
    have hv := reach_some h block ho hb
    rw [read_at block page ho hb]
    obtain ⟨hb1, hb2⟩ := at_some hb
    have hbm : b ∈ c.bks := List.mem_of_getElem? hb1
    have c0 := (At.of h.bks hb1).list
    obtain ⟨l1, l2, l3, _, _⟩ := h.good.plen b hbm
    obtain ⟨_, _, _, _, z1, z2⟩ := h.good.gs
    obtain ⟨fa, fc, h1, _⟩ := h.chip
    have c2 : w.cell? ⟨c.p, 2, none⟩ = some (.int .i64 c.gz) := h1.cell (by rfl)
    have hhas := has_any c.q (block.toNat * 4) b.r b.pgs.length b.cap page w c0
    by_cases hp : 0 ≤ page ∧ page < (b.pgs.length : Int)
    · obtain ⟨k, rfl⟩ : ∃ k : Nat, page = k := ⟨page.toNat, by omega⟩
      have hk : k < b.pgs.length := by omega
      have hpr := pages_read (o := block.toNat * 4) c.gz w hk rfl z1 z2 (h.good.dat b hbm _ (List.getElem_mem hk)).1 (h.good.dat b hbm _ (List.getElem_mem hk)).2 c0 (h.pgs b hbm)
      have hprD : ∀ j, Calls Tryz.prog 124 #[.pointer (some ⟨c.q, block.toNat * 4, none⟩), .int .i64 k, .int .i64 c.gz] (w.drewN j) fun e w' => ∃ a m cap, e = .returned (.tuple #[.slice a m cap, .int .i64 (b.pgs[k]).err]) ∧ Got w w' ((b.pgs[k]).bytes c.gz) a m cap := by
        intro j
        have hj := (h.drewN j)
        exact pages_read (o := block.toNat * 4) c.gz (w.drewN j) hk rfl z1 z2 (h.good.dat b hbm _ (List.getElem_mem hk)).1 (h.good.dat b hbm _ (List.getElem_mem hk)).2 c0 (hj.pgs b hbm) |>.mono (fun e w' ⟨a, m, cap, q1, q2, q3, q4, q5, q6, q7⟩ => ⟨a, m, cap, q1, q2, q3, q4, q5, Below.after (below_drawn w j) q6, q7⟩)
      rw [if_neg (by omega), show ((k : Int).toNat) = k from rfl, List.getElem?_eq_getElem hk]
      rw [decide_eq_true hp] at hhas
      have hpr1 := hprD 1
      clear hprD hpr
      generalize b.pgs[k] = p at *
      clear hp he hb hb1 hbm c0 l1 l2 l3 h1 h hk
      generalize c.gz = gz at *
      go_enter Tryz.func85, Tryz.ntmps85
      go_wp2_with (first
        | (go_at_call 122; refine hv.mono ?_; rintro e w' ⟨rfl, rfl⟩)
        | (go_at_call 123; refine hhas.mono ?_; rintro e w' ⟨rfl, rfl⟩))
      go_region_with (go_at_call 124; refine hpr1.mono ?_; rintro e w1 ⟨a, m, cap, rfl, q1⟩)
      all_goals go_wp2
      all_goals go_ret2
      all_goals exact ⟨a, m, cap, rfl, q1⟩
    · rw [decide_eq_false hp] at hhas
      have e : (if page < 0 then (([], 22) : List Nat × Int) else match b.pgs[page.toNat]? with | none => ([], 22) | some p => (p.bytes c.gz, p.err)) = ([], 22) := by
        split
        · rfl
        · rw [List.getElem?_eq_none (by omega)]
      rw [e]
      clear e hp he hb hb1 hbm c0 l1 l2 l3 h1 h
      go_enter Tryz.func85, Tryz.ntmps85
      go_wp2_with (first
        | (go_at_call 122; refine hv.mono ?_; rintro e w' ⟨rfl, rfl⟩)
        | (go_at_call 123; refine hhas.mono ?_; rintro e w' ⟨rfl, rfl⟩))
      go_ret2
      exact ⟨_, 0, 0, rfl, rfl, Nat.le_refl _, by decide, .inl rfl, Below.refl _ _, .inl rfl⟩

theorem mark_any {base : Nat} {w : World} {c : CS} (h : Lies base w c) (block : Int) :
    Calls Tryz.prog 171 #[.pointer (some ⟨c.p, 0, none⟩), .int .i64 block] w fun e w' => e = .returned (.int .i64 (c.mark block).1) ∧ Lies base w' (c.mark block).2 ∧ Kept c.foot w w' ∧ (c.mark block).2.foot = c.foot := by
  by_cases he : c.on = false ∨ (c.on = true ∧ c.at block = none)
  · obtain ⟨x, _, e2, e3⟩ := read_err block 0 he
    have e1 : c.mark block = (x, c) := by
      unfold CS.mark
      rcases e2 with ⟨h1, rfl⟩ | ⟨h1, h2, rfl⟩
      · rw [if_pos h1]
      · rw [if_neg (by rw [h1]; decide)]
        rcases at_none h2 with e | ⟨e, e2⟩
        · rw [if_pos e]
        · rw [if_neg e, e2]
    have hv := reach_none h block x e2
    rw [e1]
    have k1 : (x == 0) = false := by simpa using e3
    clear e1 e2 e3 he
    go_enter Tryz.func171, Tryz.ntmps171
    go_wp2_with (go_at_call 122; refine hv.mono ?_; rintro e w' ⟨rfl, rfl⟩)
    go_ret
    exact ⟨rfl, h, Kept.refl _ _, trivial⟩
  · have ho : c.on = true := by
      cases hc : c.on with
      | false => exact absurd (.inl hc) he
      | true => rfl
    obtain ⟨b, hb⟩ : ∃ b, c.at block = some b := by
      cases hc : c.at block with
      | none => exact absurd (.inr ⟨ho, hc⟩) he
      | some b => exact ⟨b, rfl⟩
    have hv := reach_some h block ho hb
    obtain ⟨hb1, hb2⟩ := at_some hb
    have hbm : b ∈ c.bks := List.mem_of_getElem? hb1
    have e1 : c.mark block = (0, { c with bks := c.bks.set block.toNat { b with bad := true } }) := by
      unfold CS.mark
      rw [if_neg (by rw [ho]; decide), if_neg (by omega), hb1]
    rw [e1]
    have c3 := (At.of h.bks hb1).bad
    have f3 := h.bks.frozen (block.toNat * 4 + 3)
    have fin : ∀ W, W = w.setCell ⟨c.q, block.toNat * 4 + 3, none⟩ (.bool true) → Lies base W { c with bks := c.bks.set block.toNat { b with bad := true } } ∧ Kept c.foot w W ∧ ({ c with bks := c.bks.set block.toNat { b with bad := true } } : CS).foot = c.foot := by
      rintro W rfl
      have hq : Row (w.setCell ⟨c.q, block.toNat * 4 + 3, none⟩ (.bool true)) c.q _ _ := bk_bad { b with bad := true } h.bks hb1 rfl
      have hk : Kept (fun k => k = c.p ∨ k = c.q ∨ k = b.r) w (w.setCell ⟨c.q, block.toNat * 4 + 3, none⟩ (.bool true)) := (Kept.refl _ w).setCell (p := ⟨c.q, block.toNat * 4 + 3, none⟩) (.inr (.inl rfl)) _
      obtain ⟨fa, fc, h1, h2⟩ := h.chip
      have hpq := h1.ne h.bks (by decide)
      have hk1 : Kept (fun k => k = c.q) w (w.setCell ⟨c.q, block.toNat * 4 + 3, none⟩ (.bool true)) := (Kept.refl (fun k => k = c.q) w).setCell (p := ⟨c.q, block.toNat * 4 + 3, none⟩) rfl _
      have h1' : Row (w.setCell ⟨c.q, block.toNat * 4 + 3, none⟩ (.bool true)) c.p (csCells { c with bks := c.bks.set block.toNat { b with bad := true } } fa fc) 77 := by
        have : csCells { c with bks := c.bks.set block.toNat { b with bad := true } } fa fc = csCells c fa fc := by simp [csCells]
        rw [this]; exact h1.other _ _ hpq
      exact h.step rfl rfl hb1 rfl rfl (h.good.set (h.good.plen b hbm) (h.good.dat b hbm)) hk ⟨fa, fc, h1', h2.kept hk1 (fun x cs hx e => hx.ne h.bks (by decide) e)⟩ hq ((h.pgs b hbm).other _ _ (fun e => (h.pgs b hbm).ne h.bks (by decide) e))
    clear e1 he hb1 hb2 hbm hb
    go_enter Tryz.func171, Tryz.ntmps171
    go_wp2_with (go_at_call 122; refine hv.mono ?_; rintro e w' ⟨rfl, rfl⟩)
    go_ret
    exact ⟨rfl, fin _ rfl⟩

theorem geometry_any {base : Nat} {w : World} {c : CS} (h : Lies base w c) :
    Calls Tryz.prog 59 #[.pointer (some ⟨c.p, 0, none⟩)] w fun e w' => e = .returned (.agg #[.int .i64 c.gb, .int .i64 c.gp, .int .i64 c.gz, .int .i64 c.gr]) ∧ Below w.heap.size w w' := by
  obtain ⟨fa, fc, h1, h2⟩ := h.chip
  have c0 : w.cell? ⟨c.p, 0, none⟩ = some (.int .i64 c.gb) := h1.cell (by rfl)
  have c1 : w.cell? ⟨c.p, 1, none⟩ = some (.int .i64 c.gp) := h1.cell (by rfl)
  have c2 : w.cell? ⟨c.p, 2, none⟩ = some (.int .i64 c.gz) := h1.cell (by rfl)
  have c3 : w.cell? ⟨c.p, 3, none⟩ = some (.int .i64 c.gr) := h1.cell (by rfl)
  have hp := h1.lt
  clear h1 h2 h
  go_enter Tryz.func59, Tryz.ntmps59
  go_wp2
  refine bodyPost_ret (v := .agg #[.int .i64 c.gb, .int .i64 c.gp, .int .i64 c.gz, .int .i64 c.gr]) ?_ rfl ⟨rfl, ?_⟩
  · simp [results, Tryz.f59, go_sem]
  · exact below_new w _
end Go.Proofs.YtkfecngkdlajgaaGreatDoor
namespace Go.Proofs.YtkfecngkdlajgaaGreatDoor
open Go.RowKit
set_option maxRecDepth 10000

/-- The error of a call whose block is none. -/
theorem prog_err {c : CS} {block page : Int} {data : List Nat} {x : Int} (e2 : (c.on = false ∧ x = 6) ∨ (c.on = true ∧ c.at block = none ∧ x = 22)) : c.program block page data = (x, c) ∧ c.erase block = (x, c) := by
  rcases e2 with ⟨h1, rfl⟩ | ⟨h1, h2, rfl⟩
  · unfold CS.program CS.erase
    exact ⟨by rw [if_pos h1], by rw [if_pos h1]⟩
  · unfold CS.program CS.erase
    rcases at_none h2 with e | ⟨e, e2⟩
    · exact ⟨by rw [if_neg (by rw [h1]; decide), if_pos e], by rw [if_neg (by rw [h1]; decide), if_pos e]⟩
    · exact ⟨by rw [if_neg (by rw [h1]; decide), if_neg e, e2], by rw [if_neg (by rw [h1]; decide), if_neg e, e2]⟩
theorem prog_at {c : CS} {block page : Int} {data : List Nat} {b : Bk} (ho : c.on = true) (hb : c.at block = some b) :
    c.program block page data = (if ¬ (0 ≤ page ∧ page < c.gp) ∨ c.gz < data.length then (22, c) else if b.bad = true ∨ page ≠ b.next then (1, { c with wrong := wrap64 (c.wrong + 1) }) else (c.told, { c.operated with bks := c.bks.set block.toNat (b.programmed data c.extent) })) ∧
    c.erase block = (if b.bad = true then (1, { c with wrong := wrap64 (c.wrong + 1) }) else (c.told, { c.operated with bks := c.bks.set block.toNat (({ b with erases := wrap64 (b.erases + 1) } : Bk).erased c.extent) })) := by
  obtain ⟨h1, h2⟩ := at_some hb
  unfold CS.program CS.erase
  refine ⟨?_, ?_⟩
  · rw [if_neg (by rw [ho]; decide), if_neg (by omega), h1]
  · rw [if_neg (by rw [ho]; decide), if_neg (by omega), h1]
theorem Lies.wronged {base : Nat} {w : World} {c : CS} (h : Lies base w c) : ∀ W, W = w.setCell ⟨c.p, 7, none⟩ (.int .i64 (wrap64 (c.wrong + 1))) → Lies base W { c with wrong := wrap64 (c.wrong + 1) } ∧ Kept c.foot w W ∧ ({ c with wrong := wrap64 (c.wrong + 1) } : CS).foot = c.foot := by
  rintro W rfl
  obtain ⟨fa, fc, h1, h2⟩ := h.chip
  have hk : Kept (fun k => k = c.p) w (w.setCell ⟨c.p, 7, none⟩ (.int .i64 (wrap64 (c.wrong + 1)))) := (Kept.refl (fun k => k = c.p) w).setCell (p := ⟨c.p, 7, none⟩) rfl _
  exact h.step0 rfl rfl rfl ⟨h.good.len, h.good.plen, h.good.qc, h.good.gs, h.good.dat, h.good.fok⟩ hk ⟨fa, fc, h1.set (i := 7) (.int .i64 (wrap64 (c.wrong + 1))) (by simp [csCells]), h2.kept hk (fault_block h1 hk)⟩

set_option maxHeartbeats 2000000 in
theorem program_all {base : Nat} {w : World} {c : CS} (h : Lies base w c) (block page : Int) (a : Option Addr) (m dc : Nat) (data : List Nat) (hm : m = data.length) (hd : BRow w a data) (hd2 : ∀ x ∈ data, x < 256) (hdne : data = [] ∨ ∀ b o, a = some ⟨b, o, none⟩ → ¬ c.foot b) :
    Calls Tryz.prog 201 #[.pointer (some ⟨c.p, 0, none⟩), .int .i64 block, .int .i64 page, .slice a m dc] w fun e w' => e = .returned (.int .i64 (c.program block page data).1) ∧ Lies base w' (c.program block page data).2 ∧ Kept c.foot w w' ∧ (c.program block page data).2.foot = c.foot := by
  by_cases he : c.on = false ∨ (c.on = true ∧ c.at block = none)
  · obtain ⟨x, _, e2, e3⟩ := read_err block 0 he
    have e1 := (prog_err (page := page) (data := data) e2).1
    have hv := reach_none h block x e2
    rw [e1]
    have k1 : (x != 0) = true := by simpa using e3
    clear e1 e2 e3 he hm hd hd2
    go_enter Tryz.func201, Tryz.ntmps201
    go_wp2_with (go_at_call 122; refine hv.mono ?_; rintro e w' ⟨rfl, rfl⟩)
    go_ret
    exact ⟨rfl, h, Kept.refl _ _, trivial⟩
  · have ho : c.on = true := by
      cases hc : c.on with
      | false => exact absurd (.inl hc) he
      | true => rfl
    obtain ⟨b, hb⟩ : ∃ b, c.at block = some b := by
      cases hc : c.at block with
      | none => exact absurd (.inr ⟨ho, hc⟩) he
      | some b => exact ⟨b, rfl⟩
    have hv := reach_some h block ho hb
    rw [(prog_at (page := page) (data := data) ho hb).1]
    obtain ⟨hb1, hb2⟩ := at_some hb
    have hbm : b ∈ c.bks := List.mem_of_getElem? hb1
    obtain ⟨c0, c1, _, c3⟩ := At.of h.bks hb1
    obtain ⟨l1, l2, l3, l4, l5⟩ := h.good.plen b hbm
    obtain ⟨fa, fc, h1, h2⟩ := h.chip
    have d2 : w.cell? ⟨c.p, 2, none⟩ = some (.int .i64 c.gz) := h1.cell (by rfl)
    have d7 : w.cell? ⟨c.p, 7, none⟩ = some (.int .i64 c.wrong) := h1.cell (by rfl)
    have f7 := h1.frozen 7
    have hhas := has_any c.q (block.toNat * 4) b.r b.pgs.length b.cap page w c0
    rw [l1] at hhas
    by_cases hp : 0 ≤ page ∧ page < (c.gp : Int)
    · rw [decide_eq_true hp] at hhas
      by_cases hz : c.gz < data.length
      · rw [if_pos (.inr hz)]
        have hz2 : (c.gz : Int) < (m : Int) := by omega
        clear hp he hb hb1 hbm hd hd2 hm
        go_enter Tryz.func201, Tryz.ntmps201
        go_wp2_with (first
          | (go_at_call 122; refine hv.mono ?_; rintro e w' ⟨rfl, rfl⟩)
          | (go_at_call 123; refine hhas.mono ?_; rintro e w' ⟨rfl, rfl⟩))
        go_ret
        exact ⟨rfl, h, Kept.refl _ _, trivial⟩
      · rw [if_neg (by rintro (q | q); exact q hp; exact hz q)]
        have hz2 : ¬ (c.gz : Int) < (m : Int) := by omega
        by_cases hbad : b.bad = true ∨ page ≠ b.next
        · rw [if_pos hbad]
          have fin := h.wronged
          have HB : Hid (b.bad = true ∨ page ≠ b.next) := hbad
          clear hp he hb hb1 hbm hd hd2 hm hbad
          generalize b.bad = bad at *
          cases bad with
          | true =>
            go_enter Tryz.func201, Tryz.ntmps201
            go_wp2_with (first
              | (go_at_call 122; refine hv.mono ?_; rintro e w' ⟨rfl, rfl⟩)
              | (go_at_call 123; refine hhas.mono ?_; rintro e w' ⟨rfl, rfl⟩))
            go_ret
            exact ⟨rfl, fin _ rfl⟩
          | false =>
            have k2 : (page != b.next) = true := by
              rcases HB.out with q | q
              · cases q
              · simpa using q
            go_enter Tryz.func201, Tryz.ntmps201
            go_wp2_with (first
              | (go_at_call 122; refine hv.mono ?_; rintro e w' ⟨rfl, rfl⟩)
              | (go_at_call 123; refine hhas.mono ?_; rintro e w' ⟨rfl, rfl⟩))
            go_ret
            exact ⟨rfl, fin _ rfl⟩
        · rw [if_neg hbad]
          have hbad1 : b.bad = false := by
            cases hc : b.bad with
            | true => exact absurd (.inl hc) hbad
            | false => rfl
          have hbad2 : page = b.next := Classical.byContradiction fun q => hbad (.inr q)
          have hop := operate_any c fa fc w h1 h2
          obtain ⟨k, hk⟩ : ∃ k : Nat, b.next = k := ⟨b.next.toNat, by omega⟩
          have hkl : k < b.pgs.length := by omega
          have hx := h.good.extent
          obtain ⟨g1, g2, g3⟩ := h.good.programmed hbm c.extent (by omega) (by omega) hd2
          have hpq := h1.ne h.bks (by decide)
          have hpr := h1.ne (h.pgs b hbm) (by decide)
          have hbB : ∀ W, Kept (fun k => k = c.p) w W → Row W c.q (c.bks.flatMap bkCells) 108 ∧ Row W b.r (b.pgs.flatMap pgCells) 251 := fun W hW => ⟨h.bks.kept hW (fun e => hpq e.symm), (h.pgs b hbm).kept hW (fun e => hpr e.symm)⟩
          have hdat : ∀ W, Kept (fun k => k = c.p) w W → BRow W a data := by
            intro W hW
            rcases hd with e | ⟨b', o, e, hcell⟩
            · exact .inl e
            · refine .inr ⟨b', o, e, fun i hi => ?_⟩
              rcases hdne with q | q
              · subst q; simp at hi
              · have := hcell i hi
                rw [World.cell?_of_block (w := w) (hW.block b' (World.block_lt_of_cell? w _ this) (fun e2 => q b' o e (.inl e2)))]
                exact this
          have hprog : ∀ W, Kept (fun k => k = c.p) w W → Calls Tryz.prog 217 #[.pointer (some ⟨c.q, block.toNat * 4, none⟩), .slice a m dc, .int .i64 c.extent] W fun e w' => e = .returned (.tuple #[]) ∧ Row w' b.r ((b.programmed data c.extent).pgs.flatMap pgCells) 251 ∧
              Row w' c.q ((c.bks.set block.toNat (b.programmed data c.extent)).flatMap bkCells) 108 ∧ Kept (fun k => k = c.q ∨ k = b.r) W w' := by
            intro W hW
            rw [hm]
            exact program_any c.q block.toNat c.bks b data a dc c.extent k W hb1 hx hk hkl (by omega) l3 (hbB W hW).1 (hbB W hW).2 (hdat W hW)
          have fin : ∀ W W' fa' fc', Row W c.p (csCells c.operated fa' fc') 77 → Flts W fa' fc' c.operated.fs → Kept (fun k => k = c.p) w W → Row W' b.r ((b.programmed data c.extent).pgs.flatMap pgCells) 251 → Row W' c.q ((c.bks.set block.toNat (b.programmed data c.extent)).flatMap bkCells) 108 → Kept (fun k => k = c.q ∨ k = b.r) W W' →
              Lies base W' { c.operated with bks := c.bks.set block.toNat (b.programmed data c.extent) } ∧ Kept c.foot w W' ∧ ({ c.operated with bks := c.bks.set block.toNat (b.programmed data c.extent) } : CS).foot = c.foot := by
            intro W W' fa' fc' q1 q2 q3 q4 q5 q6
            have hk6 : Kept (fun k => k = c.p ∨ k = c.q ∨ k = b.r) w W' := (q3.mono (fun k e => .inl e)).trans (q6.mono (fun k e => .inr e))
            have q7 : Row W' c.p (csCells { c.operated with bks := c.bks.set block.toNat (b.programmed data c.extent) } fa' fc') 77 := by
              have : csCells { c.operated with bks := c.bks.set block.toNat (b.programmed data c.extent) } fa' fc' = csCells c.operated fa' fc' := by simp [csCells, CS.operated]
              rw [this]
              refine q1.kept q6 ?_
              rintro (e | e)
              · exact hpq e
              · exact hpr e
            have q8 := q2.kept q6 (fun x cs hx e => by
              rcases e with e | e
              · exact hx.ne (hbB W q3).1 (by decide) e
              · exact hx.ne (hbB W q3).2 (by decide) e)
            exact h.step (b' := b.programmed data c.extent) rfl rfl hb1 rfl g3 (h.good.operated.set g1 g2) hk6 ⟨fa', fc', q7, q8⟩ q5 q4
          have k2 : (page != b.next) = false := by rw [hbad2]; simp
          have HP : Hid _ := hprog
          have HFi : Hid _ := fin
          obtain ⟨X, hX⟩ : ∃ X, X = ({ c.operated with bks := c.bks.set block.toNat (b.programmed data c.extent) } : CS) := ⟨_, rfl⟩
          rw [← hX] at HFi ⊢
          clear hX fin hprog
          clear hp he hb hb1 hbm hd hd2 hm hbad hbB hdat hdne g1 g2 g3 hx hk hkl hbad2 l1 l2 l3 l4 l5 h2 hz hpq hpr
          rw [hbad1] at c3
          go_enter Tryz.func201, Tryz.ntmps201
          go_wp2_with (first
            | (go_at_call 122; refine hv.mono ?_; rintro e w' ⟨rfl, rfl⟩)
            | (go_at_call 123; refine hhas.mono ?_; rintro e w' ⟨rfl, rfl⟩)
            | (go_at_call 196; refine hop.mono ?_; rintro e w1 ⟨rfl, fa', fc', q1, q2, q3⟩)
            | (go_at_call 217; refine (HP.out w1 q3).mono ?_; rintro e w2 ⟨rfl, q4, q5, q6⟩))
          go_ret
          exact ⟨rfl, HFi.out _ _ _ _ q1 q2 q3 q4 q5 q6⟩
    · rw [decide_eq_false hp] at hhas
      rw [if_pos (.inl hp)]
      clear hp he hb hb1 hbm hd hd2 hm
      go_enter Tryz.func201, Tryz.ntmps201
      go_wp2_with (first
        | (go_at_call 122; refine hv.mono ?_; rintro e w' ⟨rfl, rfl⟩)
        | (go_at_call 123; refine hhas.mono ?_; rintro e w' ⟨rfl, rfl⟩))
      go_ret
      exact ⟨rfl, h, Kept.refl _ _, trivial⟩

set_option maxHeartbeats 2000000 in
theorem erase_all {base : Nat} {w : World} {c : CS} (h : Lies base w c) (block : Int) :
    Calls Tryz.prog 168 #[.pointer (some ⟨c.p, 0, none⟩), .int .i64 block] w fun e w' => e = .returned (.int .i64 (c.erase block).1) ∧ Lies base w' (c.erase block).2 ∧ Kept c.foot w w' ∧ (c.erase block).2.foot = c.foot := by
  by_cases he : c.on = false ∨ (c.on = true ∧ c.at block = none)
  · obtain ⟨x, _, e2, e3⟩ := read_err block 0 he
    have e1 := (prog_err (page := 0) (data := []) e2).2
    have hv := reach_none h block x e2
    rw [e1]
    have k1 : (x != 0) = true := by simpa using e3
    clear e1 e2 e3 he
    go_enter Tryz.func168, Tryz.ntmps168
    go_wp2_with (go_at_call 122; refine hv.mono ?_; rintro e w' ⟨rfl, rfl⟩)
    go_ret
    exact ⟨rfl, h, Kept.refl _ _, trivial⟩
  · have ho : c.on = true := by
      cases hc : c.on with
      | false => exact absurd (.inl hc) he
      | true => rfl
    obtain ⟨b, hb⟩ : ∃ b, c.at block = some b := by
      cases hc : c.at block with
      | none => exact absurd (.inr ⟨ho, hc⟩) he
      | some b => exact ⟨b, rfl⟩
    have hv := reach_some h block ho hb
    rw [(prog_at (page := 0) (data := []) ho hb).2]
    obtain ⟨hb1, hb2⟩ := at_some hb
    have hbm : b ∈ c.bks := List.mem_of_getElem? hb1
    obtain ⟨_, _, c2, c3⟩ := At.of h.bks hb1
    obtain ⟨l1, l2, l3, l4, l5⟩ := h.good.plen b hbm
    obtain ⟨_, _, _, z4, _, _⟩ := h.good.gs
    obtain ⟨fa, fc, h1, h2⟩ := h.chip
    have d7 : w.cell? ⟨c.p, 7, none⟩ = some (.int .i64 c.wrong) := h1.cell (by rfl)
    have f7 := h1.frozen 7
    by_cases hbad : b.bad = true
    · rw [if_pos hbad]
      have fin := h.wronged
      rw [hbad] at c3
      clear he hb hb1 hbm hbad
      go_enter Tryz.func168, Tryz.ntmps168
      go_wp2_with (go_at_call 122; refine hv.mono ?_; rintro e w' ⟨rfl, rfl⟩)
      go_ret
      exact ⟨rfl, fin _ rfl⟩
    · rw [if_neg hbad]
      have hbad1 : b.bad = false := by simpa using hbad
      have hop := operate_any c fa fc w h1 h2
      have hx := h.good.extent
      obtain ⟨g1, g2, g3⟩ := h.good.erased hbm c.extent (wrap64 (b.erases + 1))
      have hpq := h1.ne h.bks (by decide)
      have hpr := h1.ne (h.pgs b hbm) (by decide)
      have hqr := h.bks.ne (h.pgs b hbm) (by decide)
      have hbB : ∀ W, Kept (fun k => k = c.p) w W → W.cell? ⟨c.q, block.toNat * 4 + 2, none⟩ = some (.int .i64 b.erases) ∧ W.frozen? ⟨c.q, block.toNat * 4 + 2, none⟩ = false ∧ Row (W.setCell ⟨c.q, block.toNat * 4 + 2, none⟩ (.int .i64 (wrap64 (b.erases + 1)))) c.q ((c.bks.set block.toNat { b with erases := wrap64 (b.erases + 1) }).flatMap bkCells) 108 ∧ Row (W.setCell ⟨c.q, block.toNat * 4 + 2, none⟩ (.int .i64 (wrap64 (b.erases + 1)))) b.r (b.pgs.flatMap pgCells) 251 := by
        intro W hW
        have j1 := h.bks.kept hW (fun e => hpq e.symm)
        have j2 := (h.pgs b hbm).kept hW (fun e => hpr e.symm)
        exact ⟨(At.of j1 hb1).erases, j1.frozen _, bk_erases { b with erases := wrap64 (b.erases + 1) } j1 hb1 rfl, j2.other _ _ hqr.symm⟩
      have hbi : (c.bks.set block.toNat { b with erases := wrap64 (b.erases + 1) })[block.toNat]? = some { b with erases := wrap64 (b.erases + 1) } := by
        rw [List.getElem?_set_self (List.getElem?_eq_some_iff.1 hb1).1]
      have her : ∀ W, Kept (fun k => k = c.p) w W → Calls Tryz.prog 197 #[.pointer (some ⟨c.q, block.toNat * 4, none⟩), .int .i64 c.extent] (W.setCell ⟨c.q, block.toNat * 4 + 2, none⟩ (.int .i64 (wrap64 (b.erases + 1)))) fun e w' => e = .returned (.tuple #[]) ∧ Row w' b.r ((({ b with erases := wrap64 (b.erases + 1) } : Bk).erased c.extent).pgs.flatMap pgCells) 251 ∧
          Row w' c.q ((c.bks.set block.toNat (({ b with erases := wrap64 (b.erases + 1) } : Bk).erased c.extent)).flatMap bkCells) 108 ∧ Kept (fun k => k = c.q ∨ k = b.r) W w' := by
        intro W hW
        obtain ⟨_, _, j3, j4⟩ := hbB W hW
        refine (erase_any c.q block.toNat _ { b with erases := wrap64 (b.erases + 1) } c.extent _ hbi hx (by show b.pgs.length ≤ 64; omega) j3 j4).mono ?_
        rintro e w' ⟨rfl, r1, r2, r3⟩
        rw [List.set_set] at r2
        exact ⟨rfl, r1, r2, ((Kept.refl _ W).setCell (p := ⟨c.q, block.toNat * 4 + 2, none⟩) (.inl rfl) _).trans r3⟩
      have fin : ∀ W W' fa' fc', Row W c.p (csCells c.operated fa' fc') 77 → Flts W fa' fc' c.operated.fs → Kept (fun k => k = c.p) w W → Row W' b.r ((({ b with erases := wrap64 (b.erases + 1) } : Bk).erased c.extent).pgs.flatMap pgCells) 251 → Row W' c.q ((c.bks.set block.toNat (({ b with erases := wrap64 (b.erases + 1) } : Bk).erased c.extent)).flatMap bkCells) 108 → Kept (fun k => k = c.q ∨ k = b.r) W W' →
          Lies base W' { c.operated with bks := c.bks.set block.toNat (({ b with erases := wrap64 (b.erases + 1) } : Bk).erased c.extent) } ∧ Kept c.foot w W' ∧ ({ c.operated with bks := c.bks.set block.toNat (({ b with erases := wrap64 (b.erases + 1) } : Bk).erased c.extent) } : CS).foot = c.foot := by
        intro W W' fa' fc' q1 q2 q3 q4 q5 q6
        have hk6 : Kept (fun k => k = c.p ∨ k = c.q ∨ k = b.r) w W' := (q3.mono (fun k e => .inl e)).trans (q6.mono (fun k e => .inr e))
        have q7 : Row W' c.p (csCells { c.operated with bks := c.bks.set block.toNat (({ b with erases := wrap64 (b.erases + 1) } : Bk).erased c.extent) } fa' fc') 77 := by
          have : csCells { c.operated with bks := c.bks.set block.toNat (({ b with erases := wrap64 (b.erases + 1) } : Bk).erased c.extent) } fa' fc' = csCells c.operated fa' fc' := by simp [csCells, CS.operated]
          rw [this]
          refine q1.kept q6 ?_
          rintro (e | e)
          · exact hpq e
          · exact hpr e
        have q8 := q2.kept q6 (fun x cs hx e => by
          rcases e with e | e
          · exact hx.ne (h.bks.kept q3 (fun e => hpq e.symm)) (by decide) e
          · exact hx.ne ((h.pgs b hbm).kept q3 (fun e => hpr e.symm)) (by decide) e)
        exact h.step (b' := ({ b with erases := wrap64 (b.erases + 1) } : Bk).erased c.extent) rfl rfl hb1 rfl g3 (h.good.operated.set g1 g2) hk6 ⟨fa', fc', q7, q8⟩ q5 q4
      have HB : Hid _ := hbB
      have HP : Hid _ := her
      have HFi : Hid _ := fin
      obtain ⟨X, hX⟩ : ∃ X, X = ({ c.operated with bks := c.bks.set block.toNat (({ b with erases := wrap64 (b.erases + 1) } : Bk).erased c.extent) } : CS) := ⟨_, rfl⟩
      rw [← hX] at HFi ⊢
      clear hX fin her hbB hbi
      clear he hb hb1 hbm hbad g1 g2 g3 hx l1 l2 l3 l4 l5 h2 hpq hpr hqr
      rw [hbad1] at c3
      go_enter Tryz.func168, Tryz.ntmps168
      go_wp2_with (first
        | (go_at_call 122; refine hv.mono ?_; rintro e w' ⟨rfl, rfl⟩)
        | (go_at_call 196; refine hop.mono ?_; rintro e w1 ⟨rfl, fa', fc', q1, q2, q3⟩; obtain ⟨j1, j2, _, _⟩ := HB.out w1 q3)
        | (go_at_call 197; refine (HP.out w1 q3).mono ?_; rintro e w2 ⟨rfl, q4, q5, q6⟩))
      go_ret
      exact ⟨rfl, HFi.out _ _ _ _ q1 q2 q3 q4 q5 q6⟩
end Go.Proofs.YtkfecngkdlajgaaGreatDoor
