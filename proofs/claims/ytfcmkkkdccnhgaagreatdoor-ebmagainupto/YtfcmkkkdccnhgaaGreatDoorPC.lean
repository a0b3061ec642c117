/-
  The document's manager: Write.
-/
import Derived.Test.YtfcmkkkdccnhgaaGreatDoorPB
import Derived.Test.YtfcmkkkdccnhgaaGreatDoorKH
import Derived.Deep.RegionLaw
import Derived.Deep.RegionHeld3
namespace Go.Proofs.YtfcmkkkdccnhgaaGreatDoor
open Go.RowKit
set_option maxRecDepth 10000

theorem pown_low {w : World} {base base' e size n : Nat} {v : Value} {xs : List Value} (h : w.ownsRow base' e size v n xs) (hb : base ≤ base') : w.ownsRow base e size v n xs := by
  refine ⟨h.1, ?_⟩
  rcases h.2 with e | ⟨g, cap, cur, e, hbg, rest⟩
  · exact .inl e
  · exact .inr ⟨g, cap, cur, e, Nat.le_trans hb hbg, rest⟩
theorem pheap_new (w : World) (o : Obj) : (w.alloc o).heap[w.heap.size]? = some o := by show (w.heap.push o)[w.heap.size]? = _; simp
theorem cell_far {W : World} {q p i j : Nat} {v : Value} (hne : p ≠ q) : (W.setCell ⟨q, i, none⟩ v).cell? ⟨p, j, none⟩ = W.cell? ⟨p, j, none⟩ := World.cell?_of_block (a := ⟨p, j, none⟩) (Below.heap_setCell _ _ _ p hne)
theorem hidW {p : Prop} (h : p) : Hid p := h
theorem infoPgD : (Tryz.prog.info? 36).map (fun i => (i.zero, i.size, i.bytes)) = some (some (.slice none 0 0), 1, 24) := by kernel_rfl
theorem dwrite_none {base : Nat} {w : World} {gb gp gz gr : Nat} {d : DMg} (h : DMs base w gb gp gz gr d) (leb : Int) (a : Option Addr) (n cap : Nat) (hn : ¬ (0 ≤ leb ∧ leb < d.ls.length)) :
    Calls Tryz.prog 33 #[.pointer (some ⟨d.p, 0, none⟩), .int .i64 leb, .slice a n cap] w fun e w' => e = .returned (.int .i64 22) ∧ w = w' := by
  have k1 := dnone_any h leb
  rw [decide_eq_true hn] at k1
  clear h hn
  go_enter Tryz.func33, Tryz.ntmps33
  go_wp2_with (go_at_call 73; refine k1.mono ?_; rintro e w1 ⟨rfl, rfl⟩)
  go_ret
  exact ⟨rfl, rfl⟩
theorem dwrite_long {base : Nat} {w : World} {gb gp gz gr : Nat} {d : DMg} (h : DMs base w gb gp gz gr d) (leb : Int) (a : Option Addr) (n cap : Nat) (hn : 0 ≤ leb ∧ leb < d.ls.length) (hz : gz < n) :
    Calls Tryz.prog 33 #[.pointer (some ⟨d.p, 0, none⟩), .int .i64 leb, .slice a n cap] w fun e w' => e = .returned (.int .i64 22) ∧ w = w' := by
  have k1 := dnone_any h leb
  rw [decide_eq_false (by simpa using hn)] at k1
  have c2 := h.cells.2.2.1
  have hz2 : (gz : Int) < (n : Int) := by omega
  clear h hn hz
  go_enter Tryz.func33, Tryz.ntmps33
  go_wp2_with (go_at_call 73; refine k1.mono ?_; rintro e w1 ⟨rfl, rfl⟩)
  go_ret
  exact ⟨rfl, rfl⟩
set_option maxHeartbeats 2000000 in
theorem dwrite_full {base : Nat} {w : World} {gb gp gz gr : Nat} {d : DMg} (h : DMs base w gb gp gz gr d) (hp : 2 ≤ gp ∧ gp ≤ 64) (i : Nat) (o : LB) (ho : d.ls[i]? = some o) (a : Option Addr) (n cap : Nat) (hz : n ≤ gz) (hl : gp ≤ o.pg.length + 2) :
    Calls Tryz.prog 33 #[.pointer (some ⟨d.p, 0, none⟩), .int .i64 (i : Nat), .slice a n cap] w fun e w' => e = .returned (.int .i64 28) ∧ Below w.heap.size w w' := by
  have hil := (List.getElem?_eq_some_iff.1 ho).1
  have k1 := dnone_any h (i : Nat)
  rw [decide_eq_false (by omega)] at k1
  have c2 := h.cells.2.2.1
  have ne := Wd.non w
  have cM := fun p : Wd w => quiet_same p (dmax_any (h.later p.h) hp)
  have z4 : ∀ p : Wd w, p.v.cell? ⟨d.p, 4, none⟩ = some (.slice (some ⟨d.q, 0, none⟩) d.ls.length d.qc) := fun p => (h.later p.h).cells.2.2.2.2
  obtain ⟨av, cv, e1⟩ := (h.each o (List.mem_of_getElem? ho)).form
  have z0 : ∀ p : Wd w, p.v.cell? ⟨d.q, i * 2, none⟩ = some (.slice av o.pg.length cv) := fun p => by rw [← e1]; exact ((h.later p.h).at ho).1
  have z1 : ∀ p : Wd w, p.v.cell? ⟨d.q, i * 2 + 1, none⟩ = some (.bool false) := fun p => ((h.later p.h).at ho).2
  have hi1 : (i : Int) < (d.ls.length : Int) := by omega
  have hz2 : ¬ (gz : Int) < (n : Int) := by omega
  have hl2 : (gp : Int) - 2 ≤ (o.pg.length : Int) := by omega
  clear h hil ho hz hl e1 hp
  go_enter Tryz.func33, Tryz.ntmps33
  go_wp2_with (go_at_call 73; refine k1.mono ?_; rintro e w1 ⟨rfl, rfl⟩)
  have i0 : ¬ (i : Int) < 0 := by omega
  refine quiet_below (by kernel_rfl) ?_
  repeat (first | go_big_quiet_skip | go_big_quiet_step (first
    | (go_at_call 39; exact cM _)))
  refine wpQuiet_nil ?_
  rintro _ ⟨p4, rfl⟩
  obtain ⟨w4, hw4⟩ : ∃ W, W = p4.v := ⟨_, rfl⟩
  have HB4 : Hid (Below w.heap.size w w4) := by rw [hw4]; exact p4.h
  rw [← hw4]
  clear hw4
  clear p4
  go_wp2
  go_ret
  exact ⟨rfl, HB4.out⟩
set_option maxHeartbeats 8000000 in
theorem dwrite_go {base : Nat} {w : World} {gb gp gz gr : Nat} {d : DMg} (h : DMs base w gb gp gz gr d) (hp : 2 ≤ gp ∧ gp ≤ 64) (hgz : 1 ≤ gz ∧ gz ≤ 512) (i : Nat) (o : LB) (ho : d.ls[i]? = some o) (a : Option Addr) (l : List Nat) (cap : Nat) (hB : BRow w a l) (hlt : ∀ y ∈ l, y < 256) (hz : l.length ≤ gz) (hl : o.pg.length + 2 < gp) :
    Calls Tryz.prog 33 #[.pointer (some ⟨d.p, 0, none⟩), .int .i64 (i : Nat), .slice a l.length cap] w fun e w' => e = .returned (.int .i64 0) ∧ ∃ x, x.pg = o.pg ++ [Hd.fillL l gz] ∧ DMs base w' gb gp gz gr (d.put i x) ∧ Kept (DFoot d) w w' := by
  have hil := (List.getElem?_eq_some_iff.1 ho).1
  have k1 := dnone_any h (i : Nat)
  rw [decide_eq_false (by omega)] at k1
  have c2 := h.cells.2.2.1
  have ne := Wd.non w
  have cM := fun p : Wd w => quiet_same p (dmax_any (h.later p.h) hp)
  have z4 : ∀ p : Wd w, p.v.cell? ⟨d.p, 4, none⟩ = some (.slice (some ⟨d.q, 0, none⟩) d.ls.length d.qc) := fun p => (h.later p.h).cells.2.2.2.2
  obtain ⟨av, cv, e1⟩ := (h.each o (List.mem_of_getElem? ho)).form
  have z0 : ∀ p : Wd w, p.v.cell? ⟨d.q, i * 2, none⟩ = some (.slice av o.pg.length cv) := fun p => by rw [← e1]; exact ((h.later p.h).at ho).1
  have z1 : ∀ p : Wd w, p.v.cell? ⟨d.q, i * 2 + 1, none⟩ = some (.bool false) := fun p => ((h.later p.h).at ho).2
  have hi1 : (i : Int) < (d.ls.length : Int) := by omega
  obtain ⟨n, hn⟩ : ∃ n, n = l.length := ⟨_, rfl⟩
  have hz2 : ¬ (gz : Int) < (n : Int) := by omega
  obtain ⟨np, hnp⟩ : ∃ n, n = o.pg.length := ⟨_, rfl⟩
  have hl2 : ¬ (gp : Int) - 2 ≤ (np : Int) := by omega
  obtain ⟨i0, hinf, hz0, hz1, hz3⟩ := info_parts infoPgD
  have HS : Hid (np + 1 ≤ 64) := (by omega : np + 1 ≤ 64)
  have HD : Hid (∀ X, Below w.heap.size w X → DMs base X gb gp gz gr d) := fun X hb => h.later hb
  have HO : Hid (d.ls[i]? = some o ∧ o.v = .slice av np cv ∧ np = o.pg.length) := ⟨ho, by rw [hnp]; exact e1, hnp⟩
  have HFi : Hid (∀ X, Below w.heap.size w X → Calls Tryz.prog 74 #[.slice a n cap, .int .i64 gz] X fun e w' => ∃ a4 c4, e = .returned (.slice a4 gz c4) ∧ DP X.heap.size w' (.slice a4 gz c4) (Hd.fillL l gz) ∧ Below X.heap.size X w') := fun X hb => by
    have := Hd.ref_fill a cap l gz (by omega) X (by have : (512 : Nat) ≤ maxLen := by decide
                                                    omega) (hB.later hb)
    rw [← hn] at this
    refine Calls.mono this ?_
    rintro e w' ⟨v, rfl, hown, hb'⟩
    obtain ⟨a4, c4, e4, _⟩ := owns_row hown
    rw [Hd.fillL_length] at e4
    subst e4
    exact ⟨a4, c4, rfl, ⟨hown, fun y hy => by
      unfold Hd.fillL at hy
      rcases List.mem_append.1 hy with hy | hy
      · exact hlt y (List.mem_of_mem_take hy)
      · simp at hy; omega⟩, hb'⟩
  have hbase : base ≤ w.heap.size := Nat.le_trans h.low.2 (Nat.le_of_lt h.row.lt)
  have HOwn : Hid (∀ X, Below w.heap.size w X → X.ownsRow base 36 1 (.slice av np cv) np o.us) := fun X hb => by
    have := ((h.later hb).each o (List.mem_of_getElem? ho)).own
    rw [e1] at this
    rw [hnp]
    exact this
  have HPu : Hid (∀ W1 W2 gg cc a4 c4, Below w.heap.size w W1 → DP base W1 (.slice a4 gz c4) (Hd.fillL l gz) → W1.grownBy W2 (Value.slice av np cv).ownBlock → W2.ownsRow base 36 1 (.slice (some ⟨gg, 0, none⟩) (np + 1) cc) (np + 1) (o.us ++ [.slice a4 gz c4]) → ((Value.slice av np cv).ownBlock = some gg ∨ gg = W1.heap.size) →
      (W2.cell? ⟨d.q, i * 2, none⟩ = some (.slice av np cv) ∧ W2.frozen? ⟨d.q, i * 2, none⟩ = false ∧ W2.cell? ⟨d.p, 4, none⟩ = some (.slice (some ⟨d.q, 0, none⟩) d.ls.length d.qc) ∧ W2.cell? ⟨d.p, 2, none⟩ = some (.int .i64 gz)) ∧ ∃ x : LB, x.pg = o.pg ++ [Hd.fillL l gz] ∧ DMs base (W2.setCell ⟨d.q, i * 2, none⟩ (.slice (some ⟨gg, 0, none⟩) (np + 1) cc)) gb gp gz gr (d.put i x) ∧ Kept (DFoot d) w (W2.setCell ⟨d.q, i * 2, none⟩ (.slice (some ⟨gg, 0, none⟩) (np + 1) cc))) := fun W1 W2 gg cc a4 c4 hb hdp hg hown hat => by
    have e2 : o.v = .slice av np cv := by rw [hnp]; exact e1
    rw [← e2] at hg hat
    rw [hnp] at hown
    obtain ⟨q1, q2, q3⟩ := (h.later hb).pushed ho hdp hg hown hat
    rw [← hnp] at q2 q3
    rw [e2] at q1
    have hbx := (h.later hb).box.kept (pgrown_kept hg) (fun e => (pown_type ((h.later hb).each o (List.mem_of_getElem? ho)).own e).ne (h.later hb).box (by decide) rfl)
    exact ⟨⟨q1.1, q1.2, hbx.cell (i := 4) rfl, hbx.cell (i := 2) rfl⟩, _, rfl, q2, (Kept.of_below hb).trans q3⟩
  have HBs : Hid (base ≤ w.heap.size) := hbase
  have HNe : Hid (d.p ≠ d.q) := h.box.ne h.row (by decide)
  rw [← hn]
  rw [← hnp] at z0
  clear hbase h hil ho hz hl e1 hp hB hlt hn hnp hgz
  go_enter Tryz.func33, Tryz.ntmps33
  go_wp2_with (go_at_call 73; refine k1.mono ?_; rintro e w1 ⟨rfl, rfl⟩)
  have i0' : ¬ (i : Int) < 0 := by omega
  refine quiet_below (by kernel_rfl) ?_
  repeat (first | go_big_quiet_skip | go_big_quiet_step (first
    | (go_at_call 39; exact cM _)))
  refine wpQuiet_nil ?_
  rintro _ ⟨p4, rfl⟩
  obtain ⟨w3, hw3⟩ : ∃ W, W = p4.v := ⟨_, rfl⟩
  have HB3 : Hid (Below w.heap.size w w3) := by rw [hw3]; exact p4.h
  have hd3 := HD.out w3 HB3.out
  have y4 := hd3.cells.2.2.2.2
  have y2 := hd3.cells.2.2.1
  have y0 : w3.cell? ⟨d.q, i * 2, none⟩ = some (.slice av np cv) := by rw [← HO.out.2.1]; exact (hd3.at HO.out.1).1
  rw [← hw3]
  clear hw3 hd3
  clear p4 z0 z1 z4 cM ne k1
  go_wp2
  go_region_law (first
    | (refine step_append_lies _ (by rfl) _ _ _ (by rfl) base 36 i0 _ 1 24 Tryz.underlying37 hinf hz0 hz1 hz3 rfl (by omega) (.slice av np cv) np o.us (by rfl) (HOwn.out _ (Below.after HW4.out.1 (below_new w4 _))) ⟨w4.heap.size, 0, none⟩ 1 1 [.slice a4 gz c4] (by rfl) (by rfl) (World.news_of_block (cs := #[.slice a4 gz c4]) (t := 36) (fr := (0, 0)) (pheap_new w4 _)) (by simp [Value.oneCell']) (by omega) (by have := HS.out; unfold maxLen; omega) (by have := HS.out; omega) (by have := HBs.out; have := HW4.out.1.size; simp; omega) (w4.heap.size + 1) (by simp) ?_; intro gg cc w5 hown5 hgrow hat hlt2; obtain ⟨⟨r0, r1, r2, r3⟩, hfin⟩ := HPu.out _ w5 gg cc a4 c4 (Below.after HW4.out.1 (below_new w4 (.cells #[.slice a4 gz c4] 36))) (HW4.out.2.kept (S := fun _ => False) (.of_below (below_new w4 _)) (fun _ _ => id)) hgrow hown5 (by rcases hat with e | e; exact .inl e; exact .inr (by rw [e]; simp)); have HFin := hidW hfin; clear hown5 hgrow hat hlt2 hfin)
    | (go_simp; go_wp2_with (go_at_call 74; refine (HFi.out _ (Below.after HB3.out (by first | exact below_drawn w3 1 | exact below_drew' w3))).mono ?_; rintro e w4 ⟨a4, c4, rfl, hdp, hb4⟩; have hbb := Below.after (Below.after HB3.out (by first | exact below_drawn w3 1 | exact below_drew' w3)) hb4; have hd4 := HD.out w4 hbb; have q4 := hd4.cells.2.2.2.2; have q2 := hd4.cells.2.2.1; have q0 : w4.cell? ⟨d.q, i * 2, none⟩ = some (.slice av np cv) := (by rw [← HO.out.2.1]; exact (hd4.at HO.out.1).1); have q5 : (w4.alloc (.cells #[.slice a4 gz c4] 36)).cell? ⟨d.q, i * 2, none⟩ = some (.slice av np cv) := (by have := (HD.out _ (Below.after hbb (below_new w4 (.cells #[.slice a4 gz c4] 36)))).at HO.out.1; rw [← HO.out.2.1]; exact this.1); have q6 : (w4.alloc (.cells #[.slice a4 gz c4] 36)).cell? ⟨d.p, 4, none⟩ = some (.slice (some ⟨d.q, 0, none⟩) d.ls.length d.qc) := (HD.out _ (Below.after hbb (below_new w4 (.cells #[.slice a4 gz c4] 36)))).cells.2.2.2.2; have HW4 : Hid (Below w.heap.size w w4 ∧ DP base w4 (.slice a4 gz c4) (Hd.fillL l gz)) := ⟨hbb, ⟨pown_low hdp.own (Nat.le_trans HBs.out HB3.out.size), hdp.lt⟩⟩; clear hd4 hdp hb4 hbb)))
  all_goals go_wp2
  all_goals go_ret
  all_goals exact ⟨rfl, HFin.out⟩
end Go.Proofs.YtfcmkkkdccnhgaaGreatDoor
