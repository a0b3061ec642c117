/-
  What Erase does with the document's chip: the memory behind it.
  Erase of the document's chip.
  What Arm does with the document's chip.
-/
import Derived.Test.YteoakhfofnocfaaGreatDoorGX
import Derived.Test.YteoakhfofnocfaaGreatDoorGW
namespace Go.Proofs.YteoakhfofnocfaaGreatDoor
open Go.RowKit
set_option maxRecDepth 10000

/-- One block has changed, its pages lying in new memory. -/
theorem DLies.step2 {base : Nat} {w w' : World} {d d' : DS} {i : Nat} {b b' : DBk} (h : DLies base w d) (hp : d'.p = d.p) (hq : d'.q = d.q) (hpa : d'.pa = d.pa ∧ d'.plan = d.plan) (hi : d.bks[i]? = some b) (hb : d'.bks = d.bks.set i b') (hR : w.heap.size ≤ b'.r) (good : DGood d')
    (hk : Kept (fun k => k = d.p ∨ k = d.q) w w') (h1 : Row w' d.p (dsCells d') 84)
    (h2 : Row w' d.q (d'.bks.flatMap dbCells) 87) (h3 : Row w' b'.r (b'.pgs.flatMap dpCells) 132) (h4 : ∀ p ∈ b'.pgs, DOk w' p) :
    DLies base w' d' ∧ Kept d.foot w w' ∧ ∀ k, d'.foot k → d.foot k ∨ w.heap.size ≤ k := by
  have hmono : Kept d.foot w w' := hk.mono (by
    rintro k (rfl | rfl)
    · exact .inl rfl
    · exact .inr (.inl rfl))
  have hil := (List.getElem?_eq_some_iff.1 hi).1
  have hmem : ∀ x ∈ d'.bks, x = b' ∨ x ∈ d.bks := by
    intro x hx
    rw [hb] at hx
    rcases List.mem_or_eq_of_mem_set hx with hx | hx
    · exact .inr hx
    · exact .inl hx
  have hfoot : ∀ k, d'.foot k → d.foot k ∨ w.heap.size ≤ k := by
    rintro k (rfl | rfl | hk)
    · exact .inl (.inl hp)
    · exact .inl (.inr (.inl hq))
    · obtain ⟨x, hx, rfl⟩ := List.mem_map.1 hk
      rcases hmem x hx with rfl | hx
      · exact .inr hR
      · exact .inl (.inr (.inr (List.mem_map.2 ⟨x, hx, rfl⟩)))
  have hlt : ∀ x ∈ d.bks, x.r < w.heap.size := fun x hx => (h.pgs x hx).1.lt
  refine ⟨⟨by rw [hp]; exact h1, by rw [hq]; exact h2, ?_, ?_, ?_, ?_, good⟩, hmono, hfoot⟩
  · intro x hx
    rcases hmem x hx with rfl | hx
    · exact ⟨h3, h4⟩
    · refine ⟨(h.pgs x hx).1.kept hk ?_, fun p hp => ((h.pgs x hx).2 p hp).kept hmono (u8_apart h)⟩
      rintro (e | e)
      · exact (h.pgs x hx).1.ne h.chip (by decide) e
      · exact (h.pgs x hx).1.ne h.bks (by decide) e
  · rw [hb, List.map_set]
    have hnd := h.nd
    rw [List.nodup_iff_pairwise_ne] at hnd ⊢
    rw [List.pairwise_iff_getElem] at hnd ⊢
    intro a c ha hc hac e
    simp only [List.length_set, List.length_map] at ha hc
    rw [List.getElem_set, List.getElem_set] at e
    split at e
    · split at e
      · omega
      · have := hlt d.bks[c] (List.getElem_mem hc)
        simp only [List.getElem_map] at e
        omega
    · split at e
      · have := hlt d.bks[a] (List.getElem_mem ha)
        simp only [List.getElem_map] at e
        omega
      · exact hnd a c (by simpa using ha) (by simpa using hc) hac e
  · intro k hk
    rcases hfoot k hk with q | q
    · exact h.low k q
    · have := h.low d.p (.inl rfl)
      have := h.chip.lt
      omega
  · rw [hpa.1, hpa.2]
    refine ⟨frow_kept h.plan.1 hmono (fun b o e hl => (h.plan.2 b o e hl).1), fun b o e hl => ⟨fun hf => ?_, Nat.lt_of_lt_of_le (h.plan.2 b o e hl).2 hmono.size⟩⟩
    rcases hfoot b hf with q | q
    · exact (h.plan.2 b o e hl).1 q
    · have := (h.plan.2 b o e hl).2; omega
/-- A page that was never programmed. -/
def zeroP : DPg := ⟨false, false, none, 0, 0, []⟩
theorem zeroP_ok (w : World) : DOk w zeroP := ⟨rfl, by simp [zeroP], .inl rfl, fun _ => ⟨rfl, rfl⟩, .inl rfl⟩
/-- The block behind an erase. -/
def DBk.era (b : DBk) (R gp : Nat) (pl : List DPg) (nx : Int) : DBk := ⟨R, gp, pl, nx, b.bad, wrap64 (b.erases + 1)⟩
def DS.erad (d : DS) (i : Nat) (b' : DBk) : DS := { d.counted with bks := d.bks.set i b' }
/-- What lies behind the stores of an erase. -/
structure EInv (w1 wr : World) (d : DS) (i : Nat) (b : DBk) (R : Nat) (pl : List DPg) (nx x kd td : Int) (F : Nat) : Prop where
  kept : Kept (fun k => k = d.p ∨ k = d.q) w1 wr
  chip : Row wr d.p (dsCells d.counted) 84
  bks : Row wr d.q ((d.bks.set i (b.era R d.gp pl nx)).flatMap dbCells) 87
  pgs : Row wr R (pl.flatMap dpCells) 132
  flt : Row wr F [.int .i64 x, .int .i64 kd, .int .i64 td] 121
theorem EInv.lies {base : Nat} {w1 wr : World} {d : DS} {i R F : Nat} {b : DBk} {pl : List DPg} {nx x kd td : Int} (h : EInv w1 wr d i b R pl nx x kd td F) (h1 : DLies base w1 d.counted) (hb : d.bks[i]? = some b) (hR : w1.heap.size ≤ R) (hl : pl.length = d.gp) (hn : 0 ≤ nx ∧ nx ≤ d.gp)
    (hp : ∀ p ∈ pl, p = zeroP ∨ p = blank) : DLies base wr (d.erad i (b.era R d.gp pl nx)) ∧ Kept d.foot w1 wr ∧ ∀ k, (d.erad i (b.era R d.gp pl nx)).foot k → d.foot k ∨ w1.heap.size ≤ k := by
  have hg := h1.good
  refine h1.step2 (d := d.counted) (d' := d.erad i (b.era R d.gp pl nx)) (b' := b.era R d.gp pl nx) rfl rfl ⟨rfl, rfl⟩ hb rfl hR ?_ h.kept ?_ h.bks h.pgs ?_
  · refine DGood.set (d := d.counted) hg ⟨hl, Nat.le_refl _, ?_, hn.1, hn.2⟩ ?_
    · have := hg.gs; show d.gp ≤ maxLen; unfold maxLen; have h4 : d.counted.gp = d.gp := rfl; omega
    · intro p hq
      rcases hp p hq with rfl | rfl <;> exact Nat.zero_le _
  · have : dsCells (d.erad i (b.era R d.gp pl nx)) = dsCells d.counted := by simp [dsCells, DS.erad]; rfl
    rw [this]; exact h.chip
  · intro p hq
    rcases hp p hq with rfl | rfl
    · exact zeroP_ok _
    · exact blank_ok _
theorem makeD (gp : Nat) (h : gp ≤ 64) : ∃ RP : Array Value, RP.toList = (List.replicate gp zeroP).flatMap dpCells ∧ ∀ W, (Instr.makeSlice 85 (.int .i64 (gp : Int)) (.int .i64 (gp : Int))).run Tryz.prog W = .ok (.slice (some ⟨W.heap.size, 0, none⟩) gp gp) (W.alloc (.cells RP 132)) := by
  obtain ⟨i0, hi, hz0, hz1, hz2⟩ := info_parts (show (Tryz.prog.info? 132).map (fun i => (i.zero, i.size, i.bytes)) = some (some (.agg #[.bool false, .bool false, .slice none 0 0]), 3, 32) by kernel_rfl)
  refine ⟨madeCells #[.bool false, .bool false, .slice none 0 0] (gp * 3), ?_, fun W => ?_⟩
  · have := made_flat [Value.bool false, .bool false, .slice none 0 0] (by decide) gp
    rw [show (madeCells #[Value.bool false, .bool false, .slice none 0 0] (gp * 3)) = madeCells [Value.bool false, .bool false, .slice none 0 0].toArray (gp * [Value.bool false, .bool false, .slice none 0 0].length) from rfl, this, List.flatMap_def, List.map_replicate]
    rfl
  · have := run_make (P := Tryz.prog) W 85 132 i0 _ Tryz.underlying85 hi hz0 .i64 .i64 gp gp (by omega) (Int.le_refl _) (by rw [hz2]; omega) (by omega)
    rw [hz1] at this
    exact this
end Go.Proofs.YteoakhfofnocfaaGreatDoor
namespace Go.Proofs.YteoakhfofnocfaaGreatDoor
open Go.RowKit
set_option maxRecDepth 10000

theorem era_some {d : DS} {block : Int} {b : DBk} (ho : d.off = false) (hb : d.at block = some b) : d.abs.erase block =
    (if b.bad = true then (1, { d.abs with wrong := wrap64 (d.wrong + 1) })
    else (d.flt.says, { d.abs.begun with bks := d.abs.bks.set block.toNat (({ b.abs with erases := wrap64 (b.erases + 1) } : ABk).erased d.gp d.flt.ext) })) := by
  unfold AS.erase
  rw [if_neg (show ¬ d.abs.off = true by show ¬ d.off = true; rw [ho]; decide), abs_at, hb]
  rfl
theorem d_era_err {base : Nat} {w : World} {d : DS} (h : DLies base w d) (block : Int) (he : d.off = true ∨ (d.off = false ∧ d.at block = none)) :
    Calls Tryz.prog 39 #[.pointer (some ⟨d.p, 0, none⟩), .int .i64 block] w fun e w' => e = .returned (.int .i64 (d.abs.erase block).1) ∧ DPost base w w' d (d.abs.erase block).2 d := by
  have ha := d_asked h block
  obtain ⟨x, hx, hx0, hr⟩ : ∃ x : Int, d.asked block = x ∧ ¬ x = 0 ∧ d.abs.erase block = (x, d.abs) := by
    rcases he with ho | ⟨ho, hb⟩
    · exact ⟨6, by unfold DS.asked; rw [if_pos ho], by decide, by unfold AS.erase; rw [if_pos (show d.abs.off = true from ho)]⟩
    · refine ⟨22, by unfold DS.asked; rw [if_neg (by rw [ho]; decide), hb], by decide, ?_⟩
      unfold AS.erase
      rw [if_neg (show ¬ d.abs.off = true by show ¬ d.off = true; rw [ho]; decide), abs_at, hb]
      rfl
  rw [hx] at ha
  rw [hr]
  have hx2 : (x != 0) = true := by simpa using hx0
  have fin := DPost.same h
  generalize d.p = p at ha ⊢
  clear h hx hx0 hr he
  go_enter Tryz.func39, Tryz.ntmps39
  go_wp2_with (go_at_call 82; refine ha.mono ?_; rintro e w' ⟨rfl, rfl⟩)
  go_ret
  exact ⟨rfl, fin⟩
theorem d_era_wrong {base : Nat} {w : World} {d : DS} (h : DLies base w d) (i : Nat) {b : DBk} (ho : d.off = false) (hb : d.at i = some b) (hw : b.bad = true) :
    Calls Tryz.prog 39 #[.pointer (some ⟨d.p, 0, none⟩), .int .i64 i] w fun e w' => e = .returned (.int .i64 (d.abs.erase i).1) ∧ DPost base w w' d (d.abs.erase i).2 { d with wrong := wrap64 (d.wrong + 1) } := by
  have ha := d_asked h i
  rw [asked_ok ho hb] at ha
  rw [era_some ho hb, if_pos hw]
  obtain ⟨hb1, _⟩ := dat_some hb
  rw [set_toNat] at hb1
  have c4 := d_len h
  have d2 := (DAt.of h.bks hb1).bad
  rw [hw] at d2
  have hil : (i : Int) < (d.bks.length : Int) := by have := (List.getElem?_eq_some_iff.1 hb1).1; omega
  have c9 : w.cell? ⟨d.p, 9, none⟩ = some (.int .i64 d.wrong) := h.chip.cell (by rfl)
  have f9 := h.chip.frozen 9
  have fin : ∀ W, W = w.setCell ⟨d.p, 9, none⟩ (.int .i64 (wrap64 (d.wrong + 1))) → DPost base w W d { d.abs with wrong := wrap64 (d.wrong + 1) } { d with wrong := wrap64 (d.wrong + 1) } := by
    rintro W rfl
    obtain ⟨r1, r2, r3⟩ := h.step0 (d' := { d with wrong := wrap64 (d.wrong + 1) }) rfl rfl ⟨rfl, rfl⟩ rfl ⟨h.good.len, h.good.plen, h.good.qc, h.good.gs, h.good.dat, h.good.pln⟩ ((Kept.refl (fun k => k = d.p) w).setCell (p := ⟨d.p, 9, none⟩) rfl _) (h.chip.set (i := 9) (.int .i64 (wrap64 (d.wrong + 1))) (by simp [dsCells]))
    exact ⟨r1, r2, fun k hk => .inl (by rw [← r3]; exact hk), rfl, rfl, rfl, rfl⟩
  clear hb ho hw h hb1
  generalize d.p = p at *
  generalize d.q = q at *
  go_enter Tryz.func39, Tryz.ntmps39
  go_wp2_with (go_at_call 82; refine ha.mono ?_; rintro e w' ⟨rfl, rfl⟩)
  go_ret
  exact ⟨rfl, fin _ rfl⟩
/-- What is known when the operation has begun. -/
structure EAfter (w1 : World) (d : DS) (i : Nat) (b : DBk) : Prop where
  c1 : w1.cell? ⟨d.p, 1, none⟩ = some (.int .i64 d.gp)
  at_ : DAt w1 d.q (i * 4) b
  z : ∀ o, w1.frozen? ⟨d.q, o, none⟩ = false
  q_lt : d.q < w1.heap.size
  p_lt : d.p < w1.heap.size
theorem EAfter.of {base : Nat} {w1 : World} {d : DS} {i : Nat} {b : DBk} (h1 : DLies base w1 d.counted) (hb : d.bks[i]? = some b) : EAfter w1 d i b :=
  ⟨h1.chip.cell (by rfl), DAt.of h1.bks hb, fun o => h1.bks.frozen o, h1.bks.lt, h1.chip.lt⟩

theorem db_list {W : World} {q i : Nat} {l : List DBk} {b : DBk} {t : TypeId} (b' : DBk) (h : Row W q (l.flatMap dbCells) t) (hi : l[i]? = some b) (e : (dbCells b).set 0 (.slice (some ⟨b'.r, 0, none⟩) b'.pgs.length b'.cap) = dbCells b') : Row (W.setCell ⟨q, i * 4, none⟩ (.slice (some ⟨b'.r, 0, none⟩) b'.pgs.length b'.cap)) q ((l.set i b').flatMap dbCells) t := by
  have hlen := flat_len dbCells 4 db_len l
  have hlt := (List.getElem?_eq_some_iff.1 hi).1
  have := h.set (i := i * 4) (.slice (some ⟨b'.r, 0, none⟩) b'.pgs.length b'.cap) (by omega)
  have e2 := flat_set dbCells 4 db_len 0 (by decide) _ b' l i b hi e
  rw [Nat.add_zero] at e2
  rw [e2] at this
  exact this
/-- The blocks' row behind the stores of an erase. -/
theorem era_rows {base : Nat} {w1 : World} {d : DS} (h1 : DLies base w1 d.counted) {i : Nat} {b : DBk} (hb : d.bks[i]? = some b) (R : Nat) (nx : Int) :
    Row (((w1.setCell ⟨d.q, i * 4 + 3, none⟩ (.int .i64 (wrap64 (b.erases + 1)))).setCell ⟨d.q, i * 4, none⟩ (.slice (some ⟨R, 0, none⟩) d.gp d.gp)).setCell ⟨d.q, i * 4 + 1, none⟩ (.int .i64 nx)) d.q ((d.bks.set i (b.era R d.gp (List.replicate d.gp zeroP) nx)).flatMap dbCells) 87 := by
  have hlt := (List.getElem?_eq_some_iff.1 hb).1
  have hbk : Row w1 d.q (d.bks.flatMap dbCells) 87 := h1.bks
  have r1 := db_erases { b with erases := wrap64 (b.erases + 1) } hbk hb (by simp [dbCells])
  have hb1 : (d.bks.set i { b with erases := wrap64 (b.erases + 1) })[i]? = some { b with erases := wrap64 (b.erases + 1) } := List.getElem?_set_self hlt
  have r2 := db_list (b.era R d.gp (List.replicate d.gp zeroP) b.next) r1 hb1 (by simp [dbCells, DBk.era])
  have hb2 : (d.bks.set i (b.era R d.gp (List.replicate d.gp zeroP) b.next))[i]? = some (b.era R d.gp (List.replicate d.gp zeroP) b.next) := List.getElem?_set_self hlt
  rw [List.set_set] at r2
  have r3 := db_next (b.era R d.gp (List.replicate d.gp zeroP) nx) r2 hb2 (by simp [dbCells, DBk.era])
  rw [List.set_set] at r3
  simpa [DBk.era] using r3
theorem era_rows2 {base : Nat} {w1 : World} {d : DS} (h1 : DLies base w1 d.counted) {i : Nat} {b : DBk} (hb : d.bks[i]? = some b) (R : Nat) (nx : Int) :
    Row ((((w1.setCell ⟨d.q, i * 4 + 3, none⟩ (.int .i64 (wrap64 (b.erases + 1)))).setCell ⟨d.q, i * 4, none⟩ (.slice (some ⟨R, 0, none⟩) d.gp d.gp)).setCell ⟨d.q, i * 4 + 1, none⟩ (.int .i64 0)).setCell ⟨d.q, i * 4 + 1, none⟩ (.int .i64 nx)) d.q ((d.bks.set i (b.era R d.gp (List.replicate d.gp zeroP) nx)).flatMap dbCells) 87 := by
  have hlt := (List.getElem?_eq_some_iff.1 hb).1
  have hb2 : (d.bks.set i (b.era R d.gp (List.replicate d.gp zeroP) 0))[i]? = some (b.era R d.gp (List.replicate d.gp zeroP) 0) := List.getElem?_set_self hlt
  have r3 := db_next (b.era R d.gp (List.replicate d.gp zeroP) nx) (era_rows h1 hb R 0) hb2 (by simp [dbCells, DBk.era])
  rw [List.set_set] at r3
  exact r3
theorem einv_of {base : Nat} {w1 W : World} {d : DS} (h1 : DLies base w1 d.counted) {i : Nat} {b : DBk} (nx x kd td : Int) (RP : Array Value) (hRP : RP.toList = (List.replicate d.gp zeroP).flatMap dpCells)
    (hk : Kept (fun k => k = d.q) w1 W) (hs : W.heap.size = w1.heap.size) (hr : Row W d.q ((d.bks.set i (b.era (w1.heap.size + 1) d.gp (List.replicate d.gp zeroP) nx)).flatMap dbCells) 87) :
    EInv w1 ((W.alloc (Obj.cells #[.int .i64 x, .int .i64 kd, .int .i64 td] 121)).alloc (Obj.cells RP 132)) d i b (w1.heap.size + 1) (List.replicate d.gp zeroP) nx x kd td w1.heap.size := by
  have hch : Row W d.p (dsCells d.counted) 84 := h1.chip.kept hk (h1.chip.ne h1.bks (by decide))
  refine ⟨((hk.mono (fun k e => .inr e)).alloc _).alloc _, (hch.alloc _).alloc _, (hr.alloc _).alloc _, ?_, ?_⟩
  · have := Row.new (W.alloc (Obj.cells #[.int .i64 x, .int .i64 kd, .int .i64 td] 121)) RP.toList 132
    rw [World.size_alloc, hs] at this
    rw [← hRP]
    exact this
  · have := (Row.new W [Value.int .i64 x, .int .i64 kd, .int .i64 td] 121).alloc (Obj.cells RP 132)
    rw [hs] at this
    exact this
theorem spoil_next (k gp : Nat) (h : k < gp) : (List.replicate k blank ++ List.replicate (gp - k) zeroP).set k blank = List.replicate (k + 1) blank ++ List.replicate (gp - (k + 1)) zeroP := by
  obtain ⟨m, hm⟩ : ∃ m, gp - k = m + 1 := ⟨gp - k - 1, by omega⟩
  rw [List.set_append_right _ _ (by simp), List.length_replicate, Nat.sub_self, hm, List.replicate_succ (n := m), List.set_cons_zero, List.replicate_succ' (n := k), List.append_assoc, show gp - (k + 1) = m by omega]
  rfl
theorem spoil_at (k gp : Nat) (h : k < gp) : (List.replicate k blank ++ List.replicate (gp - k) zeroP)[k]? = some zeroP := by
  rw [List.getElem?_append_right (by simp), List.length_replicate, Nat.sub_self, List.getElem?_replicate, if_pos (by omega)]
theorem spoil_len (k gp : Nat) (h : k ≤ gp) : (List.replicate k blank ++ List.replicate (gp - k) zeroP).length = gp := by simp; omega
/-- A round of the spoiling. -/
theorem EInv.round {w1 wr : World} {d : DS} {i : Nat} {b : DBk} {k : Nat} {nx x kd td : Int} (h : EInv w1 wr d i b (w1.heap.size + 1) (List.replicate k blank ++ List.replicate (d.gp - k) zeroP) nx x kd td w1.heap.size) (hk : k < d.gp) :
    EInv w1 (((wr.setCell ⟨w1.heap.size + 1, k * 3, none⟩ (.bool true)).setCell ⟨w1.heap.size + 1, k * 3 + 1, none⟩ (.bool true)).setCell ⟨w1.heap.size + 1, k * 3 + 2, none⟩ (.slice none 0 0)) d i b (w1.heap.size + 1) (List.replicate (k + 1) blank ++ List.replicate (d.gp - (k + 1)) zeroP) nx x kd td w1.heap.size := by
  have n1 : d.p ≠ w1.heap.size + 1 := h.chip.ne h.pgs (by decide)
  have n2 : d.q ≠ w1.heap.size + 1 := h.bks.ne h.pgs (by decide)
  have n3 : w1.heap.size ≠ w1.heap.size + 1 := by omega
  refine ⟨?_, ((h.chip.other _ _ n1).other _ _ n1).other _ _ n1, ?_, ?_, ((h.flt.other _ _ n3).other _ _ n3).other _ _ n3⟩
  · exact ((h.kept.setNew (p := ⟨w1.heap.size + 1, k * 3, none⟩) (Nat.le_succ _) _).setNew (p := ⟨w1.heap.size + 1, k * 3 + 1, none⟩) (Nat.le_succ _) _).setNew (p := ⟨w1.heap.size + 1, k * 3 + 2, none⟩) (Nat.le_succ _) _
  · have e : (d.bks.set i (b.era (w1.heap.size + 1) d.gp (List.replicate (k + 1) blank ++ List.replicate (d.gp - (k + 1)) zeroP) nx)).flatMap dbCells = (d.bks.set i (b.era (w1.heap.size + 1) d.gp (List.replicate k blank ++ List.replicate (d.gp - k) zeroP) nx)).flatMap dbCells := by
      have : dbCells (b.era (w1.heap.size + 1) d.gp (List.replicate (k + 1) blank ++ List.replicate (d.gp - (k + 1)) zeroP) nx) = dbCells (b.era (w1.heap.size + 1) d.gp (List.replicate k blank ++ List.replicate (d.gp - k) zeroP) nx) := by
        simp only [dbCells, DBk.era]
        rw [spoil_len _ _ (by omega), spoil_len _ _ (by omega)]
      simp only [List.flatMap_def, List.map_set, this]
    rw [e]
    exact ((h.bks.other _ _ n2).other _ _ n2).other _ _ n2
  · have := dp_set blank h.pgs (spoil_at k d.gp hk)
    rw [spoil_next k d.gp hk] at this
    exact this
theorem EInv.cells {w1 wr : World} {d : DS} {i : Nat} {b : DBk} {k : Nat} {nx x kd td : Int} (h : EInv w1 wr d i b (w1.heap.size + 1) (List.replicate k blank ++ List.replicate (d.gp - k) zeroP) nx x kd td w1.heap.size) (hb : d.bks[i]? = some b) (hk : k ≤ d.gp) :
    wr.cell? ⟨d.p, 1, none⟩ = some (.int .i64 d.gp) ∧ wr.cell? ⟨d.q, i * 4, none⟩ = some (.slice (some ⟨w1.heap.size + 1, 0, none⟩) d.gp d.gp) ∧ w1.heap.size + 1 < wr.heap.size ∧ (∀ o, wr.frozen? ⟨w1.heap.size + 1, o, none⟩ = false) ∧
    (k < d.gp → wr.cell? ⟨w1.heap.size + 1, k * 3, none⟩ = some (.bool false) ∧ wr.cell? ⟨w1.heap.size + 1, k * 3 + 1, none⟩ = some (.bool false) ∧ wr.cell? ⟨w1.heap.size + 1, k * 3 + 2, none⟩ = some (.slice none 0 0)) ∧
    wr.cell? ⟨w1.heap.size, 0, none⟩ = some (.int .i64 x) ∧ wr.cell? ⟨w1.heap.size, 1, none⟩ = some (.int .i64 kd) ∧ wr.cell? ⟨w1.heap.size, 2, none⟩ = some (.int .i64 td) := by
  have hlt := (List.getElem?_eq_some_iff.1 hb).1
  refine ⟨h.chip.cell (i := 1) rfl, ?_, h.pgs.lt, fun o => h.pgs.frozen o, fun hk2 => ?_, h.flt.cell (i := 0) rfl, h.flt.cell (i := 1) rfl, h.flt.cell (i := 2) rfl⟩
  · have := (DAt.of h.bks (List.getElem?_set_self hlt)).list
    rw [this]
    simp only [DBk.era]
    rw [spoil_len _ _ hk]
  · have := spoil_at k d.gp hk2
    exact ⟨h.pgs.cell (flat_get dpCells 3 dp_len 0 (by decide) _ k _ this), h.pgs.cell (flat_get dpCells 3 dp_len 1 (by decide) _ k _ this), h.pgs.cell (flat_get dpCells 3 dp_len 2 (by decide) _ k _ this)⟩
/-- Where nothing is done but counting. -/
theorem era_count {base : Nat} {w1 : World} {d : DS} (h : DLies base w1 d.counted) {i : Nat} {b : DBk} (hb : d.bks[i]? = some b) (o : Obj) :
    DLies base ((w1.setCell ⟨d.q, i * 4 + 3, none⟩ (.int .i64 (wrap64 (b.erases + 1)))).alloc o) (d.erad i { b with erases := wrap64 (b.erases + 1) }) ∧ Kept d.foot w1 ((w1.setCell ⟨d.q, i * 4 + 3, none⟩ (.int .i64 (wrap64 (b.erases + 1)))).alloc o) ∧ ∀ k, (d.erad i { b with erases := wrap64 (b.erases + 1) }).foot k → d.foot k ∨ w1.heap.size ≤ k := by
  have hbm : b ∈ d.bks := List.mem_of_getElem? hb
  have hk1 : Kept (fun k => k = d.q) w1 (w1.setCell ⟨d.q, i * 4 + 3, none⟩ (.int .i64 (wrap64 (b.erases + 1)))) := (Kept.refl (fun k => k = d.q) w1).setCell (p := ⟨d.q, i * 4 + 3, none⟩) rfl _
  have hk : Kept (fun k => k = d.p ∨ k = d.q ∨ k = b.r) w1 (w1.setCell ⟨d.q, i * 4 + 3, none⟩ (.int .i64 (wrap64 (b.erases + 1)))) := hk1.mono (fun k e => .inr (.inl e))
  have hch : Row w1 d.p (dsCells d.counted) 84 := h.chip
  have hpq : d.p ≠ d.q := h.chip.ne h.bks (by decide)
  have hr := (h.pgs b hbm).1
  obtain ⟨r1, r2, r3⟩ := h.step (d := d.counted) (d' := d.erad i { b with erases := wrap64 (b.erases + 1) }) (b' := { b with erases := wrap64 (b.erases + 1) }) rfl rfl ⟨rfl, rfl⟩ hb rfl rfl
    (DGood.set (d := d.counted) h.good (h.good.plen b hbm) (h.good.dat b hbm)) hk (by
      have : dsCells (d.erad i { b with erases := wrap64 (b.erases + 1) }) = dsCells d.counted := by simp [dsCells, DS.erad]; rfl
      rw [this]; exact hch.other _ _ hpq)
    (db_erases { b with erases := wrap64 (b.erases + 1) } h.bks hb (by simp [dbCells])) (hr.other _ _ (fun e => hr.ne h.bks (by decide) e)) (fun p hp => ((h.pgs b hbm).2 p hp).kept hk1 (fun x cs hx e => hx.ne h.bks (by decide) e))
  exact ⟨r1.later (below_new _ _), r2.alloc _, fun k hk => .inl (by rw [r3] at hk; exact hk)⟩
/-- How the ways end. -/
theorem era_ends {base : Nat} {w w1 W W' : World} {d : DS} {i : Nat} {b b' : DBk} (x kd td : Int) (hf : d.flt = ⟨x, kd, td⟩)
    (hx : ({ b.abs with erases := wrap64 (b.erases + 1) } : ABk).erased d.gp d.flt.ext = b'.abs)
    (h0 : Kept (fun k => k = d.p) w w1) (h1 : Kept d.foot w1 W) (hsz : w1.heap.size ≤ W.heap.size) (hfoot : ∀ k, (d.erad i b').foot k → d.foot k ∨ w1.heap.size ≤ k) (h2 : Kept (d.erad i b').foot W W') (f : Flt) (hk : f.kind = kd) (h3 : DLies base W' ((d.erad i b').tell f).2) :
    DPost base w W' d { d.abs.begun with bks := d.abs.bks.set i (({ b.abs with erases := wrap64 (b.erases + 1) } : ABk).erased d.gp d.flt.ext) } ((d.erad i b').tell f).2 := by
  obtain ⟨t1, t2, t3, t4⟩ := tell_foot (d.erad i b') f
  have hw1 := h0.size
  have hk01 : Kept d.foot w w1 := h0.mono (fun k e => .inl e)
  refine ⟨h3, ?_, ?_, ?_, t2, t3, t4⟩
  · refine ⟨h2.os.trans (h1.os.trans h0.os), h2.tape.trans (h1.tape.trans h0.tape), h2.output.trans (h1.output.trans h0.output), by have := h1.size; have := h2.size; omega, fun k hk hn => ?_⟩
    have e1 := h1.block k (by omega) hn
    have e0 := hk01.block k hk hn
    have e2 := h2.block k (by omega) (fun q => by
      rcases hfoot k q with z | z
      · exact hn z
      · omega)
    exact e2.trans (e1.trans e0)
  · intro k hk
    rw [t1] at hk
    rcases hfoot k hk with z | z
    · exact .inl z
    · exact .inr (by omega)
  · rw [(tell_abs _ f).1, hx, hk]
    have e : d.abs.flt.kind = kd := by rw [abs_flt, hf]
    simp only [AS.begun, e]
    simp [DS.erad, DS.abs, DS.counted, List.map_set]

set_option maxHeartbeats 4000000 in
theorem d_era02 {base : Nat} {w : World} {d : DS} (h : DLies base w d) (i : Nat) {b : DBk} (ho : d.off = false) (hb : d.bks[i]? = some b)
    (hbad : b.bad = false) (x : Int) (hf : d.flt = ⟨x, 0, 2⟩) :
    Calls Tryz.prog 39 #[.pointer (some ⟨d.p, 0, none⟩), .int .i64 i] w fun e w' => ∃ d', e = .returned (.int .i64 d.flt.says) ∧ DPost base w w' d { d.abs.begun with bks := d.abs.bks.set i (({ b.abs with erases := wrap64 (b.erases + 1) } : ABk).erased d.gp d.flt.ext) } d' := by
  have hat : d.at i = some b := by unfold DS.at; rw [if_neg (by omega)]; simpa using hb
  have ha := d_asked h i
  rw [asked_ok ho hat] at ha
  have hfl := d_fault h
  rw [hf] at hfl
  have c4 := d_len h
  have d2 := (DAt.of h.bks hb).bad
  rw [hbad] at d2
  have hil : (i : Int) < (d.bks.length : Int) := by have := (List.getElem?_eq_some_iff.1 hb).1; omega
  have HG : Hid (∀ w1, DLies base w1 d.counted → EAfter w1 d i b) := fun w1 h1 => EAfter.of h1 hb
  have hpq : ¬ d.p = d.q := h.chip.ne h.bks (by decide)
  have hqp : ¬ d.q = d.p := fun e => hpq e.symm
  have HB : Hid (d.bks[i]? = some b) := hb
  have hgp : d.gp ≤ 64 := h.good.gs.2.2.2.1
  obtain ⟨RP, hRP, hmk⟩ := makeD d.gp hgp
  have HRP : Hid (RP.toList = (List.replicate d.gp zeroP).flatMap dpCells) := hRP
  have HBA : Hid (b.bad = false) := hbad
  have HF : Hid (d.flt = ⟨x, 0, 2⟩) := hf
  clear hb hat ho hbad h hf hRP
  go_enter Tryz.func39, Tryz.ntmps39
  go_wp2_with (first
    | (go_at_call 82; refine ha.mono ?_; rintro e w' ⟨rfl, rfl⟩)
    | (go_at_call 83; refine hfl.mono ?_; rintro e w1 ⟨rfl, hd1, hk1⟩; obtain ⟨g1, ⟨e0, e1, e2, e3⟩, z, z4, z5⟩ := HG.out w1 hd1; rw [HBA.out] at e2; have z0 := z (i * 4); have z1 := z (i * 4 + 1); have z3 := z (i * 4 + 3); have HD1 : Hid (DLies _ _ _) := hd1; have HK1 : Hid (Kept _ _ _) := hk1; clear hd1 hk1 z)
    | (go_at_call 84; obtain ⟨L5, K5, F5⟩ := EInv.lies (einv_of (b := b) HD1.out 0 x 0 2 RP HRP.out (((Kept.refl (fun k => k = d.q) w1).setCell (p := ⟨d.q, i * 4 + 3, none⟩) rfl _ |>.setCell (p := ⟨d.q, i * 4, none⟩) rfl _ |>.setCell (p := ⟨d.q, i * 4 + 1, none⟩) rfl _)) (by simp) (era_rows HD1.out HB.out (w1.heap.size + 1) 0)) HD1.out HB.out (Nat.le_succ _) (by simp) ⟨Int.le_refl _, by omega⟩ (fun p hp => .inl (List.eq_of_mem_replicate hp)); have T6 := d_told L5 ⟨x, 0, 2⟩; have HK6 : Hid (Kept _ _ _) := K5; have HF5 : Hid (∀ k, _ → _) := F5; clear L5 K5 F5; go_must (refine T6.mono ?_); rintro e w3 ⟨rfl, hl3, hk3⟩; have HL3 : Hid (DLies _ _ _) := hl3; have HK3 : Hid (Kept _ _ _) := hk3; clear hl3 hk3 T6))
  go_ret
  refine ⟨_, ?_, era_ends x 0 2 HF.out ?_ HK1.out HK6.out HK6.out.size HF5.out HK3.out ⟨x, 0, 2⟩ rfl HL3.out⟩
  · rw [HF.out, ← (tell_abs (d.erad i (b.era (w1.heap.size + 1) d.gp (List.replicate d.gp zeroP) 0)) ⟨x, 0, 2⟩).2]; rfl
  · rw [HF.out]
    show ABk.erased _ _ 2 = _
    unfold ABk.erased
    rw [if_neg (by decide), if_neg (by decide)]
    simp [DBk.abs, DBk.era, zeroP, DPg.abs]

set_option maxHeartbeats 4000000 in
theorem d_era12 {base : Nat} {w : World} {d : DS} (h : DLies base w d) (i : Nat) {b : DBk} (ho : d.off = false) (hb : d.bks[i]? = some b)
    (hbad : b.bad = false) (x : Int) (hf : d.flt = ⟨x, 1, 2⟩) :
    Calls Tryz.prog 39 #[.pointer (some ⟨d.p, 0, none⟩), .int .i64 i] w fun e w' => ∃ d', e = .returned (.int .i64 d.flt.says) ∧ DPost base w w' d { d.abs.begun with bks := d.abs.bks.set i (({ b.abs with erases := wrap64 (b.erases + 1) } : ABk).erased d.gp d.flt.ext) } d' := by
  have hat : d.at i = some b := by unfold DS.at; rw [if_neg (by omega)]; simpa using hb
  have ha := d_asked h i
  rw [asked_ok ho hat] at ha
  have hfl := d_fault h
  rw [hf] at hfl
  have c4 := d_len h
  have d2 := (DAt.of h.bks hb).bad
  rw [hbad] at d2
  have hil : (i : Int) < (d.bks.length : Int) := by have := (List.getElem?_eq_some_iff.1 hb).1; omega
  have HG : Hid (∀ w1, DLies base w1 d.counted → EAfter w1 d i b) := fun w1 h1 => EAfter.of h1 hb
  have hpq : ¬ d.p = d.q := h.chip.ne h.bks (by decide)
  have hqp : ¬ d.q = d.p := fun e => hpq e.symm
  have HB : Hid (d.bks[i]? = some b) := hb
  have hgp : d.gp ≤ 64 := h.good.gs.2.2.2.1
  obtain ⟨RP, hRP, hmk⟩ := makeD d.gp hgp
  have HRP : Hid (RP.toList = (List.replicate d.gp zeroP).flatMap dpCells) := hRP
  have HBA : Hid (b.bad = false) := hbad
  have HF : Hid (d.flt = ⟨x, 1, 2⟩) := hf
  clear hb hat ho hbad h hf hRP
  go_enter Tryz.func39, Tryz.ntmps39
  go_wp2_with (first
    | (go_at_call 82; refine ha.mono ?_; rintro e w' ⟨rfl, rfl⟩)
    | (go_at_call 83; refine hfl.mono ?_; rintro e w1 ⟨rfl, hd1, hk1⟩; obtain ⟨g1, ⟨e0, e1, e2, e3⟩, z, z4, z5⟩ := HG.out w1 hd1; rw [HBA.out] at e2; have z0 := z (i * 4); have z1 := z (i * 4 + 1); have z3 := z (i * 4 + 3); have HD1 : Hid (DLies _ _ _) := hd1; have HK1 : Hid (Kept _ _ _) := hk1; clear hd1 hk1 z)
    | (go_at_call 84; obtain ⟨L5, K5, F5⟩ := EInv.lies (einv_of (b := b) HD1.out 0 x 1 2 RP HRP.out (((Kept.refl (fun k => k = d.q) w1).setCell (p := ⟨d.q, i * 4 + 3, none⟩) rfl _ |>.setCell (p := ⟨d.q, i * 4, none⟩) rfl _ |>.setCell (p := ⟨d.q, i * 4 + 1, none⟩) rfl _)) (by simp) (era_rows HD1.out HB.out (w1.heap.size + 1) 0)) HD1.out HB.out (Nat.le_succ _) (by simp) ⟨Int.le_refl _, by omega⟩ (fun p hp => .inl (List.eq_of_mem_replicate hp)); have T6 := d_told L5 ⟨x, 1, 2⟩; have HK6 : Hid (Kept _ _ _) := K5; have HF5 : Hid (∀ k, _ → _) := F5; clear L5 K5 F5; go_must (refine T6.mono ?_); rintro e w3 ⟨rfl, hl3, hk3⟩; have HL3 : Hid (DLies _ _ _) := hl3; have HK3 : Hid (Kept _ _ _) := hk3; clear hl3 hk3 T6))
  go_ret
  refine ⟨_, ?_, era_ends x 1 2 HF.out ?_ HK1.out HK6.out HK6.out.size HF5.out HK3.out ⟨x, 1, 2⟩ rfl HL3.out⟩
  · rw [HF.out, ← (tell_abs (d.erad i (b.era (w1.heap.size + 1) d.gp (List.replicate d.gp zeroP) 0)) ⟨x, 1, 2⟩).2]; rfl
  · rw [HF.out]
    show ABk.erased _ _ 2 = _
    unfold ABk.erased
    rw [if_neg (by decide), if_neg (by decide)]
    simp [DBk.abs, DBk.era, zeroP, DPg.abs]

set_option maxHeartbeats 4000000 in
theorem d_era10 {base : Nat} {w : World} {d : DS} (h : DLies base w d) (i : Nat) {b : DBk} (ho : d.off = false) (hb : d.bks[i]? = some b)
    (hbad : b.bad = false) (x : Int) (hf : d.flt = ⟨x, 1, 0⟩) :
    Calls Tryz.prog 39 #[.pointer (some ⟨d.p, 0, none⟩), .int .i64 i] w fun e w' => ∃ d', e = .returned (.int .i64 d.flt.says) ∧ DPost base w w' d { d.abs.begun with bks := d.abs.bks.set i (({ b.abs with erases := wrap64 (b.erases + 1) } : ABk).erased d.gp d.flt.ext) } d' := by
  have hat : d.at i = some b := by unfold DS.at; rw [if_neg (by omega)]; simpa using hb
  have ha := d_asked h i
  rw [asked_ok ho hat] at ha
  have hfl := d_fault h
  rw [hf] at hfl
  have c4 := d_len h
  have d2 := (DAt.of h.bks hb).bad
  rw [hbad] at d2
  have hil : (i : Int) < (d.bks.length : Int) := by have := (List.getElem?_eq_some_iff.1 hb).1; omega
  have HG : Hid (∀ w1, DLies base w1 d.counted → EAfter w1 d i b) := fun w1 h1 => EAfter.of h1 hb
  have hpq : ¬ d.p = d.q := h.chip.ne h.bks (by decide)
  have hqp : ¬ d.q = d.p := fun e => hpq e.symm
  have HB : Hid (d.bks[i]? = some b) := hb
  have hgp : d.gp ≤ 64 := h.good.gs.2.2.2.1
  obtain ⟨RP, hRP, hmk⟩ := makeD d.gp hgp
  have HRP : Hid (RP.toList = (List.replicate d.gp zeroP).flatMap dpCells) := hRP
  have HBA : Hid (b.bad = false) := hbad
  have HF : Hid (d.flt = ⟨x, 1, 0⟩) := hf
  clear hb hat ho hbad h hf hRP
  go_enter Tryz.func39, Tryz.ntmps39
  go_wp2_with (first
    | (go_at_call 82; refine ha.mono ?_; rintro e w' ⟨rfl, rfl⟩)
    | (go_at_call 83; refine hfl.mono ?_; rintro e w1 ⟨rfl, hd1, hk1⟩; obtain ⟨g1, ⟨e0, e1, e2, e3⟩, z, z4, z5⟩ := HG.out w1 hd1; rw [HBA.out] at e2; have z0 := z (i * 4); have z1 := z (i * 4 + 1); have z3 := z (i * 4 + 3); have HD1 : Hid (DLies _ _ _) := hd1; have HK1 : Hid (Kept _ _ _) := hk1; clear hd1 hk1 z)
    | (go_at_call 84; obtain ⟨L5, K5, F5⟩ : DLies base ((w1.setCell ⟨d.q, i * 4 + 3, none⟩ (.int .i64 (wrap64 (b.erases + 1)))).alloc (Obj.cells #[.int .i64 x, .int .i64 1, .int .i64 0] 121)) (d.erad i { b with erases := wrap64 (b.erases + 1) }) ∧ Kept d.foot w1 ((w1.setCell ⟨d.q, i * 4 + 3, none⟩ (.int .i64 (wrap64 (b.erases + 1)))).alloc (Obj.cells #[.int .i64 x, .int .i64 1, .int .i64 0] 121)) ∧ ∀ k, (d.erad i { b with erases := wrap64 (b.erases + 1) }).foot k → d.foot k ∨ w1.heap.size ≤ k := era_count HD1.out HB.out _; have T6 := d_told L5 ⟨x, 1, 0⟩; have HK6 : Hid (Kept _ _ _) := K5; have HF5 : Hid (∀ k, _ → _) := F5; clear L5 K5 F5; go_must (refine T6.mono ?_); rintro e w3 ⟨rfl, hl3, hk3⟩; have HL3 : Hid (DLies _ _ _) := hl3; have HK3 : Hid (Kept _ _ _) := hk3; clear hl3 hk3 T6))
  go_ret
  refine ⟨_, ?_, era_ends x 1 0 HF.out ?_ HK1.out HK6.out HK6.out.size HF5.out HK3.out ⟨x, 1, 0⟩ rfl HL3.out⟩
  · rw [HF.out, ← (tell_abs (d.erad i { b with erases := wrap64 (b.erases + 1) }) ⟨x, 1, 0⟩).2]; rfl
  · rw [HF.out]; rfl

set_option maxHeartbeats 4000000 in
theorem d_era11 {base : Nat} {w : World} {d : DS} (h : DLies base w d) (i : Nat) {b : DBk} (ho : d.off = false) (hb : d.bks[i]? = some b)
    (hbad : b.bad = false) (x : Int) (hf : d.flt = ⟨x, 1, 1⟩) :
    Calls Tryz.prog 39 #[.pointer (some ⟨d.p, 0, none⟩), .int .i64 i] w fun e w' => ∃ d', e = .returned (.int .i64 d.flt.says) ∧ DPost base w w' d { d.abs.begun with bks := d.abs.bks.set i (({ b.abs with erases := wrap64 (b.erases + 1) } : ABk).erased d.gp d.flt.ext) } d' := by
  have hat : d.at i = some b := by unfold DS.at; rw [if_neg (by omega)]; simpa using hb
  have ha := d_asked h i
  rw [asked_ok ho hat] at ha
  have hfl := d_fault h
  rw [hf] at hfl
  have c4 := d_len h
  have d2 := (DAt.of h.bks hb).bad
  rw [hbad] at d2
  have hil : (i : Int) < (d.bks.length : Int) := by have := (List.getElem?_eq_some_iff.1 hb).1; omega
  have HG : Hid (∀ w1, DLies base w1 d.counted → EAfter w1 d i b) := fun w1 h1 => EAfter.of h1 hb
  have hpq : ¬ d.p = d.q := h.chip.ne h.bks (by decide)
  have hqp : ¬ d.q = d.p := fun e => hpq e.symm
  have HB : Hid (d.bks[i]? = some b) := hb
  have hgp : d.gp ≤ 64 := h.good.gs.2.2.2.1
  obtain ⟨RP, hRP, hmk⟩ := makeD d.gp hgp
  have HRP : Hid (RP.toList = (List.replicate d.gp zeroP).flatMap dpCells) := hRP
  have HBA : Hid (b.bad = false) := hbad
  have HF : Hid (d.flt = ⟨x, 1, 1⟩) := hf
  clear hb hat ho hbad h hf hRP
  go_enter Tryz.func39, Tryz.ntmps39
  go_wp2_with (first
    | (go_at_call 82; refine ha.mono ?_; rintro e w' ⟨rfl, rfl⟩)
    | (go_at_call 83; refine hfl.mono ?_; rintro e w1 ⟨rfl, hd1, hk1⟩; obtain ⟨g1, ⟨e0, e1, e2, e3⟩, z, z4, z5⟩ := HG.out w1 hd1; rw [HBA.out] at e2; have z0 := z (i * 4); have z1 := z (i * 4 + 1); have z3 := z (i * 4 + 3); have HD1 : Hid (DLies _ _ _) := hd1; have HK1 : Hid (Kept _ _ _) := hk1; clear hd1 hk1 z))
  have hE := einv_of (b := b) HD1.out d.gp x 1 1 RP HRP.out ((((Kept.refl (fun k => k = d.q) w1).setCell (p := ⟨d.q, i * 4 + 3, none⟩) rfl (.int .i64 (wrap64 (b.erases + 1)))).setCell (p := ⟨d.q, i * 4, none⟩) rfl (.slice (some ⟨w1.heap.size + 1, 0, none⟩) d.gp d.gp)).setCell (p := ⟨d.q, i * 4 + 1, none⟩) rfl (.int .i64 0) |>.setCell (p := ⟨d.q, i * 4 + 1, none⟩) rfl (.int .i64 d.gp)) (by simp) (era_rows2 HD1.out HB.out (w1.heap.size + 1) d.gp)
  have HE : Hid (EInv _ _ _ _ _ _ _ _ _ _ _ _) := hE
  clear hE e0 e1 e2 e3 z0 z1 z3 g1
  go_loopg [8] d.gp (fun gm s8 wr => ∃ k : Nat, k ≤ d.gp ∧ gm = d.gp - k ∧ s8 = .int .i64 k ∧ Hid (EInv w1 wr d i b (w1.heap.size + 1) (List.replicate k blank ++ List.replicate (d.gp - k) zeroP) d.gp x 1 1 w1.heap.size))
  case atStart => exact ⟨0, Nat.zero_le _, rfl, rfl, HE⟩
  case round =>
    obtain ⟨k, hk, hgk, rfl, HI⟩ := hrel
    clear HE
    obtain ⟨g1, g0, gl, gf, gc, f0, f1, f2⟩ := HI.out.cells HB.out hk
    have HKL : Hid (k ≤ d.gp) := hk
    by_cases hlt : k < d.gp
    · obtain ⟨u0, u1, u2⟩ := gc hlt
      have gf0 := gf (k * 3)
      have gf1 := gf (k * 3 + 1)
      have gf2 := gf (k * 3 + 2)
      have hI : (k : Int) < (d.gp : Int) := by omega
      have HN := HI.out.round hlt
      have HNx : Hid (EInv _ _ _ _ _ _ _ _ _ _ _ _) := HN
      clear gc gf HN
      go_wp2
      go_roundg (d.gp - (k + 1))
      case measure => omega
      case rel => exact ⟨k + 1, by omega, rfl, by go_num, HNx⟩
    · have hI : ¬ (k : Int) < (d.gp : Int) := by omega
      have hke : k = d.gp := by omega
      have HZ : Hid (EInv w1 wr d i b (w1.heap.size + 1) (List.replicate d.gp blank) d.gp x 1 1 w1.heap.size) := by
        have := HI.out
        rw [hke, Nat.sub_self, List.replicate_zero, List.append_nil] at this
        exact this
      clear gc gf HI hke
      go_wp2_with (go_at_call 84; obtain ⟨L5, K5, F5⟩ := HZ.out.lies HD1.out HB.out (Nat.le_succ _) (by simp) ⟨by omega, Int.le_refl _⟩ (fun p hp => .inr (List.eq_of_mem_replicate hp)); have T6 := d_told L5 ⟨x, 1, 1⟩; have HK6 : Hid (Kept _ _ _) := K5; have HF5 : Hid (∀ k, _ → _) := F5; clear L5 K5 F5; go_must (refine T6.mono ?_); rintro e w3 ⟨rfl, hl3, hk3⟩; have HL3 : Hid (DLies _ _ _) := hl3; have HK3 : Hid (Kept _ _ _) := hk3; clear hl3 hk3 T6)
      go_ret
      refine ⟨_, ?_, era_ends x 1 1 HF.out ?_ HK1.out HK6.out HK6.out.size HF5.out HK3.out ⟨x, 1, 1⟩ rfl HL3.out⟩
      · rw [HF.out, ← (tell_abs (d.erad i (b.era (w1.heap.size + 1) d.gp (List.replicate d.gp blank) d.gp)) ⟨x, 1, 1⟩).2]; rfl
      · rw [HF.out]
        show ABk.erased _ _ 1 = _
        unfold ABk.erased
        rw [if_neg (by decide), if_pos rfl]
        simp [DBk.abs, DBk.era, blank, DPg.abs]

set_option maxHeartbeats 4000000 in
theorem d_era20 {base : Nat} {w : World} {d : DS} (h : DLies base w d) (i : Nat) {b : DBk} (ho : d.off = false) (hb : d.bks[i]? = some b)
    (hbad : b.bad = false) (x : Int) (hf : d.flt = ⟨x, 2, 0⟩) :
    Calls Tryz.prog 39 #[.pointer (some ⟨d.p, 0, none⟩), .int .i64 i] w fun e w' => ∃ d', e = .returned (.int .i64 d.flt.says) ∧ DPost base w w' d { d.abs.begun with bks := d.abs.bks.set i (({ b.abs with erases := wrap64 (b.erases + 1) } : ABk).erased d.gp d.flt.ext) } d' := by
  have hat : d.at i = some b := by unfold DS.at; rw [if_neg (by omega)]; simpa using hb
  have ha := d_asked h i
  rw [asked_ok ho hat] at ha
  have hfl := d_fault h
  rw [hf] at hfl
  have c4 := d_len h
  have d2 := (DAt.of h.bks hb).bad
  rw [hbad] at d2
  have hil : (i : Int) < (d.bks.length : Int) := by have := (List.getElem?_eq_some_iff.1 hb).1; omega
  have HG : Hid (∀ w1, DLies base w1 d.counted → EAfter w1 d i b) := fun w1 h1 => EAfter.of h1 hb
  have hpq : ¬ d.p = d.q := h.chip.ne h.bks (by decide)
  have hqp : ¬ d.q = d.p := fun e => hpq e.symm
  have HB : Hid (d.bks[i]? = some b) := hb
  have hgp : d.gp ≤ 64 := h.good.gs.2.2.2.1
  obtain ⟨RP, hRP, hmk⟩ := makeD d.gp hgp
  have HRP : Hid (RP.toList = (List.replicate d.gp zeroP).flatMap dpCells) := hRP
  have HBA : Hid (b.bad = false) := hbad
  have HF : Hid (d.flt = ⟨x, 2, 0⟩) := hf
  clear hb hat ho hbad h hf hRP
  go_enter Tryz.func39, Tryz.ntmps39
  go_wp2_with (first
    | (go_at_call 82; refine ha.mono ?_; rintro e w' ⟨rfl, rfl⟩)
    | (go_at_call 83; refine hfl.mono ?_; rintro e w1 ⟨rfl, hd1, hk1⟩; obtain ⟨g1, ⟨e0, e1, e2, e3⟩, z, z4, z5⟩ := HG.out w1 hd1; rw [HBA.out] at e2; have z0 := z (i * 4); have z1 := z (i * 4 + 1); have z3 := z (i * 4 + 3); have HD1 : Hid (DLies _ _ _) := hd1; have HK1 : Hid (Kept _ _ _) := hk1; clear hd1 hk1 z))
  have hE := einv_of (b := b) HD1.out d.gp x 2 1 RP HRP.out ((((Kept.refl (fun k => k = d.q) w1).setCell (p := ⟨d.q, i * 4 + 3, none⟩) rfl (.int .i64 (wrap64 (b.erases + 1)))).setCell (p := ⟨d.q, i * 4, none⟩) rfl (.slice (some ⟨w1.heap.size + 1, 0, none⟩) d.gp d.gp)).setCell (p := ⟨d.q, i * 4 + 1, none⟩) rfl (.int .i64 0) |>.setCell (p := ⟨d.q, i * 4 + 1, none⟩) rfl (.int .i64 d.gp)) (by simp) (era_rows2 HD1.out HB.out (w1.heap.size + 1) d.gp)
  have HE : Hid (EInv _ _ _ _ _ _ _ _ _ _ _ _) := hE
  clear hE e0 e1 e2 e3 z0 z1 z3 g1
  go_loopg [8] d.gp (fun gm s8 wr => ∃ k : Nat, k ≤ d.gp ∧ gm = d.gp - k ∧ s8 = .int .i64 k ∧ Hid (EInv w1 wr d i b (w1.heap.size + 1) (List.replicate k blank ++ List.replicate (d.gp - k) zeroP) d.gp x 2 1 w1.heap.size))
  case atStart => exact ⟨0, Nat.zero_le _, rfl, rfl, HE⟩
  case round =>
    obtain ⟨k, hk, hgk, rfl, HI⟩ := hrel
    clear HE
    obtain ⟨g1, g0, gl, gf, gc, f0, f1, f2⟩ := HI.out.cells HB.out hk
    have HKL : Hid (k ≤ d.gp) := hk
    by_cases hlt : k < d.gp
    · obtain ⟨u0, u1, u2⟩ := gc hlt
      have gf0 := gf (k * 3)
      have gf1 := gf (k * 3 + 1)
      have gf2 := gf (k * 3 + 2)
      have hI : (k : Int) < (d.gp : Int) := by omega
      have HN := HI.out.round hlt
      have HNx : Hid (EInv _ _ _ _ _ _ _ _ _ _ _ _) := HN
      clear gc gf HN
      go_wp2
      go_roundg (d.gp - (k + 1))
      case measure => omega
      case rel => exact ⟨k + 1, by omega, rfl, by go_num, HNx⟩
    · have hI : ¬ (k : Int) < (d.gp : Int) := by omega
      have hke : k = d.gp := by omega
      have HZ : Hid (EInv w1 wr d i b (w1.heap.size + 1) (List.replicate d.gp blank) d.gp x 2 1 w1.heap.size) := by
        have := HI.out
        rw [hke, Nat.sub_self, List.replicate_zero, List.append_nil] at this
        exact this
      clear gc gf HI hke
      go_wp2_with (go_at_call 84; obtain ⟨L5, K5, F5⟩ := HZ.out.lies HD1.out HB.out (Nat.le_succ _) (by simp) ⟨by omega, Int.le_refl _⟩ (fun p hp => .inr (List.eq_of_mem_replicate hp)); have T6 := d_told L5 ⟨x, 2, 1⟩; have HK6 : Hid (Kept _ _ _) := K5; have HF5 : Hid (∀ k, _ → _) := F5; clear L5 K5 F5; go_must (refine T6.mono ?_); rintro e w3 ⟨rfl, hl3, hk3⟩; have HL3 : Hid (DLies _ _ _) := hl3; have HK3 : Hid (Kept _ _ _) := hk3; clear hl3 hk3 T6)
      go_ret
      refine ⟨_, ?_, era_ends x 2 0 HF.out ?_ HK1.out HK6.out HK6.out.size HF5.out HK3.out ⟨x, 2, 1⟩ rfl HL3.out⟩
      · rw [HF.out, ← (tell_abs (d.erad i (b.era (w1.heap.size + 1) d.gp (List.replicate d.gp blank) d.gp)) ⟨x, 2, 0⟩).2]; rfl
      · rw [HF.out]
        show ABk.erased _ _ 1 = _
        unfold ABk.erased
        rw [if_neg (by decide), if_pos rfl]
        simp [DBk.abs, DBk.era, blank, DPg.abs]

/-- Erase of the document's chip, whole. -/
theorem d_erase {base : Nat} {w : World} {d : DS} (h : DLies base w d) (block : Int) :
    Calls Tryz.prog 39 #[.pointer (some ⟨d.p, 0, none⟩), .int .i64 block] w fun e w' => ∃ d', e = .returned (.int .i64 (d.abs.erase block).1) ∧ DPost base w w' d (d.abs.erase block).2 d' := by
  by_cases he : d.off = true ∨ (d.off = false ∧ d.at block = none)
  · refine (d_era_err h block he).mono ?_
    rintro e w' ⟨h1, h2⟩
    exact ⟨d, h1, h2⟩
  · have ho : d.off = false := by cases hh : d.off with | true => exact absurd (.inl hh) he | false => rfl
    obtain ⟨b, hb⟩ : ∃ b, d.at block = some b := by
      cases hh : d.at block with
      | none => exact absurd (.inr ⟨ho, hh⟩) he
      | some b => exact ⟨b, rfl⟩
    obtain ⟨hb1, hb2⟩ := dat_some hb
    obtain ⟨i, rfl⟩ : ∃ i : Nat, block = i := ⟨block.toNat, by omega⟩
    by_cases hw : b.bad = true
    · refine (d_era_wrong h i ho hb hw).mono ?_
      rintro e w' ⟨h1, h2⟩
      exact ⟨_, h1, h2⟩
    · rw [era_some ho hb, if_neg hw]
      rw [set_toNat] at hb1
      simp only [set_toNat]
      have hbad : b.bad = false := by simpa using hw
      have hor : d.flt = ⟨0, 0, 2⟩ ∨ d.flt.ok := by
        rcases findF_or (wrap64 (wrap64 (d.ops + 1) - d.since)) d.plan with q | q
        · exact .inl q
        · exact .inr (h.good.pln.2.2.1 _ q)
      rcases hor with e | ⟨_, ⟨k1, t⟩ | ⟨k1, t⟩⟩
      · exact d_era02 h i ho hb1 hbad 0 e
      · have hfl : d.flt = ⟨d.flt.num, 1, d.flt.torn⟩ := by rw [← k1]
        rcases t with t | t | t
        · rw [t] at hfl; exact d_era10 h i ho hb1 hbad _ hfl
        · rw [t] at hfl; exact d_era11 h i ho hb1 hbad _ hfl
        · rw [t] at hfl; exact d_era12 h i ho hb1 hbad _ hfl
      · have hfl : d.flt = ⟨d.flt.num, 2, d.flt.torn⟩ := by rw [← k1]
        rw [t] at hfl
        exact d_era20 h i ho hb1 hbad _ hfl
end Go.Proofs.YteoakhfofnocfaaGreatDoor
namespace Go.Proofs.YteoakhfofnocfaaGreatDoor
open Go.RowKit
set_option maxRecDepth 10000

theorem infoFl_ : (Tryz.prog.info? 121).map (fun i => (i.zero, i.size, i.bytes)) = some (some (.agg #[.int .i64 0, .int .i64 0, .int .i64 0]), 3, 24) := by kernel_rfl
theorem frow_cells {w : World} {ad : Addr} {l : List Flt} (h : FRow w (some ad) l) : ∀ j u, (l.flatMap flCells)[j]? = some u → w.cell? (ad.add j) = some u := by
  rcases h with rfl | ⟨b, off, ha, hc⟩
  · intro j u hj; simp at hj
  · cases ha
    intro j u hj
    have hlt := (List.getElem?_eq_some_iff.1 hj).1
    rw [flat_len flCells 3 fl_len] at hlt
    have hil : j / 3 < l.length := by omega
    obtain ⟨f, hf⟩ : ∃ f, l[j / 3]? = some f := ⟨_, List.getElem?_eq_getElem hil⟩
    have e : (⟨b, off, none⟩ : Addr).add j = ⟨b, off + j, none⟩ := by unfold Addr.add; split <;> simp_all
    rw [e]
    obtain ⟨c0, c1, c2⟩ := hc (j / 3) f hf
    have hj3 : j % 3 = 0 ∨ j % 3 = 1 ∨ j % 3 = 2 := by omega
    have key : ∀ k, k < 3 → j % 3 = k → (flCells f)[k]? = some u := by
      intro k hk hk2
      have := flat_get flCells 3 fl_len k hk l (j / 3) f hf
      rw [show j / 3 * 3 + k = j by omega, hj] at this
      exact this.symm
    rcases hj3 with q | q | q
    · have := key 0 (by omega) q
      rw [show off + j = off + j / 3 * 3 by omega, c0]
      simpa [flCells] using this
    · have := key 1 (by omega) q
      rw [show off + j = off + j / 3 * 3 + 1 by omega, c1]
      simpa [flCells] using this
    · have := key 2 (by omega) q
      rw [show off + j = off + j / 3 * 3 + 2 by omega, c2]
      simpa [flCells] using this
theorem frow_of_row {w : World} {g : Nat} {l : List Flt} {t : TypeId} (h : Row w g (l.flatMap flCells) t) : FRow w (some ⟨g, 0, none⟩) l := by
  refine .inr ⟨g, 0, rfl, fun i f hf => ?_⟩
  rw [Nat.zero_add]
  exact ⟨h.cell (flat_get flCells 3 fl_len 0 (by decide) l i f hf), h.cell (flat_get flCells 3 fl_len 1 (by decide) l i f hf), h.cell (flat_get flCells 3 fl_len 2 (by decide) l i f hf)⟩
theorem wpList_append_flts {w : World} {ops : Array Oper} {rest : List Oper} {o : Oper} {a : Act} {Q : Exit → Act → World → Prop} (hgd : o.guard = none) (s x : Operand)
    (ho : o.op = .call { callee := .builtin .append, args := #[s, x], argTypes := #[36, 36] })
    (base : Nat) (v : Value) (n : Nat) (xs : List Value) (hs : a.eval s = v) (hown : w.ownsRow base 121 3 v n xs)
    (ao : Option Addr) (m c : Nat) (M : List Flt) (hx : a.eval x = .slice ao m c) (hM : m = M.length) (hr : FRow w ao M) (hnil : ao = none → m = 0 ∧ c = 0)
    (h63 : n + m ≤ maxLen) (hbytes : (n + m) * 24 ≤ 140737488355328) (hbase : base ≤ w.heap.size)
    (h : ∀ v' w', w'.ownsRow base 121 3 v' (n + m) (xs ++ M.flatMap flCells) → w.grownBy w' v.ownBlock → wpList Tryz.prog ops Q rest (a.put o.dst v') w') : wpList Tryz.prog ops Q (o :: rest) a w := by
  obtain ⟨i0, hi, hz0, hz1, hz2⟩ := info_parts infoFl_
  cases ao with
  | none =>
    obtain ⟨rfl, rfl⟩ := hnil rfl
    have hM0 : M = [] := List.eq_nil_of_length_eq_zero hM.symm
    subst hM0
    refine wpList_append_own_none hgd s x 36 ho base 121 i0 3 Tryz.underlying36 hi v n xs hs hown hx ?_
    exact h v w (by simpa using hown) ⟨rfl, rfl, rfl, Nat.le_refl _, fun _ _ _ => rfl⟩
  | some ad =>
    exact wpList_append_own w hgd s x 36 ho base 121 i0 (.agg #[.int .i64 0, .int .i64 0, .int .i64 0]) 3 24 Tryz.underlying36 hi hz0 hz1 hz2 rfl (by omega) v n xs hs hown ad m c (M.flatMap flCells) hx (by rw [flat_len flCells 3 fl_len, hM]) (frow_cells hr) (fl_one _) h63 hbytes hbase
      (fun v' w' h1 h2 _ => h v' w' h1 h2)
/-- The chip armed anew. -/
def DS.armed (d : DS) (na : Option Addr) (m nc : Nat) (l : List Flt) : DS := { d with pa := na, pl := m, pc := nc, plan := l, since := d.ops }
theorem arm_laid {base : Nat} {w1 w2 : World} {d : DS} (h1 : DLies base w1 d) (l : List Flt) (m : Nat) (hm : m = l.length) (v2 : Value) (hown : w2.ownsRow w1.heap.size 121 3 v2 (0 + m) ([] ++ l.flatMap flCells))
    (hgr : (w1.alloc (.cells #[] 121)).grownBy w2 (Value.ownBlock (.slice (some ⟨w1.heap.size, 0, none⟩) 0 0))) :
    ∃ na nc, v2 = .slice na m nc ∧ DLies base w2 d ∧ Below w1.heap.size w1 w2 ∧ FRow w2 na l ∧ ∀ b o, na = some ⟨b, o, none⟩ → l ≠ [] → (∃ cs, Row w2 b cs 121) ∧ w1.heap.size ≤ b := by
  have hb : Below w1.heap.size w1 w2 := (below_new w1 _).grown hgr (by simp) (fun k hk => by simp [Value.ownBlock] at hk; omega)
  rw [Nat.zero_add, List.nil_append] at hown
  obtain ⟨na, nc, rfl⟩ := own_form' hown
  refine ⟨na, nc, rfl, h1.later hb, hb, ?_, ?_⟩
  · by_cases he : l = []
    · exact .inl he
    · obtain ⟨g, cap, e2, _, _, _, hr⟩ := Row.of_owns hown (by rw [hm]; exact List.length_pos_iff.2 he)
      simp only [Value.slice.injEq] at e2
      rw [e2.1]
      exact frow_of_row hr
  · intro b o e hl
    obtain ⟨g, cap, e2, _, _, hg, hr⟩ := Row.of_owns hown (by rw [hm]; exact List.length_pos_iff.2 hl)
    simp only [Value.slice.injEq] at e2
    rw [e] at e2
    obtain ⟨e3, _⟩ := e2
    simp only [Option.some.injEq, Addr.mk.injEq] at e3
    rw [e3.1]
    exact ⟨⟨_, hr⟩, hg⟩
theorem DLies.arm {base : Nat} {w1 w2 : World} {d : DS} (h : DLies base w2 d) (hlt : ∀ k, d.foot k → k < w1.heap.size) (l : List Flt) (na : Option Addr) (m nc : Nat) (hm : m = l.length) (hy : m ≤ 256 ∧ planOk l) (hr : FRow w2 na l) (ha : ∀ b o, na = some ⟨b, o, none⟩ → l ≠ [] → (∃ cs, Row w2 b cs 121) ∧ w1.heap.size ≤ b) :
    DLies base ((w2.setCell ⟨d.p, 6, none⟩ (.slice na m nc)).setCell ⟨d.p, 7, none⟩ (.int .i64 d.ops)) (d.armed na m nc l) ∧ Kept d.foot w2 ((w2.setCell ⟨d.p, 6, none⟩ (.slice na m nc)).setCell ⟨d.p, 7, none⟩ (.int .i64 d.ops)) ∧
    ∀ b o, na = some ⟨b, o, none⟩ → l ≠ [] → ∃ cs, Row ((w2.setCell ⟨d.p, 6, none⟩ (.slice na m nc)).setCell ⟨d.p, 7, none⟩ (.int .i64 d.ops)) b cs 121 := by
  have hk : Kept (fun k => k = d.p) w2 ((w2.setCell ⟨d.p, 6, none⟩ (.slice na m nc)).setCell ⟨d.p, 7, none⟩ (.int .i64 d.ops)) := ((Kept.refl (fun k => k = d.p) w2).setCell (p := ⟨d.p, 6, none⟩) rfl _).setCell (p := ⟨d.p, 7, none⟩) rfl _
  have hmono : Kept d.foot w2 _ := hk.mono (fun k e => .inl e)
  have hnf : ∀ b o, na = some ⟨b, o, none⟩ → l ≠ [] → ¬ d.foot b := fun b o e hl q => by
    have h1 := (ha b o e hl).2
    have h2 := hlt b q
    omega
  refine ⟨⟨?_, ?_, ?_, h.nd, h.low, ⟨?_, ?_⟩, ?_⟩, hmono, ?_⟩
  · exact (h.chip.set (i := 6) (.slice na m nc) (by simp [dsCells])).set (i := 7) (.int .i64 d.ops) (by simp [dsCells])
  · exact h.bks.kept hk (fun e => h.bks.ne h.chip (by decide) e)
  · intro x hx; exact ⟨(h.pgs x hx).1.kept hk (fun e => (h.pgs x hx).1.ne h.chip (by decide) e), fun p hp => ((h.pgs x hx).2 p hp).kept hmono (u8_apart h)⟩
  · exact frow_kept hr hmono hnf
  · intro b o e hl
    refine ⟨hnf b o e hl, ?_⟩
    obtain ⟨⟨cs, hcs⟩, _⟩ := ha b o e hl
    exact Nat.lt_of_lt_of_le hcs.lt hmono.size
  · exact ⟨h.good.len, h.good.plen, h.good.qc, h.good.gs, h.good.dat, hm, hy.1, hy.2⟩
  · intro b o e hl
    obtain ⟨⟨cs, hcs⟩, _⟩ := ha b o e hl
    exact ⟨cs, hcs.kept hk (fun q => hnf b o e hl (.inl q))⟩
set_option maxHeartbeats 2000000 in
theorem d_arm {base : Nat} {w : World} {d : DS} (h : DLies base w d) (a : Option Addr) (m cap : Nat) (l : List Flt) (hm : m = l.length) (hm63 : m ≤ 9223372036854775807) (hr : FRow w a l) (hnil : a = none → m = 0 ∧ cap = 0) :
    Calls Tryz.prog 44 #[.pointer (some ⟨d.p, 0, none⟩), .slice a m cap] w fun e w' =>
      (¬ (m ≤ 256 ∧ planOk l) ∧ e = .returned (.int .i64 22) ∧ DLies base w' d ∧ Below w.heap.size w w') ∨
      ((m ≤ 256 ∧ planOk l) ∧ e = .returned (.int .i64 0) ∧ ∃ na nc, DLies base w' (d.armed na m nc l) ∧ Kept d.foot w w' ∧ ∀ b o, na = some ⟨b, o, none⟩ → l ≠ [] → ∃ cs, Row w' b cs 121) := by
  have kP := d_plan a m cap l w hm hm63 hr
  by_cases hy : m ≤ 256 ∧ planOk l
  · rw [planB_yes (by rw [← hm]; exact hy)] at kP
    have HL : Hid (∀ w1, Below w.heap.size w w1 → DLies base w1 d ∧ w1.cell? ⟨d.p, 8, none⟩ = some (.int .i64 d.ops) ∧ (∃ v6, w1.cell? ⟨d.p, 6, none⟩ = some v6) ∧ (∃ v7, w1.cell? ⟨d.p, 7, none⟩ = some v7) ∧ w1.frozen? ⟨d.p, 6, none⟩ = false ∧ w1.frozen? ⟨d.p, 7, none⟩ = false ∧ d.p < w1.heap.size ∧ FRow w1 a l) := fun w1 hb => by
      have h1 := h.later hb
      exact ⟨h1, h1.chip.cell (by rfl), ⟨_, h1.chip.cell (i := 6) rfl⟩, ⟨_, h1.chip.cell (i := 7) rfl⟩, h1.chip.frozen 6, h1.chip.frozen 7, h1.chip.lt, frow_later hr hb⟩
    have HM : Hid (m = l.length) := hm
    have HN : Hid (a = none → m = 0 ∧ cap = 0) := hnil
    have HY : Hid (m ≤ 256 ∧ planOk l) := hy
    have hm256 : m ≤ 256 := hy.1
    clear hm hr hnil hy h
    go_enter Tryz.func44, Tryz.ntmps44
    go_wp2_with (first
      | (go_at_call 36; refine kP.mono ?_; rintro e w1 ⟨rfl, hb1⟩; obtain ⟨l1, c8, ⟨v6, c6⟩, ⟨v7, c7⟩, f6, f7, hp, r1⟩ := HL.out w1 hb1; have HL1 : Hid (DLies _ _ _) := l1; have HB1 : Hid (Below _ _ _) := hb1; have HR1 : Hid (FRow _ _ _) := r1; clear l1 hb1 r1)
      | (at_builtin; go_must (refine wpList_append_flts rfl (.tmp 11) (.tmp 12) rfl w1.heap.size (.slice (some ⟨w1.heap.size, 0, none⟩) 0 0) 0 [] rfl (World.ownsRow_lit (e := 121) (size := 3) w1 #[] 0 (Nat.le_refl _) (by decide) rfl) a m cap l rfl HM.out (frow_later HR1.out (below_new _ _)) HN.out (by unfold maxLen; omega) (by omega) (by simp) ?_); intro v2 w2 hown2 hgrow2; obtain ⟨na, nc, rfl, l2, hb2, hr2, ha2⟩ := arm_laid HL1.out l m HM.out v2 hown2 hgrow2; have k6 := l2.chip.cell (i := 6) rfl; have k7 := l2.chip.cell (i := 7) rfl; have k8 := l2.chip.cell (i := 8) rfl; have y6 := l2.chip.frozen 6; have y7 := l2.chip.frozen 7; have HA : Hid (_ ∧ _ ∧ _) := l2.arm (w1 := w1) (fun k hk => HL1.out.foot_lt hk) l na m nc HM.out HY.out hr2 ha2; have HB2 : Hid (Below _ _ _) := hb2; clear hown2 hgrow2 l2 hb2 hr2 ha2))
    go_ret
    obtain ⟨r1, r2, r3⟩ := HA.out
    exact .inr ⟨HY.out, rfl, na, nc, r1, (Kept.of_below (Below.after HB1.out HB2.out)).trans r2, r3⟩
  · rw [planB_no (by rw [← hm]; exact hy)] at kP
    have HL : Hid (∀ w1, Below w.heap.size w w1 → DLies base w1 d) := fun w1 hb => h.later hb
    clear hm hr hnil h
    have HY : Hid (¬ (m ≤ 256 ∧ planOk l)) := hy
    clear hy
    go_enter Tryz.func44, Tryz.ntmps44
    go_wp2_with (go_at_call 36; refine kP.mono ?_; rintro e w1 ⟨rfl, hb1⟩; have HB1 : Hid (Below _ _ _) := hb1; clear hb1)
    go_ret
    exact .inl ⟨HY.out, rfl, HL.out _ HB1.out, HB1.out⟩
end Go.Proofs.YteoakhfofnocfaaGreatDoor
