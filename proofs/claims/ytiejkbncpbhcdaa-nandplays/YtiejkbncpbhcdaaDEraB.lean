/-
  Erase of the document's chip.
-/
import Derived.Test.YtiejkbncpbhcdaaDEra
namespace Go.Proofs.Ytiejkbncpbhcdaa
open Go.RowKit

theorem era_some {d : DS} {block : Int} {b : DBk} (ho : d.off = false) (hb : d.at block = some b) : d.abs.erase block =
    (if b.bad = true then (1, { d.abs with wrong := wrap64 (d.wrong + 1) })
    else (d.flt.says, { d.abs.begun with bks := d.abs.bks.set block.toNat (({ b.abs with erases := wrap64 (b.erases + 1) } : ABk).erased d.gp d.flt.ext) })) := by
  unfold AS.erase
  rw [if_neg (show ¬ d.abs.off = true by show ¬ d.off = true; rw [ho]; decide), abs_at, hb]
  rfl
theorem d_era_err {base : Nat} {w : World} {d : DS} (h : DLies base w d) (block : Int) (he : d.off = true ∨ (d.off = false ∧ d.at block = none)) :
    Calls Try.prog 33 #[.pointer (some ⟨d.p, 0, none⟩), .int .i64 block] w fun e w' => e = .returned (.int .i64 (d.abs.erase block).1) ∧ DPost base w w' d (d.abs.erase block).2 d := by
  have ha := d_asked h block
  obtain ⟨x, hx, hx0, hr⟩ : ∃ x : Int, d.asked block = x ∧ ¬ x = 0 ∧ d.abs.erase block = (x, d.abs) := by
    rcases he with ho | ⟨ho, hb⟩
    · exact ⟨6, by unfold DS.asked; rw [if_pos ho], by decide, by unfold AS.erase; rw [if_pos (show d.abs.off = true from ho)]⟩
    · refine ⟨22, by unfold DS.asked; rw [if_neg (by rw [ho]; decide), hb], by decide, ?_⟩
      unfold AS.erase
      rw [if_neg (show ¬ d.abs.off = true by show ¬ d.off = true; rw [ho]; decide), abs_at, hb]
      rfl
  rw [hx] at ha
  rw [hr]
  have hx2 : (x != 0) = true := by simpa using hx0
  have fin := DPost.same h
  generalize d.p = p at ha ⊢
  clear h hx hx0 hr he
  go_enter Try.func33, Try.ntmps33
  go_wp2_with (go_at_call 63; refine ha.mono ?_; rintro e w' ⟨rfl, rfl⟩)
  go_ret
  exact ⟨rfl, fin⟩
theorem d_era_wrong {base : Nat} {w : World} {d : DS} (h : DLies base w d) (i : Nat) {b : DBk} (ho : d.off = false) (hb : d.at i = some b) (hw : b.bad = true) :
    Calls Try.prog 33 #[.pointer (some ⟨d.p, 0, none⟩), .int .i64 i] w fun e w' => e = .returned (.int .i64 (d.abs.erase i).1) ∧ DPost base w w' d (d.abs.erase i).2 { d with wrong := wrap64 (d.wrong + 1) } := by
  have ha := d_asked h i
  rw [asked_ok ho hb] at ha
  rw [era_some ho hb, if_pos hw]
  obtain ⟨hb1, _⟩ := dat_some hb
  rw [set_toNat] at hb1
  have c4 := d_len h
  have d2 := (DAt.of h.bks hb1).bad
  rw [hw] at d2
  have hil : (i : Int) < (d.bks.length : Int) := by have := (List.getElem?_eq_some_iff.1 hb1).1; omega
  have c9 : w.cell? ⟨d.p, 9, none⟩ = some (.int .i64 d.wrong) := h.chip.cell (by rfl)
  have f9 := h.chip.frozen 9
  have fin : ∀ W, W = w.setCell ⟨d.p, 9, none⟩ (.int .i64 (wrap64 (d.wrong + 1))) → DPost base w W d { d.abs with wrong := wrap64 (d.wrong + 1) } { d with wrong := wrap64 (d.wrong + 1) } := by
    rintro W rfl
    obtain ⟨r1, r2, r3⟩ := h.step0 (d' := { d with wrong := wrap64 (d.wrong + 1) }) rfl rfl ⟨rfl, rfl⟩ rfl ⟨h.good.len, h.good.plen, h.good.qc, h.good.gs, h.good.dat, h.good.pln⟩ ((Kept.refl (fun k => k = d.p) w).setCell (p := ⟨d.p, 9, none⟩) rfl _) (h.chip.set (i := 9) (.int .i64 (wrap64 (d.wrong + 1))) (by simp [dsCells]))
    exact ⟨r1, r2, fun k hk => .inl (by rw [← r3]; exact hk), rfl, rfl, rfl, rfl⟩
  clear hb ho hw h hb1
  generalize d.p = p at *
  generalize d.q = q at *
  go_enter Try.func33, Try.ntmps33
  go_wp2_with (go_at_call 63; refine ha.mono ?_; rintro e w' ⟨rfl, rfl⟩)
  go_ret
  exact ⟨rfl, fin _ rfl⟩
/-- What is known when the operation has begun. -/
structure EAfter (w1 : World) (d : DS) (i : Nat) (b : DBk) : Prop where
  c1 : w1.cell? ⟨d.p, 1, none⟩ = some (.int .i64 d.gp)
  at_ : DAt w1 d.q (i * 4) b
  z : ∀ o, w1.frozen? ⟨d.q, o, none⟩ = false
  q_lt : d.q < w1.heap.size
  p_lt : d.p < w1.heap.size
theorem EAfter.of {base : Nat} {w1 : World} {d : DS} {i : Nat} {b : DBk} (h1 : DLies base w1 d.counted) (hb : d.bks[i]? = some b) : EAfter w1 d i b :=
  ⟨h1.chip.cell (by rfl), DAt.of h1.bks hb, fun o => h1.bks.frozen o, h1.bks.lt, h1.chip.lt⟩

theorem db_list {W : World} {q i : Nat} {l : List DBk} {b : DBk} {t : TypeId} (b' : DBk) (h : Row W q (l.flatMap dbCells) t) (hi : l[i]? = some b) (e : (dbCells b).set 0 (.slice (some ⟨b'.r, 0, none⟩) b'.pgs.length b'.cap) = dbCells b') : Row (W.setCell ⟨q, i * 4, none⟩ (.slice (some ⟨b'.r, 0, none⟩) b'.pgs.length b'.cap)) q ((l.set i b').flatMap dbCells) t := by
  have hlen := flat_len dbCells 4 db_len l
  have hlt := (List.getElem?_eq_some_iff.1 hi).1
  have := h.set (i := i * 4) (.slice (some ⟨b'.r, 0, none⟩) b'.pgs.length b'.cap) (by omega)
  have e2 := flat_set dbCells 4 db_len 0 (by decide) _ b' l i b hi e
  rw [Nat.add_zero] at e2
  rw [e2] at this
  exact this
/-- The blocks' row behind the stores of an erase. -/
theorem era_rows {base : Nat} {w1 : World} {d : DS} (h1 : DLies base w1 d.counted) {i : Nat} {b : DBk} (hb : d.bks[i]? = some b) (R : Nat) (nx : Int) :
    Row (((w1.setCell ⟨d.q, i * 4 + 3, none⟩ (.int .i64 (wrap64 (b.erases + 1)))).setCell ⟨d.q, i * 4, none⟩ (.slice (some ⟨R, 0, none⟩) d.gp d.gp)).setCell ⟨d.q, i * 4 + 1, none⟩ (.int .i64 nx)) d.q ((d.bks.set i (b.era R d.gp (List.replicate d.gp zeroP) nx)).flatMap dbCells) 64 := by
  have hlt := (List.getElem?_eq_some_iff.1 hb).1
  have hbk : Row w1 d.q (d.bks.flatMap dbCells) 64 := h1.bks
  have r1 := db_erases { b with erases := wrap64 (b.erases + 1) } hbk hb (by simp [dbCells])
  have hb1 : (d.bks.set i { b with erases := wrap64 (b.erases + 1) })[i]? = some { b with erases := wrap64 (b.erases + 1) } := List.getElem?_set_self hlt
  have r2 := db_list (b.era R d.gp (List.replicate d.gp zeroP) b.next) r1 hb1 (by simp [dbCells, DBk.era])
  have hb2 : (d.bks.set i (b.era R d.gp (List.replicate d.gp zeroP) b.next))[i]? = some (b.era R d.gp (List.replicate d.gp zeroP) b.next) := List.getElem?_set_self hlt
  rw [List.set_set] at r2
  have r3 := db_next (b.era R d.gp (List.replicate d.gp zeroP) nx) r2 hb2 (by simp [dbCells, DBk.era])
  rw [List.set_set] at r3
  simpa [DBk.era] using r3
theorem era_rows2 {base : Nat} {w1 : World} {d : DS} (h1 : DLies base w1 d.counted) {i : Nat} {b : DBk} (hb : d.bks[i]? = some b) (R : Nat) (nx : Int) :
    Row ((((w1.setCell ⟨d.q, i * 4 + 3, none⟩ (.int .i64 (wrap64 (b.erases + 1)))).setCell ⟨d.q, i * 4, none⟩ (.slice (some ⟨R, 0, none⟩) d.gp d.gp)).setCell ⟨d.q, i * 4 + 1, none⟩ (.int .i64 0)).setCell ⟨d.q, i * 4 + 1, none⟩ (.int .i64 nx)) d.q ((d.bks.set i (b.era R d.gp (List.replicate d.gp zeroP) nx)).flatMap dbCells) 64 := by
  have hlt := (List.getElem?_eq_some_iff.1 hb).1
  have hb2 : (d.bks.set i (b.era R d.gp (List.replicate d.gp zeroP) 0))[i]? = some (b.era R d.gp (List.replicate d.gp zeroP) 0) := List.getElem?_set_self hlt
  have r3 := db_next (b.era R d.gp (List.replicate d.gp zeroP) nx) (era_rows h1 hb R 0) hb2 (by simp [dbCells, DBk.era])
  rw [List.set_set] at r3
  exact r3
theorem einv_of {base : Nat} {w1 W : World} {d : DS} (h1 : DLies base w1 d.counted) {i : Nat} {b : DBk} (nx x kd td : Int) (RP : Array Value) (hRP : RP.toList = (List.replicate d.gp zeroP).flatMap dpCells)
    (hk : Kept (fun k => k = d.q) w1 W) (hs : W.heap.size = w1.heap.size) (hr : Row W d.q ((d.bks.set i (b.era (w1.heap.size + 1) d.gp (List.replicate d.gp zeroP) nx)).flatMap dbCells) 64) :
    EInv w1 ((W.alloc (Obj.cells #[.int .i64 x, .int .i64 kd, .int .i64 td] 78)).alloc (Obj.cells RP 102)) d i b (w1.heap.size + 1) (List.replicate d.gp zeroP) nx x kd td w1.heap.size := by
  have hch : Row W d.p (dsCells d.counted) 61 := h1.chip.kept hk (h1.chip.ne h1.bks (by decide))
  refine ⟨((hk.mono (fun k e => .inr e)).alloc _).alloc _, (hch.alloc _).alloc _, (hr.alloc _).alloc _, ?_, ?_⟩
  · have := Row.new (W.alloc (Obj.cells #[.int .i64 x, .int .i64 kd, .int .i64 td] 78)) RP.toList 102
    rw [World.size_alloc, hs] at this
    rw [← hRP]
    exact this
  · have := (Row.new W [Value.int .i64 x, .int .i64 kd, .int .i64 td] 78).alloc (Obj.cells RP 102)
    rw [hs] at this
    exact this
theorem spoil_next (k gp : Nat) (h : k < gp) : (List.replicate k blank ++ List.replicate (gp - k) zeroP).set k blank = List.replicate (k + 1) blank ++ List.replicate (gp - (k + 1)) zeroP := by
  obtain ⟨m, hm⟩ : ∃ m, gp - k = m + 1 := ⟨gp - k - 1, by omega⟩
  rw [List.set_append_right _ _ (by simp), List.length_replicate, Nat.sub_self, hm, List.replicate_succ (n := m), List.set_cons_zero, List.replicate_succ' (n := k), List.append_assoc, show gp - (k + 1) = m by omega]
  rfl
theorem spoil_at (k gp : Nat) (h : k < gp) : (List.replicate k blank ++ List.replicate (gp - k) zeroP)[k]? = some zeroP := by
  rw [List.getElem?_append_right (by simp), List.length_replicate, Nat.sub_self, List.getElem?_replicate, if_pos (by omega)]
theorem spoil_len (k gp : Nat) (h : k ≤ gp) : (List.replicate k blank ++ List.replicate (gp - k) zeroP).length = gp := by simp; omega
/-- A round of the spoiling. -/
theorem EInv.round {w1 wr : World} {d : DS} {i : Nat} {b : DBk} {k : Nat} {nx x kd td : Int} (h : EInv w1 wr d i b (w1.heap.size + 1) (List.replicate k blank ++ List.replicate (d.gp - k) zeroP) nx x kd td w1.heap.size) (hk : k < d.gp) :
    EInv w1 (((wr.setCell ⟨w1.heap.size + 1, k * 3, none⟩ (.bool true)).setCell ⟨w1.heap.size + 1, k * 3 + 1, none⟩ (.bool true)).setCell ⟨w1.heap.size + 1, k * 3 + 2, none⟩ (.slice none 0 0)) d i b (w1.heap.size + 1) (List.replicate (k + 1) blank ++ List.replicate (d.gp - (k + 1)) zeroP) nx x kd td w1.heap.size := by
  have n1 : d.p ≠ w1.heap.size + 1 := h.chip.ne h.pgs (by decide)
  have n2 : d.q ≠ w1.heap.size + 1 := h.bks.ne h.pgs (by decide)
  have n3 : w1.heap.size ≠ w1.heap.size + 1 := by omega
  refine ⟨?_, ((h.chip.other _ _ n1).other _ _ n1).other _ _ n1, ?_, ?_, ((h.flt.other _ _ n3).other _ _ n3).other _ _ n3⟩
  · exact ((h.kept.setNew (p := ⟨w1.heap.size + 1, k * 3, none⟩) (Nat.le_succ _) _).setNew (p := ⟨w1.heap.size + 1, k * 3 + 1, none⟩) (Nat.le_succ _) _).setNew (p := ⟨w1.heap.size + 1, k * 3 + 2, none⟩) (Nat.le_succ _) _
  · have e : (d.bks.set i (b.era (w1.heap.size + 1) d.gp (List.replicate (k + 1) blank ++ List.replicate (d.gp - (k + 1)) zeroP) nx)).flatMap dbCells = (d.bks.set i (b.era (w1.heap.size + 1) d.gp (List.replicate k blank ++ List.replicate (d.gp - k) zeroP) nx)).flatMap dbCells := by
      have : dbCells (b.era (w1.heap.size + 1) d.gp (List.replicate (k + 1) blank ++ List.replicate (d.gp - (k + 1)) zeroP) nx) = dbCells (b.era (w1.heap.size + 1) d.gp (List.replicate k blank ++ List.replicate (d.gp - k) zeroP) nx) := by
        simp only [dbCells, DBk.era]
        rw [spoil_len _ _ (by omega), spoil_len _ _ (by omega)]
      simp only [List.flatMap_def, List.map_set, this]
    rw [e]
    exact ((h.bks.other _ _ n2).other _ _ n2).other _ _ n2
  · have := dp_set blank h.pgs (spoil_at k d.gp hk)
    rw [spoil_next k d.gp hk] at this
    exact this
theorem EInv.cells {w1 wr : World} {d : DS} {i : Nat} {b : DBk} {k : Nat} {nx x kd td : Int} (h : EInv w1 wr d i b (w1.heap.size + 1) (List.replicate k blank ++ List.replicate (d.gp - k) zeroP) nx x kd td w1.heap.size) (hb : d.bks[i]? = some b) (hk : k ≤ d.gp) :
    wr.cell? ⟨d.p, 1, none⟩ = some (.int .i64 d.gp) ∧ wr.cell? ⟨d.q, i * 4, none⟩ = some (.slice (some ⟨w1.heap.size + 1, 0, none⟩) d.gp d.gp) ∧ w1.heap.size + 1 < wr.heap.size ∧ (∀ o, wr.frozen? ⟨w1.heap.size + 1, o, none⟩ = false) ∧
    (k < d.gp → wr.cell? ⟨w1.heap.size + 1, k * 3, none⟩ = some (.bool false) ∧ wr.cell? ⟨w1.heap.size + 1, k * 3 + 1, none⟩ = some (.bool false) ∧ wr.cell? ⟨w1.heap.size + 1, k * 3 + 2, none⟩ = some (.slice none 0 0)) ∧
    wr.cell? ⟨w1.heap.size, 0, none⟩ = some (.int .i64 x) ∧ wr.cell? ⟨w1.heap.size, 1, none⟩ = some (.int .i64 kd) ∧ wr.cell? ⟨w1.heap.size, 2, none⟩ = some (.int .i64 td) := by
  have hlt := (List.getElem?_eq_some_iff.1 hb).1
  refine ⟨h.chip.cell (i := 1) rfl, ?_, h.pgs.lt, fun o => h.pgs.frozen o, fun hk2 => ?_, h.flt.cell (i := 0) rfl, h.flt.cell (i := 1) rfl, h.flt.cell (i := 2) rfl⟩
  · have := (DAt.of h.bks (List.getElem?_set_self hlt)).list
    rw [this]
    simp only [DBk.era]
    rw [spoil_len _ _ hk]
  · have := spoil_at k d.gp hk2
    exact ⟨h.pgs.cell (flat_get dpCells 3 dp_len 0 (by decide) _ k _ this), h.pgs.cell (flat_get dpCells 3 dp_len 1 (by decide) _ k _ this), h.pgs.cell (flat_get dpCells 3 dp_len 2 (by decide) _ k _ this)⟩
/-- Where nothing is done but counting. -/
theorem era_count {base : Nat} {w1 : World} {d : DS} (h : DLies base w1 d.counted) {i : Nat} {b : DBk} (hb : d.bks[i]? = some b) (o : Obj) :
    DLies base ((w1.setCell ⟨d.q, i * 4 + 3, none⟩ (.int .i64 (wrap64 (b.erases + 1)))).alloc o) (d.erad i { b with erases := wrap64 (b.erases + 1) }) ∧ Kept d.foot w1 ((w1.setCell ⟨d.q, i * 4 + 3, none⟩ (.int .i64 (wrap64 (b.erases + 1)))).alloc o) ∧ ∀ k, (d.erad i { b with erases := wrap64 (b.erases + 1) }).foot k → d.foot k ∨ w1.heap.size ≤ k := by
  have hbm : b ∈ d.bks := List.mem_of_getElem? hb
  have hk1 : Kept (fun k => k = d.q) w1 (w1.setCell ⟨d.q, i * 4 + 3, none⟩ (.int .i64 (wrap64 (b.erases + 1)))) := (Kept.refl (fun k => k = d.q) w1).setCell (p := ⟨d.q, i * 4 + 3, none⟩) rfl _
  have hk : Kept (fun k => k = d.p ∨ k = d.q ∨ k = b.r) w1 (w1.setCell ⟨d.q, i * 4 + 3, none⟩ (.int .i64 (wrap64 (b.erases + 1)))) := hk1.mono (fun k e => .inr (.inl e))
  have hch : Row w1 d.p (dsCells d.counted) 61 := h.chip
  have hpq : d.p ≠ d.q := h.chip.ne h.bks (by decide)
  have hr := (h.pgs b hbm).1
  obtain ⟨r1, r2, r3⟩ := h.step (d := d.counted) (d' := d.erad i { b with erases := wrap64 (b.erases + 1) }) (b' := { b with erases := wrap64 (b.erases + 1) }) rfl rfl ⟨rfl, rfl⟩ hb rfl rfl
    (DGood.set (d := d.counted) h.good (h.good.plen b hbm) (h.good.dat b hbm)) hk (by
      have : dsCells (d.erad i { b with erases := wrap64 (b.erases + 1) }) = dsCells d.counted := by simp [dsCells, DS.erad]; rfl
      rw [this]; exact hch.other _ _ hpq)
    (db_erases { b with erases := wrap64 (b.erases + 1) } h.bks hb (by simp [dbCells])) (hr.other _ _ (fun e => hr.ne h.bks (by decide) e)) (fun p hp => ((h.pgs b hbm).2 p hp).kept hk1 (fun x cs hx e => hx.ne h.bks (by decide) e))
  exact ⟨r1.later (below_new _ _), r2.alloc _, fun k hk => .inl (by rw [r3] at hk; exact hk)⟩
/-- How the ways end. -/
theorem era_ends {base : Nat} {w w1 W W' : World} {d : DS} {i : Nat} {b b' : DBk} (x kd td : Int) (hf : d.flt = ⟨x, kd, td⟩)
    (hx : ({ b.abs with erases := wrap64 (b.erases + 1) } : ABk).erased d.gp d.flt.ext = b'.abs)
    (h0 : Kept (fun k => k = d.p) w w1) (h1 : Kept d.foot w1 W) (hsz : w1.heap.size ≤ W.heap.size) (hfoot : ∀ k, (d.erad i b').foot k → d.foot k ∨ w1.heap.size ≤ k) (h2 : Kept (d.erad i b').foot W W') (f : Flt) (hk : f.kind = kd) (h3 : DLies base W' ((d.erad i b').tell f).2) :
    DPost base w W' d { d.abs.begun with bks := d.abs.bks.set i (({ b.abs with erases := wrap64 (b.erases + 1) } : ABk).erased d.gp d.flt.ext) } ((d.erad i b').tell f).2 := by
  obtain ⟨t1, t2, t3, t4⟩ := tell_foot (d.erad i b') f
  have hw1 := h0.size
  have hk01 : Kept d.foot w w1 := h0.mono (fun k e => .inl e)
  refine ⟨h3, ?_, ?_, ?_, t2, t3, t4⟩
  · refine ⟨h2.os.trans (h1.os.trans h0.os), h2.tape.trans (h1.tape.trans h0.tape), h2.output.trans (h1.output.trans h0.output), by have := h1.size; have := h2.size; omega, fun k hk hn => ?_⟩
    have e1 := h1.block k (by omega) hn
    have e0 := hk01.block k hk hn
    have e2 := h2.block k (by omega) (fun q => by
      rcases hfoot k q with z | z
      · exact hn z
      · omega)
    exact e2.trans (e1.trans e0)
  · intro k hk
    rw [t1] at hk
    rcases hfoot k hk with z | z
    · exact .inl z
    · exact .inr (by omega)
  · rw [(tell_abs _ f).1, hx, hk]
    have e : d.abs.flt.kind = kd := by rw [abs_flt, hf]
    simp only [AS.begun, e]
    simp [DS.erad, DS.abs, DS.counted, List.map_set]

set_option maxHeartbeats 4000000 in
theorem d_era02 {base : Nat} {w : World} {d : DS} (h : DLies base w d) (i : Nat) {b : DBk} (ho : d.off = false) (hb : d.bks[i]? = some b)
    (hbad : b.bad = false) (x : Int) (hf : d.flt = ⟨x, 0, 2⟩) :
    Calls Try.prog 33 #[.pointer (some ⟨d.p, 0, none⟩), .int .i64 i] w fun e w' => ∃ d', e = .returned (.int .i64 d.flt.says) ∧ DPost base w w' d { d.abs.begun with bks := d.abs.bks.set i (({ b.abs with erases := wrap64 (b.erases + 1) } : ABk).erased d.gp d.flt.ext) } d' := by
  have hat : d.at i = some b := by unfold DS.at; rw [if_neg (by omega)]; simpa using hb
  have ha := d_asked h i
  rw [asked_ok ho hat] at ha
  have hfl := d_fault h
  rw [hf] at hfl
  have c4 := d_len h
  have d2 := (DAt.of h.bks hb).bad
  rw [hbad] at d2
  have hil : (i : Int) < (d.bks.length : Int) := by have := (List.getElem?_eq_some_iff.1 hb).1; omega
  have HG : Hid (∀ w1, DLies base w1 d.counted → EAfter w1 d i b) := fun w1 h1 => EAfter.of h1 hb
  have hpq : ¬ d.p = d.q := h.chip.ne h.bks (by decide)
  have hqp : ¬ d.q = d.p := fun e => hpq e.symm
  have HB : Hid (d.bks[i]? = some b) := hb
  have hgp : d.gp ≤ 64 := h.good.gs.2.2.2.1
  obtain ⟨RP, hRP, hmk⟩ := makeD d.gp hgp
  have HRP : Hid (RP.toList = (List.replicate d.gp zeroP).flatMap dpCells) := hRP
  have HBA : Hid (b.bad = false) := hbad
  have HF : Hid (d.flt = ⟨x, 0, 2⟩) := hf
  clear hb hat ho hbad h hf hRP
  go_enter Try.func33, Try.ntmps33
  go_wp2_with (first
    | (go_at_call 63; refine ha.mono ?_; rintro e w' ⟨rfl, rfl⟩)
    | (go_at_call 64; refine hfl.mono ?_; rintro e w1 ⟨rfl, hd1, hk1⟩; obtain ⟨g1, ⟨e0, e1, e2, e3⟩, z, z4, z5⟩ := HG.out w1 hd1; rw [HBA.out] at e2; have z0 := z (i * 4); have z1 := z (i * 4 + 1); have z3 := z (i * 4 + 3); have HD1 : Hid (DLies _ _ _) := hd1; have HK1 : Hid (Kept _ _ _) := hk1; clear hd1 hk1 z)
    | (go_at_call 65; obtain ⟨L5, K5, F5⟩ := EInv.lies (einv_of (b := b) HD1.out 0 x 0 2 RP HRP.out (((Kept.refl (fun k => k = d.q) w1).setCell (p := ⟨d.q, i * 4 + 3, none⟩) rfl _ |>.setCell (p := ⟨d.q, i * 4, none⟩) rfl _ |>.setCell (p := ⟨d.q, i * 4 + 1, none⟩) rfl _)) (by simp) (era_rows HD1.out HB.out (w1.heap.size + 1) 0)) HD1.out HB.out (Nat.le_succ _) (by simp) ⟨Int.le_refl _, by omega⟩ (fun p hp => .inl (List.eq_of_mem_replicate hp)); have T6 := d_told L5 ⟨x, 0, 2⟩; have HK6 : Hid (Kept _ _ _) := K5; have HF5 : Hid (∀ k, _ → _) := F5; clear L5 K5 F5; go_must (refine T6.mono ?_); rintro e w3 ⟨rfl, hl3, hk3⟩; have HL3 : Hid (DLies _ _ _) := hl3; have HK3 : Hid (Kept _ _ _) := hk3; clear hl3 hk3 T6))
  go_ret
  refine ⟨_, ?_, era_ends x 0 2 HF.out ?_ HK1.out HK6.out HK6.out.size HF5.out HK3.out ⟨x, 0, 2⟩ rfl HL3.out⟩
  · rw [HF.out, ← (tell_abs (d.erad i (b.era (w1.heap.size + 1) d.gp (List.replicate d.gp zeroP) 0)) ⟨x, 0, 2⟩).2]; rfl
  · rw [HF.out]
    show ABk.erased _ _ 2 = _
    unfold ABk.erased
    rw [if_neg (by decide), if_neg (by decide)]
    simp [DBk.abs, DBk.era, zeroP, DPg.abs]

set_option maxHeartbeats 4000000 in
theorem d_era12 {base : Nat} {w : World} {d : DS} (h : DLies base w d) (i : Nat) {b : DBk} (ho : d.off = false) (hb : d.bks[i]? = some b)
    (hbad : b.bad = false) (x : Int) (hf : d.flt = ⟨x, 1, 2⟩) :
    Calls Try.prog 33 #[.pointer (some ⟨d.p, 0, none⟩), .int .i64 i] w fun e w' => ∃ d', e = .returned (.int .i64 d.flt.says) ∧ DPost base w w' d { d.abs.begun with bks := d.abs.bks.set i (({ b.abs with erases := wrap64 (b.erases + 1) } : ABk).erased d.gp d.flt.ext) } d' := by
  have hat : d.at i = some b := by unfold DS.at; rw [if_neg (by omega)]; simpa using hb
  have ha := d_asked h i
  rw [asked_ok ho hat] at ha
  have hfl := d_fault h
  rw [hf] at hfl
  have c4 := d_len h
  have d2 := (DAt.of h.bks hb).bad
  rw [hbad] at d2
  have hil : (i : Int) < (d.bks.length : Int) := by have := (List.getElem?_eq_some_iff.1 hb).1; omega
  have HG : Hid (∀ w1, DLies base w1 d.counted → EAfter w1 d i b) := fun w1 h1 => EAfter.of h1 hb
  have hpq : ¬ d.p = d.q := h.chip.ne h.bks (by decide)
  have hqp : ¬ d.q = d.p := fun e => hpq e.symm
  have HB : Hid (d.bks[i]? = some b) := hb
  have hgp : d.gp ≤ 64 := h.good.gs.2.2.2.1
  obtain ⟨RP, hRP, hmk⟩ := makeD d.gp hgp
  have HRP : Hid (RP.toList = (List.replicate d.gp zeroP).flatMap dpCells) := hRP
  have HBA : Hid (b.bad = false) := hbad
  have HF : Hid (d.flt = ⟨x, 1, 2⟩) := hf
  clear hb hat ho hbad h hf hRP
  go_enter Try.func33, Try.ntmps33
  go_wp2_with (first
    | (go_at_call 63; refine ha.mono ?_; rintro e w' ⟨rfl, rfl⟩)
    | (go_at_call 64; refine hfl.mono ?_; rintro e w1 ⟨rfl, hd1, hk1⟩; obtain ⟨g1, ⟨e0, e1, e2, e3⟩, z, z4, z5⟩ := HG.out w1 hd1; rw [HBA.out] at e2; have z0 := z (i * 4); have z1 := z (i * 4 + 1); have z3 := z (i * 4 + 3); have HD1 : Hid (DLies _ _ _) := hd1; have HK1 : Hid (Kept _ _ _) := hk1; clear hd1 hk1 z)
    | (go_at_call 65; obtain ⟨L5, K5, F5⟩ := EInv.lies (einv_of (b := b) HD1.out 0 x 1 2 RP HRP.out (((Kept.refl (fun k => k = d.q) w1).setCell (p := ⟨d.q, i * 4 + 3, none⟩) rfl _ |>.setCell (p := ⟨d.q, i * 4, none⟩) rfl _ |>.setCell (p := ⟨d.q, i * 4 + 1, none⟩) rfl _)) (by simp) (era_rows HD1.out HB.out (w1.heap.size + 1) 0)) HD1.out HB.out (Nat.le_succ _) (by simp) ⟨Int.le_refl _, by omega⟩ (fun p hp => .inl (List.eq_of_mem_replicate hp)); have T6 := d_told L5 ⟨x, 1, 2⟩; have HK6 : Hid (Kept _ _ _) := K5; have HF5 : Hid (∀ k, _ → _) := F5; clear L5 K5 F5; go_must (refine T6.mono ?_); rintro e w3 ⟨rfl, hl3, hk3⟩; have HL3 : Hid (DLies _ _ _) := hl3; have HK3 : Hid (Kept _ _ _) := hk3; clear hl3 hk3 T6))
  go_ret
  refine ⟨_, ?_, era_ends x 1 2 HF.out ?_ HK1.out HK6.out HK6.out.size HF5.out HK3.out ⟨x, 1, 2⟩ rfl HL3.out⟩
  · rw [HF.out, ← (tell_abs (d.erad i (b.era (w1.heap.size + 1) d.gp (List.replicate d.gp zeroP) 0)) ⟨x, 1, 2⟩).2]; rfl
  · rw [HF.out]
    show ABk.erased _ _ 2 = _
    unfold ABk.erased
    rw [if_neg (by decide), if_neg (by decide)]
    simp [DBk.abs, DBk.era, zeroP, DPg.abs]

set_option maxHeartbeats 4000000 in
theorem d_era10 {base : Nat} {w : World} {d : DS} (h : DLies base w d) (i : Nat) {b : DBk} (ho : d.off = false) (hb : d.bks[i]? = some b)
    (hbad : b.bad = false) (x : Int) (hf : d.flt = ⟨x, 1, 0⟩) :
    Calls Try.prog 33 #[.pointer (some ⟨d.p, 0, none⟩), .int .i64 i] w fun e w' => ∃ d', e = .returned (.int .i64 d.flt.says) ∧ DPost base w w' d { d.abs.begun with bks := d.abs.bks.set i (({ b.abs with erases := wrap64 (b.erases + 1) } : ABk).erased d.gp d.flt.ext) } d' := by
  have hat : d.at i = some b := by unfold DS.at; rw [if_neg (by omega)]; simpa using hb
  have ha := d_asked h i
  rw [asked_ok ho hat] at ha
  have hfl := d_fault h
  rw [hf] at hfl
  have c4 := d_len h
  have d2 := (DAt.of h.bks hb).bad
  rw [hbad] at d2
  have hil : (i : Int) < (d.bks.length : Int) := by have := (List.getElem?_eq_some_iff.1 hb).1; omega
  have HG : Hid (∀ w1, DLies base w1 d.counted → EAfter w1 d i b) := fun w1 h1 => EAfter.of h1 hb
  have hpq : ¬ d.p = d.q := h.chip.ne h.bks (by decide)
  have hqp : ¬ d.q = d.p := fun e => hpq e.symm
  have HB : Hid (d.bks[i]? = some b) := hb
  have hgp : d.gp ≤ 64 := h.good.gs.2.2.2.1
  obtain ⟨RP, hRP, hmk⟩ := makeD d.gp hgp
  have HRP : Hid (RP.toList = (List.replicate d.gp zeroP).flatMap dpCells) := hRP
  have HBA : Hid (b.bad = false) := hbad
  have HF : Hid (d.flt = ⟨x, 1, 0⟩) := hf
  clear hb hat ho hbad h hf hRP
  go_enter Try.func33, Try.ntmps33
  go_wp2_with (first
    | (go_at_call 63; refine ha.mono ?_; rintro e w' ⟨rfl, rfl⟩)
    | (go_at_call 64; refine hfl.mono ?_; rintro e w1 ⟨rfl, hd1, hk1⟩; obtain ⟨g1, ⟨e0, e1, e2, e3⟩, z, z4, z5⟩ := HG.out w1 hd1; rw [HBA.out] at e2; have z0 := z (i * 4); have z1 := z (i * 4 + 1); have z3 := z (i * 4 + 3); have HD1 : Hid (DLies _ _ _) := hd1; have HK1 : Hid (Kept _ _ _) := hk1; clear hd1 hk1 z)
    | (go_at_call 65; obtain ⟨L5, K5, F5⟩ : DLies base ((w1.setCell ⟨d.q, i * 4 + 3, none⟩ (.int .i64 (wrap64 (b.erases + 1)))).alloc (Obj.cells #[.int .i64 x, .int .i64 1, .int .i64 0] 78)) (d.erad i { b with erases := wrap64 (b.erases + 1) }) ∧ Kept d.foot w1 ((w1.setCell ⟨d.q, i * 4 + 3, none⟩ (.int .i64 (wrap64 (b.erases + 1)))).alloc (Obj.cells #[.int .i64 x, .int .i64 1, .int .i64 0] 78)) ∧ ∀ k, (d.erad i { b with erases := wrap64 (b.erases + 1) }).foot k → d.foot k ∨ w1.heap.size ≤ k := era_count HD1.out HB.out _; have T6 := d_told L5 ⟨x, 1, 0⟩; have HK6 : Hid (Kept _ _ _) := K5; have HF5 : Hid (∀ k, _ → _) := F5; clear L5 K5 F5; go_must (refine T6.mono ?_); rintro e w3 ⟨rfl, hl3, hk3⟩; have HL3 : Hid (DLies _ _ _) := hl3; have HK3 : Hid (Kept _ _ _) := hk3; clear hl3 hk3 T6))
  go_ret
  refine ⟨_, ?_, era_ends x 1 0 HF.out ?_ HK1.out HK6.out HK6.out.size HF5.out HK3.out ⟨x, 1, 0⟩ rfl HL3.out⟩
  · rw [HF.out, ← (tell_abs (d.erad i { b with erases := wrap64 (b.erases + 1) }) ⟨x, 1, 0⟩).2]; rfl
  · rw [HF.out]; rfl

set_option maxHeartbeats 4000000 in
theorem d_era11 {base : Nat} {w : World} {d : DS} (h : DLies base w d) (i : Nat) {b : DBk} (ho : d.off = false) (hb : d.bks[i]? = some b)
    (hbad : b.bad = false) (x : Int) (hf : d.flt = ⟨x, 1, 1⟩) :
    Calls Try.prog 33 #[.pointer (some ⟨d.p, 0, none⟩), .int .i64 i] w fun e w' => ∃ d', e = .returned (.int .i64 d.flt.says) ∧ DPost base w w' d { d.abs.begun with bks := d.abs.bks.set i (({ b.abs with erases := wrap64 (b.erases + 1) } : ABk).erased d.gp d.flt.ext) } d' := by
  have hat : d.at i = some b := by unfold DS.at; rw [if_neg (by omega)]; simpa using hb
  have ha := d_asked h i
  rw [asked_ok ho hat] at ha
  have hfl := d_fault h
  rw [hf] at hfl
  have c4 := d_len h
  have d2 := (DAt.of h.bks hb).bad
  rw [hbad] at d2
  have hil : (i : Int) < (d.bks.length : Int) := by have := (List.getElem?_eq_some_iff.1 hb).1; omega
  have HG : Hid (∀ w1, DLies base w1 d.counted → EAfter w1 d i b) := fun w1 h1 => EAfter.of h1 hb
  have hpq : ¬ d.p = d.q := h.chip.ne h.bks (by decide)
  have hqp : ¬ d.q = d.p := fun e => hpq e.symm
  have HB : Hid (d.bks[i]? = some b) := hb
  have hgp : d.gp ≤ 64 := h.good.gs.2.2.2.1
  obtain ⟨RP, hRP, hmk⟩ := makeD d.gp hgp
  have HRP : Hid (RP.toList = (List.replicate d.gp zeroP).flatMap dpCells) := hRP
  have HBA : Hid (b.bad = false) := hbad
  have HF : Hid (d.flt = ⟨x, 1, 1⟩) := hf
  clear hb hat ho hbad h hf hRP
  go_enter Try.func33, Try.ntmps33
  go_wp2_with (first
    | (go_at_call 63; refine ha.mono ?_; rintro e w' ⟨rfl, rfl⟩)
    | (go_at_call 64; refine hfl.mono ?_; rintro e w1 ⟨rfl, hd1, hk1⟩; obtain ⟨g1, ⟨e0, e1, e2, e3⟩, z, z4, z5⟩ := HG.out w1 hd1; rw [HBA.out] at e2; have z0 := z (i * 4); have z1 := z (i * 4 + 1); have z3 := z (i * 4 + 3); have HD1 : Hid (DLies _ _ _) := hd1; have HK1 : Hid (Kept _ _ _) := hk1; clear hd1 hk1 z))
  have hE := einv_of (b := b) HD1.out d.gp x 1 1 RP HRP.out ((((Kept.refl (fun k => k = d.q) w1).setCell (p := ⟨d.q, i * 4 + 3, none⟩) rfl (.int .i64 (wrap64 (b.erases + 1)))).setCell (p := ⟨d.q, i * 4, none⟩) rfl (.slice (some ⟨w1.heap.size + 1, 0, none⟩) d.gp d.gp)).setCell (p := ⟨d.q, i * 4 + 1, none⟩) rfl (.int .i64 0) |>.setCell (p := ⟨d.q, i * 4 + 1, none⟩) rfl (.int .i64 d.gp)) (by simp) (era_rows2 HD1.out HB.out (w1.heap.size + 1) d.gp)
  have HE : Hid (EInv _ _ _ _ _ _ _ _ _ _ _ _) := hE
  clear hE e0 e1 e2 e3 z0 z1 z3 g1
  go_loopg [8] d.gp (fun gm s8 wr => ∃ k : Nat, k ≤ d.gp ∧ gm = d.gp - k ∧ s8 = .int .i64 k ∧ Hid (EInv w1 wr d i b (w1.heap.size + 1) (List.replicate k blank ++ List.replicate (d.gp - k) zeroP) d.gp x 1 1 w1.heap.size))
  case atStart => exact ⟨0, Nat.zero_le _, rfl, rfl, HE⟩
  case round =>
    obtain ⟨k, hk, hgk, rfl, HI⟩ := hrel
    clear HE
    obtain ⟨g1, g0, gl, gf, gc, f0, f1, f2⟩ := HI.out.cells HB.out hk
    have HKL : Hid (k ≤ d.gp) := hk
    by_cases hlt : k < d.gp
    · obtain ⟨u0, u1, u2⟩ := gc hlt
      have gf0 := gf (k * 3)
      have gf1 := gf (k * 3 + 1)
      have gf2 := gf (k * 3 + 2)
      have hI : (k : Int) < (d.gp : Int) := by omega
      have HN := HI.out.round hlt
      have HNx : Hid (EInv _ _ _ _ _ _ _ _ _ _ _ _) := HN
      clear gc gf HN
      go_wp2
      go_roundg (d.gp - (k + 1))
      case measure => omega
      case rel => exact ⟨k + 1, by omega, rfl, by go_num, HNx⟩
    · have hI : ¬ (k : Int) < (d.gp : Int) := by omega
      have hke : k = d.gp := by omega
      have HZ : Hid (EInv w1 wr d i b (w1.heap.size + 1) (List.replicate d.gp blank) d.gp x 1 1 w1.heap.size) := by
        have := HI.out
        rw [hke, Nat.sub_self, List.replicate_zero, List.append_nil] at this
        exact this
      clear gc gf HI hke
      go_wp2_with (go_at_call 65; obtain ⟨L5, K5, F5⟩ := HZ.out.lies HD1.out HB.out (Nat.le_succ _) (by simp) ⟨by omega, Int.le_refl _⟩ (fun p hp => .inr (List.eq_of_mem_replicate hp)); have T6 := d_told L5 ⟨x, 1, 1⟩; have HK6 : Hid (Kept _ _ _) := K5; have HF5 : Hid (∀ k, _ → _) := F5; clear L5 K5 F5; go_must (refine T6.mono ?_); rintro e w3 ⟨rfl, hl3, hk3⟩; have HL3 : Hid (DLies _ _ _) := hl3; have HK3 : Hid (Kept _ _ _) := hk3; clear hl3 hk3 T6)
      go_ret
      refine ⟨_, ?_, era_ends x 1 1 HF.out ?_ HK1.out HK6.out HK6.out.size HF5.out HK3.out ⟨x, 1, 1⟩ rfl HL3.out⟩
      · rw [HF.out, ← (tell_abs (d.erad i (b.era (w1.heap.size + 1) d.gp (List.replicate d.gp blank) d.gp)) ⟨x, 1, 1⟩).2]; rfl
      · rw [HF.out]
        show ABk.erased _ _ 1 = _
        unfold ABk.erased
        rw [if_neg (by decide), if_pos rfl]
        simp [DBk.abs, DBk.era, blank, DPg.abs]

set_option maxHeartbeats 4000000 in
theorem d_era20 {base : Nat} {w : World} {d : DS} (h : DLies base w d) (i : Nat) {b : DBk} (ho : d.off = false) (hb : d.bks[i]? = some b)
    (hbad : b.bad = false) (x : Int) (hf : d.flt = ⟨x, 2, 0⟩) :
    Calls Try.prog 33 #[.pointer (some ⟨d.p, 0, none⟩), .int .i64 i] w fun e w' => ∃ d', e = .returned (.int .i64 d.flt.says) ∧ DPost base w w' d { d.abs.begun with bks := d.abs.bks.set i (({ b.abs with erases := wrap64 (b.erases + 1) } : ABk).erased d.gp d.flt.ext) } d' := by
  have hat : d.at i = some b := by unfold DS.at; rw [if_neg (by omega)]; simpa using hb
  have ha := d_asked h i
  rw [asked_ok ho hat] at ha
  have hfl := d_fault h
  rw [hf] at hfl
  have c4 := d_len h
  have d2 := (DAt.of h.bks hb).bad
  rw [hbad] at d2
  have hil : (i : Int) < (d.bks.length : Int) := by have := (List.getElem?_eq_some_iff.1 hb).1; omega
  have HG : Hid (∀ w1, DLies base w1 d.counted → EAfter w1 d i b) := fun w1 h1 => EAfter.of h1 hb
  have hpq : ¬ d.p = d.q := h.chip.ne h.bks (by decide)
  have hqp : ¬ d.q = d.p := fun e => hpq e.symm
  have HB : Hid (d.bks[i]? = some b) := hb
  have hgp : d.gp ≤ 64 := h.good.gs.2.2.2.1
  obtain ⟨RP, hRP, hmk⟩ := makeD d.gp hgp
  have HRP : Hid (RP.toList = (List.replicate d.gp zeroP).flatMap dpCells) := hRP
  have HBA : Hid (b.bad = false) := hbad
  have HF : Hid (d.flt = ⟨x, 2, 0⟩) := hf
  clear hb hat ho hbad h hf hRP
  go_enter Try.func33, Try.ntmps33
  go_wp2_with (first
    | (go_at_call 63; refine ha.mono ?_; rintro e w' ⟨rfl, rfl⟩)
    | (go_at_call 64; refine hfl.mono ?_; rintro e w1 ⟨rfl, hd1, hk1⟩; obtain ⟨g1, ⟨e0, e1, e2, e3⟩, z, z4, z5⟩ := HG.out w1 hd1; rw [HBA.out] at e2; have z0 := z (i * 4); have z1 := z (i * 4 + 1); have z3 := z (i * 4 + 3); have HD1 : Hid (DLies _ _ _) := hd1; have HK1 : Hid (Kept _ _ _) := hk1; clear hd1 hk1 z))
  have hE := einv_of (b := b) HD1.out d.gp x 2 1 RP HRP.out ((((Kept.refl (fun k => k = d.q) w1).setCell (p := ⟨d.q, i * 4 + 3, none⟩) rfl (.int .i64 (wrap64 (b.erases + 1)))).setCell (p := ⟨d.q, i * 4, none⟩) rfl (.slice (some ⟨w1.heap.size + 1, 0, none⟩) d.gp d.gp)).setCell (p := ⟨d.q, i * 4 + 1, none⟩) rfl (.int .i64 0) |>.setCell (p := ⟨d.q, i * 4 + 1, none⟩) rfl (.int .i64 d.gp)) (by simp) (era_rows2 HD1.out HB.out (w1.heap.size + 1) d.gp)
  have HE : Hid (EInv _ _ _ _ _ _ _ _ _ _ _ _) := hE
  clear hE e0 e1 e2 e3 z0 z1 z3 g1
  go_loopg [8] d.gp (fun gm s8 wr => ∃ k : Nat, k ≤ d.gp ∧ gm = d.gp - k ∧ s8 = .int .i64 k ∧ Hid (EInv w1 wr d i b (w1.heap.size + 1) (List.replicate k blank ++ List.replicate (d.gp - k) zeroP) d.gp x 2 1 w1.heap.size))
  case atStart => exact ⟨0, Nat.zero_le _, rfl, rfl, HE⟩
  case round =>
    obtain ⟨k, hk, hgk, rfl, HI⟩ := hrel
    clear HE
    obtain ⟨g1, g0, gl, gf, gc, f0, f1, f2⟩ := HI.out.cells HB.out hk
    have HKL : Hid (k ≤ d.gp) := hk
    by_cases hlt : k < d.gp
    · obtain ⟨u0, u1, u2⟩ := gc hlt
      have gf0 := gf (k * 3)
      have gf1 := gf (k * 3 + 1)
      have gf2 := gf (k * 3 + 2)
      have hI : (k : Int) < (d.gp : Int) := by omega
      have HN := HI.out.round hlt
      have HNx : Hid (EInv _ _ _ _ _ _ _ _ _ _ _ _) := HN
      clear gc gf HN
      go_wp2
      go_roundg (d.gp - (k + 1))
      case measure => omega
      case rel => exact ⟨k + 1, by omega, rfl, by go_num, HNx⟩
    · have hI : ¬ (k : Int) < (d.gp : Int) := by omega
      have hke : k = d.gp := by omega
      have HZ : Hid (EInv w1 wr d i b (w1.heap.size + 1) (List.replicate d.gp blank) d.gp x 2 1 w1.heap.size) := by
        have := HI.out
        rw [hke, Nat.sub_self, List.replicate_zero, List.append_nil] at this
        exact this
      clear gc gf HI hke
      go_wp2_with (go_at_call 65; obtain ⟨L5, K5, F5⟩ := HZ.out.lies HD1.out HB.out (Nat.le_succ _) (by simp) ⟨by omega, Int.le_refl _⟩ (fun p hp => .inr (List.eq_of_mem_replicate hp)); have T6 := d_told L5 ⟨x, 2, 1⟩; have HK6 : Hid (Kept _ _ _) := K5; have HF5 : Hid (∀ k, _ → _) := F5; clear L5 K5 F5; go_must (refine T6.mono ?_); rintro e w3 ⟨rfl, hl3, hk3⟩; have HL3 : Hid (DLies _ _ _) := hl3; have HK3 : Hid (Kept _ _ _) := hk3; clear hl3 hk3 T6)
      go_ret
      refine ⟨_, ?_, era_ends x 2 0 HF.out ?_ HK1.out HK6.out HK6.out.size HF5.out HK3.out ⟨x, 2, 1⟩ rfl HL3.out⟩
      · rw [HF.out, ← (tell_abs (d.erad i (b.era (w1.heap.size + 1) d.gp (List.replicate d.gp blank) d.gp)) ⟨x, 2, 0⟩).2]; rfl
      · rw [HF.out]
        show ABk.erased _ _ 1 = _
        unfold ABk.erased
        rw [if_neg (by decide), if_pos rfl]
        simp [DBk.abs, DBk.era, blank, DPg.abs]

/-- Erase of the document's chip, whole. -/
theorem d_erase {base : Nat} {w : World} {d : DS} (h : DLies base w d) (block : Int) :
    Calls Try.prog 33 #[.pointer (some ⟨d.p, 0, none⟩), .int .i64 block] w fun e w' => ∃ d', e = .returned (.int .i64 (d.abs.erase block).1) ∧ DPost base w w' d (d.abs.erase block).2 d' := by
  by_cases he : d.off = true ∨ (d.off = false ∧ d.at block = none)
  · refine (d_era_err h block he).mono ?_
    rintro e w' ⟨h1, h2⟩
    exact ⟨d, h1, h2⟩
  · have ho : d.off = false := by cases hh : d.off with | true => exact absurd (.inl hh) he | false => rfl
    obtain ⟨b, hb⟩ : ∃ b, d.at block = some b := by
      cases hh : d.at block with
      | none => exact absurd (.inr ⟨ho, hh⟩) he
      | some b => exact ⟨b, rfl⟩
    obtain ⟨hb1, hb2⟩ := dat_some hb
    obtain ⟨i, rfl⟩ : ∃ i : Nat, block = i := ⟨block.toNat, by omega⟩
    by_cases hw : b.bad = true
    · refine (d_era_wrong h i ho hb hw).mono ?_
      rintro e w' ⟨h1, h2⟩
      exact ⟨_, h1, h2⟩
    · rw [era_some ho hb, if_neg hw]
      rw [set_toNat] at hb1
      simp only [set_toNat]
      have hbad : b.bad = false := by simpa using hw
      have hor : d.flt = ⟨0, 0, 2⟩ ∨ d.flt.ok := by
        rcases findF_or (wrap64 (wrap64 (d.ops + 1) - d.since)) d.plan with q | q
        · exact .inl q
        · exact .inr (h.good.pln.2.2.1 _ q)
      rcases hor with e | ⟨_, ⟨k1, t⟩ | ⟨k1, t⟩⟩
      · exact d_era02 h i ho hb1 hbad 0 e
      · have hfl : d.flt = ⟨d.flt.num, 1, d.flt.torn⟩ := by rw [← k1]
        rcases t with t | t | t
        · rw [t] at hfl; exact d_era10 h i ho hb1 hbad _ hfl
        · rw [t] at hfl; exact d_era11 h i ho hb1 hbad _ hfl
        · rw [t] at hfl; exact d_era12 h i ho hb1 hbad _ hfl
      · have hfl : d.flt = ⟨d.flt.num, 2, d.flt.torn⟩ := by rw [← k1]
        rw [t] at hfl
        exact d_era20 h i ho hb1 hbad _ hfl
end Go.Proofs.Ytiejkbncpbhcdaa
