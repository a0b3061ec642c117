/-
  What New makes: a chip whose pages are all erased.
-/
import Derived.Test.YtkfecngkdlajgaaGreatDoorGM
import Derived.Laws.MakeOwn
import Derived.Deep.LoopGhost
namespace Go.Proofs.YtkfecngkdlajgaaGreatDoor
open Go.RowKit
set_option maxRecDepth 10000

/-- A new block. -/
def freshB (gp r : Nat) : Bk := ⟨r, gp, List.replicate gp ⟨0, []⟩, 0, 0, false⟩
/-- A block without pages yet. -/
def zeroBk : List Value := [.slice none 0 0, .int .i64 0, .int .i64 0, .bool false]
/-- The row of blocks when the first ones have their pages. -/
def partB (gb gp : Nat) (rs : List Nat) : List Value := (rs.map (freshB gp)).flatMap bkCells ++ (List.replicate (gb - rs.length) zeroBk).flatten

theorem made_flat (z : List Value) (hz : 0 < z.length) (n : Nat) : (madeCells z.toArray (n * z.length)).toList = (List.replicate n z).flatten := by
  apply List.ext_getElem?
  intro i
  have hl : (List.replicate n z).flatten.length = n * z.length := by simp
  by_cases hi : i < n * z.length
  · have e1 : (madeCells z.toArray (n * z.length)).toList[i]? = some (z[i % z.length]'(Nat.mod_lt _ hz)) := by
      simp [madeCells, hi, Nat.mod_lt _ hz]
    rw [e1]
    have := flat_get (fun _ : Unit => z) z.length (fun _ => rfl) (i % z.length) (Nat.mod_lt _ hz) (List.replicate n ()) (i / z.length) () (by rw [List.getElem?_replicate, if_pos (Nat.div_lt_of_lt_mul (by rw [Nat.mul_comm]; exact hi))])
    rw [show i / z.length * z.length + i % z.length = i by rw [Nat.mul_comm]; exact Nat.div_add_mod i z.length] at this
    have e2 : (List.replicate n ()).flatMap (fun _ => z) = (List.replicate n z).flatten := by
      rw [List.flatMap_def, List.map_replicate]
    rw [e2] at this
    rw [this, List.getElem?_eq_getElem (Nat.mod_lt _ hz)]
  · rw [List.getElem?_eq_none (by rw [Array.length_toList, size_madeCells]; omega), List.getElem?_eq_none (by omega)]
theorem pages_flat (gp : Nat) : (madeCells #[Value.int .i64 0, .string ⟨#[]⟩] (gp * 2)).toList = (List.replicate gp (⟨0, []⟩ : Pg)).flatMap pgCells := by
  have := made_flat [Value.int .i64 0, .string ⟨#[]⟩] (by decide) gp
  rw [show (madeCells #[Value.int .i64 0, .string ⟨#[]⟩] (gp * 2)) = madeCells [Value.int .i64 0, .string ⟨#[]⟩].toArray (gp * [Value.int .i64 0, .string ⟨#[]⟩].length) from rfl, this, List.flatMap_def, List.map_replicate]
  rfl
theorem partB_nil (gb gp : Nat) : partB gb gp [] = (List.replicate gb zeroBk).flatten := by simp [partB]
theorem partB_full (gb gp : Nat) (rs : List Nat) (h : rs.length = gb) : partB gb gp rs = (rs.map (freshB gp)).flatMap bkCells := by simp [partB, h]
theorem partB_len (gb gp : Nat) (rs : List Nat) (h : rs.length ≤ gb) : (partB gb gp rs).length = gb * 4 := by
  unfold partB
  rw [List.length_append, flat_len bkCells 4 bk_len]
  simp [zeroBk]
  omega
theorem partB_set (gb gp r : Nat) (rs : List Nat) (h : rs.length < gb) : (partB gb gp rs).set (rs.length * 4) (.slice (some ⟨r, 0, none⟩) gp gp) = partB gb gp (rs ++ [r]) := by
  have hl := flat_len bkCells 4 bk_len (rs.map (freshB gp))
  rw [List.length_map] at hl
  unfold partB
  rw [List.set_append_right _ _ (by omega), hl, Nat.sub_self]
  obtain ⟨m, hm⟩ : ∃ m, gb - rs.length = m + 1 := ⟨gb - rs.length - 1, by omega⟩
  rw [hm, List.replicate_succ, List.flatten_cons]
  simp [zeroBk, freshB, bkCells, show gb - (rs.length + 1) = m by omega]
/-- What New has made so far. -/
structure Made (w wr : World) (gb gp gz gr p q : Nat) (fa : Option Addr) (fc : Nat) (s : List Flt) (rs : List Nat) : Prop where
  chip : Row wr p (csCells ⟨p, q, gb, gb, gp, gz, gr, List.replicate gb (freshB gp 0), true, 0, 0, 0, s⟩ fa fc) 77
  flts : Flts wr fa fc s
  bks : Row wr q (partB gb gp rs) 108
  pgs : ∀ r ∈ rs, Row wr r ((List.replicate gp (⟨0, []⟩ : Pg)).flatMap pgCells) 251 ∧ w.heap.size ≤ r
  nd : rs.Nodup
  low : w.heap.size ≤ p ∧ w.heap.size ≤ q
  geo : wr.cell? ⟨w.heap.size, 1, none⟩ = some (.int .i64 gp)
  bel : Below w.heap.size w wr
theorem Made.later {w W W' : World} {gb gp gz gr p q : Nat} {fa : Option Addr} {fc : Nat} {s : List Flt} {rs : List Nat} (h : Made w W gb gp gz gr p q fa fc s rs) (hb : Below W.heap.size W W') : Made w W' gb gp gz gr p q fa fc s rs :=
  ⟨h.chip.later hb, h.flts.kept (S := fun _ => False) (.of_below hb) (fun _ _ _ x => x), h.bks.later hb, fun r hr => ⟨(h.pgs r hr).1.later hb, (h.pgs r hr).2⟩, h.nd, h.low, by rw [hb.cell (p := ⟨w.heap.size, 1, none⟩) (World.block_lt_of_cell? W _ h.geo)]; exact h.geo, Below.after h.bel hb⟩
theorem Made.step {w W : World} {gb gp gz gr p q : Nat} {fa : Option Addr} {fc : Nat} {s : List Flt} {rs : List Nat} (h : Made w W gb gp gz gr p q fa fc s rs) (hl : rs.length < gb) (hq : w.heap.size < q) (RP : Array Value) (hRP : RP.toList = (List.replicate gp (⟨0, []⟩ : Pg)).flatMap pgCells) :
    Made w ((W.setCell ⟨q, rs.length * 4, none⟩ (.slice (some ⟨W.heap.size, 0, none⟩) gp gp)).alloc (.cells RP 251)) gb gp gz gr p q fa fc s (rs ++ [W.heap.size]) := by
  have hk : Kept (fun k => k = q) W ((W.setCell ⟨q, rs.length * 4, none⟩ (.slice (some ⟨W.heap.size, 0, none⟩) gp gp)).alloc (.cells RP 251)) := ((Kept.refl (fun k => k = q) W).setCell (p := ⟨q, rs.length * 4, none⟩) rfl _).alloc _
  refine ⟨h.chip.kept hk (fun e => h.chip.ne h.bks (by decide) e), h.flts.kept hk (fun b cs hb e => hb.ne h.bks (by decide) e), ?_, ?_, ?_, h.low, ?_, ?_⟩
  · have := h.bks.set (i := rs.length * 4) (.slice (some ⟨W.heap.size, 0, none⟩) gp gp) (by rw [partB_len gb gp rs (by omega)]; omega)
    rw [partB_set gb gp _ rs hl] at this
    exact this.alloc _
  · intro r hr
    rcases List.mem_append.1 hr with hr | hr
    · exact ⟨(h.pgs r hr).1.kept hk (fun e => (h.pgs r hr).1.ne h.bks (by decide) e), (h.pgs r hr).2⟩
    · simp at hr
      subst hr
      refine ⟨?_, h.bel.size⟩
      have := Row.new (W.setCell ⟨q, rs.length * 4, none⟩ (.slice (some ⟨W.heap.size, 0, none⟩) gp gp)) RP.toList 251
      rw [hRP] at this
      have e : (W.setCell ⟨q, rs.length * 4, none⟩ (.slice (some ⟨W.heap.size, 0, none⟩) gp gp)).heap.size = W.heap.size := by simp [World.setCell]
      rw [e] at this
      rw [show RP = ((List.replicate gp (⟨0, []⟩ : Pg)).flatMap pgCells).toArray by rw [← hRP]]
      exact this
  · rw [List.nodup_append]
    refine ⟨h.nd, by simp, ?_⟩
    intro r hr x hx
    simp at hx
    subst hx
    have := (h.pgs r hr).1.lt
    omega
  · rw [World.cell?_of_block (w := W) (hk.block _ (World.block_lt_of_cell? W _ h.geo) (by show ¬ w.heap.size = q; omega))]; exact h.geo
  · exact (h.bel.setCell (p := ⟨q, rs.length * 4, none⟩) (by show w.heap.size ≤ q; omega) _).alloc (by have := h.bel.size; simpa [World.setCell] using this) _
/-- The chip that New makes. -/
def newC (gb gp gz gr p q : Nat) (s : List Flt) (rs : List Nat) : CS := ⟨p, q, gb, gb, gp, gz, gr, rs.map (freshB gp), true, 0, 0, 0, s⟩
theorem Made.lies {w W : World} {gb gp gz gr p q : Nat} {fa : Option Addr} {fc : Nat} {s : List Flt} {rs : List Nat} (h : Made w W gb gp gz gr p q fa fc s rs) (hl : rs.length = gb) (g1 : 1 ≤ gb) (g2 : gb ≤ 256) (g3 : 1 ≤ gp) (g4 : gp ≤ 64) (g5 : 1 ≤ gz) (g6 : gz ≤ 512) (hs : ∀ f ∈ s, f.ok) :
    Lies w.heap.size W (newC gb gp gz gr p q s rs) := by
  have hm : (newC gb gp gz gr p q s rs).bks.map Bk.r = rs := by
    show (rs.map (freshB gp)).map Bk.r = rs
    rw [List.map_map]; exact List.map_id' rs
  have hmem : ∀ b ∈ (newC gb gp gz gr p q s rs).bks, ∃ r ∈ rs, b = freshB gp r := by
    intro b hb
    obtain ⟨r, hr, e⟩ := List.mem_map.1 (show b ∈ rs.map (freshB gp) from hb)
    exact ⟨r, hr, e.symm⟩
  refine ⟨⟨fa, fc, ?_, h.flts⟩, ?_, ?_, by rw [hm]; exact h.nd, ?_, ?_⟩
  · have := h.chip
    have e : csCells (newC gb gp gz gr p q s rs) fa fc = csCells ⟨p, q, gb, gb, gp, gz, gr, List.replicate gb (freshB gp 0), true, 0, 0, 0, s⟩ fa fc := by simp [csCells, newC, hl]
    rw [e]; exact this
  · have := h.bks
    rw [partB_full gb gp rs hl] at this
    exact this
  · intro b hb
    obtain ⟨r, hr, rfl⟩ := hmem b hb
    exact (h.pgs r hr).1
  · rintro k (rfl | rfl | hk)
    · exact h.low.1
    · exact h.low.2
    · rw [hm] at hk; exact (h.pgs k hk).2
  · have hmax : gp ≤ maxLen := by unfold maxLen; omega
    have hmax2 : gb ≤ maxLen := by unfold maxLen; omega
    refine ⟨by simp [newC, hl], ?_, ⟨Nat.le_refl _, hmax2⟩, ⟨g1, g2, g3, g4, g5, g6⟩, ?_, hs⟩
    · intro b hb
      obtain ⟨r, hr, rfl⟩ := hmem b hb
      exact ⟨by simp [freshB, newC], Nat.le_refl _, hmax, Int.le_refl _, by show (0 : Int) ≤ (gp : Int); omega⟩
    · intro b hb pg hpg
      obtain ⟨r, hr, rfl⟩ := hmem b hb
      have : pg = ⟨0, []⟩ := (List.mem_replicate.1 (show pg ∈ List.replicate gp (⟨0, []⟩ : Pg) from hpg)).2
      rw [this]
      exact ⟨by simp, by simp⟩

theorem infoB : (Tryz.prog.info? 108).map (fun i => (i.zero, i.size, i.bytes)) = some (some (.agg #[.slice none 0 0, .int .i64 0, .int .i64 0, .bool false]), 4, 48) := by kernel_rfl
theorem infoP : (Tryz.prog.info? 251).map (fun i => (i.zero, i.size, i.bytes)) = some (some (.agg #[.int .i64 0, .string ⟨#[]⟩]), 2, 24) := by kernel_rfl
theorem makeB (gb : Nat) (h : gb ≤ 256) : ∃ RB : Array Value, RB.toList = partB gb 0 [] ∧ ∀ W, (Instr.makeSlice 75 (.int .i64 (gb : Int)) (.int .i64 (gb : Int))).run Tryz.prog W = .ok (.slice (some ⟨W.heap.size, 0, none⟩) gb gb) (W.alloc (.cells RB 108)) := by
  obtain ⟨i0, hi, hz0, hz1, hz2⟩ := info_parts infoB
  refine ⟨madeCells #[.slice none 0 0, .int .i64 0, .int .i64 0, .bool false] (gb * 4), ?_, fun W => ?_⟩
  · rw [partB_nil]
    exact made_flat [.slice none 0 0, .int .i64 0, .int .i64 0, .bool false] (by decide) gb
  · have := run_make (P := Tryz.prog) W 75 108 i0 _ Tryz.underlying75 hi hz0 .i64 .i64 gb gb (by omega) (Int.le_refl _) (by rw [hz2]; omega) (by omega)
    rw [hz1] at this
    exact this
theorem makeP (gp : Nat) (h : gp ≤ 64) : ∃ RP : Array Value, RP.toList = (List.replicate gp (⟨0, []⟩ : Pg)).flatMap pgCells ∧ ∀ W, (Instr.makeSlice 104 (.int .i64 (gp : Int)) (.int .i64 (gp : Int))).run Tryz.prog W = .ok (.slice (some ⟨W.heap.size, 0, none⟩) gp gp) (W.alloc (.cells RP 251)) := by
  obtain ⟨i0, hi, hz0, hz1, hz2⟩ := info_parts infoP
  refine ⟨madeCells #[.int .i64 0, .string ⟨#[]⟩] (gp * 2), pages_flat gp, fun W => ?_⟩
  have := run_make (P := Tryz.prog) W 104 251 i0 _ Tryz.underlying104 hi hz0 .i64 .i64 gp gp (by omega) (Int.le_refl _) (by rw [hz2]; omega) (by omega)
  rw [hz1] at this
  exact this
theorem sched_yes (a : Option Addr) (m cap : Nat) (l : List Flt) (w : World) (hm : m = l.length) (hr : FRow w a l) (h : m ≤ 256 ∧ planOk l) :
    Calls Tryz.prog 27 #[.slice a m cap] w fun e w' => ∃ (s : List Flt) (fa : Option Addr) (fc : Nat), s.Perm l ∧ s.Pairwise (fun x y => x.num < y.num) ∧ e = .returned (.tuple #[.agg #[.slice fa m fc, .int .i64 0], .bool true]) ∧ Flts w' fa fc s ∧ Below w.heap.size w w' := by
  refine (scheduled_any a m cap l w hm hr).mono ?_
  rintro e w' (⟨q1, _⟩ | ⟨_, _, q3⟩)
  · exact absurd h q1
  · exact q3
theorem frow_later {w w' : World} {a : Option Addr} {l : List Flt} (h : FRow w a l) (hb : Below w.heap.size w w') : FRow w' a l := by
  rcases h with e | ⟨b, off, e, hc⟩
  · exact .inl e
  · refine .inr ⟨b, off, e, fun i f hf => ?_⟩
    obtain ⟨q0, q1, q2⟩ := hc i f hf
    have hbw := World.block_lt_of_cell? w _ q0
    rw [hb.cell (p := ⟨b, off + i * 3, none⟩) hbw, hb.cell (p := ⟨b, off + i * 3 + 1, none⟩) hbw, hb.cell (p := ⟨b, off + i * 3 + 2, none⟩) hbw]
    exact ⟨q0, q1, q2⟩
set_option maxHeartbeats 1000000 in
theorem new_shape (b p z r : Int) (a : Option Addr) (m cap : Nat) (l : List Flt) (w : World) (hm : m = l.length) (hr : FRow w a l) (h : m ≤ 256 ∧ planOk l) (hg : rightB b p z r = false) :
    Calls Tryz.prog 24 #[.agg #[.int .i64 b, .int .i64 p, .int .i64 z, .int .i64 r], .slice a m cap] w fun e w' => e = .returned (.tuple #[.pointer none, .int .i64 22]) ∧ Below w.heap.size w w' := by
  have hs := sched_yes a m cap l (w.alloc (.cells #[.int .i64 b, .int .i64 p, .int .i64 z, .int .i64 r] 23)) hm (frow_later hr (below_new w _)) h
  have hR := fun W => right_any b p z r W
  rw [hg] at hR
  have hg0 := Row.new w [.int .i64 b, .int .i64 p, .int .i64 z, .int .i64 r] 23
  clear hm hr h hg
  go_enter Tryz.func24, Tryz.ntmps24
  go_wp2_with (first
    | (go_at_call 27; refine hs.mono ?_; rintro e w1 ⟨s, fa, fc, _, _, rfl, _, hb1⟩; have hg1 := (hg0.later hb1).alloc (.cells #[.slice fa m fc, .int .i64 0] 72); have c0 := hg1.cell (i := 0) rfl; have c1 := hg1.cell (i := 1) rfl; have c2 := hg1.cell (i := 2) rfl; have c3 := hg1.cell (i := 3) rfl)
    | (go_at_call 44; refine (hR _).mono ?_; rintro e w2 ⟨rfl, hb2⟩))
  go_ret2
  exact ⟨rfl, Below.after (below_new w _) (Below.after hb1 (Below.after (below_new w1 _) hb2))⟩

/-- What New hands back where all is right. -/
def NewPost (gb gp gz gr : Nat) (l : List Flt) (w : World) (e : Ending) (w' : World) : Prop :=
  ∃ p q s rs, e = .returned (.tuple #[.pointer (some ⟨p, 0, none⟩), .int .i64 0]) ∧ rs.length = gb ∧ s.Perm l ∧ s.Pairwise (fun x y => x.num < y.num) ∧ Lies w.heap.size w' (newC gb gp gz gr p q s rs) ∧ Below w.heap.size w w'
set_option maxHeartbeats 4000000 in
theorem new_go (gb gp gz gr : Nat) (a : Option Addr) (m cap : Nat) (l : List Flt) (w : World) (hm : m = l.length) (hr : FRow w a l) (h : m ≤ 256 ∧ planOk l) (hg : rightB gb gp gz gr = true) (g1 : 1 ≤ gb) (g2 : gb ≤ 256) (g3 : 1 ≤ gp) (g4 : gp ≤ 64) (g5 : 1 ≤ gz) (g6 : gz ≤ 512) :
    Calls Tryz.prog 24 #[.agg #[.int .i64 gb, .int .i64 gp, .int .i64 gz, .int .i64 gr], .slice a m cap] w fun e w' => NewPost gb gp gz gr l w e w' := by
  have hs := sched_yes a m cap l (w.alloc (.cells #[.int .i64 gb, .int .i64 gp, .int .i64 gz, .int .i64 gr] 23)) hm (frow_later hr (below_new w _)) h
  have hR := fun W => right_any gb gp gz gr W
  rw [hg] at hR
  have hg0 := Row.new w [.int .i64 gb, .int .i64 gp, .int .i64 gz, .int .i64 gr] 23
  obtain ⟨RB, hRB, hmkB⟩ := makeB gb g2
  obtain ⟨RP, hRP, hmkP⟩ := makeP gp g4
  have HRB : Hid (RB.toList = partB gb 0 []) := hRB
  have HRP : Hid (RP.toList = (List.replicate gp (⟨0, []⟩ : Pg)).flatMap pgCells) := hRP
  have HM : Hid (m = l.length) := hm
  have HOK : Hid (m ≤ 256 ∧ planOk l) := h
  clear hm hr h hg hRB hRP
  go_enter Tryz.func24, Tryz.ntmps24
  go_wp2_with (first
    | (go_at_call 27; refine hs.mono ?_; rintro e w1 ⟨s, fa, fc, p1, p2, rfl, p3, hb1⟩; have hg1 := (hg0.later hb1).alloc (.cells #[.slice fa m fc, .int .i64 0] 72); have hs1 := Row.new w1 [.slice fa m fc, .int .i64 0] 72; have c0 := hg1.cell (i := 0) rfl; have c1 := hg1.cell (i := 1) rfl; have c2 := hg1.cell (i := 2) rfl; have c3 := hg1.cell (i := 3) rfl)
    | (go_at_call 44; refine (hR _).mono ?_; rintro e w3 ⟨rfl, hb3⟩; have hg3 := hg1.later hb3; have hs3 := hs1.later hb3; have d0 := hg3.cell (i := 0) rfl; have d1 := hg3.cell (i := 1) rfl; have d2 := hg3.cell (i := 2) rfl; have d3 := hg3.cell (i := 3) rfl; have s0 := hs3.cell (i := 0) rfl; have s1 := hs3.cell (i := 1) rfl; have l0 := hg3.lt; have l1 := hs3.lt))
  have hbel3 : Below w.heap.size w w3 := Below.after (below_new w _) (Below.after hb1 (Below.after (below_new w1 _) hb3))
  have hf3 : Flts w3 fa fc s := p3.kept (S := fun _ => False) (.of_below (Below.after (below_new w1 _) hb3)) (fun _ _ _ x => x)
  have HP1 : Hid (s.Perm l) := p1
  have HP2 : Hid (s.Pairwise (fun x y => x.num < y.num)) := p2
  have HBL : Hid (Below w.heap.size w w3) := hbel3
  have HF3 : Hid (Flts w3 fa fc s) := hf3
  clear p1 p2 p3 hb1 hb3 hg1 hs1 hs hR hg0 hbel3 hf3 c0 c1 c2 c3
  go_region
  all_goals go_wp2
  have hml : s.length = m := by rw [HM.out]; exact HP1.out.length_eq
  have hmade : Made w (((w3.alloc (Obj.cells RB 108)).alloc (Obj.cells #[Value.int IntKind.i64 gb, Value.int IntKind.i64 gp, Value.int IntKind.i64 gz, Value.int IntKind.i64 gr, Value.slice (some ⟨w3.heap.size, 0, none⟩) gb gb, Value.bool true, Value.int IntKind.i64 0, Value.int IntKind.i64 0, Value.slice fa m fc, Value.int IntKind.i64 0] 77)).drew) gb gp gz gr (w3.heap.size + 1) w3.heap.size fa fc s [] := by
    have b1 : Below w3.heap.size w3 (w3.alloc (Obj.cells RB 108)) := below_new w3 _
    have b2 := below_new (w3.alloc (Obj.cells RB 108)) (Obj.cells #[Value.int IntKind.i64 gb, Value.int IntKind.i64 gp, Value.int IntKind.i64 gz, Value.int IntKind.i64 gr, Value.slice (some ⟨w3.heap.size, 0, none⟩) gb gb, Value.bool true, Value.int IntKind.i64 0, Value.int IntKind.i64 0, Value.slice fa m fc, Value.int IntKind.i64 0] 77)
    have b3 := (Below.after b1 b2).drew
    refine ⟨?_, HF3.out.kept (S := fun _ => False) (.of_below b3) (fun _ _ _ x => x), ?_, fun r hr => by simp at hr, by simp, ⟨by have := HBL.out.size; omega, HBL.out.size⟩, ?_, Below.after HBL.out b3⟩
    · have := Row.new (w3.alloc (Obj.cells RB 108)) [Value.int IntKind.i64 gb, Value.int IntKind.i64 gp, Value.int IntKind.i64 gz, Value.int IntKind.i64 gr, Value.slice (some ⟨w3.heap.size, 0, none⟩) gb gb, Value.bool true, Value.int IntKind.i64 0, Value.int IntKind.i64 0, Value.slice fa m fc, Value.int IntKind.i64 0] 77
      rw [World.size_alloc] at this
      have e : csCells ⟨w3.heap.size + 1, w3.heap.size, gb, gb, gp, gz, gr, List.replicate gb (freshB gp 0), true, 0, 0, 0, s⟩ fa fc = [Value.int IntKind.i64 gb, Value.int IntKind.i64 gp, Value.int IntKind.i64 gz, Value.int IntKind.i64 gr, Value.slice (some ⟨w3.heap.size, 0, none⟩) gb gb, Value.bool true, Value.int IntKind.i64 0, Value.int IntKind.i64 0, Value.slice fa m fc, Value.int IntKind.i64 0] := by simp [csCells, hml]
      rw [e]
      exact this
    · have := Row.new w3 RB.toList 108
      rw [HRB.out] at this
      have e : RB = (partB gb 0 []).toArray := by rw [← HRB.out]
      rw [e]
      rw [partB_nil] at this ⊢
      rw [partB_nil]
      exact this.alloc _
    · rw [b3.cell (p := ⟨w.heap.size, 1, none⟩) l0]; exact d1
  have hq : w.heap.size < w3.heap.size := l0
  obtain ⟨W0, hW0⟩ : ∃ W0, W0 = (((w3.alloc (Obj.cells RB 108)).alloc (Obj.cells #[Value.int IntKind.i64 gb, Value.int IntKind.i64 gp, Value.int IntKind.i64 gz, Value.int IntKind.i64 gr, Value.slice (some ⟨w3.heap.size, 0, none⟩) gb gb, Value.bool true, Value.int IntKind.i64 0, Value.int IntKind.i64 0, Value.slice fa m fc, Value.int IntKind.i64 0] 77)).drew) := ⟨_, rfl⟩
  rw [← hW0] at hmade ⊢
  clear hW0 hg3 hs3 d0 d1 d2 d3 s0 s1 l0 l1 HBL HF3 HRB hmkB
  obtain ⟨Q, hQ⟩ : ∃ Q, Q = w3.heap.size := ⟨_, rfl⟩
  rw [← hQ] at hmade hq ⊢
  clear hQ
  go_loopg [34] gb (fun gm i wr => ∃ rs : List Nat, rs.length ≤ gb ∧ gm = gb - rs.length ∧ i = .int .i64 rs.length ∧ Hid (Made w wr gb gp gz gr (Q + 1) Q fa fc s rs))
  case atStart => exact ⟨[], by simp, by simp, rfl, hmade⟩
  case round =>
    obtain ⟨rs, hle, rfl, rfl, hM⟩ := hrel
    have c4 : wr.cell? ⟨Q + 1, 4, none⟩ = some (.slice (some ⟨Q, 0, none⟩) gb gb) := by
      have := hM.out.chip.cell (i := 4) rfl
      rw [this]; simp
    have cg := hM.out.geo
    obtain ⟨k, hk⟩ : ∃ k, k = rs.length := ⟨_, rfl⟩
    have HK : Hid (k = rs.length) := hk
    have hQl := hM.out.bks.lt
    have hwl := World.block_lt_of_cell? wr _ cg
    have hpl := World.block_lt_of_cell? wr _ c4
    by_cases hlt : rs.length < gb
    · have hlen := partB_len gb gp rs hle
      obtain ⟨v0, hv0⟩ : ∃ v0, wr.cell? ⟨Q, k * 4, none⟩ = some v0 := ⟨_, hM.out.bks.cell (List.getElem?_eq_getElem (by rw [hlen]; omega))⟩
      have hf0 := hM.out.bks.frozen (k * 4)
      rw [← hk] at hlt ⊢
      have HN := hM.out.step (RP := RP) (by rw [← hk]; exact hlt) hq HRP.out
      have HNx : Hid _ := HN
      clear hk hlen HN
      have hki : (k : Int) < (gb : Int) := by omega
      go_wp2
      go_region
      all_goals go_wp2
      all_goals go_roundg (gb - (k + 1))
      all_goals first
        | (show gb - (k + 1) < gb - rs.length; have := HK.out; omega)
        | (refine ⟨rs ++ [wr.heap.size], by have := HK.out; simp; omega, by have := HK.out; simp; omega, by have := HK.out; simp; omega, ?_⟩; have hn := HNx.out; rw [← HK.out] at hn; exact hn.later (below_drawn _ 1))
    · go_wp2
      go_ret2
      have e : rs.length = gb := by omega
      unfold NewPost
      exact ⟨Q + 1, Q, s, rs, rfl, e, HP1.out, HP2.out, hM.out.lies e g1 g2 g3 g4 g5 g6 (fun f hf => HOK.out.2.1 f (HP1.out.mem_iff.1 hf)), hM.out.bel⟩
end Go.Proofs.YtkfecngkdlajgaaGreatDoor
