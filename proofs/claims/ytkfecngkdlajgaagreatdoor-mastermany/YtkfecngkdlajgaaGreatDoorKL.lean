/-
  The errno of an error; what a call says of it.
  What a call does to the chip, if it may: Write, Unmap, Change.
  Write, Unmap, Change of a manager: what they ask ahead of all.
-/
import Derived.Test.YtkfecngkdlajgaaGreatDoorKJ
namespace Go.Proofs.YtkfecngkdlajgaaGreatDoor
open Go.RowKit Go.Extern.Stop Go.Stop Go.Extern
set_option maxRecDepth 10000

set_option maxHeartbeats 1000000 in
theorem errnoOf_any {w : World} {v : Value} {x : Int} (h : ErrV w v x) (hg : Typed w) :
    Calls Tryz.prog 88 #[v] w fun e w' => e = .returned (.int .i64 x) ∧ Below w.heap.size w w' := by
  rcases h with ⟨rfl, rfl⟩ | ⟨_, B, what, block, rfl, hr⟩
  · have kA := fun t W => as_nil t W
    clear hg
    go_enter Tryz.func88, Tryz.ntmps88
    go_wp2_with (go_at_call 133; refine (kA _ _).mono ?_; rintro e w1 ⟨rfl, rfl⟩)
    refine bodyPost_ret (v := .int .i64 0) ?_ rfl ⟨rfl, below_new w _⟩
    simp [results, Tryz.f88, go_sem]
  · obtain ⟨W, hW⟩ : ∃ W, W = w.alloc (.cells #[.int .i64 0] 30) := ⟨_, rfl⟩
    have hb : Below w.heap.size w W := by rw [hW]; exact below_new w _
    have hr0 : Row W w.heap.size [.int .i64 0] 30 := by rw [hW]; exact Row.new w [_] _
    have kA := As_failure B what block x w.heap.size 0 W (hg.later hb) (hr.later hb) hr0
    have HB : Hid (Below w.heap.size w W) := hb
    clear hg hr hb hr0
    go_enter Tryz.func88, Tryz.ntmps88
    go_wp2_with fail
    rw [← hW]
    clear hW
    go_wp2_with (go_at_call 133; refine kA.mono ?_; rintro e w1 ⟨rfl, hk, hr⟩; have HK : Hid (Kept (fun k => k = w.heap.size) W w1) := hk; have c0 : w1.cell? ⟨w.heap.size, 0, none⟩ = some (.int .i64 x) := hr.cell (i := 0) rfl; have f0 := hr.frozen 0; have hlt := hr.lt; clear hk hr)
    refine bodyPost_ret (v := .int .i64 x) ?_ rfl ⟨rfl, ?_⟩
    · simp [results, Tryz.f88, go_sem, c0]
    · first
        | exact HB.out.trans (HK.out.below (HB.out.size) (fun k h => by rw [h]; exact Nat.le_refl _))
        | exact (HB.out.trans (HK.out.below (HB.out.size) (fun k h => by rw [h]; exact Nat.le_refl _))).setCell (Nat.le_refl _) _
/-- The manager with its power lost if an error tells so. -/
def Mg.ans (m : Mg) (x : Int) : Mg := { m with lost := m.lost || x == 6 }
theorem Mg.ans_no {m : Mg} {x : Int} (h : m.lost = false) (hx : x ≠ 6) : m.ans x = m := by
  unfold Mg.ans
  have : (x == 6) = false := by simp [hx]
  cases m
  simp_all
set_option maxHeartbeats 1000000 in
theorem answer_any {base : Nat} {w : World} {m : Mg} {c : CS} (h : MLies base w m c) {v : Value} {x : Int} (he : ErrV w v x) (hg : Typed w) (hgb : 1 < base) :
    Calls Tryz.prog 76 #[.pointer (some ⟨m.p, 0, none⟩), v] w fun e w' => e = .returned (.int .i64 x) ∧ MLies base w' (m.ans x) c ∧ Kept (fun k => k = m.p) w w' := by
  obtain ⟨_, _, _, c3⟩ := h.cells
  have fz := h.box.frozen
  have kI := Is_any he 6 (by decide)
  have HE : Hid (ErrV w v x) := he
  have HK : Hid (∀ u, Kept (fun k => k = m.p) w (w.setCell ⟨m.p, 3, none⟩ u)) := fun u => (Kept.refl (fun k => k = m.p) w).setCell (p := ⟨m.p, 3, none⟩) rfl u
  have HM : Hid (∀ b, (m.lost || x == 6) = b → MLies base (w.setCell ⟨m.p, 3, none⟩ (.bool b)) (m.ans x) c) := fun b hb => h.wroteP (HK.out _) rfl rfl rfl rfl (by
    have := h.box.set (i := 3) (.bool b) (by simp [mgCells])
    have e : mgCells (m.ans x) c.p = (mgCells m c.p).set 3 (.bool b) := by unfold mgCells Mg.ans; simp [hb]
    rw [e]; exact this)
  have HO : Hid (∀ u, Calls Tryz.prog 88 #[v] (w.setCell ⟨m.p, 3, none⟩ u) fun e w' => e = .returned (.int .i64 x) ∧ Below (w.setCell ⟨m.p, 3, none⟩ u).heap.size (w.setCell ⟨m.p, 3, none⟩ u) w') := fun u => by
    refine errnoOf_any ?_ (hg.keep (HK.out u) (fun e => by have := h.low.1; omega))
    rcases he with e | ⟨e, B, what, block, e2, hr⟩
    · exact .inl e
    · exact .inr ⟨e, B, what, block, e2, hr.kept (HK.out u) (fun e3 => hr.ne h.box (by decide) e3)⟩
  obtain ⟨q, hq⟩ : ∃ q, q = (x == 6) := ⟨_, rfl⟩
  rw [← hq] at kI HM
  clear h he hg hgb hq
  cases hl : m.lost with
  | true =>
    rw [hl] at c3 HM
    go_enter Tryz.func76, Tryz.ntmps76
    go_wp2_with (first
      | (go_at_call 62; refine kI.mono ?_; rintro e w1 ⟨rfl, rfl⟩)
      | (go_at_call 88; refine (HO.out _).mono ?_; rintro e w2 ⟨rfl, hb⟩))
    go_ret
    exact ⟨rfl, (HM.out true rfl).later hb, (HK.out _).trans (.of_below hb)⟩
  | false =>
    rw [hl] at c3 HM
    go_enter Tryz.func76, Tryz.ntmps76
    go_wp2_with (first
      | (go_at_call 62; refine kI.mono ?_; rintro e w1 ⟨rfl, rfl⟩)
      | (go_at_call 88; refine (HO.out _).mono ?_; rintro e w2 ⟨rfl, hb⟩))
    go_ret
    exact ⟨rfl, (HM.out q (by simp)).later hb, (HK.out _).trans (.of_below hb)⟩
end Go.Proofs.YtkfecngkdlajgaaGreatDoor
namespace Go.Proofs.YtkfecngkdlajgaaGreatDoor
open Go.RowKit Go.Extern.Stop Go.Stop Go.Extern
set_option maxRecDepth 10000

theorem off_same {m : Mg} {c : CS} (h : m.lost = false) (hon : c.on = true) : m.off c = m := by
  unfold Mg.off
  cases m
  simp_all
theorem Typed.ex {base : Nat} {w W : World} {m : Mg} {c : CS} (hg : Typed w) (h : MLies base w m c) (hgb : 1 < base) (hk : Kept (MFoot m c) w W) : Typed W :=
  hg.keep hk (by
    rintro (e | e | e)
    · have := h.low.1; omega
    · have := h.low.2; omega
    · have := h.chip.low _ e; omega)
/-- What a call of the manager leaves. -/
def DPostM (base : Nat) (w : World) (m : Mg) (c : CS) (r : Int × Mg × CS) (e : Ending) (w' : World) : Prop := e = .returned (.int .i64 r.1) ∧ Ex base w m c w' (r.2.1.ans r.1) r.2.2
set_option maxHeartbeats 1000000 in
theorem mdo_Write {base : Nat} {w : World} {m : Mg} {c : CS} (h : MLies base w m c) (hl : m.lost = false) (hon : c.on = true) (hsp : spentB c = false) (hg : Typed w) (hgb : 1 < base) (Bm Bl Bd : Nat) (R : Int × Mg × CS)
    (hc : ∀ X, Kept (fun k => k = m.p) w X → MLies base X m c → Calls Tryz.prog 212 #[.pointer (some ⟨Bm, 0, none⟩), .pointer (some ⟨Bl, 0, none⟩), .pointer (some ⟨Bd, 0, none⟩)] X (EPost base X m c R)) :
    Calls Tryz.prog 41 #[.pointer (some ⟨m.p, 0, none⟩), .func (.func 212) #[] #[.pointer (some ⟨Bm, 0, none⟩), .pointer (some ⟨Bl, 0, none⟩), .pointer (some ⟨Bd, 0, none⟩)]] w (DPostM base w m c R) := by
  have k1 := off_any h
  rw [hl, hon, off_same hl hon] at k1
  have HSp : Hid (∀ X, MLies base X m c → Calls Tryz.prog 46 #[.pointer (some ⟨m.p, 0, none⟩)] X fun e w' => e = .returned (.bool false) ∧ Below X.heap.size X w') := fun X hX => by have := mspent_any hX; rw [hsp] at this; exact this
  have HC : Hid (∀ X, Kept (fun k => k = m.p) w X → MLies base X m c → Calls Tryz.prog 212 #[.pointer (some ⟨Bm, 0, none⟩), .pointer (some ⟨Bl, 0, none⟩), .pointer (some ⟨Bd, 0, none⟩)] X (EPost base X m c R)) := hc
  have HM : Hid (MLies base w m c) := h
  have HT : Hid (∀ X v, Ex base w m c X R.2.1 R.2.2 → ErrV X v R.1 → Calls Tryz.prog 76 #[.pointer (some ⟨m.p, 0, none⟩), v] X fun e w' => e = .returned (.int .i64 R.1) ∧ MLies base w' (R.2.1.ans R.1) R.2.2 ∧ Kept (fun k => k = m.p) X w') := fun X v hX he => by
    have := answer_any hX.ml he (hg.ex h hgb hX.kp) hgb
    rw [hX.p] at this
    exact this
  clear h hl hon hsp hg hgb hc
  go_enter Tryz.func41, Tryz.ntmps41
  go_wp2_with (first
    | (go_at_call 75; refine k1.mono ?_; rintro e w1 ⟨rfl, hl1, hk1⟩; have HL1 : Hid (MLies base w1 m c ∧ Kept (fun k => k = m.p) w w1) := ⟨hl1, hk1⟩; clear hl1 hk1)
    | (go_at_call 46; refine (HSp.out _ HL1.out.1).mono ?_; rintro e w2 ⟨rfl, hb2⟩; have HL2 : Hid (MLies base w2 m c ∧ Kept (fun k => k = m.p) w w2) := ⟨HL1.out.1.later hb2, HL1.out.2.trans (.of_below hb2)⟩; clear hb2)
    | (go_at_call 212; refine (HC.out _ HL2.out.2 HL2.out.1).mono ?_; rintro e w3 ⟨v3, rfl, he3, hx3⟩; have hx3' := hx3.back (HL2.out.2.mono fun _ hk => .inl hk); have HX3 : Hid (Ex base w m c w3 R.2.1 R.2.2) := hx3'; have kA := HT.out w3 v3 hx3' he3; clear he3 hx3 hx3')
    | (go_at_call 76; refine kA.mono ?_; rintro e w4 ⟨rfl, hl4, hk4⟩; have HL4 : Hid (MLies base w4 (R.2.1.ans R.1) R.2.2 ∧ Kept (fun k => k = m.p) w3 w4) := ⟨hl4, hk4⟩; clear hl4 hk4))
  go_ret
  exact ⟨rfl, HL4.out.1, HX3.out.p, HX3.out.bb, HX3.out.kp.trans (HL4.out.2.mono fun _ hk => .inl hk), HX3.out.ft⟩
set_option maxHeartbeats 1000000 in
theorem mdo_Change {base : Nat} {w : World} {m : Mg} {c : CS} (h : MLies base w m c) (hl : m.lost = false) (hon : c.on = true) (hsp : spentB c = false) (hg : Typed w) (hgb : 1 < base) (Bm Bl Bp : Nat) (R : Int × Mg × CS)
    (hc : ∀ X, Kept (fun k => k = m.p) w X → MLies base X m c → Calls Tryz.prog 42 #[.pointer (some ⟨Bm, 0, none⟩), .pointer (some ⟨Bl, 0, none⟩), .pointer (some ⟨Bp, 0, none⟩)] X (EPost base X m c R)) :
    Calls Tryz.prog 41 #[.pointer (some ⟨m.p, 0, none⟩), .func (.func 42) #[] #[.pointer (some ⟨Bm, 0, none⟩), .pointer (some ⟨Bl, 0, none⟩), .pointer (some ⟨Bp, 0, none⟩)]] w (DPostM base w m c R) := by
  have k1 := off_any h
  rw [hl, hon, off_same hl hon] at k1
  have HSp : Hid (∀ X, MLies base X m c → Calls Tryz.prog 46 #[.pointer (some ⟨m.p, 0, none⟩)] X fun e w' => e = .returned (.bool false) ∧ Below X.heap.size X w') := fun X hX => by have := mspent_any hX; rw [hsp] at this; exact this
  have HC : Hid (∀ X, Kept (fun k => k = m.p) w X → MLies base X m c → Calls Tryz.prog 42 #[.pointer (some ⟨Bm, 0, none⟩), .pointer (some ⟨Bl, 0, none⟩), .pointer (some ⟨Bp, 0, none⟩)] X (EPost base X m c R)) := hc
  have HM : Hid (MLies base w m c) := h
  have HT : Hid (∀ X v, Ex base w m c X R.2.1 R.2.2 → ErrV X v R.1 → Calls Tryz.prog 76 #[.pointer (some ⟨m.p, 0, none⟩), v] X fun e w' => e = .returned (.int .i64 R.1) ∧ MLies base w' (R.2.1.ans R.1) R.2.2 ∧ Kept (fun k => k = m.p) X w') := fun X v hX he => by
    have := answer_any hX.ml he (hg.ex h hgb hX.kp) hgb
    rw [hX.p] at this
    exact this
  clear h hl hon hsp hg hgb hc
  go_enter Tryz.func41, Tryz.ntmps41
  go_wp2_with (first
    | (go_at_call 75; refine k1.mono ?_; rintro e w1 ⟨rfl, hl1, hk1⟩; have HL1 : Hid (MLies base w1 m c ∧ Kept (fun k => k = m.p) w w1) := ⟨hl1, hk1⟩; clear hl1 hk1)
    | (go_at_call 46; refine (HSp.out _ HL1.out.1).mono ?_; rintro e w2 ⟨rfl, hb2⟩; have HL2 : Hid (MLies base w2 m c ∧ Kept (fun k => k = m.p) w w2) := ⟨HL1.out.1.later hb2, HL1.out.2.trans (.of_below hb2)⟩; clear hb2)
    | (go_at_call 42; refine (HC.out _ HL2.out.2 HL2.out.1).mono ?_; rintro e w3 ⟨v3, rfl, he3, hx3⟩; have hx3' := hx3.back (HL2.out.2.mono fun _ hk => .inl hk); have HX3 : Hid (Ex base w m c w3 R.2.1 R.2.2) := hx3'; have kA := HT.out w3 v3 hx3' he3; clear he3 hx3 hx3')
    | (go_at_call 76; refine kA.mono ?_; rintro e w4 ⟨rfl, hl4, hk4⟩; have HL4 : Hid (MLies base w4 (R.2.1.ans R.1) R.2.2 ∧ Kept (fun k => k = m.p) w3 w4) := ⟨hl4, hk4⟩; clear hl4 hk4))
  go_ret
  exact ⟨rfl, HL4.out.1, HX3.out.p, HX3.out.bb, HX3.out.kp.trans (HL4.out.2.mono fun _ hk => .inl hk), HX3.out.ft⟩
theorem write1_any {w : World} {m : Mg} {Q : Ending → World → Prop} (Bm Bl Bd : Nat) (leb : Int) (a : Option Addr) (n dc : Nat) (h1 : w.cell? ⟨Bm, 0, none⟩ = some (.pointer (some ⟨m.p, 0, none⟩))) (h2 : w.cell? ⟨Bl, 0, none⟩ = some (.int .i64 leb)) (h3 : w.cell? ⟨Bd, 0, none⟩ = some (.slice a n dc))
    (hE : Calls Tryz.prog 213 #[.pointer (some ⟨m.p, 0, none⟩), .int .i64 leb, .slice a n dc] w (fun e w' => ∃ v, e = .returned v ∧ Q e w')) :
    Calls Tryz.prog 212 #[.pointer (some ⟨Bm, 0, none⟩), .pointer (some ⟨Bl, 0, none⟩), .pointer (some ⟨Bd, 0, none⟩)] w Q := by
  go_enter Tryz.func212, Tryz.ntmps212
  go_wp2_with (go_at_call 213; refine hE.mono ?_; rintro e w1 ⟨v, rfl, hq⟩; have HQ : Hid (Q (.returned v) w1) := hq; clear hq)
  exact HQ.out
theorem change1_any {w : World} {m : Mg} {Q : Ending → World → Prop} (Bm Bl Bp : Nat) (leb : Int) (a : Option Addr) (n dc : Nat) (h1 : w.cell? ⟨Bm, 0, none⟩ = some (.pointer (some ⟨m.p, 0, none⟩))) (h2 : w.cell? ⟨Bl, 0, none⟩ = some (.int .i64 leb)) (h3 : w.cell? ⟨Bp, 0, none⟩ = some (.slice a n dc))
    (hE : Calls Tryz.prog 43 #[.pointer (some ⟨m.p, 0, none⟩), .int .i64 leb, .slice a n dc] w (fun e w' => ∃ v, e = .returned v ∧ Q e w')) :
    Calls Tryz.prog 42 #[.pointer (some ⟨Bm, 0, none⟩), .pointer (some ⟨Bl, 0, none⟩), .pointer (some ⟨Bp, 0, none⟩)] w Q := by
  go_enter Tryz.func42, Tryz.ntmps42
  go_wp2_with (go_at_call 43; refine hE.mono ?_; rintro e w1 ⟨v, rfl, hq⟩; have HQ : Hid (Q (.returned v) w1) := hq; clear hq)
  exact HQ.out
end Go.Proofs.YtkfecngkdlajgaaGreatDoor
namespace Go.Proofs.YtkfecngkdlajgaaGreatDoor
open Go.RowKit Go.Extern.Stop Go.Stop Go.Extern
set_option maxRecDepth 10000

@[local go_sem] theorem run_store_func4 (P : Program) (w : World) (a : Addr) (m : Mode) (f : Fn) (x y : Array Value) : (store a (.func f x y) m).run P w = stored P w a (.func f x y) m := run_store P w a _ m rfl
theorem box3 (w : World) (v1 v2 v3 : Value) (t1 t2 t3 : TypeId) : ∃ W, W = ((w.alloc (.cells #[v1] t1)).alloc (.cells #[v2] t2)).alloc (.cells #[v3] t3) ∧ Below w.heap.size w W ∧ Row W w.heap.size [v1] t1 ∧ Row W (w.heap.size + 1) [v2] t2 ∧ Row W (w.heap.size + 1 + 1) [v3] t3 := by
  refine ⟨_, rfl, Below.after (Below.after (below_new w _) (below_new _ _)) (below_new _ _), ((Row.new w [_] _).later (below_new _ _)).later (below_new _ _), ?_, ?_⟩
  · have := (Row.new (w.alloc (.cells #[v1] t1)) [v2] t2).later (below_new _ (.cells #[v3] t3))
    rw [show (w.alloc (.cells #[v1] t1)).heap.size = w.heap.size + 1 by simp] at this
    exact this
  · have := Row.new ((w.alloc (.cells #[v1] t1)).alloc (.cells #[v2] t2)) [v3] t3
    rw [show ((w.alloc (.cells #[v1] t1)).alloc (.cells #[v2] t2)).heap.size = w.heap.size + 1 + 1 by simp] at this
    exact this
set_option maxHeartbeats 1000000 in
theorem mwrite_may {base : Nat} {w : World} {m : Mg} {c : CS} (h : MLies base w m c) (leb : Int) (a : Option Addr) (n dc : Nat) (hh : hasB c leb = true) (hn : n ≤ c.gz) (R : Int × Mg × CS)
    (hD : ∀ X Bm Bl Bd, Below w.heap.size w X → X.cell? ⟨Bm, 0, none⟩ = some (.pointer (some ⟨m.p, 0, none⟩)) → X.cell? ⟨Bl, 0, none⟩ = some (.int .i64 leb) → X.cell? ⟨Bd, 0, none⟩ = some (.slice a n dc) → w.heap.size ≤ Bm → w.heap.size ≤ Bl → w.heap.size ≤ Bd → Calls Tryz.prog 41 #[.pointer (some ⟨m.p, 0, none⟩), .func (.func 212) #[] #[.pointer (some ⟨Bm, 0, none⟩), .pointer (some ⟨Bl, 0, none⟩), .pointer (some ⟨Bd, 0, none⟩)]] X (DPostM base X m c R)) :
    Calls Tryz.prog 190 #[.pointer (some ⟨m.p, 0, none⟩), .int .i64 leb, .slice a n dc] w (DPostM base w m c R) := by
  obtain ⟨W3, hW3, hb3, r0, r1, r2⟩ := box3 w (.pointer (some ⟨m.p, 0, none⟩)) (.int .i64 leb) (.slice a n dc) 26 3 56
  have HM : Hid (∀ X, Below w.heap.size w X → MLies base X m c) := fun X hb => h.later hb
  have HB3 : Hid (Below w.heap.size w W3 ∧ Row W3 w.heap.size [.pointer (some ⟨m.p, 0, none⟩)] 26 ∧ Row W3 (w.heap.size + 1) [.int .i64 leb] 3 ∧ Row W3 (w.heap.size + 1 + 1) [.slice a n dc] 56) := ⟨hb3, r0, r1, r2⟩
  have HD : Hid (∀ X Bm Bl Bd, Below w.heap.size w X → X.cell? ⟨Bm, 0, none⟩ = some (.pointer (some ⟨m.p, 0, none⟩)) → X.cell? ⟨Bl, 0, none⟩ = some (.int .i64 leb) → X.cell? ⟨Bd, 0, none⟩ = some (.slice a n dc) → w.heap.size ≤ Bm → w.heap.size ≤ Bl → w.heap.size ≤ Bd → Calls Tryz.prog 41 #[.pointer (some ⟨m.p, 0, none⟩), .func (.func 212) #[] #[.pointer (some ⟨Bm, 0, none⟩), .pointer (some ⟨Bl, 0, none⟩), .pointer (some ⟨Bd, 0, none⟩)]] X (DPostM base X m c R)) := hD
  have p0 : W3.cell? ⟨w.heap.size, 0, none⟩ = some (.pointer (some ⟨m.p, 0, none⟩)) := r0.cell (i := 0) rfl
  have ne := Wd.non W3
  have z0 : ∀ p : Wd W3, p.v.cell? ⟨w.heap.size, 0, none⟩ = some (.pointer (some ⟨m.p, 0, none⟩)) := fun p => (HB3.out.2.1.later p.h).cell (i := 0) rfl
  have z1 : ∀ p : Wd W3, p.v.cell? ⟨w.heap.size + 1, 0, none⟩ = some (.int .i64 leb) := fun p => (HB3.out.2.2.1.later p.h).cell (i := 0) rfl
  have z2 : ∀ p : Wd W3, p.v.cell? ⟨w.heap.size + 1 + 1, 0, none⟩ = some (.slice a n dc) := fun p => (HB3.out.2.2.2.later p.h).cell (i := 0) rfl
  have cH := fun p : Wd W3 => quiet_call p (by have := mhas_any (HM.out p.v (Below.after hb3 p.h)) leb; rw [hh] at this; exact this)
  have cP := fun p : Wd W3 => quiet_call p (mpage_any (HM.out p.v (Below.after hb3 p.h)))
  have g1 : ¬ (c.gz : Int) < (n : Int) := by omega
  clear hn h hh hD hb3 r0 r1 r2
  go_enter Tryz.func190, Tryz.ntmps190
  go_wp2_with fail
  rw [← hW3]
  clear hW3
  refine quiet_below (by kernel_rfl) ?_
  repeat (first | go_big_quiet_skip | go_big_quiet_step (first
    | (go_at_call 39; exact cH _)
    | (go_at_call 67; exact cP _)))
  refine wpQuiet_nil ?_
  rintro _ ⟨p4, rfl⟩
  obtain ⟨w4, hw4⟩ : ∃ W, W = p4.v := ⟨_, rfl⟩
  have HB4 : Hid (Below w.heap.size w w4) := by rw [hw4]; exact Below.after HB3.out.1 p4.h
  have y0 : w4.cell? ⟨w.heap.size, 0, none⟩ = some (.pointer (some ⟨m.p, 0, none⟩)) := by rw [hw4]; exact z0 p4
  have y1 : w4.cell? ⟨w.heap.size + 1, 0, none⟩ = some (.int .i64 leb) := by rw [hw4]; exact z1 p4
  have y2 : w4.cell? ⟨w.heap.size + 1 + 1, 0, none⟩ = some (.slice a n dc) := by rw [hw4]; exact z2 p4
  rw [← hw4]
  clear hw4
  clear p4
  clear z0 z1 z2 cH ne p0 HB3
  have kD := HD.out w4 w.heap.size (w.heap.size + 1) (w.heap.size + 1 + 1) HB4.out y0 y1 y2 (Nat.le_refl _) (by omega) (by omega)
  go_wp2_with (go_at_call 41; refine kD.mono ?_; rintro e w5 ⟨rfl, hx⟩; have HX : Hid (Ex base w4 m c w5 (R.2.1.ans R.1) R.2.2) := hx; clear hx)
  go_ret
  exact ⟨rfl, HX.out.back (.of_below HB4.out)⟩
set_option maxHeartbeats 1000000 in
theorem mchange_may {base : Nat} {w : World} {m : Mg} {c : CS} (h : MLies base w m c) (leb : Int) (a : Option Addr) (n dc : Nat) (hh : hasB c leb = true) (hfit : ∀ X, Below w.heap.size w X → Calls Tryz.prog 40 #[.pointer (some ⟨m.p, 0, none⟩), .slice a n dc] X fun e w' => e = .returned (.bool true) ∧ Below X.heap.size X w') (R : Int × Mg × CS)
    (hD : ∀ X Bm Bl Bd, Below w.heap.size w X → X.cell? ⟨Bm, 0, none⟩ = some (.pointer (some ⟨m.p, 0, none⟩)) → X.cell? ⟨Bl, 0, none⟩ = some (.int .i64 leb) → X.cell? ⟨Bd, 0, none⟩ = some (.slice a n dc) → w.heap.size ≤ Bm → w.heap.size ≤ Bl → w.heap.size ≤ Bd → Calls Tryz.prog 41 #[.pointer (some ⟨m.p, 0, none⟩), .func (.func 42) #[] #[.pointer (some ⟨Bm, 0, none⟩), .pointer (some ⟨Bl, 0, none⟩), .pointer (some ⟨Bd, 0, none⟩)]] X (DPostM base X m c R)) :
    Calls Tryz.prog 23 #[.pointer (some ⟨m.p, 0, none⟩), .int .i64 leb, .slice a n dc] w (DPostM base w m c R) := by
  obtain ⟨W3, hW3, hb3, r0, r1, r2⟩ := box3 w (.pointer (some ⟨m.p, 0, none⟩)) (.int .i64 leb) (.slice a n dc) 26 3 54
  have HM : Hid (∀ X, Below w.heap.size w X → MLies base X m c) := fun X hb => h.later hb
  have HB3 : Hid (Below w.heap.size w W3 ∧ Row W3 w.heap.size [.pointer (some ⟨m.p, 0, none⟩)] 26 ∧ Row W3 (w.heap.size + 1) [.int .i64 leb] 3 ∧ Row W3 (w.heap.size + 1 + 1) [.slice a n dc] 54) := ⟨hb3, r0, r1, r2⟩
  have HD : Hid (∀ X Bm Bl Bd, Below w.heap.size w X → X.cell? ⟨Bm, 0, none⟩ = some (.pointer (some ⟨m.p, 0, none⟩)) → X.cell? ⟨Bl, 0, none⟩ = some (.int .i64 leb) → X.cell? ⟨Bd, 0, none⟩ = some (.slice a n dc) → w.heap.size ≤ Bm → w.heap.size ≤ Bl → w.heap.size ≤ Bd → Calls Tryz.prog 41 #[.pointer (some ⟨m.p, 0, none⟩), .func (.func 42) #[] #[.pointer (some ⟨Bm, 0, none⟩), .pointer (some ⟨Bl, 0, none⟩), .pointer (some ⟨Bd, 0, none⟩)]] X (DPostM base X m c R)) := hD
  have p0 : W3.cell? ⟨w.heap.size, 0, none⟩ = some (.pointer (some ⟨m.p, 0, none⟩)) := r0.cell (i := 0) rfl
  have p1 : W3.cell? ⟨w.heap.size + 1, 0, none⟩ = some (.int .i64 leb) := r1.cell (i := 0) rfl
  have kH := mhas_any (HM.out W3 hb3) leb
  rw [hh] at kH
  have HF : Hid (∀ X, Below w.heap.size w X → Calls Tryz.prog 40 #[.pointer (some ⟨m.p, 0, none⟩), .slice a n dc] X fun e w' => e = .returned (.bool true) ∧ Below X.heap.size X w') := hfit
  clear hfit h hh hD hb3 r0 r1 r2
  go_enter Tryz.func23, Tryz.ntmps23
  go_wp2_with fail
  rw [← hW3]
  clear hW3
  go_wp2_with (first
    | (go_at_call 39; refine kH.mono ?_; rintro e w3 ⟨rfl, hb⟩; have HB : Hid (Below W3.heap.size W3 w3) := hb; have y0 : w3.cell? ⟨w.heap.size, 0, none⟩ = some (.pointer (some ⟨m.p, 0, none⟩)) := (HB3.out.2.1.later hb).cell (i := 0) rfl; have y1 : w3.cell? ⟨w.heap.size + 1, 0, none⟩ = some (.int .i64 leb) := (HB3.out.2.2.1.later hb).cell (i := 0) rfl; have y2 : w3.cell? ⟨w.heap.size + 1 + 1, 0, none⟩ = some (.slice a n dc) := (HB3.out.2.2.2.later hb).cell (i := 0) rfl; have kF := HF.out w3 (Below.after HB3.out.1 hb); clear hb)
    | (go_at_call 40; refine kF.mono ?_; rintro e w4 ⟨rfl, hb⟩; have hb4 := Below.after HB.out hb; clear y0 y1 y2; have y0 : w4.cell? ⟨w.heap.size, 0, none⟩ = some (.pointer (some ⟨m.p, 0, none⟩)) := (HB3.out.2.1.later hb4).cell (i := 0) rfl; have y1 : w4.cell? ⟨w.heap.size + 1, 0, none⟩ = some (.int .i64 leb) := (HB3.out.2.2.1.later hb4).cell (i := 0) rfl; have y2 : w4.cell? ⟨w.heap.size + 1 + 1, 0, none⟩ = some (.slice a n dc) := (HB3.out.2.2.2.later hb4).cell (i := 0) rfl; have HB4 : Hid (Below w.heap.size w w4) := Below.after HB3.out.1 hb4; have kD := HD.out w4 w.heap.size (w.heap.size + 1) (w.heap.size + 1 + 1) HB4.out y0 y1 y2 (Nat.le_refl _) (by omega) (by omega); clear hb hb4)
    | (go_at_call 41; refine kD.mono ?_; rintro e w5 ⟨rfl, hx⟩; have HX : Hid (Ex base w4 m c w5 (R.2.1.ans R.1) R.2.2) := hx; clear hx))
  go_ret
  exact ⟨rfl, HX.out.back (.of_below HB4.out)⟩
end Go.Proofs.YtkfecngkdlajgaaGreatDoor
