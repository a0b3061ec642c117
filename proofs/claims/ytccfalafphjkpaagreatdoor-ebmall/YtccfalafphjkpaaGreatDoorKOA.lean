/-
  The Counts of Spoilt blocks as their first pages tell them.
  Format of a chip.
-/
import Derived.Test.YtccfalafphjkpaaGreatDoorKO
namespace Go.Proofs.YtccfalafphjkpaaGreatDoor
open Go.RowKit
set_option maxRecDepth 10000

theorem MLies.cnt {base : Nat} {w : World} {m : Mg} {c : CS} (h : MLies base w m c) {i : Nat} {o : Bl} (hi : m.bl[i]? = some o) (x : Int) : MLies base (w.setCell ⟨m.bb, i * 6 + 1, none⟩ (.int .i64 x)) (m.put i { o with cnt := x }) c := by
  refine h.wroteB ((Kept.refl (fun k => k = m.bb) w).setCell (p := ⟨m.bb, i * 6 + 1, none⟩) rfl _) rfl rfl rfl rfl rfl (by simp [Mg.put]) ?_
  have hil := (List.getElem?_eq_some_iff.1 hi).1
  have := h.row.set (i := i * 6 + 1) (.int .i64 x) (by rw [flat_len blCells 6 bl_len]; omega)
  rw [flat_set blCells 6 bl_len 1 (by omega) (.int .i64 x) { o with cnt := x } m.bl i o hi rfl] at this
  exact this
theorem MLies.cnt_same {base : Nat} {w : World} {m : Mg} {c : CS} (h : MLies base w m c) {i : Nat} {o : Bl} (hi : m.bl[i]? = some o) {x : Int} (hx : o.cnt = x) : MLies base (w.setCell ⟨m.bb, i * 6 + 1, none⟩ (.int .i64 x)) m c := by
  have := h.cnt hi x
  have e : m.put i { o with cnt := x } = m := by
    unfold Mg.put
    rw [← hx, set_self hi]
  rwa [e] at this
theorem amongF_mem (zs : List Int) : ∀ (l : List Bl) (k : Nat) (z : Int), z ∈ amongF zs k l → ∃ (i : Nat) (x : Bl), z = ((k + i : Nat) : Int) ∧ l[i]? = some x ∧ zs.contains x.st = true
  | [], _, _, h => by simp [amongF] at h
  | y :: l, k, z, h => by
    unfold amongF at h
    split at h
    · rename_i hy
      rcases List.mem_cons.1 h with rfl | h
      · exact ⟨0, y, rfl, rfl, hy⟩
      · obtain ⟨i, x, e, hx, h4⟩ := amongF_mem zs l (k + 1) z h
        exact ⟨i + 1, x, by rw [e]; omega, by simpa using hx, h4⟩
    · obtain ⟨i, x, e, hx, h4⟩ := amongF_mem zs l (k + 1) z h
      exact ⟨i + 1, x, by rw [e]; omega, by simpa using hx, h4⟩
/-- What lies on while the Counts are told. -/
structure Rc (base : Nat) (w : World) (m : Mg) (c : CS) (wr : World) : Prop where
  ml : MLies base wr m c
  kp : Kept (MFoot m c) w wr
set_option maxHeartbeats 4000000 in
theorem mrecount_any {base : Nat} {w : World} {m : Mg} {c : CS} (h : MLies base w m c) (hg : Hd.Glb w) (hgb : 1 < base) (hR : ∀ (i : Nat) o, m.bl[i]? = some o → o.st = 3 → o.cnt = (((Hd.parseC (c.read i 0).1).getD 0 : Nat) : Int)) :
    Calls Tryz.prog 27 #[.pointer (some ⟨m.p, 0, none⟩)] w fun e w' => e = .returned (.tuple #[]) ∧ Rc base w m c w' := by
  obtain ⟨W, hW⟩ : ∃ W, W = w.alloc (.cells #[.int .i64 3] 3) := ⟨_, rfl⟩
  have hb : Below w.heap.size w W := by rw [hW]; exact below_new w _
  have hz0 : W.cell? ⟨w.heap.size, 0, none⟩ = some (.int .i64 3) := by rw [hW]; exact (Row.new w [_] _).cell (i := 0) rfl
  have kA : Calls Tryz.prog 29 #[.pointer (some ⟨m.p, 0, none⟩), .slice (some ⟨w.heap.size, 0, none⟩) 1 1] W fun e w' => ∃ v, e = .returned v ∧ OwnI W.heap.size w' v (amongF [3] 0 m.bl) ∧ Below W.heap.size W w' := mamong_any (h.later hb) [3] w.heap.size 1 (fun j hj => by
    have : j = 0 := by simpa using hj
    subst this
    exact hz0) (by simp)
  have HM : Hid (∀ X, Below w.heap.size w X → MLies base X m c) := fun X hb => h.later hb
  have HG : Hid (∀ X, Kept (MFoot m c) w X → Hd.Glb X) := fun X hk => by
    have hnf : ¬ MFoot m c 1 := by
      rintro (e | e | e)
      · have := h.low.1; omega
      · have := h.low.2; omega
      · have := h.chip.low _ e; omega
    obtain ⟨x, hx⟩ := hg
    exact ⟨x, cell_kept hk hnf hx⟩
  have HR : Hid (∀ (i : Nat) o, m.bl[i]? = some o → o.st = 3 → o.cnt = (((Hd.parseC (c.read i 0).1).getD 0 : Nat) : Int)) := hR
  have HB : Hid (Below w.heap.size w W) := hb
  have hgs := h.chip.good.gs
  have hlen := h.len
  have hl256 : m.bl.length ≤ 256 := by omega
  clear h hg hgb hR hb hgs hlen
  go_enter Tryz.func27, Tryz.ntmps27
  go_wp2_with fail
  rw [← hW]
  clear hW
  obtain ⟨A, hA⟩ : ∃ A, A = amongF [3] 0 m.bl := ⟨_, rfl⟩
  rw [← hA] at kA
  have HAm : Hid (∀ (k : Nat) z, A[k]? = some z → ∃ (i : Nat) (x : Bl), z = (i : Int) ∧ m.bl[i]? = some x ∧ x.st = 3) := fun k z hz => by
    rw [hA] at hz
    obtain ⟨i, x, e, hx, h4⟩ := amongF_mem [3] m.bl 0 z (List.mem_of_getElem? hz)
    exact ⟨i, x, by rw [e, Nat.zero_add], hx, by simpa using h4⟩
  have hAl : A.length ≤ 256 := by
    rw [hA]
    have : ∀ (l : List Bl) (q : Nat), (amongF [3] q l).length ≤ l.length := by
      intro l
      induction l with
      | nil => intro q; exact Nat.le_refl _
      | cons y l ih =>
        intro q
        unfold amongF
        split
        · have := ih (q + 1); simp; omega
        · have := ih (q + 1); simp; omega
    have := this m.bl 0
    omega
  clear hA
  go_wp2_with (go_at_call 29; refine kA.mono ?_; rintro e w1 ⟨v, rfl, hown, hb1⟩; obtain ⟨a, cap, rfl, hIR, hge, hnil⟩ := hown.form; have HI : Hid (IRow w1 a A ∧ (∀ b o, a = some ⟨b, o, none⟩ → W.heap.size ≤ b) ∧ Below w.heap.size w w1) := ⟨hIR, hge, Below.after HB.out hb1⟩; clear hown hIR hge hnil hb1)
  go_loopg [10] A.length (fun kx s10 wr => ∃ k : Nat, k + kx = A.length ∧ s10 = .int .i64 (k : Nat) ∧ Hid (Rc base w m c wr ∧ Kept (MFoot m c) w1 wr))
  case atStart => exact ⟨0, by omega, rfl, ⟨⟨HM.out w1 HI.out.2.2, .of_below HI.out.2.2⟩, Kept.refl _ _⟩⟩
  case round =>
    obtain ⟨k, hk, rfl, HC⟩ := hrel
    by_cases hlt : k < A.length
    · obtain ⟨i, x, hz, hx, h3⟩ := HAm.out k A[k] (List.getElem?_eq_getElem hlt)
      have hcell : ∃ b off, a = some ⟨b, off, none⟩ ∧ wr.cell? ⟨b, off + k, none⟩ = some (.int .i64 (i : Int)) := by
        rcases HI.out.1 with e | ⟨b, off, e, hc⟩
        · rw [e] at hlt; simp at hlt
        · refine ⟨b, off, e, cell_kept HC.out.2 ?_ (by have := hc k A[k] (List.getElem?_eq_getElem hlt); rw [hz] at this; exact this)⟩
          have h1 := HI.out.2.1 b off e
          exact MFoot_new (HM.out w (Below.refl _ _)) (Nat.le_trans HB.out.size h1)
      obtain ⟨b, off, rfl, hcl⟩ := hcell
      have hml := HC.out.1.ml
      have d0 := hml.cells.1
      have hrd := read_any hml.chip (i : Nat) 0
      have HX : Hid (m.bl[i]? = some x ∧ x.cnt = (((Hd.parseC (c.read i 0).1).getD 0 : Nat) : Int) ∧ ∀ y ∈ (c.read i 0).1, y < 256) := ⟨hx, HR.out i x hx h3, read_lt hml.chip.good i 0⟩
      obtain ⟨R, hRR⟩ : ∃ R, R = c.read i 0 := ⟨_, rfl⟩
      rw [← hRR] at hrd HX
      have n0 : ¬ (k : Int) < 0 := by omega
      have n1 : (k : Int) < (A.length : Int) := by omega
      have i0 : ¬ (i : Int) < 0 := by omega
      have i1 : (i : Int) < (m.bl.length : Int) := by have := (List.getElem?_eq_some_iff.1 hx).1; omega
      clear hz hx h3 hml hRR
      go_wp2_with (go_at_call 42; refine hrd.mono ?_; rintro e w2 ⟨ar, kr, cr, rfl, hg2⟩; have hml2 := HC.out.1.ml.later hg2.below; have e1 := hml2.cells.2.1; have HC2 : Hid (Rc base w m c w2 ∧ Kept (MFoot m c) w1 w2) := ⟨⟨hml2, HC.out.1.kp.trans (.of_below hg2.below)⟩, HC.out.2.trans (.of_below hg2.below)⟩; have HL2 : Hid (Hd.Lies w2 ar kr cr R.1) := got_lies hg2 HX.out.2.2; clear hg2 hml2)
      have kP : Calls Tryz.prog 64 #[.slice ar kr cr] w2.drew (Hd.CPost w2.drew (Hd.parseC R.1)) := pc_any (HG.out _ (HC2.out.1.kp.trans (.of_below (below_drew' w2)))) (HL2.out.later (below_drew' w2))
      go_region_held3 (fun w' => w'.cell? ⟨m.p, 1, none⟩ = some (.slice (some ⟨m.bb, 0, none⟩) m.bl.length m.bcap)) (first | assumption | exact f2 _ | go_keep) (first
        | (go_at_call 64; refine kP.mono ?_; intro e w3 hp; obtain ⟨rfl, hb3⟩ := cpost_elim hp; have hb3' := Below.after (below_drew' w2) hb3; have hml3 := HC2.out.1.ml.later hb3'; have f1 := hml3.cells.2.1; have f2 := fun v => (cell_other (W := w3) (p := ⟨m.bb, i * 6 + 1, none⟩) (v := v) (B := m.p) (i := 1) hml3.ne).trans f1; obtain ⟨g0, g1, g2, g3, g4, g5⟩ := hml3.blAt HX.out.1; have fz := hml3.row.frozen; have HC3 : Hid (Rc base w m c w3 ∧ Kept (MFoot m c) w1 w3) := ⟨⟨hml3, HC2.out.1.kp.trans (.of_below hb3')⟩, HC2.out.2.trans (.of_below hb3')⟩; clear hp hb3 hb3' hml3))
      obtain ⟨W4, hW4⟩ : ∃ W4, W4 = w3.setCell ⟨m.bb, i * 6 + 1, none⟩ (.int .i64 (((Hd.parseC R.1).getD 0 : Nat) : Int)) := ⟨_, rfl⟩
      have HC4 : Hid (Rc base w m c W4 ∧ Kept (MFoot m c) w1 W4) := by
        rw [hW4]
        exact ⟨⟨HC3.out.1.ml.cnt_same HX.out.1 HX.out.2.1, HC3.out.1.kp.setCell (p := ⟨m.bb, i * 6 + 1, none⟩) (.inr (.inl rfl)) _⟩, HC3.out.2.setCell (p := ⟨m.bb, i * 6 + 1, none⟩) (.inr (.inl rfl)) _⟩
      rw [← hW4]
      clear hW4 f1 f2 g0 g1 g2 g3 g4 g5 fz
      go_wp2
      go_roundg (A.length - (k + 1))
      case measure => omega
      case rel => exact ⟨k + 1, by omega, by go_num, HC4⟩
    · have n1 : ¬ (k : Int) < (A.length : Int) := by omega
      go_wp2
      go_end0
      exact ⟨rfl, HC.out.1⟩
end Go.Proofs.YtccfalafphjkpaaGreatDoor
namespace Go.Proofs.YtccfalafphjkpaaGreatDoor
open Go.RowKit
set_option maxRecDepth 10000

theorem addr_add (b off j : Nat) : (⟨b, off, none⟩ : Addr).add j = ⟨b, off + j, none⟩ := by simp [Addr.add]
theorem OwnI.form2 {base : Nat} {w : World} {v : Value} {l : List Int} (h : OwnI base w v l) : ∃ a cap, v = .slice a l.length cap ∧ IRow w a l ∧ (∀ b o, a = some ⟨b, o, none⟩ → base ≤ b) ∧ (a = none → l.length = 0 ∧ cap = 0) ∧ l.length ≤ maxLen := by
  rcases h.2 with ⟨rfl, h0⟩ | ⟨q, cap, cur, rfl, hbg, hgg, hnc, hcm, hcs, htake⟩
  · exact ⟨none, 0, by rw [h0], .inl (List.eq_nil_of_length_eq_zero h0), fun b o e => (by cases e), fun _ => ⟨h0, rfl⟩, by rw [h0]; exact Nat.zero_le _⟩
  · refine ⟨_, cap, rfl, .inr ⟨q, 0, rfl, fun i x hx => ?_⟩, fun b o e => (by cases e; exact hbg), fun e => (by cases e), Nat.le_trans hnc hcm⟩
    have hi := (List.getElem?_eq_some_iff.1 hx).1
    have := h.cellAt i (by simpa using hi)
    rw [Nat.zero_add, this, List.getElem?_map, hx]
    rfl
theorem wpList_append_ints {w : World} {ops : Array Oper} {rest : List Oper} {o : Oper} {a : Act} {Q : Exit → Act → World → Prop} (hgd : o.guard = none) (s x : Operand)
    (ho : o.op = .call { callee := .builtin .append, args := #[s, x], argTypes := #[71, 71] })
    (base : Nat) (v : Value) (A : List Int) (hs : a.eval s = v) (hown : OwnI base w v A)
    (ao : Option Addr) (c : Nat) (B : List Int) (hx : a.eval x = .slice ao B.length c) (hr : IRow w ao B) (hnil : ao = none → B.length = 0 ∧ c = 0)
    (h63 : A.length + B.length ≤ 1000) (hbase : base ≤ w.heap.size)
    (h : ∀ v' w', OwnI base w' v' (A ++ B) → w.grownBy w' v.ownBlock → wpList Tryz.prog ops Q rest (a.put o.dst v') w') : wpList Tryz.prog ops Q (o :: rest) a w := by
  obtain ⟨i0, hi, hz0, hz1, hz2⟩ := info_parts infoInt
  have e : (A ++ B).length = A.length + B.length := List.length_append
  cases ao with
  | none =>
    obtain ⟨hb0, rfl⟩ := hnil rfl
    have hB : B = [] := List.eq_nil_of_length_eq_zero hb0
    subst hB
    refine wpList_append_own_none hgd s x 71 ho base 3 i0 1 Tryz.underlying71 hi v A.length (A.map intV) hs hown hx ?_
    exact h v w (by rw [List.append_nil]; exact hown) ⟨rfl, rfl, rfl, Nat.le_refl _, fun _ _ _ => rfl⟩
  | some ad =>
    refine wpList_append_own w hgd s x 71 ho base 3 i0 (.int .i64 0) 1 8 Tryz.underlying71 hi hz0 hz1 hz2 rfl (by omega) v A.length (A.map intV) hs hown ad B.length c (B.map intV) hx (by simp) ?_ ?_ (by unfold maxLen; omega) (by omega) hbase ?_
    · intro j z hj
      rw [List.getElem?_map] at hj
      rcases hr with e | ⟨b, off, e, hc⟩
      · rw [e] at hj; simp at hj
      · cases e
        rcases hq : B[j]? with _ | y
        · rw [hq] at hj; cases hj
        · rw [hq] at hj
          cases hj
          rw [show (⟨b, off, none⟩ : Addr).add j = ⟨b, off + j, none⟩ from addr_add b off j]
          exact hc j y hq
    · intro z hz
      obtain ⟨y, _, rfl⟩ := List.mem_map.1 hz
      rfl
    · intro v' w' h1 h2 _
      exact h v' w' (by unfold OwnI; rw [e, List.map_append]; exact h1) h2
theorem OwnI.low {base base' : Nat} {w : World} {v : Value} {l : List Int} (h : OwnI base w v l) (hb : base' ≤ base) : OwnI base' w v l := by
  refine ⟨h.1, ?_⟩
  rcases h.2 with e | ⟨q, cap, cur, e, hbg, rest⟩
  · exact .inl e
  · exact .inr ⟨q, cap, cur, e, Nat.le_trans hb hbg, rest⟩
/-- The numbers of the blocks in some states. -/
def amongN (zs : List Int) : Nat → List Bl → List Nat
  | _, [] => []
  | k, x :: l => if zs.contains x.st then k :: amongN zs (k + 1) l else amongN zs (k + 1) l
theorem amongN_map (zs : List Int) : ∀ (l : List Bl) (k : Nat), (amongN zs k l).map (fun x : Nat => (x : Int)) = amongF zs k l
  | [], _ => rfl
  | x :: l, k => by
    unfold amongN amongF
    split
    · rw [List.map_cons, amongN_map zs l (k + 1)]
    · exact amongN_map zs l (k + 1)
theorem amongN_len (zs : List Int) : ∀ (l : List Bl) (k : Nat), (amongN zs k l).length ≤ l.length
  | [], _ => Nat.le_refl _
  | x :: l, k => by
    have := amongN_len zs l (k + 1)
    unfold amongN
    split <;> simp <;> omega
/-- What Format leaves. -/
def FmPost (base : Nat) (w : World) (c : CS) (e : Ending) (w' : World) : Prop := ∃ m : Mg, m.bl = scanV c.vw ∧ (m.seq : Int) = maxS (scanV c.vw) ∧ m.lost = false ∧ e = .returned (.tuple #[.pointer (some ⟨m.p, 0, none⟩), .int .i64 0]) ∧
  MLies base w' (clearM (amongN [3] 0 m.bl ++ amongN [2, 4] 0 m.bl) m c).2.1 (clearM (amongN [3] 0 m.bl ++ amongN [2, 4] 0 m.bl) m c).2.2 ∧ (clearM (amongN [3] 0 m.bl ++ amongN [2, 4] 0 m.bl) m c).2.1.p = m.p ∧ (clearM (amongN [3] 0 m.bl ++ amongN [2, 4] 0 m.bl) m c).2.2.foot = c.foot ∧ Kept (fun k => base ≤ k) w w'
theorem MLies.foot_ge {base : Nat} {w : World} {m : Mg} {c : CS} (h : MLies base w m c) : ∀ k, MFoot m c k → base ≤ k := by
  rintro k (rfl | rfl | hk)
  · exact h.low.1
  · exact h.low.2
  · exact h.chip.low k hk
theorem two_ints (X : World) : Row (X.alloc (.cells #[.int .i64 2, .int .i64 4] 3)) X.heap.size [.int .i64 2, .int .i64 4] 3 := Row.new X [_, _] _
theorem among3 {base : Nat} {X : World} {m : Mg} {c : CS} (h : MLies base X m c) : Calls Tryz.prog 29 #[.pointer (some ⟨m.p, 0, none⟩), .slice (some ⟨X.heap.size, 0, none⟩) 1 1] (X.alloc (.cells #[.int .i64 3] 3)) fun e w' => ∃ v, e = .returned v ∧ OwnI X.heap.size w' v (amongF [3] 0 m.bl) ∧ Below X.heap.size X w' := by
  have hb := below_new X (.cells #[.int .i64 3] 3)
  refine Calls.mono (mamong_any (h.later hb) [3] X.heap.size 1 (fun j hj => ?_) (by simp)) ?_
  · have : j = 0 := by simpa using hj
    subst this
    exact (Row.new X [.int .i64 3] 3).cell (i := 0) rfl
  · rintro e w' ⟨v, rfl, ho, hb2⟩
    exact ⟨v, rfl, ho.low (by simp), Below.after hb hb2⟩
theorem among24 {base : Nat} {X : World} {m : Mg} {c : CS} (h : MLies base X m c) : Calls Tryz.prog 29 #[.pointer (some ⟨m.p, 0, none⟩), .slice (some ⟨X.heap.size, 0, none⟩) 2 2] (X.alloc (.cells #[.int .i64 2, .int .i64 4] 3)) fun e w' => ∃ v, e = .returned v ∧ OwnI X.heap.size w' v (amongF [2, 4] 0 m.bl) ∧ Below X.heap.size X w' := by
  have hb := below_new X (.cells #[.int .i64 2, .int .i64 4] 3)
  refine Calls.mono (mamong_any (h.later hb) [2, 4] X.heap.size 2 (fun j hj => ?_) (by simp)) ?_
  · have : j = 0 ∨ j = 1 := by have : j < 2 := by simpa using hj
                               omega
    rcases this with rfl | rfl
    · exact (two_ints X).cell (i := 0) rfl
    · exact (two_ints X).cell (i := 1) rfl
  · rintro e w' ⟨v, rfl, ho, hb2⟩
    exact ⟨v, rfl, ho.low (by simp), Below.after hb hb2⟩
set_option maxHeartbeats 4000000 in
theorem format_any {base : Nat} {w : World} {c : CS} (h : Lies base w c) (hon : c.on = true) (hg : Hd.Glb w) (hgb : 1 < base) (hsp : spentB c = false)
    (hR : ∀ (i : Nat) o, (scanV c.vw)[i]? = some o → o.st = 3 → o.cnt = (((Hd.parseC (c.read i 0).1).getD 0 : Nat) : Int)) (hV : ∀ m : Mg, m.bl = scanV c.vw → ClearV (amongN [3] 0 m.bl ++ amongN [2, 4] 0 m.bl) m c) :
    Calls Tryz.prog 7 #[.pointer (some ⟨c.p, 0, none⟩)] w (FmPost base w c) := by
  have kO := over_on h hon hg
  have HG : Hid (∀ X, Below w.heap.size w X → Hd.Glb X) := fun X hb => hg.later hb
  have HR : Hid (1 < base ∧ ∀ (i : Nat) o, (scanV c.vw)[i]? = some o → o.st = 3 → o.cnt = (((Hd.parseC (c.read i 0).1).getD 0 : Nat) : Int)) := ⟨hgb, hR⟩
  have HV : Hid (∀ m : Mg, m.bl = scanV c.vw → ClearV (amongN [3] 0 m.bl ++ amongN [2, 4] 0 m.bl) m c) := hV
  have HBs : Hid (base ≤ w.heap.size) := (Nat.le_trans (h.low _ (.inl rfl)) (Nat.le_of_lt (h.foot_lt (.inl rfl))) : base ≤ w.heap.size)
  have HLen : Hid (∀ (m : Mg) {W : World}, MLies base W m c → (amongF [3] 0 m.bl).length + (amongF [2, 4] 0 m.bl).length ≤ 1000) := fun m W hW => by
    have h1 := amongN_len [3] m.bl 0
    have h2 := amongN_len [2, 4] m.bl 0
    have e1 := amongN_map [3] m.bl 0
    have e2 := amongN_map [2, 4] m.bl 0
    have := hW.chip.good.gs
    have := hW.len
    rw [← e1, ← e2, List.length_map, List.length_map]
    omega
  have HClr : Hid (∀ (m : Mg) (W3 W8 : World) (a8 : Option Addr) (c8 : Nat), m.bl.length = c.gb → m.bl = scanV c.vw → MLies base W3 m c → Below W3.heap.size W3 W8 → IRow W8 a8 (amongF [3] 0 m.bl ++ amongF [2, 4] 0 m.bl) → (∀ b o, a8 = some ⟨b, o, none⟩ → W3.heap.size ≤ b) → Calls Tryz.prog 28 #[.pointer (some ⟨m.p, 0, none⟩), .slice a8 (amongF [3] 0 m.bl ++ amongF [2, 4] 0 m.bl).length c8] W8 fun e w' => e = .returned (.tuple #[.pointer (some ⟨m.p, 0, none⟩), .int .i64 0]) ∧ Ex base W8 m c w' (clearM (amongN [3] 0 m.bl ++ amongN [2, 4] 0 m.bl) m c).2.1 (clearM (amongN [3] 0 m.bl ++ amongN [2, 4] 0 m.bl) m c).2.2) := fun m W3 W8 a8 c8 hml hbl hM3 hb hir hge => by
    have e : (amongN [3] 0 m.bl ++ amongN [2, 4] 0 m.bl).map (fun x : Nat => (x : Int)) = amongF [3] 0 m.bl ++ amongF [2, 4] 0 m.bl := by rw [List.map_append, amongN_map, amongN_map]
    have el : (amongF [3] 0 m.bl ++ amongF [2, 4] 0 m.bl).length = (amongN [3] 0 m.bl ++ amongN [2, 4] 0 m.bl).length := by rw [← e, List.length_map]
    have h1 := amongN_len [3] m.bl 0
    have h2 := amongN_len [2, 4] m.bl 0
    have hgs := hM3.chip.good.gs
    rw [el]
    refine mcleared_any (hM3.later hb) a8 c8 _ (by rw [e]; exact hir) (fun b o hbo _ => MFoot_new hM3 (hge b o hbo)) (hV m hbl) (by rw [List.length_append]; omega)
  clear h hon hg hgb hR hV
  have M1 : Hid True := trivial
  go_enter Tryz.func7, Tryz.ntmps7
  go_wp2_with (first
    | (go_at_call 25; refine kO.mono ?_; rintro e w1 ⟨m, rfl, hm, hbl, hsq, hlo, hb⟩; have HM : Hid (MLies base w1 m c ∧ m.bl = scanV c.vw ∧ (m.seq : Int) = maxS (scanV c.vw) ∧ m.lost = false ∧ Below w.heap.size w w1) := ⟨hm, hbl, hsq, hlo, hb⟩; have kS := mspent_any hm; rw [hsp] at kS; clear hm hbl hsq hlo hb)
    | (go_at_call 26; refine kS.mono ?_; rintro e w2 ⟨rfl, hb2⟩; have hm2 := HM.out.1.later hb2; have HM2 : Hid (MLies base w2 m c ∧ Below w.heap.size w w2) := ⟨hm2, Below.after HM.out.2.2.2.2 hb2⟩; have kR := mrecount_any hm2 (HG.out _ (Below.after HM.out.2.2.2.2 hb2)) HR.out.1 (by rw [HM.out.2.1]; exact HR.out.2); clear hb2 hm2 kS)
    | (go_at_call 27; refine kR.mono ?_; rintro e w3 ⟨rfl, hrc⟩; have HM3 : Hid (MLies base w3 m c ∧ Kept (MFoot m c) w2 w3) := ⟨hrc.ml, hrc.kp⟩; have kA := among3 hrc.ml; clear hrc kR)
    | (go_at_call 29; clear M1; refine kA.mono ?_; rintro e w5 ⟨v5, rfl, ho5, hb5⟩; obtain ⟨a5, c5, e5, _⟩ := ho5.form2; subst e5; have HO5 : Hid (OwnI w3.heap.size w5 (.slice a5 (amongF [3] 0 m.bl).length c5) (amongF [3] 0 m.bl) ∧ Below w3.heap.size w3 w5) := ⟨ho5, hb5⟩; have kB := among24 (HM3.out.1.later hb5); clear ho5 hb5 kA)
    | (go_at_call 29; refine kB.mono ?_; rintro e w7 ⟨v7, rfl, ho7, hb7⟩; obtain ⟨a7, c7, e7, q1, q2, q3, q4⟩ := ho7.form2; subst e7; have HO7 : Hid (OwnI w3.heap.size w7 (.slice a5 (amongF [3] 0 m.bl).length c5) (amongF [3] 0 m.bl) ∧ Below w3.heap.size w3 w7 ∧ IRow w7 a7 (amongF [2, 4] 0 m.bl) ∧ (a7 = none → (amongF [2, 4] 0 m.bl).length = 0 ∧ c7 = 0)) := ⟨HO5.out.1.later hb7, Below.after HO5.out.2 hb7, q1, q3⟩; clear ho7 hb7 kB q1 q2 q3 q4)
    | (at_builtin; refine wpList_append_ints rfl (.tmp 23) (.tmp 26) rfl w3.heap.size (.slice a5 (amongF [3] 0 m.bl).length c5) (amongF [3] 0 m.bl) rfl HO7.out.1 a7 c7 (amongF [2, 4] 0 m.bl) rfl HO7.out.2.2.1 HO7.out.2.2.2 (HLen.out m HM.out.1) HO7.out.2.1.size ?_; intro v8 w8 ho8 hg8; have hb8 : Below w3.heap.size w3 w8 := HO7.out.2.1.grown hg8 HO7.out.2.1.size (fun q hq => HO7.out.1.block q hq); obtain ⟨a8, c8, e8, q1, q2, q3, q4⟩ := ho8.form2; obtain ⟨n8, hn8⟩ : ∃ n8, n8 = (amongF [3] 0 m.bl ++ amongF [2, 4] 0 m.bl).length := ⟨_, rfl⟩; rw [← hn8] at e8; subst e8; have kC := HClr.out m w3 w8 a8 c8 HM.out.1.len HM.out.2.1 HM3.out.1 hb8 q1 q2; rw [← hn8] at kC; clear hn8; have HB8 : Hid (Below w3.heap.size w3 w8) := hb8; clear hb8 ho8 hg8 q1 q2 q3 q4)
    | (go_at_call 28; refine kC.mono ?_; rintro e w9 ⟨rfl, hx9⟩; have HX9 : Hid (Ex base w8 m c w9 (clearM (amongN [3] 0 m.bl ++ amongN [2, 4] 0 m.bl) m c).2.1 (clearM (amongN [3] 0 m.bl ++ amongN [2, 4] 0 m.bl) m c).2.2) := hx9; clear hx9 kC))
  refine bodyPost_ret (v := .tuple #[.pointer (some ⟨m.p, 0, none⟩), .int .i64 0]) ?_ rfl ⟨m, HM.out.2.1, HM.out.2.2.1, HM.out.2.2.2.1, rfl, HX9.out.ml, HX9.out.p, HX9.out.ft, ?_⟩
  · simp [results, Tryz.f7, go_sem]
  · have hge := HM.out.1.foot_ge
    exact (((Kept.of_below HM2.out.2).trans (HM3.out.2.mono hge)).trans (.of_below HB8.out)).trans (HX9.out.kp.mono hge)
end Go.Proofs.YtccfalafphjkpaaGreatDoor
