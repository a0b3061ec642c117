/-
  A manager's errors, and its operations on the chip.
  A manager's operations on the chip.
  A block that goes bad for good; the block that is taken.
-/
import Derived.Test.YtccfalafphjkpaaGreatDoorKA
import Derived.Test.YtccfalafphjkpaaGreatDoorGK
import Derived.Test.YtccfalafphjkpaaGreatDoorGRA
namespace Go.Proofs.YtccfalafphjkpaaGreatDoor
open Go.RowKit
set_option maxRecDepth 10000

/-- An error of the manager that tells of an errno; none, if it is 0. -/
def ErrV (w : World) (v : Value) (x : Int) : Prop :=
  (x = 0 ∧ v = .nilIface) ∨ (x ≠ 0 ∧ ∃ B what block, v = .iface 177 (.pointer (some ⟨B, 0, none⟩)) ∧ Row w B [.string what, .int .i64 block, .iface 26 (.int .i64 x)] 179)
theorem ErrV.later {w w' : World} {v : Value} {x : Int} (h : ErrV w v x) (hb : Below w.heap.size w w') : ErrV w' v x := by
  rcases h with h | ⟨h0, B, what, block, h1, h2⟩
  · exact .inl h
  · exact .inr ⟨h0, B, what, block, h1, h2.later hb⟩
theorem failed_any (what : ByteArray) (block x : Int) (w : World) :
    Calls Tryz.prog 89 #[.string what, .int .i64 block, .int .i64 x] w fun e w' => ∃ v, e = .returned v ∧ ErrV w' v x ∧ Below w.heap.size w w' := by
  by_cases hx : x = 0
  · subst hx
    go_enter Tryz.func89, Tryz.ntmps89
    go_wp2
    go_ret
    exact ⟨_, rfl, .inl ⟨rfl, rfl⟩, Below.refl _ _⟩
  · have hx2 : (x == 0) = false := by simp [hx]
    have HX : Hid (x ≠ 0) := hx
    have HR : Hid (Row (w.alloc (.cells #[.string what, .int .i64 block, .iface 26 (.int .i64 x)] 179)) w.heap.size [.string what, .int .i64 block, .iface 26 (.int .i64 x)] 179) := Row.new w [_, _, _] _
    have HB : Hid (Below w.heap.size w (w.alloc (.cells #[.string what, .int .i64 block, .iface 26 (.int .i64 x)] 179))) := below_new w _
    go_enter Tryz.func89, Tryz.ntmps89
    go_wp2
    go_ret
    exact ⟨_, rfl, .inr ⟨HX.out, _, _, _, rfl, HR.out⟩, HB.out⟩
end Go.Proofs.YtccfalafphjkpaaGreatDoor
namespace Go.Proofs.YtccfalafphjkpaaGreatDoor
open Go.RowKit
set_option maxRecDepth 10000

def CS.badB (c : CS) (n : Int) : Bool := match c.at n with | none => false | some b => b.bad
def CS.nextI (c : CS) (n : Int) : Int := match c.at n with | none => 0 | some b => b.next
/-- What erase and program of the manager do. -/
def CS.eraseM (c : CS) (n : Int) : Int × CS := if c.badB n then (5, c) else c.erase n
def CS.programM (c : CS) (n page : Int) (l : List Nat) : Int × CS := if c.badB n then (5, c) else if c.nextI n ≠ page then (6, c) else c.program n page l
theorem CS.erase_same (c : CS) (b : Int) : (c.erase b).2.p = c.p ∧ (c.erase b).2.gb = c.gb := by
  unfold CS.erase
  repeat' split
  all_goals exact ⟨rfl, rfl⟩
theorem CS.program_same (c : CS) (b p : Int) (l : List Nat) : (c.program b p l).2.p = c.p ∧ (c.program b p l).2.gb = c.gb := by
  unfold CS.program
  repeat' split
  all_goals exact ⟨rfl, rfl⟩
theorem CS.mark_same (c : CS) (b : Int) : (c.mark b).2.p = c.p ∧ (c.mark b).2.gb = c.gb := by
  unfold CS.mark
  repeat' split
  all_goals exact ⟨rfl, rfl⟩
/-- The chip is c' now; the manager's own memory is as it was; an error tells x. -/
def DoPost (base : Nat) (w : World) (m : Mg) (c : CS) (r : Int × CS) (e : Ending) (w' : World) : Prop :=
  ∃ v, e = .returned v ∧ ErrV w' v r.1 ∧ MLies base w' m r.2 ∧ Kept c.foot w w' ∧ r.2.foot = c.foot
set_option maxHeartbeats 1000000 in
theorem merase_any {base : Nat} {w : World} {m : Mg} {c : CS} (h : MLies base w m c) (n : Int) :
    Calls Tryz.prog 99 #[.pointer (some ⟨m.p, 0, none⟩), .int .i64 n] w (DoPost base w m c (c.eraseM n)) := by
  obtain ⟨c0, _, _, _⟩ := h.cells
  have kb : Calls Tryz.prog 93 #[.pointer (some ⟨c.p, 0, none⟩), .int .i64 n] w fun e w' => e = .returned (.bool (c.badB n)) ∧ w = w' := bad_any h.chip n
  have ke := erase_all h.chip n
  have kf := failed_any
  have HM : Hid (MLies base w m c) := h
  cases hb : c.badB n with
  | true =>
    have e : c.eraseM n = (5, c) := by unfold CS.eraseM; rw [hb]; rfl
    rw [hb] at kb
    rw [e]
    clear h ke e hb
    go_enter Tryz.func99, Tryz.ntmps99
    go_wp2_with (first
      | (go_at_call 93; refine kb.mono ?_; rintro e w1 ⟨rfl, rfl⟩)
      | (go_at_call 89; refine (kf _ _ _ _).mono ?_; rintro e w2 ⟨v, rfl, he, hb2⟩))
    go_ret
    exact ⟨v, rfl, he, HM.out.later hb2, .of_below hb2, rfl⟩
  | false =>
    have e : c.eraseM n = c.erase n := by unfold CS.eraseM; rw [hb]; rfl
    rw [hb] at kb
    rw [e]
    have hs := c.erase_same n
    obtain ⟨r, hr⟩ : ∃ r, r = c.erase n := ⟨_, rfl⟩
    rw [← hr] at ke hs ⊢
    clear h e hb hr
    have HS : Hid (r.2.p = c.p ∧ r.2.gb = c.gb) := hs
    clear hs
    obtain ⟨x, c'⟩ := r
    go_enter Tryz.func99, Tryz.ntmps99
    go_wp2_with (first
      | (go_at_call 93; refine kb.mono ?_; rintro e w1 ⟨rfl, rfl⟩)
      | (go_at_call 132; refine ke.mono ?_; rintro e w1 ⟨rfl, hl1, hk1, hf1⟩; have HK : Hid (Kept c.foot w w1 ∧ c'.foot = c.foot) := ⟨hk1, hf1⟩; have HL : Hid (MLies base w1 m c') := HM.out.chipped hl1 hk1 HS.out.1 HS.out.2; clear hl1 hk1 hf1)
      | (go_at_call 89; refine (kf _ _ _ _).mono ?_; rintro e w2 ⟨v, rfl, he, hb2⟩))
    go_ret
    exact ⟨v, rfl, he, HL.out.later hb2, HK.out.1.later hb2, HK.out.2⟩
set_option maxHeartbeats 1000000 in
theorem mprogram_any {base : Nat} {w : World} {m : Mg} {c : CS} (h : MLies base w m c) (n page : Int) (a : Option Addr) (k dc : Nat) (data : List Nat) (hm : k = data.length) (hd : BRow w a data) (hd2 : ∀ x ∈ data, x < 256) (hdne : data = [] ∨ ∀ b o, a = some ⟨b, o, none⟩ → ¬ c.foot b) :
    Calls Tryz.prog 90 #[.pointer (some ⟨m.p, 0, none⟩), .int .i64 n, .int .i64 page, .slice a k dc] w (DoPost base w m c (c.programM n page data)) := by
  obtain ⟨c0, _, _, _⟩ := h.cells
  have kb : Calls Tryz.prog 93 #[.pointer (some ⟨c.p, 0, none⟩), .int .i64 n] w fun e w' => e = .returned (.bool (c.badB n)) ∧ w = w' := bad_any h.chip n
  have kn : Calls Tryz.prog 115 #[.pointer (some ⟨c.p, 0, none⟩), .int .i64 n] w fun e w' => e = .returned (.int .i64 (c.nextI n)) ∧ w = w' := next_any h.chip n
  have ke := program_all h.chip n page a k dc data hm hd hd2 hdne
  have kf := failed_any
  have HM : Hid (MLies base w m c) := h
  cases hb : c.badB n with
  | true =>
    have e : c.programM n page data = (5, c) := by unfold CS.programM; rw [hb]; rfl
    rw [hb] at kb
    rw [e]
    clear h ke e hb kn hm hd hd2 hdne
    go_enter Tryz.func90, Tryz.ntmps90
    go_wp2_with (first
      | (go_at_call 93; refine kb.mono ?_; rintro e w1 ⟨rfl, rfl⟩)
      | (go_at_call 89; refine (kf _ _ _ _).mono ?_; rintro e w2 ⟨v, rfl, he, hb2⟩))
    go_ret
    exact ⟨v, rfl, he, HM.out.later hb2, .of_below hb2, rfl⟩
  | false =>
    rw [hb] at kb
    by_cases hn : c.nextI n = page
    · have e : c.programM n page data = c.program n page data := by unfold CS.programM; rw [hb, if_neg (by simp), if_neg (by simp [hn])]
      rw [e]
      rw [hn] at kn
      have hs := c.program_same n page data
      obtain ⟨r, hr⟩ : ∃ r, r = c.program n page data := ⟨_, rfl⟩
      rw [← hr] at ke hs ⊢
      clear h e hb hr hm hd hd2 hdne hn
      have HS : Hid (r.2.p = c.p ∧ r.2.gb = c.gb) := hs
      clear hs
      obtain ⟨x, c'⟩ := r
      go_enter Tryz.func90, Tryz.ntmps90
      go_wp2_with (first
        | (go_at_call 93; refine kb.mono ?_; rintro e w1 ⟨rfl, rfl⟩)
        | (go_at_call 115; refine kn.mono ?_; rintro e w1 ⟨rfl, rfl⟩)
        | (go_at_call 122; refine ke.mono ?_; rintro e w1 ⟨rfl, hl1, hk1, hf1⟩; have HK : Hid (Kept c.foot w w1 ∧ c'.foot = c.foot) := ⟨hk1, hf1⟩; have HL : Hid (MLies base w1 m c') := HM.out.chipped hl1 hk1 HS.out.1 HS.out.2; clear hl1 hk1 hf1)
        | (go_at_call 89; refine (kf _ _ _ _).mono ?_; rintro e w2 ⟨v, rfl, he, hb2⟩))
      go_ret
      exact ⟨v, rfl, he, HL.out.later hb2, HK.out.1.later hb2, HK.out.2⟩
    · have e : c.programM n page data = (6, c) := by unfold CS.programM; rw [hb, if_neg (by simp), if_pos hn]
      rw [e]
      obtain ⟨y, hy⟩ : ∃ y, y = c.nextI n := ⟨_, rfl⟩
      rw [← hy] at kn hn
      have hn1 : (y == page) = false := by simp [hn]
      clear h ke e hb hm hd hd2 hdne hy
      go_enter Tryz.func90, Tryz.ntmps90
      go_wp2_with (first
        | (go_at_call 93; refine kb.mono ?_; rintro e w1 ⟨rfl, rfl⟩)
        | (go_at_call 115; refine kn.mono ?_; rintro e w1 ⟨rfl, rfl⟩)
        | (go_at_call 89; refine (kf _ _ _ _).mono ?_; rintro e w2 ⟨v, rfl, he, hb2⟩))
      go_ret
      exact ⟨v, rfl, he, HM.out.later hb2, .of_below hb2, rfl⟩
/-- The manager with one of its blocks changed. -/
def Mg.put (m : Mg) (i : Nat) (b : Bl) : Mg := { m with bl := m.bl.set i b }
/-- Six cells of the blocks' row. -/
def put6 (w : World) (B i : Nat) (b : Bl) : World := (((((w.setCell ⟨B, i * 6, none⟩ (.int .i64 b.st)).setCell ⟨B, i * 6 + 1, none⟩ (.int .i64 b.cnt)).setCell ⟨B, i * 6 + 2, none⟩ (.int .i64 b.leb)).setCell ⟨B, i * 6 + 3, none⟩ (.int .i64 b.used)).setCell ⟨B, i * 6 + 4, none⟩ (.int .u64 b.seq)).setCell ⟨B, i * 6 + 5, none⟩ (.bool b.closed)
theorem kept6 (w : World) (B i : Nat) (b : Bl) : Kept (fun k => k = B) w (put6 w B i b) := by
  unfold put6
  exact ((((((Kept.refl (fun k => k = B) w).setCell (p := ⟨B, i * 6, none⟩) rfl _).setCell (p := ⟨B, i * 6 + 1, none⟩) rfl _).setCell (p := ⟨B, i * 6 + 2, none⟩) rfl _).setCell (p := ⟨B, i * 6 + 3, none⟩) rfl _).setCell (p := ⟨B, i * 6 + 4, none⟩) rfl _).setCell (p := ⟨B, i * 6 + 5, none⟩) rfl _
theorem row6 {w : World} {B i : Nat} {l : List Bl} {o : Bl} (hi : l[i]? = some o) (b : Bl) (h : Row w B (l.flatMap blCells) 51) : Row (put6 w B i b) B ((l.set i b).flatMap blCells) 51 := by
  have hil := (List.getElem?_eq_some_iff.1 hi).1
  have hlen : ∀ l : List Bl, (l.flatMap blCells).length = l.length * 6 := fun l => by
    induction l with
    | nil => rfl
    | cons x r ih => rw [List.flatMap_cons, List.length_append, ih, bl_len, List.length_cons]; omega
  have h0 := h.set (i := i * 6 + 0) (.int .i64 b.st) (by rw [hlen]; omega)
  rw [flat_set blCells 6 bl_len 0 (by omega) (.int .i64 b.st) ⟨b.st, o.cnt, o.leb, o.used, o.seq, o.closed⟩ l i o hi rfl] at h0
  have h1 := h0.set (i := i * 6 + 1) (.int .i64 b.cnt) (by rw [hlen, List.length_set]; omega)
  rw [flat_set blCells 6 bl_len 1 (by omega) (.int .i64 b.cnt) ⟨b.st, b.cnt, o.leb, o.used, o.seq, o.closed⟩ _ i ⟨b.st, o.cnt, o.leb, o.used, o.seq, o.closed⟩ (List.getElem?_set_self hil) rfl, List.set_set] at h1
  have h2 := h1.set (i := i * 6 + 2) (.int .i64 b.leb) (by rw [hlen, List.length_set]; omega)
  rw [flat_set blCells 6 bl_len 2 (by omega) (.int .i64 b.leb) ⟨b.st, b.cnt, b.leb, o.used, o.seq, o.closed⟩ _ i ⟨b.st, b.cnt, o.leb, o.used, o.seq, o.closed⟩ (List.getElem?_set_self hil) rfl, List.set_set] at h2
  have h3 := h2.set (i := i * 6 + 3) (.int .i64 b.used) (by rw [hlen, List.length_set]; omega)
  rw [flat_set blCells 6 bl_len 3 (by omega) (.int .i64 b.used) ⟨b.st, b.cnt, b.leb, b.used, o.seq, o.closed⟩ _ i ⟨b.st, b.cnt, b.leb, o.used, o.seq, o.closed⟩ (List.getElem?_set_self hil) rfl, List.set_set] at h3
  have h4 := h3.set (i := i * 6 + 4) (.int .u64 b.seq) (by rw [hlen, List.length_set]; omega)
  rw [flat_set blCells 6 bl_len 4 (by omega) (.int .u64 b.seq) ⟨b.st, b.cnt, b.leb, b.used, b.seq, o.closed⟩ _ i ⟨b.st, b.cnt, b.leb, b.used, o.seq, o.closed⟩ (List.getElem?_set_self hil) rfl, List.set_set] at h4
  have h5 := h4.set (i := i * 6 + 5) (.bool b.closed) (by rw [hlen, List.length_set]; omega)
  rw [flat_set blCells 6 bl_len 5 (by omega) (.bool b.closed) b _ i ⟨b.st, b.cnt, b.leb, b.used, b.seq, o.closed⟩ (List.getElem?_set_self hil) rfl, List.set_set] at h5
  exact h5
theorem MLies.put {base : Nat} {w : World} {m : Mg} {c : CS} (h : MLies base w m c) {i : Nat} {o : Bl} (hi : m.bl[i]? = some o) (b : Bl) : MLies base (put6 w m.bb i b) (m.put i b) c :=
  h.wroteB (kept6 w m.bb i b) rfl rfl rfl rfl rfl (by simp [Mg.put]) (row6 hi b h.row)
end Go.Proofs.YtccfalafphjkpaaGreatDoor
namespace Go.Proofs.YtccfalafphjkpaaGreatDoor
open Go.RowKit
set_option maxRecDepth 10000

def badBl : Bl := ⟨1, 0, 0, 0, 0, false⟩
set_option maxHeartbeats 1000000 in
theorem mretire_any {base : Nat} {w : World} {m : Mg} {c : CS} (h : MLies base w m c) (i : Nat) (hi : i < m.bl.length) :
    Calls Tryz.prog 101 #[.pointer (some ⟨m.p, 0, none⟩), .int .i64 (i : Nat)] w fun e w' => e = .returned (.tuple #[]) ∧ MLies base w' (m.put i badBl) (c.mark i).2 ∧ Kept (MFoot m c) w w' ∧ (c.mark i).2.foot = c.foot := by
  obtain ⟨c0, _, _, _⟩ := h.cells
  obtain ⟨o, ho⟩ : ∃ o, m.bl[i]? = some o := ⟨_, List.getElem?_eq_getElem hi⟩
  have HO : Hid (m.bl[i]? = some o) := ho
  have n0 : ¬ (i : Int) < 0 := by omega
  have n1 : (i : Int) < (m.bl.length : Int) := by omega
  have ke := mark_any h.chip (i : Int)
  have hs := c.mark_same i
  have HM : Hid (MLies base w m c) := h
  obtain ⟨r, hr⟩ : ∃ r, r = c.mark i := ⟨_, rfl⟩
  rw [← hr] at ke hs ⊢
  have HS : Hid (r.2.p = c.p ∧ r.2.gb = c.gb) := hs
  clear h ho hs hr
  obtain ⟨x, c'⟩ := r
  go_enter Tryz.func101, Tryz.ntmps101
  go_wp2_with (go_at_call 134; refine ke.mono ?_; rintro e w1 ⟨rfl, hl1, hk1, hf1⟩; have HK : Hid (Kept c.foot w w1 ∧ c'.foot = c.foot) := ⟨hk1, hf1⟩; have hL := HM.out.chipped hl1 hk1 HS.out.1 HS.out.2; have HL : Hid (MLies base w1 m c') := hL; have d1 := hL.cells.2.1; have fz := hL.row.frozen; obtain ⟨g0, g1, g2, g3, g4, g5⟩ := hL.blAt HO.out; clear hl1 hk1 hf1 hL ke)
  have HP : Hid (MLies base (put6 w1 m.bb i badBl) (m.put i badBl) c' ∧ Kept (MFoot m c) w (put6 w1 m.bb i badBl)) := ⟨HL.out.put HO.out badBl, (HK.out.1.mono (fun _ hk => .inr (.inr hk))).trans ((kept6 w1 m.bb i badBl).mono (fun _ hk => .inr (.inl hk)))⟩
  simp only [put6, badBl] at HP
  go_end0
  exact ⟨rfl, HP.out.1, HP.out.2, HK.out.2⟩
theorem mtake_none {base : Nat} {w : World} {m : Mg} {c : CS} (h : MLies base w m c) (hl : leastI m.bl < 0) :
    Calls Tryz.prog 104 #[.pointer (some ⟨m.p, 0, none⟩)] w fun e w' => ∃ v, e = .returned (.tuple #[.int .i64 (leastI m.bl), v]) ∧ ErrV w' v 30 ∧ Below w.heap.size w w' := by
  obtain ⟨_, c1, _, _⟩ := h.cells
  have hgs := h.chip.good.gs
  have hlen := h.len
  have k1 := least_any m.bl.length m.bcap m.bl (some ⟨m.bb, 0, none⟩) rfl (by omega) w h.lrow
  have kf := failed_any
  obtain ⟨L, hL⟩ : ∃ L, L = leastI m.bl := ⟨_, rfl⟩
  rw [← hL] at k1 hl ⊢
  clear h hgs hlen hL
  go_enter Tryz.func104, Tryz.ntmps104
  go_wp2_with (first
    | (go_at_call 139; refine k1.mono ?_; rintro e w1 ⟨rfl, hb⟩)
    | (go_at_call 89; refine (kf _ _ _ _).mono ?_; rintro e w2 ⟨v, rfl, he, hb2⟩))
  refine bodyPost_ret (v := .tuple #[.int .i64 L, v]) ?_ rfl ⟨v, rfl, he, Below.after hb hb2⟩
  simp [results, Tryz.f104, go_sem]
theorem mtake_any {base : Nat} {w : World} {m : Mg} {c : CS} (h : MLies base w m c) (hl : ¬ leastI m.bl < 0) :
    Calls Tryz.prog 104 #[.pointer (some ⟨m.p, 0, none⟩)] w fun e w' => e = .returned (.tuple #[.int .i64 (leastI m.bl), .nilIface]) ∧ Below w.heap.size w w' := by
  obtain ⟨_, c1, _, _⟩ := h.cells
  have hgs := h.chip.good.gs
  have hlen := h.len
  have k1 := least_any m.bl.length m.bcap m.bl (some ⟨m.bb, 0, none⟩) rfl (by omega) w h.lrow
  obtain ⟨L, hL⟩ : ∃ L, L = leastI m.bl := ⟨_, rfl⟩
  rw [← hL] at k1 hl ⊢
  clear h hgs hlen hL
  go_enter Tryz.func104, Tryz.ntmps104
  go_wp2_with (go_at_call 139; refine k1.mono ?_; rintro e w1 ⟨rfl, hb⟩)
  refine bodyPost_ret (v := .tuple #[.int .i64 L, .nilIface]) ?_ rfl ⟨rfl, hb⟩
  simp [results, Tryz.f104, go_sem]
end Go.Proofs.YtccfalafphjkpaaGreatDoor
