/-
  readRow, as it runs.
-/
import Derived.Test.YtmaekpfkkpkgpaaGreatDoorBRow
namespace Go.Proofs.YtmaekpfkkpkgpaaGreatDoor
open Go.RowKit Go.Shelf
attribute [local go_sem] Oper.semAt_some

theorem infoI : (Tryz.prog.info? 3).map (fun i => (i.zero, i.size, i.bytes)) = some (some (.int .i64 0), 1, 8) := by kernel_rfl
def intV (x : Int) : Value := .int .i64 x
/-- Between two words of a line. -/
def RI (w : World) (pre : List Pc) (W : World) : Prop :=
  ∃ ns c v, rowF ([], false) pre = some (ns, c) ∧ ns.length ≤ 4 ∧ Blk W (w.heap.size + 1 + 1) #[v, .bool c] 92 ∧ W.ownsRow w.heap.size 3 1 v ns.length (ns.map intV) ∧ Blk W w.heap.size #[.slice none 0 0, .bool false] 92 ∧ Blk W (w.heap.size + 1) #[.bool false] 4 ∧ Blk W (w.heap.size + 1 + 1 + 1 + 1) #[.string ⟨#[32]⟩] 9 ∧ Below w.heap.size w W
/-- A word that is none of a line's. -/
def RX (w : World) (c : Code) (pre : List Pc) (W : World) : Prop :=
  c = .ret ∧ rowF ([], false) pre = none ∧ Blk W w.heap.size #[.slice none 0 0, .bool false] 92 ∧ Blk W (w.heap.size + 1) #[.bool false] 4 ∧ Below w.heap.size w W
theorem below_own {w A B : World} {b : Nat} {row : Option Nat} (hb : w.heap.size ≤ b) (h : Below w.heap.size w A) (hg : A.grownBy B row) (hr : ∀ r, row = some r → b ≤ r) : Below w.heap.size w B :=
  ⟨hg.os.trans h.os, hg.tape.trans h.tape, hg.output.trans h.output, Nat.le_trans h.size hg.size, fun k hk => (hg.block k (Nat.lt_of_lt_of_le hk h.size) (fun e => by have := hr k e.symm; omega)).trans (h.block k hk)⟩
theorem ri_own (w : World) (b : Nat) (hb : w.heap.size ≤ b) : OwnFrom b (RI w) := by
  rintro pre A B row ⟨ns, c, v, h1, h2, h3, h4, h5, h6, h7, h8⟩ hg hr
  have hr' := fun r e => (hr r e).2
  exact ⟨ns, c, v, h1, h2, blk_own (β := Unit) _ _ _ () A B row h3 hg hr', owns_own (β := Unit) _ _ _ _ _ _ () A B row h4 hg hr', blk_own (β := Unit) _ _ _ () A B row h5 hg hr', blk_own (β := Unit) _ _ _ () A B row h6 hg hr', blk_own (β := Unit) _ _ _ () A B row h7 hg hr', below_own hb h8 hg (fun r e => (hr r e).1)⟩
theorem rx_own (w : World) (b : Nat) (hb : w.heap.size ≤ b) (c : Code) : OwnFrom b (RX w c) := by
  rintro pre A B row ⟨h1, h2, h5, h6, h8⟩ hg hr
  have hr' := fun r e => (hr r e).2
  exact ⟨h1, h2, blk_own (β := Unit) _ _ _ () A B row h5 hg hr', blk_own (β := Unit) _ _ _ () A B row h6 hg hr', below_own hb h8 hg (fun r e => (hr r e).1)⟩
set_option maxHeartbeats 1000000 in
/-- The results are read out of their two blocks. -/
theorem row_results (tmps : Array Value) (B C : Nat) (a b c : Value) (W : World) (h2 : tmps[2]?.getD undef = .pointer (some ⟨B, 0, none⟩)) (h3 : tmps[3]?.getD undef = .pointer (some ⟨C, 0, none⟩))
    (ca : W.cell? ⟨B, 0, none⟩ = some a) (cb : W.cell? ⟨B, 1, none⟩ = some b) (cc : W.cell? ⟨C, 0, none⟩ = some c) :
    (results Tryz.f59 tmps).run Tryz.prog W = .ok (.tuple #[.agg #[a, b], c]) W := by
  simp [results, Tryz.f59, go_sem, h2, h3, ca, cb, cc]
theorem owns_form {W : World} {base e size n : Nat} {v : Value} {xs : List Value} (h : W.ownsRow base e size v n xs) : ∃ a cap, v = .slice a n cap := by
  rcases h.2 with ⟨rfl, rfl⟩ | ⟨g, cap, cur, rfl, _⟩
  · exact ⟨none, 0, rfl⟩
  · exact ⟨_, _, rfl⟩
theorem closed_yes {x : ByteArray} (h : x = closedB) : (x.toList == [99, 108, 111, 115, 101, 100]) = true := by
  rw [h, ByteArray.toList_eq]
  rfl
theorem closed_no {x : ByteArray} (h : ¬ x = closedB) : (x.toList == [99, 108, 111, 115, 101, 100]) = false := by
  rw [ByteArray.toList_eq, Bool.eq_false_iff]
  intro e
  refine h ?_
  have e1 := eq_of_beq e
  obtain ⟨⟨l⟩⟩ := x
  simp only at e1
  subst e1
  rfl
theorem snoc_of {pre : List Pc} {x : Pc} {st st' : List Int × Bool} (h : rowF ([], false) pre = some st) (hx : rowS st x.1 = some st') : rowF ([], false) (pre ++ [x]) = some st' := by rw [rowF_snoc, h]; exact hx
theorem snoc_no {pre : List Pc} {x : Pc} {st : List Int × Bool} (h : rowF ([], false) pre = some st) (hx : rowS st x.1 = none) : rowF ([], false) (pre ++ [x]) = none := by rw [rowF_snoc, h]; exact hx
theorem rowS_closed {st : List Int × Bool} {x : ByteArray} (h : x = closedB) : rowS st x = some (st.1, true) := by unfold rowS; rw [if_pos h]
theorem rowS_num {st : List Int × Bool} {x : ByteArray} (h : ¬ x = closedB) {v : Int} (hv : Lib.atoiAll x.data.toList = .ok v) (hl : ¬ st.1.length = 4) : rowS st x = some (st.1 ++ [v], st.2) := by unfold rowS; rw [if_neg h, hv]; dsimp only; rw [if_neg hl]
theorem rowS_many {st : List Int × Bool} {x : ByteArray} (h : ¬ x = closedB) {v : Int} (hv : Lib.atoiAll x.data.toList = .ok v) (hl : st.1.length = 4) : rowS st x = none := by unfold rowS; rw [if_neg h, hv]; dsimp only; rw [if_pos hl]
theorem rowS_none {st : List Int × Bool} {x : ByteArray} (h : ¬ x = closedB) (hv : ∀ v, Lib.atoiAll x.data.toList ≠ .ok v) : rowS st x = none := by
  unfold rowS
  rw [if_neg h]
  split
  · rename_i v e; exact absurd e (hv v)
  · rfl
/-- The word that says closed. -/
theorem ri_closed {w W : World} {ns : List Int} {c : Bool} {v : Value} (h3 : Blk W (w.heap.size + 1 + 1) #[v, .bool c] 92) (h4 : W.ownsRow w.heap.size 3 1 v ns.length (ns.map intV)) (h5 : Blk W w.heap.size #[.slice none 0 0, .bool false] 92) (h6 : Blk W (w.heap.size + 1) #[.bool false] 4) (h7 : Blk W (w.heap.size + 1 + 1 + 1 + 1) #[.string ⟨#[32]⟩] 9) (h8 : Below w.heap.size w W) {pre : List Pc} {x : Pc} (h1 : rowF ([], false) pre = some (ns, c)) (h2 : ns.length ≤ 4) (hx : x.1 = closedB) :
    KpB (w.heap.size + 1 + 1 + 1 + 1) W (W.setCell ⟨w.heap.size + 1 + 1, 1, none⟩ (.bool true)) ∧ RI w (pre ++ [x]) (W.setCell ⟨w.heap.size + 1 + 1, 1, none⟩ (.bool true)) := by
  have h7' := h7.other ⟨w.heap.size + 1 + 1, 1, none⟩ (.bool true) (show w.heap.size + 1 + 1 + 1 + 1 ≠ w.heap.size + 1 + 1 by omega)
  exact ⟨h7.same h7', ns, true, v, snoc_of h1 (rowS_closed hx), h2, h3.set1 _, owns_cell h4 (h3.not_row (by decide) h4), h5.other _ _ (show w.heap.size ≠ w.heap.size + 1 + 1 by omega), h6.other _ _ (show w.heap.size + 1 ≠ w.heap.size + 1 + 1 by omega), h7', h8.setCell (p := ⟨w.heap.size + 1 + 1, 1, none⟩) (by simp; omega) _⟩
/-- A line that is none: the results are stored. -/
theorem rx_none {w W W1 : World} (hb : Below W.heap.size W W1) (h5 : Blk W w.heap.size #[.slice none 0 0, .bool false] 92) (h6 : Blk W (w.heap.size + 1) #[.bool false] 4) (h8 : Below w.heap.size w W) {pre : List Pc} (h1 : rowF ([], false) pre = none) :
    KeepsOthers W (((W1.setCell ⟨w.heap.size, 0, none⟩ (.slice none 0 0)).setCell ⟨w.heap.size, 1, none⟩ (.bool false)).setCell ⟨w.heap.size + 1, 0, none⟩ (.bool false)) ∧ RX w .ret pre (((W1.setCell ⟨w.heap.size, 0, none⟩ (.slice none 0 0)).setCell ⟨w.heap.size, 1, none⟩ (.bool false)).setCell ⟨w.heap.size + 1, 0, none⟩ (.bool false)) := by
  refine ⟨(((keepsO_below hb).trans (KeepsOthers.setCell _ _ _)).trans (KeepsOthers.setCell _ _ _)).trans (KeepsOthers.setCell _ _ _), rfl, h1, (((h5.later hb).set0 _).set1 _).other _ _ (by simp), ?_, ?_⟩
  · have h2 : Blk ((W1.setCell ⟨w.heap.size, 0, none⟩ (.slice none 0 0)).setCell ⟨w.heap.size, 1, none⟩ (.bool false)) (w.heap.size + 1) #[.bool false] 4 := ((h6.later hb).other _ _ (by simp)).other _ _ (by simp)
    exact Boxed.set (t := 4) (v := .bool false) (.bool false) h2
  · exact (((Below.after h8 hb).setCell (p := ⟨w.heap.size, 0, none⟩) (Nat.le_refl _) _).setCell (p := ⟨w.heap.size, 1, none⟩) (Nat.le_refl _) _).setCell (p := ⟨w.heap.size + 1, 0, none⟩) (by simp) _
set_option maxRecDepth 100000 in
set_option maxHeartbeats 2000000 in
theorem readRow_in (n : Nat) (hn : 3 ≤ n) (s : List UInt8) (hs : s.length ≤ 281474976710656) (w : World) (hE : Errs w) :
    CallsIn Fence.wide n Tryz.prog 59 #[.string (bs s)] w fun e w' => (rowF ([], false) (pieces 32 s) = none ∧ e = .returned (.tuple #[.agg #[.slice none 0 0, .bool false], .bool false]) ∧ Below w.heap.size w w') ∨
      ∃ ns c v, rowF ([], false) (pieces 32 s) = some (ns, c) ∧ ns.length ≤ 4 ∧ e = .returned (.tuple #[.agg #[v, .bool c], .bool true]) ∧ w'.ownsRow w.heap.size 3 1 v ns.length (ns.map intV) ∧ Below w.heap.size w w' := by
  have hn1 : 1 ≤ n := by omega
  obtain ⟨i0, hi, hz0, hz1, hz2⟩ := info_parts infoI
  refine callsIn_of_wp_marks Tryz.func59 rfl trivial ?_ rfl
  simp only [Tryz.ntmps59, List.size_toArray, List.length_cons, List.length_nil, Nat.reduceAdd, Nat.reduceSub, Array.replicate_succ, Array.replicate_zero, List.push_toArray, List.append_toArray, List.nil_append, List.cons_append]
  gi_wp2_with (refine ⟨trivial, ?_⟩; gi_at_call 58; refine (pieces_in (n - 1) _ _ _).mono ?_; rintro e w' ⟨rfl, rfl⟩)
  obtain ⟨W0, hW0⟩ : ∃ W0, W0 = (((((w.alloc (Obj.cells #[Value.slice none 0 0, Value.bool false] 92)).alloc (Obj.cells #[Value.bool false] 4)).alloc (Obj.cells #[Value.slice none 0 0, Value.bool false] 92)).alloc (Obj.cells #[Value.string (bs s)] 9)).alloc (Obj.cells #[Value.string ⟨#[32]⟩] 9)) := ⟨_, rfl⟩
  have hsz : W0.heap.size = w.heap.size + 1 + 1 + 1 + 1 + 1 := by rw [hW0]; simp only [World.size_alloc]
  have b0 : Blk W0 w.heap.size #[.slice none 0 0, .bool false] 92 := by rw [hW0]; exact ((((Blk.new w _ _).alloc _).alloc _).alloc _).alloc _
  have b1 : Blk W0 (w.heap.size + 1) #[.bool false] 4 := by
    have := ((((Blk.new (w.alloc (Obj.cells #[Value.slice none 0 0, Value.bool false] 92)) #[.bool false] 4)).alloc (Obj.cells #[Value.slice none 0 0, Value.bool false] 92)).alloc (Obj.cells #[Value.string (bs s)] 9)).alloc (Obj.cells #[Value.string ⟨#[32]⟩] 9)
    rw [World.size_alloc] at this
    rw [hW0]; exact this
  have b2 : Blk W0 (w.heap.size + 1 + 1) #[.slice none 0 0, .bool false] 92 := by
    have := ((((Blk.new ((w.alloc (Obj.cells #[Value.slice none 0 0, Value.bool false] 92)).alloc (Obj.cells #[Value.bool false] 4)) #[.slice none 0 0, .bool false] 92)).alloc (Obj.cells #[Value.string (bs s)] 9)).alloc (Obj.cells #[Value.string ⟨#[32]⟩] 9))
    simp only [World.size_alloc] at this
    rw [hW0]; exact this
  have b3 : Blk W0 (w.heap.size + 1 + 1 + 1) #[.string (bs s)] 9 := by
    have := (Blk.new (((w.alloc (Obj.cells #[Value.slice none 0 0, Value.bool false] 92)).alloc (Obj.cells #[Value.bool false] 4)).alloc (Obj.cells #[Value.slice none 0 0, Value.bool false] 92)) #[.string (bs s)] 9).alloc (Obj.cells #[Value.string ⟨#[32]⟩] 9)
    simp only [World.size_alloc] at this
    rw [hW0]; exact this
  have b4 : Blk W0 (w.heap.size + 1 + 1 + 1 + 1) #[.string ⟨#[32]⟩] 9 := by
    have := Blk.new ((((w.alloc (Obj.cells #[Value.slice none 0 0, Value.bool false] 92)).alloc (Obj.cells #[Value.bool false] 4)).alloc (Obj.cells #[Value.slice none 0 0, Value.bool false] 92)).alloc (Obj.cells #[Value.string (bs s)] 9)) #[.string ⟨#[32]⟩] 9
    simp only [World.size_alloc] at this
    rw [hW0]; exact this
  have hb : Below w.heap.size w W0 := by rw [hW0]; exact (((((Below.refl _ w).alloc (Nat.le_refl _) _).alloc (by simp) _).alloc (by simp; omega) _).alloc (by simp; omega) _).alloc (by simp; omega) _
  rw [← hW0]
  clear hW0
  refine wpIn_rangeFunc_ownG rfl hn1 (gf := 68) (lb := #[.pointer (some ⟨w.heap.size + 1 + 1 + 1, 0, none⟩), .pointer (some ⟨w.heap.size + 1 + 1 + 1 + 1, 0, none⟩)]) rfl trivial (enters_of Tryz.func68 (by kernel_rfl) rfl)
    (pieces_stops 32 (n - 1) (by omega) (w.heap.size + 1 + 1 + 1) (w.heap.size + 1 + 1 + 1 + 1) s hs W0 b3.lt (Boxed.cell (t := 9) b3) b4.lt (Boxed.cell (t := 9) b4)) kpb_t (kpb_b b4.lt) (Below.refl _ _) (fun _ => rfl)
    (RI w) (RX w) (ri_own w _ hb.size) (rx_own w _ hb.size)
    ⟨[], false, .slice none 0 0, rfl, by simp, b2, World.ownsRow_nil _ _ _ _, b0, b1, b4, hb⟩
    (fun x => { tmps := #[Value.string (bs s), undef, Value.pointer (some { block := w.heap.size, off := 0 }),
        Value.pointer (some { block := w.heap.size + 1, off := 0 }),
        Value.pointer (some { block := w.heap.size + 1 + 1, off := 0 }), .string x.1, undef, undef,
        Value.agg #[Value.slice none 0 0, Value.bool false], Value.string (bs s),
        Value.func (Fn.func 68) #[]
          #[Value.pointer (some { block := w.heap.size + 1 + 1 + 1, off := 0 }),
            Value.pointer (some { block := w.heap.size + 1 + 1 + 1 + 1, off := 0 })],
        .string x.1, undef, undef, undef, undef, undef, undef, undef, undef, undef, undef, undef, undef, undef, undef, undef,
        undef, undef, undef, undef, undef, undef, undef, undef, undef], defers := [] }) ?assign ?body ?done ?stop
  case assign =>
    intro l x W K hK
    gi_wp2
    exact hK
  case body =>
    rintro l pre x W ⟨ns, c, v, h1, h2, h3, h4, h5, h6, h7, h8⟩ hlt
    have hn2 : 1 ≤ n - 1 - 1 := by omega
    by_cases hx : x.1 = closedB
    · have e1 := closed_yes hx
      have c1 := h3.cell1
      have f1 := h3.frozen 1
      obtain ⟨k1, k2⟩ := ri_closed h3 h4 h5 h6 h7 h8 h1 h2 hx
      have K1 := hidW k1
      have K2 := hidW k2
      clear h1 h3 h4 h5 h6 h7 h8 hx k1 k2
      gi_wp2
      exact ⟨(KeepsOthers.setCell _ _ _).from _, K1.out, K2.out⟩
    · have e1 := closed_no hx
      by_cases hv : ∃ u, Lib.atoiAll x.1.data.toList = .ok u
      · obtain ⟨u, hu⟩ := hv
        have kA := atoi_ok x.1 x.2 u hu W
        obtain ⟨a, cap, rfl⟩ := owns_form h4
        obtain ⟨k, hk⟩ : ∃ k, k = ns.length := ⟨_, rfl⟩
        have H1 := hidW h1
        have H3 := hidW h3
        have H4 := hidW h4
        have H5 := hidW h5
        have H6 := hidW h6
        have H7 := hidW h7
        have H8 := hidW h8
        have HX := hidW hx
        have HU := hidW hu
        rw [← hk] at h2 H3 H4
        have HK := hidW hk
        clear h1 h3 h4 h5 h6 h7 h8 hx hu hk
        by_cases hk4 : k = 4
        · have e4 : ((k : Int) == 4) = true := by simp [hk4]
          have HN := hidW (snoc_no H1.out (rowS_many HX.out HU.out (by show ns.length = 4; rw [← HK.out, hk4])))
          gi_wp2_with (refine ⟨trivial, ?_⟩; gi_at_call 70; refine (CallsIn.inRound l (callsIn_wide.2 kA)).mono ?_; rintro e W1 ⟨rfl, hb1⟩; have d3 := H3.out.later hb1; have x3 := d3.cell0; have d5 := H5.out.later hb1; have d6 := H6.out.later hb1; have x0 := d5.cell0; have x1 := d5.cell1; have y0 := d5.frozen 0; have y1 := d5.frozen 1; have x2 := Boxed.cell (t := 4) d6; have y2 := d6.frozen 0; have HB1 := hidW hb1; clear d3 d5 d6 hb1)
          obtain ⟨k1, k2⟩ := rx_none HB1.out H5.out H6.out H8.out HN.out
          exact ⟨k1.from _, k2⟩
        · have e4 : ((k : Int) == 4) = false := by simp; omega
          have hk3 : k < 4 := by omega
          gi_wp2_with (first
            | (refine ⟨trivial, ?_⟩; gi_at_call 70; refine (CallsIn.inRound l (callsIn_wide.2 kA)).mono ?_; rintro e W1 ⟨rfl, hb1⟩; have d3 := H3.out.later hb1; have x3 := d3.cell0; have hrow := owns_later H4.out hb1; have D3 := hidW d3; have hbs := (Below.after H8.out hb1).size; have HB1 := hidW hb1; clear d3 hb1)
            | (gi_at_builtin; refine wpListIn_append_own _ rfl _ _ 51 rfl w.heap.size 3 i0 (.int .i64 0) 1 8 Tryz.underlying51 hi hz0 hz1 hz2 rfl (by decide) _ _ _ rfl (hrow.alloc _) ⟨W1.heap.size, 0, none⟩ 1 1 [.int .i64 u] rfl rfl (cell_one_new _ _ _) (by simp [Value.oneCell']) (by unfold maxLen; omega) (by omega) (by simp; omega) ?_; intro v' w5 hown' hgrow _; obtain ⟨g', cap', rfl⟩ := ownsRow_succ hown'; obtain ⟨hv1, hv2, hr2, hk2, hb2⟩ := D3.out.appended (by decide) hrow hbs (by omega) hown' hgrow; have hc1 := hv1.cell0; have hf1 := hv1.frozen 0; have Q := hidW hv2; have Q1 := hidW hr2; have Q2 := hidW hk2; have Q3 := hidW hb2; have Q4 := hidW hgrow; clear hv2 hr2 hk2 hb2 hgrow))
          have hgrow : (W1.alloc (Obj.cells #[Value.int IntKind.i64 u] 3)).grownBy w5 (Value.slice a k cap).ownBlock := Q4.out
          have D5 := H5.out.later HB1.out
          have D6 := H6.out.later HB1.out
          have D7 := H7.out.later HB1.out
          have E5 := (((D5.alloc (Obj.cells #[Value.int IntKind.i64 u] 3)).kept hgrow (D5.not_row (by decide) hrow)).other ⟨w.heap.size + 1 + 1, 0, none⟩ (Value.slice (some { block := g', off := 0 }) (k + 1) cap') (show w.heap.size ≠ w.heap.size + 1 + 1 by omega))
          have E6 := (((D6.alloc (Obj.cells #[Value.int IntKind.i64 u] 3)).kept hgrow (D6.not_row (by decide) hrow)).other ⟨w.heap.size + 1 + 1, 0, none⟩ (Value.slice (some { block := g', off := 0 }) (k + 1) cap') (show w.heap.size + 1 ≠ w.heap.size + 1 + 1 by omega))
          have E7 := (((D7.alloc (Obj.cells #[Value.int IntKind.i64 u] 3)).kept hgrow (D7.not_row (by decide) hrow)).other ⟨w.heap.size + 1 + 1, 0, none⟩ (Value.slice (some { block := g', off := 0 }) (k + 1) cap') (show w.heap.size + 1 + 1 + 1 + 1 ≠ w.heap.size + 1 + 1 by omega))
          refine ⟨((keepsO_below HB1.out).trans Q2.out).from _, H7.out.same E7, ns ++ [u], c, _, snoc_of H1.out (rowS_num HX.out HU.out (by show ¬ ns.length = 4; rw [← HK.out]; exact hk4)), by simp; rw [← HK.out]; omega, Q.out, ?_, E5, E6, E7, (Below.after H8.out HB1.out).trans Q3.out⟩
          have q := Q1.out
          rw [List.map_append, List.length_append, ← HK.out]
          exact q
      · have hv' : ∀ u, Lib.atoiAll x.1.data.toList ≠ .ok u := fun u e => hv ⟨u, e⟩
        have kA := atoi_no x.1 x.2 hv' W (hE.later h8)
        have HN := hidW (snoc_no h1 (rowS_none hx hv'))
        have H5 := hidW h5
        have H6 := hidW h6
        have H8 := hidW h8
        clear h1 h3 h4 h5 h6 h7 h8 hx hv hv'
        gi_wp2_with (refine ⟨trivial, ?_⟩; gi_at_call 70; refine (CallsIn.inRound l (callsIn_wide.2 kA)).mono ?_; rintro e W1 ⟨u, te, pe, rfl, hb1⟩; have d5 := H5.out.later hb1; have d6 := H6.out.later hb1; have x0 := d5.cell0; have x1 := d5.cell1; have y0 := d5.frozen 0; have y1 := d5.frozen 1; have x2 := Boxed.cell (t := 4) d6; have y2 := d6.frozen 0; have HB1 := hidW hb1; clear d5 d6 hb1)
        obtain ⟨k1, k2⟩ := rx_none HB1.out H5.out H6.out H8.out HN.out
        exact ⟨k1.from _, k2⟩
  case done =>
    rintro D ys W hD rfl ⟨ns, c, v, h1, h2, h3, h4, h5, h6, h7, h8⟩ hK
    obtain ⟨a, cap, rfl⟩ := owns_form h4
    have x0 := h5.cell0
    have x1 := h5.cell1
    have y0 := h5.frozen 0
    have y1 := h5.frozen 1
    have x2 := Boxed.cell (t := 4) h6
    have y2 := h6.frozen 0
    have z0 := h3.cell0
    have z1 := h3.cell1
    have R3 := hidW h3
    have R4 := hidW h4
    have R5 := hidW h5
    have R6 := hidW h6
    clear h3 h4 h5 h6 h7
    gi_wp2
    obtain ⟨X, hX⟩ : ∃ X, X = (((W.setCell ⟨w.heap.size, 0, none⟩ (Value.slice a ns.length cap)).setCell ⟨w.heap.size, 1, none⟩ (Value.bool c)).setCell ⟨w.heap.size + 1, 0, none⟩ (Value.bool true)) := ⟨_, rfl⟩
    have q1 : Blk X w.heap.size #[Value.slice a ns.length cap, .bool c] 92 := by rw [hX]; exact ((R5.out.set0 _).set1 _).other _ _ (show w.heap.size ≠ w.heap.size + 1 by omega)
    have q2 : Boxed X (w.heap.size + 1) 4 (.bool true) := by
      rw [hX]
      have h2 : Blk ((W.setCell ⟨w.heap.size, 0, none⟩ (Value.slice a ns.length cap)).setCell ⟨w.heap.size, 1, none⟩ (Value.bool c)) (w.heap.size + 1) #[.bool false] 4 := (R6.out.other _ _ (show w.heap.size + 1 ≠ w.heap.size by omega)).other _ _ (show w.heap.size + 1 ≠ w.heap.size by omega)
      exact Boxed.set (t := 4) (v := .bool false) (.bool true) h2
    have q3 : KeepsOthers W X := by rw [hX]; exact ((KeepsOthers.setCell _ _ _).trans (KeepsOthers.setCell _ _ _)).trans (KeepsOthers.setCell _ _ _)
    have q4 : Below w.heap.size w X := by rw [hX]; exact ((h8.setCell (p := ⟨w.heap.size, 0, none⟩) (Nat.le_refl _) _).setCell (p := ⟨w.heap.size, 1, none⟩) (Nat.le_refl _) _).setCell (p := ⟨w.heap.size + 1, 0, none⟩) (by simp) _
    have q5 : X.ownsRow w.heap.size 3 1 (.slice a ns.length cap) ns.length (ns.map intV) := by
      rw [hX]
      have g0 := R5.out.not_row (by decide) R4.out
      have g1 := R6.out.not_row (by decide) R4.out
      exact owns_cell (owns_cell (owns_cell R4.out g0) g0) g1
    rw [← hX]
    have hKd : X.heap[D]? = some (.deferred (some [])) := q3.same D _ hK rfl
    refine ⟨by simp, .inl ⟨_, _, rfl, run_takeDeferred hKd, ?_⟩⟩
    have hP' : Blk (X.putObj D (.deferred none)) w.heap.size #[Value.slice a ns.length cap, .bool c] 92 := (blk_own (β := Unit) _ _ _).putObj (s := ()) _ q1 hKd rfl
    have hE' : Boxed (X.putObj D (.deferred none)) (w.heap.size + 1) 4 (.bool true) := (blk_own (β := Unit) _ _ _).putObj (s := ()) _ q2 hKd rfl
    exact ⟨_, row_results _ w.heap.size (w.heap.size + 1) _ _ _ _ rfl rfl hP'.cell0 hP'.cell1 hE'.cell, .inr ⟨ns, c, _, h1, h2, rfl, ownsRow_putObj q5 _ hKd rfl, q4.trans (belowK_b (w := w) (Nat.le_refl _) X D _ _ (by omega) hKd rfl rfl)⟩⟩
  case stop =>
    rintro D c pre W hD hp ⟨rfl, h1, h5, h6, h8⟩ hK
    gi_wp2
    refine ⟨by simp, .inl ⟨_, _, rfl, run_takeDeferred hK, ?_⟩⟩
    have hP' : Blk (W.putObj D (.deferred none)) w.heap.size #[.slice none 0 0, .bool false] 92 := (blk_own (β := Unit) _ _ _).putObj (s := ()) _ h5 hK rfl
    have hE' : Boxed (W.putObj D (.deferred none)) (w.heap.size + 1) 4 (.bool false) := (blk_own (β := Unit) _ _ _).putObj (s := ()) _ h6 hK rfl
    exact ⟨_, row_results _ w.heap.size (w.heap.size + 1) _ _ _ _ rfl rfl hP'.cell0 hP'.cell1 hE'.cell, .inl ⟨rowF_prefix hp h1, rfl, h8.trans (belowK_b (w := w) (Nat.le_refl _) W D _ _ (by omega) hK rfl rfl)⟩⟩
theorem readRow_any (s : List UInt8) (hs : s.length ≤ 281474976710656) (w : World) (hE : Errs w) :
    Calls Tryz.prog 59 #[.string (bs s)] w fun e w' => (rowF ([], false) (pieces 32 s) = none ∧ e = .returned (.tuple #[.agg #[.slice none 0 0, .bool false], .bool false]) ∧ Below w.heap.size w w') ∨
      ∃ ns c v, rowF ([], false) (pieces 32 s) = some (ns, c) ∧ ns.length ≤ 4 ∧ e = .returned (.tuple #[.agg #[v, .bool c], .bool true]) ∧ w'.ownsRow w.heap.size 3 1 v ns.length (ns.map intV) ∧ Below w.heap.size w w' :=
  callsIn_wide.1 (readRow_in 3 (Nat.le_refl _) s hs w hE)
end Go.Proofs.YtmaekpfkkpkgpaaGreatDoor
