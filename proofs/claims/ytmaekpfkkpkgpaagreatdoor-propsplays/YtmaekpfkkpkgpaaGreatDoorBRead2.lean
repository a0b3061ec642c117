/-
  read, as it runs.
-/
import Derived.Test.YtmaekpfkkpkgpaaGreatDoorBRead
namespace Go.Proofs.YtmaekpfkkpkgpaaGreatDoor
open Go.RowKit Go.Shelf
attribute [local go_sem] Oper.semAt_some

theorem begun_none {w : World} {v : Value} {ns : List Int} {base : Nat} (h : Nums w v ns base) (c : Bool) (hn : begF ns = none) :
    Calls Tryz.prog 60 #[.agg #[v, .bool c]] w fun e w' => e = .returned (.tuple #[.pointer none, .bool false]) ∧ Below w.heap.size w w' := by
  by_cases h2 : ns.length = 2
  · obtain ⟨g, cap, rfl, hr⟩ := h.row (by omega)
    match ns, h2, hn, hr with
    | [n, size], _, hn, hr =>
      have hok : ¬ newOk n size := fun e => by simp [begF, e] at hn
      exact begun_no c hr hok
  · obtain ⟨a, cap, rfl⟩ := owns_form h.own
    exact begun_len a ns.length cap c h2
theorem begun_some {w : World} {v : Value} {ns : List Int} {base : Nat} (h : Nums w v ns base) (c : Bool) {size : Int} {l : List PB} (hn : begF ns = some (size, l)) :
    Calls Tryz.prog 60 #[.agg #[v, .bool c]] w fun e w' => ∃ p q cap, e = .returned (.tuple #[.pointer (some ⟨p, 0, none⟩), .bool true]) ∧ BLies w' p q cap size l ∧ w.heap.size ≤ p ∧ w.heap.size ≤ q ∧ BkOk size l ∧ Below w.heap.size w w' := by
  unfold begF at hn
  split at hn
  · rename_i n s
    split at hn
    · rename_i hok
      obtain ⟨rfl, rfl⟩ := Prod.mk.inj (Option.some.inj hn)
      obtain ⟨g, cap, rfl, hr⟩ := h.row (by simp)
      obtain ⟨k, rfl⟩ : ∃ k : Nat, n = (k : Int) := ⟨n.toNat, by have := hok.1; omega⟩
      refine (begun_go c hr hok).mono ?_
      rintro e w' ⟨p, q, rfl, h1, h2, h3, h4⟩
      exact ⟨p, q, k, rfl, by rw [Int.toNat_natCast]; exact h1, h2, h3, by rw [Int.toNat_natCast]; exact bkOk_new hok, h4⟩
    · cases hn
  · cases hn
theorem enter_any {w : World} {p q cap : Nat} {size : Int} {l : List PB} (h : BLies w p q cap size l) (hO : BkOk size l) {v : Value} {ns : List Int} {base : Nat} (hv : Nums w v ns base) (c : Bool) :
    Calls Tryz.prog 61 #[.pointer (some ⟨p, 0, none⟩), .agg #[v, .bool c]] w (EntP w p q cap size (entF size l ns c)) := by
  by_cases h4 : ns.length = 4
  · obtain ⟨g, cap2, rfl, hr⟩ := hv.row (by omega)
    match ns, h4, hv.bnd, hr with
    | [leb, use, used, live], _, hb, hr =>
      have hs1 := hO.s1
      exact enter_go h hO.ok (by omega) hO.s2 c hr (hb live (by simp)).2
  · obtain ⟨a, cap2, rfl⟩ := owns_form hv.own
    refine (enter_len p a ns.length cap2 c h4).mono ?_
    rintro e w' ⟨rfl, hb⟩
    have e1 : entF size l ns c = none := by
      unfold entF
      split
      · simp at h4
      · rfl
    rw [e1]
    exact ⟨rfl, l, h.left hb, fun _ e => by cases e⟩
theorem readRow_none {s : List UInt8} (hs : s.length ≤ 281474976710656) {w : World} (hE : Errs w) (hn : rowF ([], false) (pieces 32 s) = none) :
    Calls Tryz.prog 59 #[.string (bs s)] w fun e w' => e = .returned (.tuple #[.agg #[.slice none 0 0, .bool false], .bool false]) ∧ Below w.heap.size w w' := by
  refine (readRow_any s hs w hE).mono ?_
  rintro e w' (⟨_, rfl, hb⟩ | ⟨ns, c, v, h1, _⟩)
  · exact ⟨rfl, hb⟩
  · rw [hn] at h1; cases h1
theorem readRow_some {s : List UInt8} (hs : s.length ≤ 281474976710656) {w : World} (hE : Errs w) {ns : List Int} {c : Bool} (hn : rowF ([], false) (pieces 32 s) = some (ns, c)) :
    Calls Tryz.prog 59 #[.string (bs s)] w fun e w' => ∃ a cap, e = .returned (.tuple #[.agg #[.slice a ns.length cap, .bool c], .bool true]) ∧ Nums w' (.slice a ns.length cap) ns w.heap.size ∧ Below w.heap.size w w' := by
  refine (readRow_any s hs w hE).mono ?_
  rintro e w' (⟨h1, _⟩ | ⟨ns', c', v, h1, _, rfl, h2, hb⟩)
  · rw [hn] at h1; cases h1
  · rw [hn] at h1
    cases h1
    obtain ⟨a, cap, rfl⟩ := owns_form h2
    exact ⟨a, cap, rfl, ⟨h2, rowF_bnd _ _ _ hn (by simp)⟩, hb⟩
theorem dsnoc_of {pre : List Pc} {x : Pc} {st st' : Rb} (h : rdF none pre = some st) (hx : rdS st x.1 = some st') : rdF none (pre ++ [x]) = some st' := by rw [rdF_snoc, h]; exact hx
theorem dsnoc_no {pre : List Pc} {x : Pc} {st : Rb} (h : rdF none pre = some st) (hx : rdS st x.1 = none) : rdF none (pre ++ [x]) = none := by rw [rdF_snoc, h]; exact hx
/-- A text that is none: the results are stored. -/
theorem dx_none {w W W1 : World} (hk : KeepsOthers W W1) (h5 : Blk W1 w.heap.size #[.pointer none] 23) (h6 : Blk W1 (w.heap.size + 1) #[.bool false] 4) (h8 : Below w.heap.size w W1) {pre : List Pc} (h1 : rdF none pre = none) :
    KeepsOthers W ((W1.setCell ⟨w.heap.size, 0, none⟩ (.pointer none)).setCell ⟨w.heap.size + 1, 0, none⟩ (.bool false)) ∧ DX w .ret pre ((W1.setCell ⟨w.heap.size, 0, none⟩ (.pointer none)).setCell ⟨w.heap.size + 1, 0, none⟩ (.bool false)) := by
  refine ⟨(hk.trans (KeepsOthers.setCell _ _ _)).trans (KeepsOthers.setCell _ _ _), rfl, h1, ?_, ?_, ?_⟩
  · exact Blk.other _ _ (Boxed.set (t := 23) (v := .pointer none) (.pointer none) h5) (show w.heap.size ≠ w.heap.size + 1 by omega)
  · exact Boxed.set (t := 4) (v := .bool false) (.bool false) (h6.other _ _ (show w.heap.size + 1 ≠ w.heap.size by omega))
  · exact (h8.setCell (p := ⟨w.heap.size, 0, none⟩) (Nat.le_refl _) _).setCell (p := ⟨w.heap.size + 1, 0, none⟩) (by simp) _
theorem Blk.left {w w1 : World} {p q cap : Nat} {size : Int} {l0 l : List PB} (h0 : BLies w p q cap size l0) (h : Left w w1 p q cap size l) {B : Nat} {cs : Array Value} {t : TypeId} (hr : Blk w B cs t) (ht : t ≠ 54) : Blk w1 B cs t := by
  have hR : Row w B cs.toList t := ⟨[], by rw [List.append_nil, Array.toArray_toList]; exact hr⟩
  exact (h.2.block B hr.lt (hR.ne h0.row ht)).trans hr
theorem keepsO_left {w w1 : World} {p q cap : Nat} {size : Int} {l0 l : List PB} (h0 : BLies w p q cap size l0) (h : Left w w1 p q cap size l) : KeepsOthers w w1 := by
  refine ⟨h.2.size, fun k o hk ho => ?_⟩
  refine (h.2.block k (Array.getElem?_eq_some_iff.1 hk).1 (fun e => ?_)).trans hk
  obtain ⟨r, hr⟩ := h0.row
  subst e
  rw [hr] at hk
  cases hk
  cases ho
theorem below_left {w0 w w1 : World} {p q cap : Nat} {size : Int} {l : List PB} (hb : Below w0.heap.size w0 w) (hq : w0.heap.size ≤ q) (h : Left w w1 p q cap size l) : Below w0.heap.size w0 w1 := hb.trans (h.2.below hb.size (fun k e => by subst e; exact hq))
set_option maxHeartbeats 1000000 in
theorem read_results (tmps : Array Value) (B C : Nat) (a c : Value) (W : World) (h2 : tmps[2]?.getD undef = .pointer (some ⟨B, 0, none⟩)) (h3 : tmps[3]?.getD undef = .pointer (some ⟨C, 0, none⟩))
    (ca : W.cell? ⟨B, 0, none⟩ = some a) (cc : W.cell? ⟨C, 0, none⟩ = some c) :
    (results Tryz.f37 tmps).run Tryz.prog W = .ok (.tuple #[a, c]) W := by
  simp [results, Tryz.f37, go_sem, h2, h3, ca, cc]
theorem wpIn_then_false {F : Fence} {n : Nat} {P : Program} {c : Code} {K : Act → World → Prop} {Q : Exit → Act → World → Prop} {a : Act} {w : World}
    (h : Code.wpIn F n P c (Exit.then K (fun _ _ _ => False)) a w) : Code.wpIn F n P c (Exit.then K Q) a w :=
  Code.wpIn_mono (fun e a w hq => by cases e <;> first | exact hq | exact hq.elim) h
/-- Behind the last line. -/
theorem read_stored {w W : World} {v : Value} {st : Rb} {D : Nat} (h4 : BkAt w.heap.size W v st) (h5 : Blk W w.heap.size #[.pointer none] 23) (h6 : Blk W (w.heap.size + 1) #[.bool false] 4) (h8 : Below w.heap.size w W) (hK : W.heap[D]? = some (.deferred (some []))) (b : Bool) (X : World) (hX : X = ((W.setCell ⟨w.heap.size, 0, none⟩ v).setCell ⟨w.heap.size + 1, 0, none⟩ (.bool b)).drew) (hD : w.heap.size ≤ D) :
    X.heap[D]? = some (.deferred (some [])) ∧ (X.putObj D (.deferred none)).cell? ⟨w.heap.size, 0, none⟩ = some v ∧ (X.putObj D (.deferred none)).cell? ⟨w.heap.size + 1, 0, none⟩ = some (.bool b) ∧ BkAt w.heap.size (X.putObj D (.deferred none)) v st ∧ Below w.heap.size w (X.putObj D (.deferred none)) := by
  have q1 : Blk X w.heap.size #[v] 23 := by rw [hX]; exact Blk.other _ _ (Boxed.set (t := 23) (v := .pointer none) v h5) (show w.heap.size ≠ w.heap.size + 1 by omega)
  have q2 : Blk X (w.heap.size + 1) #[.bool b] 4 := by rw [hX]; exact Boxed.set (t := 4) (v := .bool false) (.bool b) (h6.other _ _ (show w.heap.size + 1 ≠ w.heap.size by omega))
  have q3 : KeepsOthers W X := by rw [hX]; exact ((KeepsOthers.setCell _ _ _).trans (KeepsOthers.setCell _ _ _)).trans (KeepsOthers.drew _)
  have q4 : Below w.heap.size w X := by rw [hX]; exact ((h8.setCell (p := ⟨w.heap.size, 0, none⟩) (Nat.le_refl _) _).setCell (p := ⟨w.heap.size + 1, 0, none⟩) (by simp) _).drew
  have q5 : BkAt w.heap.size X v st := by
    rw [hX]
    have g1 := h4.other h5 (by decide) (by decide) 0 v
    have g2 := g1.other (h6.other ⟨w.heap.size, 0, none⟩ v (show w.heap.size + 1 ≠ w.heap.size by omega)) (by decide) (by decide) 0 (.bool b)
    exact g2.later (Below.refl _ _).drew
  have hKd : X.heap[D]? = some (.deferred (some [])) := q3.same D _ hK rfl
  refine ⟨hKd, Boxed.cell (t := 23) ((blk_own (β := Unit) _ _ _).putObj (s := ()) _ q1 hKd rfl), Boxed.cell (t := 4) ((blk_own (β := Unit) _ _ _).putObj (s := ()) _ q2 hKd rfl), ?_, q4.trans (belowK_b (w := w) (Nat.le_refl _) X D _ _ hD hKd rfl rfl)⟩
  exact bkAt_own st q5 (grownBy_putObj' X D _) (fun r e => by cases e; exact ⟨_, hKd, rfl⟩)
set_option maxRecDepth 100000 in
set_option maxHeartbeats 4000000 in
theorem read_in (n : Nat) (hn : 6 ≤ n) (s : List UInt8) (hs : s.length ≤ 281474976710656) (w : World) (hE : Errs w) :
    CallsIn Fence.wide n Tryz.prog 37 #[.string (bs s)] w fun e w' => Below w.heap.size w w' ∧ ((rdF none (pieces 10 s) = none ∧ e = .returned (.tuple #[.pointer none, .bool false])) ∨
      ∃ st v, rdF none (pieces 10 s) = some st ∧ e = .returned (.tuple #[v, .bool st.isSome]) ∧ BkAt w.heap.size w' v st) := by
  have hn1 : 1 ≤ n := by omega
  refine callsIn_of_wp_marks Tryz.func37 rfl trivial ?_ rfl
  simp only [Tryz.ntmps37, List.size_toArray, List.length_cons, List.length_nil, Nat.reduceAdd, Nat.reduceSub, Array.replicate_succ, Array.replicate_zero, List.push_toArray, List.append_toArray, List.nil_append, List.cons_append]
  gi_wp2_with (refine ⟨trivial, ?_⟩; gi_at_call 58; refine (pieces_in (n - 1) _ _ _).mono ?_; rintro e w' ⟨rfl, rfl⟩)
  obtain ⟨W0, hW0⟩ : ∃ W0, W0 = (((((w.alloc (Obj.cells #[Value.pointer none] 23)).alloc (Obj.cells #[Value.bool false] 4)).alloc (Obj.cells #[Value.pointer none] 23)).alloc (Obj.cells #[Value.string (bs s)] 9)).alloc (Obj.cells #[Value.string ⟨#[10]⟩] 9)) := ⟨_, rfl⟩
  have hsz : W0.heap.size = w.heap.size + 1 + 1 + 1 + 1 + 1 := by rw [hW0]; simp only [World.size_alloc]
  have b0 : Blk W0 w.heap.size #[.pointer none] 23 := by rw [hW0]; exact ((((Blk.new w _ _).alloc _).alloc _).alloc _).alloc _
  have b1 : Blk W0 (w.heap.size + 1) #[.bool false] 4 := by
    have := ((((Blk.new (w.alloc (Obj.cells #[Value.pointer none] 23)) #[.bool false] 4)).alloc (Obj.cells #[Value.pointer none] 23)).alloc (Obj.cells #[Value.string (bs s)] 9)).alloc (Obj.cells #[Value.string ⟨#[10]⟩] 9)
    rw [World.size_alloc] at this
    rw [hW0]; exact this
  have b2 : Blk W0 (w.heap.size + 1 + 1) #[.pointer none] 23 := by
    have := ((((Blk.new ((w.alloc (Obj.cells #[Value.pointer none] 23)).alloc (Obj.cells #[Value.bool false] 4)) #[.pointer none] 23)).alloc (Obj.cells #[Value.string (bs s)] 9)).alloc (Obj.cells #[Value.string ⟨#[10]⟩] 9))
    simp only [World.size_alloc] at this
    rw [hW0]; exact this
  have b3 : Blk W0 (w.heap.size + 1 + 1 + 1) #[.string (bs s)] 9 := by
    have := (Blk.new (((w.alloc (Obj.cells #[Value.pointer none] 23)).alloc (Obj.cells #[Value.bool false] 4)).alloc (Obj.cells #[Value.pointer none] 23)) #[.string (bs s)] 9).alloc (Obj.cells #[Value.string ⟨#[10]⟩] 9)
    simp only [World.size_alloc] at this
    rw [hW0]; exact this
  have b4 : Blk W0 (w.heap.size + 1 + 1 + 1 + 1) #[.string ⟨#[10]⟩] 9 := by
    have := Blk.new ((((w.alloc (Obj.cells #[Value.pointer none] 23)).alloc (Obj.cells #[Value.bool false] 4)).alloc (Obj.cells #[Value.pointer none] 23)).alloc (Obj.cells #[Value.string (bs s)] 9)) #[.string ⟨#[10]⟩] 9
    simp only [World.size_alloc] at this
    rw [hW0]; exact this
  have hb : Below w.heap.size w W0 := by rw [hW0]; exact (((((Below.refl _ w).alloc (Nat.le_refl _) _).alloc (by simp) _).alloc (by simp; omega) _).alloc (by simp; omega) _).alloc (by simp; omega) _
  rw [← hW0]
  clear hW0
  refine wpIn_rangeFunc_ownG rfl hn1 (gf := 68) (lb := #[.pointer (some ⟨w.heap.size + 1 + 1 + 1, 0, none⟩), .pointer (some ⟨w.heap.size + 1 + 1 + 1 + 1, 0, none⟩)]) rfl trivial (enters_of Tryz.func68 (by kernel_rfl) rfl)
    (pieces_stops 10 (n - 1) (by omega) (w.heap.size + 1 + 1 + 1) (w.heap.size + 1 + 1 + 1 + 1) s hs W0 b3.lt (Boxed.cell (t := 9) b3) b4.lt (Boxed.cell (t := 9) b4)) kpb_t (kpb_b b4.lt) (Below.refl _ _) (fun _ => rfl)
    (DI w) (DX w) (di_own w _ hb.size) (dx_own w _ hb.size)
    ⟨none, .pointer none, rfl, b2, rfl, b0, b1, b4, hb⟩
    (fun x => { tmps := #[Value.string (bs s), undef, Value.pointer (some { block := w.heap.size, off := 0 }),
        Value.pointer (some { block := w.heap.size + 1, off := 0 }),
        Value.pointer (some { block := w.heap.size + 1 + 1, off := 0 }), .string x.1, undef, undef, Value.string (bs s),
        Value.func (Fn.func 68) #[]
          #[Value.pointer (some { block := w.heap.size + 1 + 1 + 1, off := 0 }),
            Value.pointer (some { block := w.heap.size + 1 + 1 + 1 + 1, off := 0 })],
        .string x.1, undef, undef, undef, undef, undef, undef, undef, undef, undef, undef, undef, undef, undef, undef, undef, undef, undef, undef, undef, undef, undef, undef, undef, undef], defers := [] }) ?assign ?body ?done ?stop
  case assign =>
    intro l x W K hK
    gi_wp2
    exact hK
  case body =>
    rintro l pre x W ⟨st, v, h1, h3, h4, h5, h6, h7, h8⟩ hlt
    have hn2 : 1 ≤ n - 1 - 1 := by omega
    obtain ⟨xl, hxl⟩ : ∃ xl, x.1 = bs xl := ⟨x.1.data.toList, (bs_of x.1).symm⟩
    have hxs : xl.length ≤ 281474976710656 := by have := x.2; rw [hxl, bs_size] at this; exact this
    have hxd : x.1.data.toList = xl := by rw [hxl]; rfl
    have x0 := Boxed.cell (t := 23) h5
    have H1 := hidW h1
    have H3 := hidW h3
    have H4 := hidW h4
    have H5 := hidW h5
    have H6 := hidW h6
    have H7 := hidW h7
    have H8 := hidW h8
    have HX := hidW hxd
    rw [hxl]
    clear x0 h1 h3 h4 h5 h6 h7 h8 hxl hxd hlt
    cases hrow : rowF ([], false) (pieces 32 xl) with
    | none =>
      have kR := readRow_none hxs (hE.later H8.out) hrow
      have HN := hidW (dsnoc_no (x := x) H1.out (by unfold rdS; rw [HX.out, hrow]))
      clear hrow
      gi_wp2_with (refine ⟨trivial, ?_⟩; gi_at_call 59; refine (CallsIn.inRound l (callsIn_wide.2 kR)).mono ?_; rintro e W1 ⟨rfl, hb1⟩; have d5 := (H5.out.later hb1).alloc (.cells #[.slice none 0 0, .bool false] 92); have d6 := (H6.out.later hb1).alloc (.cells #[.slice none 0 0, .bool false] 92); have x0 := Boxed.cell (t := 23) d5; have y0 := d5.frozen 0; have x2 := Boxed.cell (t := 4) d6; have y2 := d6.frozen 0; have D5 := hidW d5; have D6 := hidW d6; have HB1 := hidW hb1; clear d5 d6 hb1)
      obtain ⟨k1, k2⟩ := dx_none ((keepsO_below HB1.out).trans (KeepsOthers.alloc _ _)) D5.out D6.out (Below.after H8.out (Below.after HB1.out (below_new _ _))) HN.out
      exact ⟨k1.from _, k2⟩
    | some r =>
      obtain ⟨ns, c⟩ := r
      have kR := readRow_some hxs (hE.later H8.out) hrow
      have hS : rdS st x.1 = rdT st ns c := by unfold rdS; rw [HX.out, hrow]
      have HS := hidW hS
      clear hrow hS
      cases st with
      | none =>
        have hv : v = .pointer none := H4.out
        subst hv
        cases hbeg : begF ns with
        | none =>
          have HN := hidW (dsnoc_no H1.out (by rw [HS.out]; unfold rdT; rw [hbeg]; rfl))
          have kB := hidW (fun (W : World) (v : Value) (base : Nat) (h : Nums W v ns base) => begun_none h c hbeg)
          clear hbeg
          gi_wp2_with (first
            | (refine ⟨trivial, ?_⟩; gi_at_call 59; refine (CallsIn.inRound l (callsIn_wide.2 kR)).mono ?_; rintro e W1 ⟨a, cap, rfl, hnum, hb1⟩; have hb2 := Below.after hb1 (below_new W1 (.cells #[.slice a ns.length cap, .bool c] 92)); have d3 := H3.out.later hb2; have z3 := Boxed.cell (t := 23) d3; have KB := hidW (kB.out _ _ _ (hnum.later (below_new W1 (.cells #[.slice a ns.length cap, .bool c] 92)))); have HB2 := hidW hb2; clear d3 hb1 hb2 hnum)
            | (refine ⟨trivial, ?_⟩; gi_at_call 60; refine (CallsIn.inRound l (callsIn_wide.2 KB.out)).mono ?_; rintro e W2 ⟨rfl, hb3⟩; have hb4 := Below.after HB2.out hb3; have d3 := H3.out.later hb4; have q3 := Boxed.cell (t := 23) d3; have p3 := d3.frozen 0; have d5 := (H5.out.later hb4).other ⟨w.heap.size + 1 + 1, 0, none⟩ (.pointer none) (show w.heap.size ≠ w.heap.size + 1 + 1 by omega); have d6 := (H6.out.later hb4).other ⟨w.heap.size + 1 + 1, 0, none⟩ (.pointer none) (show w.heap.size + 1 ≠ w.heap.size + 1 + 1 by omega); have x5 := Boxed.cell (t := 23) d5; have y5 := d5.frozen 0; have x6 := Boxed.cell (t := 4) d6; have y6 := d6.frozen 0; have D5 := hidW d5; have D6 := hidW d6; have HB4 := hidW hb4; clear z3 d3 d5 d6 hb3 hb4 KB))
          obtain ⟨k1, k2⟩ := dx_none ((keepsO_below HB4.out).trans (KeepsOthers.setCell _ _ _)) D5.out D6.out ((Below.after H8.out HB4.out).setCell (p := ⟨w.heap.size + 1 + 1, 0, none⟩) (by simp; omega) _) HN.out
          exact ⟨k1.from _, k2⟩
        | some r =>
          obtain ⟨size, lb⟩ := r
          have HN := hidW (dsnoc_of H1.out (by rw [HS.out]; unfold rdT; rw [hbeg]; rfl))
          have kB := hidW (fun (W : World) (v : Value) (base : Nat) (h : Nums W v ns base) => begun_some h c hbeg)
          clear hbeg
          gi_wp2_with (first
            | (refine ⟨trivial, ?_⟩; gi_at_call 59; refine (CallsIn.inRound l (callsIn_wide.2 kR)).mono ?_; rintro e W1 ⟨a, cap, rfl, hnum, hb1⟩; have hb2 := Below.after hb1 (below_new W1 (.cells #[.slice a ns.length cap, .bool c] 92)); have d3 := H3.out.later hb2; have z3 := Boxed.cell (t := 23) d3; have KB := hidW (kB.out _ _ _ (hnum.later (below_new W1 (.cells #[.slice a ns.length cap, .bool c] 92)))); have HB2 := hidW hb2; have HSZ := hidW (Below.after H8.out hb2).size; clear d3 hb1 hb2 hnum)
            | (refine ⟨trivial, ?_⟩; gi_at_call 60; refine (CallsIn.inRound l (callsIn_wide.2 KB.out)).mono ?_; rintro e W2 ⟨p, q, cap3, rfl, hl3, hp3, hq3, hO3, hb3⟩; have hb4 := Below.after HB2.out hb3; have d3 := H3.out.later hb4; have q3 := Boxed.cell (t := 23) d3; have p3 := d3.frozen 0; have HL3 := hidW hl3; have HP3 := hidW (And.intro (Nat.le_trans HSZ.out hp3) (Nat.le_trans HSZ.out hq3)); have HO3 := hidW hO3; have D3 := hidW d3; have HB4 := hidW hb4; clear z3 d3 hb3 hb4 KB hl3 hp3 hq3 hO3))
          have d7 := (H7.out.later HB4.out).other ⟨w.heap.size + 1 + 1, 0, none⟩ (.pointer (some ⟨p, 0, none⟩)) (show w.heap.size + 1 + 1 + 1 + 1 ≠ w.heap.size + 1 + 1 by omega)
          refine ⟨((keepsO_below HB4.out).trans (KeepsOthers.setCell _ _ _)).from _, H7.out.same d7, some (size, lb), .pointer (some ⟨p, 0, none⟩), HN.out, Boxed.set (t := 23) (v := .pointer none) _ D3.out, ?_, (H5.out.later HB4.out).other _ _ (show w.heap.size ≠ w.heap.size + 1 + 1 by omega), (H6.out.later HB4.out).other _ _ (show w.heap.size + 1 ≠ w.heap.size + 1 + 1 by omega), d7, (Below.after H8.out HB4.out).setCell (p := ⟨w.heap.size + 1 + 1, 0, none⟩) (by simp; omega) _⟩
          exact BkAt.other (st := some (size, lb)) ⟨p, q, cap3, rfl, HL3.out, HP3.out.1, HP3.out.2, HO3.out⟩ D3.out (by decide) (by decide) 0 _
      | some r =>
        obtain ⟨size, lb⟩ := r
        obtain ⟨p, q, cap3, hv, hl, hp, hq, hO⟩ := H4.out
        subst hv
        have HL := hidW hl
        have HQ := hidW (And.intro hp hq)
        have HO := hidW hO
        have kE := hidW (fun (W : World) (v : Value) (base : Nat) (hW : BLies W p q cap3 size lb) (h : Nums W v ns base) => enter_any hW hO h c)
        clear hl hp hq hO
        cases hent : entF size lb ns c with
        | none =>
          have HN := hidW (dsnoc_no H1.out (by rw [HS.out]; unfold rdT; dsimp only; rw [hent]; rfl))
          rw [hent] at kE
          clear hent
          gi_wp2_with (first
            | (refine ⟨trivial, ?_⟩; gi_at_call 59; refine (CallsIn.inRound l (callsIn_wide.2 kR)).mono ?_; rintro e W1 ⟨a, cap, rfl, hnum, hb1⟩; have hb2 := Below.after hb1 (below_new W1 (.cells #[.slice a ns.length cap, .bool c] 92)); have d3 := H3.out.later hb2; have z3 := Boxed.cell (t := 23) d3; have HLY := hidW (HL.out.later hb2); have KB := hidW (kE.out _ _ _ HLY.out (hnum.later (below_new W1 (.cells #[.slice a ns.length cap, .bool c] 92)))); have HB2 := hidW hb2; clear d3 hb1 hb2 hnum)
            | (refine ⟨trivial, ?_⟩; gi_at_call 61; refine (CallsIn.inRound l (callsIn_wide.2 KB.out)).mono ?_; rintro e W2 ⟨rfl, l2, hl2, _⟩; have d5 := Blk.left HLY.out hl2 (H5.out.later HB2.out) (by decide); have d6 := Blk.left HLY.out hl2 (H6.out.later HB2.out) (by decide); have x5 := Boxed.cell (t := 23) d5; have y5 := d5.frozen 0; have x6 := Boxed.cell (t := 4) d6; have y6 := d6.frozen 0; have D5 := hidW d5; have D6 := hidW d6; have HL2 := hidW hl2; clear z3 d5 d6 hl2 KB))
          obtain ⟨k1, k2⟩ := dx_none ((keepsO_below HB2.out).trans (keepsO_left HLY.out HL2.out)) D5.out D6.out (below_left (Below.after H8.out HB2.out) HQ.out.2 HL2.out) HN.out
          exact ⟨k1.from _, k2⟩
        | some lb2 =>
          have HN := hidW (dsnoc_of H1.out (by rw [HS.out]; unfold rdT; dsimp only; rw [hent]; rfl))
          have HO2 := hidW (ent_ok HO.out hent)
          rw [hent] at kE
          clear hent
          gi_wp2_with (first
            | (refine ⟨trivial, ?_⟩; gi_at_call 59; refine (CallsIn.inRound l (callsIn_wide.2 kR)).mono ?_; rintro e W1 ⟨a, cap, rfl, hnum, hb1⟩; have hb2 := Below.after hb1 (below_new W1 (.cells #[.slice a ns.length cap, .bool c] 92)); have d3 := H3.out.later hb2; have z3 := Boxed.cell (t := 23) d3; have HLY := hidW (HL.out.later hb2); have KB := hidW (kE.out _ _ _ HLY.out (hnum.later (below_new W1 (.cells #[.slice a ns.length cap, .bool c] 92)))); have HB2 := hidW hb2; clear d3 hb1 hb2 hnum)
            | (refine ⟨trivial, ?_⟩; gi_at_call 61; refine (CallsIn.inRound l (callsIn_wide.2 KB.out)).mono ?_; rintro e W2 ⟨rfl, l2, hl2, he2⟩; have e2 := he2 _ rfl; have HL2 := hidW hl2; have HE2 := hidW e2; clear z3 hl2 KB he2 e2))
          have hl2 := HL2.out
          rw [HE2.out] at hl2
          have d7 := Blk.left HLY.out hl2 (H7.out.later HB2.out) (by decide)
          exact ⟨((keepsO_below HB2.out).trans (keepsO_left HLY.out hl2)).from _, H7.out.same d7, some (size, lb2), .pointer (some ⟨p, 0, none⟩), HN.out, Blk.left HLY.out hl2 (H3.out.later HB2.out) (by decide), ⟨p, q, cap3, rfl, hl2.1, HQ.out.1, HQ.out.2, HO2.out⟩, Blk.left HLY.out hl2 (H5.out.later HB2.out) (by decide), Blk.left HLY.out hl2 (H6.out.later HB2.out) (by decide), d7, below_left (Below.after H8.out HB2.out) HQ.out.2 hl2⟩
  case done =>
    rintro D ys W hD rfl ⟨st, v, h1, h3, h4, h5, h6, h7, h8⟩ hK
    have hD' : w.heap.size ≤ D := by have := hb.size; omega
    have x3 := Boxed.cell (t := 23) h3
    have x3' : ∀ u, (W.setCell ⟨w.heap.size, 0, none⟩ u).cell? ⟨w.heap.size + 1 + 1, 0, none⟩ = some v := fun u => Boxed.cell (t := 23) (h3.other ⟨w.heap.size, 0, none⟩ u (show w.heap.size + 1 + 1 ≠ w.heap.size by omega))
    have x5 := Boxed.cell (t := 23) h5
    have y5 := h5.frozen 0
    have x6 := Boxed.cell (t := 4) h6
    have x6' : ∀ u, (W.setCell ⟨w.heap.size, 0, none⟩ u).cell? ⟨w.heap.size + 1, 0, none⟩ = some (.bool false) := fun u => Boxed.cell (t := 4) (h6.other ⟨w.heap.size, 0, none⟩ u (show w.heap.size + 1 ≠ w.heap.size by omega))
    have y6 := h6.frozen 0
    have FIN := hidW (fun b X hX => read_stored (D := D) (st := st) h4 h5 h6 h8 hK b X hX hD')
    have H1 := hidW h1
    cases st with
    | none =>
      have hv : v = .pointer none := h4
      subst hv
      clear h1 h3 h4 h5 h6 h7 h8 hb b0 b1 b2 b3 b4
      gi_wp2
      refine wpIn_then_false ?_
      gi_region
      all_goals gi_wp2
      all_goals
        obtain ⟨f1, f2, f3, f4, f5⟩ := FIN.out false _ rfl
        refine ⟨by simp, .inl ⟨_, _, rfl, run_takeDeferred f1, ?_⟩⟩
        exact ⟨_, read_results _ w.heap.size (w.heap.size + 1) _ _ _ rfl rfl f2 f3, f5, .inr ⟨none, _, H1.out, rfl, f4⟩⟩
    | some r =>
      obtain ⟨size, lb⟩ := r
      obtain ⟨p, q, cap3, hv, _⟩ := h4
      subst hv
      clear h1 h3 h5 h6 h7 h8 hb b0 b1 b2 b3 b4
      gi_wp2
      refine wpIn_then_false ?_
      gi_region
      all_goals gi_wp2
      all_goals
        obtain ⟨f1, f2, f3, f4, f5⟩ := FIN.out true _ rfl
        refine ⟨by simp, .inl ⟨_, _, rfl, run_takeDeferred f1, ?_⟩⟩
        exact ⟨_, read_results _ w.heap.size (w.heap.size + 1) _ _ _ rfl rfl f2 f3, f5, .inr ⟨some (size, lb), _, H1.out, rfl, f4⟩⟩
  case stop =>
    rintro D c pre W hD hp ⟨rfl, h1, h5, h6, h8⟩ hK
    gi_wp2
    refine ⟨by simp, .inl ⟨_, _, rfl, run_takeDeferred hK, ?_⟩⟩
    have hP' : Blk (W.putObj D (.deferred none)) w.heap.size #[.pointer none] 23 := (blk_own (β := Unit) _ _ _).putObj (s := ()) _ h5 hK rfl
    have hE' : Blk (W.putObj D (.deferred none)) (w.heap.size + 1) #[.bool false] 4 := (blk_own (β := Unit) _ _ _).putObj (s := ()) _ h6 hK rfl
    have := hb.size
    exact ⟨_, read_results _ w.heap.size (w.heap.size + 1) _ _ _ rfl rfl (Boxed.cell (t := 23) hP') (Boxed.cell (t := 4) hE'), h8.trans (belowK_b (w := w) (Nat.le_refl _) W D _ _ (by omega) hK rfl rfl), .inl ⟨rdF_prefix hp h1, rfl⟩⟩
theorem read_any (s : List UInt8) (hs : s.length ≤ 281474976710656) (w : World) (hE : Errs w) :
    Calls Tryz.prog 37 #[.string (bs s)] w fun e w' => Below w.heap.size w w' ∧ ((rdF none (pieces 10 s) = none ∧ e = .returned (.tuple #[.pointer none, .bool false])) ∨
      ∃ st v, rdF none (pieces 10 s) = some st ∧ e = .returned (.tuple #[v, .bool st.isSome]) ∧ BkAt w.heap.size w' v st) :=
  callsIn_wide.1 (read_in 6 (Nat.le_refl _) s hs w hE)
end Go.Proofs.YtmaekpfkkpkgpaaGreatDoor
