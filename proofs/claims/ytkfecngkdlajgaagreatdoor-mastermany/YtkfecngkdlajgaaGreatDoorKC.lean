/-
  A block tells how often it was erased.
  What errors.Is finds in an error of the manager.
  A block is freed.
  A manager over a chip as it is.
  A block that is not needed any more.
  Drafts: what is to stand in a block.
  A page that is to be copied.
  A draft in a Free block.
-/
import Derived.Test.YtkfecngkdlajgaaGreatDoorKA
import Derived.Test.YtkfecngkdlajgaaGreatDoorGE
import Derived.Test.YtkfecngkdlajgaaGreatDoorGC
import Derived.Test.YtkfecngkdlajgaaGreatDoorGQ
namespace Go.Proofs.YtkfecngkdlajgaaGreatDoor
open Go.RowKit
set_option maxRecDepth 10000

theorem brow_hd {w : World} {a : Option Addr} {l : List Nat} (h : Hd.BRow w a l) : BRow w a l := h
theorem foot_new {base : Nat} {w : World} {c : CS} (h : Lies base w c) {g : Nat} (hg : w.heap.size ≤ g) : ¬ c.foot g := fun hf => absurd (h.foot_lt hf) (by omega)
theorem own_ge {w1 w2 : World} {g z : Nat} {l : List Nat} (h : Hd.Own w1 w2 (.slice (some ⟨g, 0, none⟩) z z) l) (hl : 0 < l.length) : w1.heap.size ≤ g := by
  obtain ⟨g', cap, e, _, _, hg, _⟩ := Row.of_owns h.1 hl
  simp only [Value.slice.injEq, Option.some.injEq, Addr.mk.injEq] at e
  obtain rfl := e.1.1
  exact hg
theorem img_pos (p : List Nat) {z : Nat} (hz : 64 ≤ z) : 0 < (Hd.imgL p z).length := by rw [Hd.imgL_length]; omega
set_option maxHeartbeats 1000000 in
theorem mtell_any {base : Nat} {w : World} {m : Mg} {c : CS} (h : MLies base w m c) (n : Int) (count : Nat) (hc : count ≤ 2147483647) (hz : 64 ≤ c.gz) (hz2 : c.gz ≤ 512) :
    Calls Tryz.prog 131 #[.pointer (some ⟨m.p, 0, none⟩), .int .i64 n, .int .i64 (count : Nat)] w (DoPost base w m c (c.programM n 0 (Hd.imgL (Hd.countL count) c.gz))) := by
  have k1 := mpage_any h
  have k2 := fun W => Hd.count_made count c.gz W hc hz hz2
  have HM : Hid (MLies base w m c) := h
  obtain ⟨r, hr⟩ : ∃ r, r = c.programM n 0 (Hd.imgL (Hd.countL count) c.gz) := ⟨_, rfl⟩
  have HR : Hid (r = c.programM n 0 (Hd.imgL (Hd.countL count) c.gz)) := hr
  rw [← hr]
  clear h hr hc
  go_enter Tryz.func131, Tryz.ntmps131
  go_wp2_with (first
    | (go_at_call 67; refine k1.mono ?_; rintro e w1 ⟨rfl, hb1⟩; have HB1 : Hid (Below w.heap.size w w1) := hb1; clear hb1)
    | (go_at_call 169; refine (k2 _).mono ?_; rintro e w2 ⟨g, rfl, hl, hb2, ho⟩; have HB2 : Hid (Below w.heap.size w w2) := Below.after HB1.out hb2; have HG : Hid (Hd.Lies w2 (some ⟨g, 0, none⟩) c.gz c.gz (Hd.imgL (Hd.countL count) c.gz) ∧ Hd.Own w1 w2 (.slice (some ⟨g, 0, none⟩) c.gz c.gz) (Hd.imgL (Hd.countL count) c.gz)) := ⟨hl, ho⟩; clear hl hb2 ho)
    | (go_at_call 170; refine (mprogram_any (HM.out.later HB2.out) n 0 (some ⟨g, 0, none⟩) c.gz c.gz (Hd.imgL (Hd.countL count) c.gz) HG.out.1.len (brow_hd HG.out.1.row) HG.out.1.lt (.inr fun b o e => by cases e; exact foot_new HM.out.chip (Nat.le_trans HB1.out.size (own_ge HG.out.2 (img_pos _ hz))))).mono ?_; rw [← HR.out]; rintro e w3 ⟨v, rfl, he, hl3, hk3, hf3⟩))
  go_ret
  exact ⟨v, rfl, he, hl3, (Kept.of_below HB2.out).trans hk3, hf3⟩
set_option maxHeartbeats 1000000 in
theorem mtell_worn {base : Nat} {w : World} {m : Mg} {c : CS} (h : MLies base w m c) (n : Int) (count : Nat) (hc : ¬ count ≤ 2147483647) :
    Calls Tryz.prog 131 #[.pointer (some ⟨m.p, 0, none⟩), .int .i64 n, .int .i64 (count : Nat)] w (DoPost base w m c (5, c)) := by
  have k1 := mpage_any h
  have k2 := fun W => Hd.count_no (count : Nat) (c.gz : Nat) W (fun hh => hc (by have := hh.1.2; omega))
  have kf := failed_any
  have HM : Hid (MLies base w m c) := h
  clear h hc
  go_enter Tryz.func131, Tryz.ntmps131
  go_wp2_with (first
    | (go_at_call 67; refine k1.mono ?_; rintro e w1 ⟨rfl, hb1⟩; have HB1 : Hid (Below w.heap.size w w1) := hb1; clear hb1)
    | (go_at_call 169; refine (k2 _).mono ?_; rintro e w2 ⟨rfl, hb2⟩; have HB2 : Hid (Below w.heap.size w w2) := Below.after HB1.out hb2; clear hb2)
    | (go_at_call 155; refine (kf _ _ _ _).mono ?_; rintro e w3 ⟨v, rfl, he, hb3⟩))
  go_ret
  exact ⟨v, rfl, he, HM.out.later (Below.after HB2.out hb3), .of_below (Below.after HB2.out hb3), rfl⟩
/-- What tell does. -/
def CS.tellM (c : CS) (n : Int) (count : Nat) : Int × CS := if count ≤ 2147483647 then c.programM n 0 (Hd.imgL (Hd.countL count) c.gz) else (5, c)
theorem mtell_all {base : Nat} {w : World} {m : Mg} {c : CS} (h : MLies base w m c) (n : Int) (count : Nat) (hz : 64 ≤ c.gz) :
    Calls Tryz.prog 131 #[.pointer (some ⟨m.p, 0, none⟩), .int .i64 n, .int .i64 (count : Nat)] w (DoPost base w m c (c.tellM n count)) := by
  unfold CS.tellM
  split
  · exact mtell_any h n count (by assumption) hz h.chip.good.gs.2.2.2.2.2
  · exact mtell_worn h n count (by assumption)
end Go.Proofs.YtkfecngkdlajgaaGreatDoor
namespace Go.Proofs.YtkfecngkdlajgaaGreatDoor
open Go.RowKit Go.Extern.Stop Go.Stop Go.Extern
set_option maxRecDepth 10000

theorem assert_F_Is (v : Value) (xT : TypeId) (w : World) : (Instr.typeAssert (.iface 283 v) xT 230 true).run Tryz.prog w = .ok (.tuple #[.nilIface, .bool false]) w := run_typeAssert_lacksB Tryz.underlying230 (by kernel_rfl) (by kernel_rfl) v xT w
theorem assert_F_U1 (v : Value) (xT : TypeId) (w : World) : (Instr.typeAssert (.iface 283 v) xT 233 true).run Tryz.prog w = .ok (.tuple #[.iface 283 v, .bool true]) w := run_typeAssert_hasB Tryz.underlying233 (by kernel_rfl) v xT w
theorem assert_E_Is (v : Value) (xT : TypeId) (w : World) : (Instr.typeAssert (.iface 30 v) xT 230 true).run Tryz.prog w = .ok (.tuple #[.nilIface, .bool false]) w := run_typeAssert_lacksB Tryz.underlying230 (by kernel_rfl) (by kernel_rfl) v xT w
theorem assert_E_U1 (v : Value) (xT : TypeId) (w : World) : (Instr.typeAssert (.iface 30 v) xT 233 true).run Tryz.prog w = .ok (.tuple #[.nilIface, .bool false]) w := run_typeAssert_lacksB Tryz.underlying233 (by kernel_rfl) (by kernel_rfl) v xT w
theorem assert_E_U2 (v : Value) (xT : TypeId) (w : World) : (Instr.typeAssert (.iface 30 v) xT 234 true).run Tryz.prog w = .ok (.tuple #[.nilIface, .bool false]) w := run_typeAssert_lacksB Tryz.underlying234 (by kernel_rfl) (by kernel_rfl) v xT w
theorem unwrap_F (h : Value) (w : World) : (Go.method 465 283 h "Unwrap").run Tryz.prog w = .ok (265, h) w := by kernel_rfl
theorem unwrapF_any (b : Nat) (what : ByteArray) (block x : Int) (w : World) (h : Row w b [.string what, .int .i64 block, .iface 30 (.int .i64 x)] 285) :
    Calls Tryz.prog 265 #[.pointer (some ⟨b, 0, none⟩)] w fun e w' => e = .returned (.iface 30 (.int .i64 x)) ∧ w = w' := by
  have c2 : w.cell? ⟨b, 2, none⟩ = some (.iface 30 (.int .i64 x)) := h.cell (i := 2) rfl
  clear h
  go_enter Tryz.func265, Tryz.ntmps265
  go_wp2
  go_ret
  exact ⟨rfl, rfl⟩
set_option maxHeartbeats 4000000 in
theorem is_failure (b : Nat) (what : ByteArray) (block x y : Int) (w : World) (r : Row w b [.string what, .int .i64 block, .iface 30 (.int .i64 x)] 285) :
    Calls Tryz.prog 103 #[.iface 283 (.pointer (some ⟨b, 0, none⟩)), .iface 30 (.int .i64 y), .bool true] w fun ev w' => ev = .returned (.bool (x == y)) ∧ w = w' := by
  have cU := unwrapF_any b what block x w r
  clear r
  go_enter Tryz.func103, Tryz.ntmps103
  go_wp2
  go_loopg [0] 1 (fun gm s0 wr => w = wr ∧ Hid ((gm = 1 ∧ s0 = .iface 283 (.pointer (some ⟨b, 0, none⟩))) ∨ (gm = 0 ∧ s0 = .iface 30 (.int .i64 x))))
  case atStart => exact ⟨rfl, .inl ⟨rfl, rfl⟩⟩
  case round =>
    obtain ⟨rfl, HS⟩ := hrel
    rcases HS.out with ⟨h1, rfl⟩ | ⟨h1, rfl⟩
    · have HG : Hid (gk = 1) := h1
      clear h1 HS
      have s0 := Hd.eql_types 283 30 (.pointer (some ⟨b, 0, none⟩)) (.int .i64 y) (by decide) w
      have s1 := assert_F_Is
      have s2 := assert_F_U1
      have uF := unwrap_F
      go_wp2_with (go_at_call 265; refine cU.mono ?_; rintro e w' ⟨rfl, rfl⟩)
      go_roundg 0
      case measure => have := HG.out; omega
      case rel => exact ⟨rfl, .inr ⟨rfl, rfl⟩⟩
    · clear h1 HS
      have s0 := Hd.eql_int w x y
      cases hb : x == y with
      | true =>
        rw [hb] at s0
        have HE : Hid ((x == y) = true) := hb
        clear hb
        go_wp2
        go_ret
        exact ⟨by rw [HE.out]; rfl, rfl⟩
      | false =>
        rw [hb] at s0
        have HE : Hid ((x == y) = false) := hb
        clear hb
        have s1 := assert_E_Is
        have s2 := assert_E_U1
        have s3 := assert_E_U2
        go_wp2
        go_ret
        exact ⟨by rw [HE.out]; rfl, rfl⟩
set_option maxHeartbeats 4000000 in
theorem Is_any {w : World} {v : Value} {x : Int} (h : ErrV w v x) (y : Int) (hy : y ≠ 0) :
    Calls Tryz.prog 62 #[v, .iface 30 (.int .i64 y)] w fun ev w' => ev = .returned (.bool (x == y)) ∧ w = w' := by
  rcases h with ⟨rfl, rfl⟩ | ⟨_, B, what, block, rfl, hr⟩
  · have s0 := fun w => run_eql_iface_nil_left (P := Tryz.prog) (w := w) 30 (.int .i64 y) Tryz.underlying82
    have e : ((0 : Int) == y) = false := by simp; omega
    rw [e]
    clear e hy
    go_enter Tryz.func62, Tryz.ntmps62
    go_wp2
    go_ret
    exact ⟨rfl, rfl⟩
  · have h36 := @run_callFunc_extern Tryz.prog 102 _ ReflectliteType.typeOf Tryz.func102 (by kernel_rfl) (by kernel_rfl) (by kernel_rfl) (by kernel_rfl)
    have h96 := @run_callFunc_extern Tryz.prog 250 _ (ReflectliteType.method (fun t => do Rtype.noPackHeld "Comparable" t; pure (.bool (← typeInfo t).comparable))) Tryz.func250 (by kernel_rfl) (by kernel_rfl) (by kernel_rfl) (by kernel_rfl)
    have tO := Hd.typeOf_E
    have mC : ∀ (h : Value) (w : World), (Go.method 465 228 (.agg #[h]) "Comparable").run Tryz.prog w = _ := Hd.method_Comparable
    have cE : ∀ w, (callFunc 250 #[.agg #[.pointer (some ⟨3, 30, none⟩)]]).run Tryz.prog w = .ok (.value (.bool true)) w := fun w => by rw [h96, Hd.comparable_E]; rfl
    clear h96
    have cA := is_failure B what block x y w hr
    obtain ⟨q, hq⟩ : ∃ q, q = (x == y) := ⟨_, rfl⟩
    rw [← hq] at cA ⊢
    clear hq hr hy
    go_enter Tryz.func62, Tryz.ntmps62
    go_wp2_with (go_at_call 103; refine cA.mono ?_; rintro ev w3 ⟨rfl, rfl⟩)
    go_ret
    exact ⟨rfl, rfl⟩
end Go.Proofs.YtkfecngkdlajgaaGreatDoor
namespace Go.Proofs.YtkfecngkdlajgaaGreatDoor
open Go.RowKit
set_option maxRecDepth 10000

/-- What a call of the manager leaves: its error, itself, the chip. -/
def FPost (base : Nat) (w : World) (m : Mg) (c : CS) (r : Int × Mg × CS) (e : Ending) (w' : World) : Prop :=
  ∃ v, e = .returned v ∧ ErrV w' v r.1 ∧ MLies base w' r.2.1 r.2.2 ∧ Kept (MFoot m c) w w' ∧ r.2.2.foot = c.foot
/-- Behind an error: a block that failed is marked, and that is no error. -/
def endM (m : Mg) (i : Nat) (r : Int × CS) (k : Int) : Int × Mg × CS :=
  if r.1 = 0 then (0, m.put i ⟨2, k, 0, 0, 0, false⟩, r.2) else if r.1 = 5 then (0, m.put i badBl, (r.2.mark i).2) else (r.1, m, r.2)
def freeM (m : Mg) (c : CS) (i : Nat) (q : Nat) : Int × Mg × CS :=
  if (c.eraseM i).1 = 0 then endM m i ((c.eraseM i).2.tellM i (q + 1)) ((q : Int) + 1) else endM m i (c.eraseM i) ((q : Int) + 1)
theorem CS.eraseM_gz (c : CS) (n : Int) : (c.eraseM n).2.gz = c.gz := by
  unfold CS.eraseM CS.erase
  repeat' split
  all_goals rfl
/-- An error that tells 0 is none; any other is one. -/
theorem ErrV.nil {w : World} {v : Value} (h : ErrV w v 0) : v = .nilIface := by
  rcases h with ⟨_, h⟩ | ⟨h, _⟩
  · exact h
  · exact absurd rfl h
theorem ErrV.some {w : World} {v : Value} {x : Int} (h : ErrV w v x) (hx : x ≠ 0) : ∃ B, v = .iface 283 (.pointer (some ⟨B, 0, none⟩)) := by
  rcases h with ⟨h, _⟩ | ⟨_, B, _, _, h, _⟩
  · exact absurd h hx
  · exact ⟨B, h⟩
set_option maxHeartbeats 4000000 in
theorem mfree_any {base : Nat} {w : World} {m : Mg} {c : CS} (h : MLies base w m c) (i q : Nat) (o : Bl) (ho : m.bl[i]? = some o) (hq : o.cnt = q) (hq2 : q ≤ 2147483647) (hz : 64 ≤ c.gz) :
    Calls Tryz.prog 87 #[.pointer (some ⟨m.p, 0, none⟩), .int .i64 (i : Nat)] w (FPost base w m c (freeM m c i q)) := by
  obtain ⟨_, c1, _, _⟩ := h.cells
  have hi := (List.getElem?_eq_some_iff.1 ho).1
  have n0 : ¬ (i : Int) < 0 := by omega
  have n1 : (i : Int) < (m.bl.length : Int) := by omega
  have g1 := (h.blAt ho).c1
  rw [hq] at g1
  have HO : Hid (m.bl[i]? = some o) := ho
  have ke := merase_any h i
  have hgz := c.eraseM_gz i
  unfold freeM
  obtain ⟨r1, hr1⟩ : ∃ r1, r1 = c.eraseM i := ⟨_, rfl⟩
  rw [← hr1] at ke hgz ⊢
  have hz1 : 64 ≤ r1.2.gz := by omega
  have hq0 : (0 : Int) ≤ (q : Int) := by omega
  have hq3 : (q : Int) ≤ 2147483647 := by omega
  have HZ : Hid (64 ≤ r1.2.gz) := hz1
  clear hr1 hgz hz1 hz ho hq hq2 hi h
  have HI : Hid (i < m.bl.length) := (List.getElem?_eq_some_iff.1 HO.out).1
  by_cases hx : r1.1 = 0
  · rw [if_pos hx]
    obtain ⟨r2, hr2⟩ : ∃ r2, r2 = r1.2.tellM i (q + 1) := ⟨_, rfl⟩
    rw [← hr2]
    have HT : Hid (∀ W, MLies base W m r1.2 → Calls Tryz.prog 131 #[.pointer (some ⟨m.p, 0, none⟩), .int .i64 (i : Nat), .int .i64 ((q : Int) + 1)] W (DoPost base W m r1.2 r2)) := fun W hW => by
      have := mtell_all hW (i : Nat) (q + 1) HZ.out
      rw [← hr2, show ((q + 1 : Nat) : Int) = (q : Int) + 1 from by omega] at this
      exact this
    clear hr2
    have HX : Hid (r1.1 = 0) := hx
    clear hx
    unfold endM
    by_cases hy : r2.1 = 0
    · rw [if_pos hy]
      have HY : Hid (r2.1 = 0) := hy
      clear hy
      go_enter Tryz.func87, Tryz.ntmps87
      go_wp2_with (first
        | (go_at_call 130; refine ke.mono ?_; rintro e w1 ⟨v1, rfl, he1, hl1, hk1, hf1⟩; rw [HX.out] at he1; obtain rfl := he1.nil; have HL1 : Hid (MLies base w1 m r1.2 ∧ Kept c.foot w w1 ∧ r1.2.foot = c.foot) := ⟨hl1, hk1, hf1⟩; clear hl1 hk1 hf1 he1)
        | (go_at_call 131; refine (HT.out _ HL1.out.1).mono ?_; rintro e w2 ⟨v2, rfl, he2, hl2, hk2, hf2⟩; rw [HY.out] at he2; obtain rfl := he2.nil; have HL2 : Hid (MLies base w2 m r2.2 ∧ Kept r1.2.foot w1 w2 ∧ r2.2.foot = r1.2.foot) := ⟨hl2, hk2, hf2⟩; have d1 := hl2.cells.2.1; have fz := hl2.row.frozen; obtain ⟨b0, b1, b2, b3, b4, b5⟩ := hl2.blAt HO.out; clear hl2 hk2 hf2 he2))
      have hk12 : Kept c.foot w w2 := HL1.out.2.1.trans (by have := HL2.out.2.1; rw [HL1.out.2.2] at this; exact this)
      have HP : Hid (MLies base (put6 w2 m.bb i ⟨2, (q : Int) + 1, 0, 0, 0, false⟩) (m.put i ⟨2, (q : Int) + 1, 0, 0, 0, false⟩) r2.2 ∧ Kept (MFoot m c) w (put6 w2 m.bb i ⟨2, (q : Int) + 1, 0, 0, 0, false⟩) ∧ r2.2.foot = c.foot) := ⟨HL2.out.1.put HO.out _, (hk12.mono (fun _ hk => .inr (.inr hk))).trans ((kept6 w2 m.bb i _).mono (fun _ hk => .inr (.inl hk))), HL2.out.2.2.trans HL1.out.2.2⟩
      simp only [put6] at HP
      clear hk12
      go_ret
      exact ⟨.nilIface, rfl, .inl ⟨rfl, rfl⟩, HP.out.1, HP.out.2.1, HP.out.2.2⟩
    · have HY : Hid (r2.1 ≠ 0) := hy
      rw [if_neg hy]
      by_cases h5 : r2.1 = 5
      · rw [if_pos h5]
        have HF : Hid ((r2.1 == 5) = true) := (by simp [h5] : (r2.1 == 5) = true)
        clear h5 hy
        go_enter Tryz.func87, Tryz.ntmps87
        go_wp2_with (first
          | (go_at_call 130; refine ke.mono ?_; rintro e w1 ⟨v1, rfl, he1, hl1, hk1, hf1⟩; rw [HX.out] at he1; obtain rfl := he1.nil; have HL1 : Hid (MLies base w1 m r1.2 ∧ Kept c.foot w w1 ∧ r1.2.foot = c.foot) := ⟨hl1, hk1, hf1⟩; clear hl1 hk1 hf1 he1)
          | (go_at_call 131; refine (HT.out _ HL1.out.1).mono ?_; rintro e w2 ⟨v2, rfl, he2, hl2, hk2, hf2⟩; obtain ⟨B, rfl⟩ := he2.some HY.out; have kI := Is_any he2 5 (by decide); rw [HF.out] at kI; have HE : Hid (ErrV w2 (.iface 283 (.pointer (some ⟨B, 0, none⟩))) r2.1) := he2; have HL2 : Hid (MLies base w2 m r2.2 ∧ Kept c.foot w w2 ∧ r2.2.foot = c.foot) := ⟨hl2, HL1.out.2.1.trans (by rw [HL1.out.2.2] at hk2; exact hk2), hf2.trans HL1.out.2.2⟩; clear hl2 hk2 hf2 he2)
          | (go_at_call 62; refine kI.mono ?_; rintro e w3 ⟨rfl, rfl⟩)
          | (go_at_call 132; refine (mretire_any HL2.out.1 i HI.out).mono ?_; rintro e w4 ⟨rfl, hl4, hk4, hf4⟩; have HL4 : Hid (MLies base w4 (m.put i badBl) (r2.2.mark i).2 ∧ Kept (MFoot m c) w w4 ∧ (r2.2.mark i).2.foot = c.foot) := ⟨hl4, (HL2.out.2.1.mono (fun _ hk => .inr (.inr hk))).trans (hk4.mono (fun k hk => by rcases hk with hk | hk | hk; exact .inl hk; exact .inr (.inl hk); exact .inr (.inr (HL2.out.2.2 ▸ hk)))), hf4.trans HL2.out.2.2⟩; clear hl4 hk4 hf4))
        go_ret
        exact ⟨.nilIface, rfl, .inl ⟨rfl, rfl⟩, HL4.out.1, HL4.out.2.1, HL4.out.2.2⟩
      · rw [if_neg h5]
        have HF : Hid ((r2.1 == 5) = false) := (by simp [h5] : (r2.1 == 5) = false)
        clear h5 hy
        go_enter Tryz.func87, Tryz.ntmps87
        go_wp2_with (first
          | (go_at_call 130; refine ke.mono ?_; rintro e w1 ⟨v1, rfl, he1, hl1, hk1, hf1⟩; rw [HX.out] at he1; obtain rfl := he1.nil; have HL1 : Hid (MLies base w1 m r1.2 ∧ Kept c.foot w w1 ∧ r1.2.foot = c.foot) := ⟨hl1, hk1, hf1⟩; clear hl1 hk1 hf1 he1)
          | (go_at_call 131; refine (HT.out _ HL1.out.1).mono ?_; rintro e w2 ⟨v2, rfl, he2, hl2, hk2, hf2⟩; obtain ⟨B, rfl⟩ := he2.some HY.out; have kI := Is_any he2 5 (by decide); rw [HF.out] at kI; have HE : Hid (ErrV w2 (.iface 283 (.pointer (some ⟨B, 0, none⟩))) r2.1) := he2; have HL2 : Hid (MLies base w2 m r2.2 ∧ Kept c.foot w w2 ∧ r2.2.foot = c.foot) := ⟨hl2, HL1.out.2.1.trans (by rw [HL1.out.2.2] at hk2; exact hk2), hf2.trans HL1.out.2.2⟩; clear hl2 hk2 hf2 he2)
          | (go_at_call 62; refine kI.mono ?_; rintro e w3 ⟨rfl, rfl⟩))
        go_ret
        exact ⟨_, rfl, HE.out, HL2.out.1, HL2.out.2.1.mono (fun _ hk => .inr (.inr hk)), HL2.out.2.2⟩
  · rw [if_neg hx]
    obtain ⟨r2, hr2⟩ : ∃ r2, r2 = r1 := ⟨_, rfl⟩
    rw [← hr2] at ke hx ⊢
    unfold endM
    clear hr2 HZ
    have hy := hx
    clear hx
    have HY : Hid (r2.1 ≠ 0) := hy
    rw [if_neg hy]
    by_cases h5 : r2.1 = 5
    · rw [if_pos h5]
      have HF : Hid ((r2.1 == 5) = true) := (by simp [h5] : (r2.1 == 5) = true)
      clear h5 hy
      go_enter Tryz.func87, Tryz.ntmps87
      go_wp2_with (first
        | (go_at_call 130; refine ke.mono ?_; rintro e w2 ⟨v2, rfl, he2, hl2, hk2, hf2⟩; obtain ⟨B, rfl⟩ := he2.some HY.out; have kI := Is_any he2 5 (by decide); rw [HF.out] at kI; have HE : Hid (ErrV w2 (.iface 283 (.pointer (some ⟨B, 0, none⟩))) r2.1) := he2; have HL2 : Hid (MLies base w2 m r2.2 ∧ Kept c.foot w w2 ∧ r2.2.foot = c.foot) := ⟨hl2, hk2, hf2⟩; clear hl2 hk2 hf2 he2)
        | (go_at_call 62; refine kI.mono ?_; rintro e w3 ⟨rfl, rfl⟩)
        | (go_at_call 132; refine (mretire_any HL2.out.1 i HI.out).mono ?_; rintro e w4 ⟨rfl, hl4, hk4, hf4⟩; have HL4 : Hid (MLies base w4 (m.put i badBl) (r2.2.mark i).2 ∧ Kept (MFoot m c) w w4 ∧ (r2.2.mark i).2.foot = c.foot) := ⟨hl4, (HL2.out.2.1.mono (fun _ hk => .inr (.inr hk))).trans (hk4.mono (fun k hk => by rcases hk with hk | hk | hk; exact .inl hk; exact .inr (.inl hk); exact .inr (.inr (HL2.out.2.2 ▸ hk)))), hf4.trans HL2.out.2.2⟩; clear hl4 hk4 hf4))
      go_ret
      exact ⟨.nilIface, rfl, .inl ⟨rfl, rfl⟩, HL4.out.1, HL4.out.2.1, HL4.out.2.2⟩
    · rw [if_neg h5]
      have HF : Hid ((r2.1 == 5) = false) := (by simp [h5] : (r2.1 == 5) = false)
      clear h5 hy
      go_enter Tryz.func87, Tryz.ntmps87
      go_wp2_with (first
        | (go_at_call 130; refine ke.mono ?_; rintro e w2 ⟨v2, rfl, he2, hl2, hk2, hf2⟩; obtain ⟨B, rfl⟩ := he2.some HY.out; have kI := Is_any he2 5 (by decide); rw [HF.out] at kI; have HE : Hid (ErrV w2 (.iface 283 (.pointer (some ⟨B, 0, none⟩))) r2.1) := he2; have HL2 : Hid (MLies base w2 m r2.2 ∧ Kept c.foot w w2 ∧ r2.2.foot = c.foot) := ⟨hl2, hk2, hf2⟩; clear hl2 hk2 hf2 he2)
        | (go_at_call 62; refine kI.mono ?_; rintro e w3 ⟨rfl, rfl⟩))
      go_ret
      exact ⟨_, rfl, HE.out, HL2.out.1, HL2.out.2.1.mono (fun _ hk => .inr (.inr hk)), HL2.out.2.2⟩
end Go.Proofs.YtkfecngkdlajgaaGreatDoor
namespace Go.Proofs.YtkfecngkdlajgaaGreatDoor
open Go.RowKit
set_option maxRecDepth 10000

/-- The greatest Seq. -/
def maxS (l : List Bl) : Int := l.foldl (fun a b => max a b.seq) 0
theorem maxS_take {l : List Bl} {k : Nat} {b : Bl} (h : l[k]? = some b) : maxS (l.take (k + 1)) = max (maxS (l.take k)) b.seq := by
  unfold maxS
  rw [List.take_add_one, h]
  simp
def mgRow (cp g n cap : Nat) (s : Int) : List Value := [.pointer (some ⟨cp, 0, none⟩), .slice (some ⟨g, 0, none⟩) n cap, .int .u64 s, .bool false]
theorem maxS_ge (l : List Bl) : 0 ≤ maxS l := by
  have : ∀ (l : List Bl) (a : Int), 0 ≤ a → 0 ≤ l.foldl (fun a b => max a b.seq) a := by
    intro l
    induction l with
    | nil => intro a h; exact h
    | cons x r ih => intro a h; exact ih _ (by show 0 ≤ max a x.seq; omega)
  exact this l 0 (by omega)
theorem maxS_nat (l : List Bl) : ((maxS l).toNat : Int) = maxS l := Int.toNat_of_nonneg (maxS_ge l)
theorem below_drew' (w : World) : Below w.heap.size w w.drew := (Below.refl _ _).drew
theorem Lies.later' {base : Nat} {w w' : World} {c : CS} (h : Lies base w c) (hb : Below w.heap.size w w') : Lies base w' c := h.later hb
/-- While the blocks are looked at. -/
structure Ov (w1 W : World) (cp g n cap : Nat) (s : Int) : Prop where
  box : Row W w1.heap.size (mgRow cp g n cap s) 70
  bel : Below w1.heap.size w1 W
set_option maxHeartbeats 2000000 in
theorem over_on {base : Nat} {w : World} {c : CS} (h : Lies base w c) (hon : c.on = true) (hg : Hd.Glb w) :
    Calls Tryz.prog 45 #[.pointer (some ⟨c.p, 0, none⟩)] w fun e w' => ∃ m : Mg, e = .returned (.tuple #[.pointer (some ⟨m.p, 0, none⟩), .int .i64 0]) ∧ MLies base w' m c ∧ m.bl = scanV c.vw ∧ (m.seq : Int) = maxS (scanV c.vw) ∧ m.lost = false ∧ Below w.heap.size w w' := by
  have k1 := scan_on h c.p rfl hon hg
  have HLI : Hid (Lies base w c) := h
  have hgb := h.chip
  clear hon hgb
  have hgs := h.good.gs
  have HLen : Hid ((scanV c.vw).length = c.gb) := scanV_length c.vw
  obtain ⟨l, hl⟩ : ∃ l, l = scanV c.vw := ⟨_, rfl⟩
  rw [← hl] at k1 HLen ⊢
  have hb1 : 1 ≤ c.gb := hgs.1
  have hb2 : c.gb ≤ 256 := hgs.2.1
  clear hl h hg hgs
  go_enter Tryz.func45, Tryz.ntmps45
  go_wp2_with (go_at_call 83; refine k1.mono ?_; rintro e w1 ⟨g, cap, rfl, ho, hb⟩; have HO : Hid (OwnL w.heap.size w1 g c.gb cap l) := ho; have HB : Hid (Below w.heap.size w w1) := hb; clear ho hb)
  go_loopg [23] c.gb (fun kx s23 wr => ∃ k : Nat, k + kx = c.gb ∧ s23 = .int .i64 (k : Nat) ∧ Hid (Ov w1 wr c.p g c.gb cap (maxS (l.take k))))
  case atStart => exact ⟨0, by omega, rfl, ⟨Row.new w1 [_, _, _, _] _, below_new w1 _⟩⟩
  case round =>
    obtain ⟨k, hk, rfl, HV⟩ := hrel
    by_cases hlt : k < c.gb
    · obtain ⟨b, hb⟩ : ∃ b, l[k]? = some b := ⟨_, List.getElem?_eq_getElem (by have := HLen.out; omega)⟩
      have HS : Hid (maxS (l.take (k + 1)) = max (maxS (l.take k)) b.seq) := maxS_take hb
      have hA : BlAt wr g (k * 6) b := by
        rcases (HO.out.later HV.out.bel).row with e | ⟨b', off, e, hx⟩
        · rw [e] at hb; simp at hb
        · cases e
          have := hx k b hb
          rwa [Nat.zero_add] at this
      obtain ⟨g0, g1, g2, g3, g4, g5⟩ := hA
      obtain ⟨S, hS⟩ : ∃ S, S = maxS (l.take k) := ⟨_, rfl⟩
      rw [← hS] at HV HS
      clear hS hb
      have c2 : wr.cell? ⟨w1.heap.size, 2, none⟩ = some (.int .u64 S) := HV.out.box.cell (i := 2) rfl
      have n0 : ¬ (k : Int) < 0 := by omega
      have n1 : (k : Int) < (c.gb : Int) := by omega
      have hw : w1.heap.size < wr.heap.size := HV.out.box.lt
      have fz := HV.out.box.frozen
      go_wp2
      have HV2 : Hid (Ov w1 (wr.alloc (.cells #[.int .i64 b.st, .int .i64 b.cnt, .int .i64 b.leb, .int .i64 b.used, .int .u64 b.seq, .bool b.closed] 156)) c.p g c.gb cap S) := ⟨HV.out.box.later (below_new _ _), Below.after HV.out.bel (below_new _ _)⟩
      have hR : Row (wr.alloc (.cells #[.int .i64 b.st, .int .i64 b.cnt, .int .i64 b.leb, .int .i64 b.used, .int .u64 b.seq, .bool b.closed] 156)) wr.heap.size (blCells b) 156 := Row.new wr (blCells b) _
      obtain ⟨W2, hW2⟩ : ∃ W2, W2 = wr.alloc (.cells #[.int .i64 b.st, .int .i64 b.cnt, .int .i64 b.leb, .int .i64 b.used, .int .u64 b.seq, .bool b.closed] 156) := ⟨_, rfl⟩
      rw [← hW2] at HV2 hR ⊢
      clear hW2 g0 g1 g2 g3 g4 g5 c2 fz HV
      have d2 : W2.cell? ⟨w1.heap.size, 2, none⟩ = some (.int .u64 S) := HV2.out.box.cell (i := 2) rfl
      have d4 : W2.cell? ⟨wr.heap.size, 4, none⟩ = some (.int .u64 b.seq) := hR.cell (i := 4) rfl
      have fz := HV2.out.box.frozen
      clear hR
      go_region
      have HV3 : Hid (Ov w1 (W2.setCell ⟨w1.heap.size, 2, none⟩ (.int .u64 (max S b.seq))).drew c.p g c.gb cap (max S b.seq)) := ⟨(HV2.out.box.set (i := 2) (.int .u64 (max S b.seq)) (by simp [mgRow])).later (below_drew' _), (HV2.out.bel.setCell (Nat.le_refl _) _).drew⟩
      go_wp2
      go_roundg (c.gb - (k + 1))
      case measure => omega
      case rel => exact ⟨k + 1, by omega, by go_num, by rw [HS.out]; exact HV3⟩
    · have hkl : k = c.gb := by omega
      have HT : Hid (l.take k = l) := List.take_of_length_le (by have := HLen.out; omega)
      rw [HT.out] at HV
      clear HT
      go_wp2
      refine bodyPost_ret (v := .tuple #[.pointer (some ⟨w1.heap.size, 0, none⟩), .int .i64 0]) ?_ rfl ⟨⟨w1.heap.size, g, cap, l, (maxS l).toNat, false⟩, rfl, ?_, rfl, maxS_nat l, rfl, Below.after HB.out HV.out.bel⟩
      · simp [results, Tryz.f45, go_sem]
      · obtain ⟨g', cap', e, q1, q2, q3, hr⟩ := Row.of_owns (HO.out.later HV.out.bel).2 hb1
        simp only [Value.slice.injEq, Option.some.injEq, Addr.mk.injEq] at e
        obtain rfl := e.1.1
        obtain rfl := e.2.2
        have hbs : base ≤ w.heap.size := Nat.le_trans (HLI.out.low _ (.inl rfl)) (Nat.le_of_lt (HLI.out.foot_lt (.inl rfl)))
        refine ⟨?_, hr, (HLI.out.later HB.out).later' HV.out.bel, HLen.out, ⟨by show l.length ≤ _; rw [HLen.out]; exact q1, q2⟩, ⟨Nat.le_trans hbs HB.out.size, Nat.le_trans hbs q3⟩⟩
        have := HV.out.box
        unfold mgRow at this
        unfold mgCells
        simp only [HLen.out, maxS_nat]
        exact this
end Go.Proofs.YtkfecngkdlajgaaGreatDoor
namespace Go.Proofs.YtkfecngkdlajgaaGreatDoor
open Go.RowKit
set_option maxRecDepth 10000

theorem mdrop_none {base : Nat} {w : World} {m : Mg} {c : CS} (h : MLies base w m c) (n : Int) (hn : n < 0) :
    Calls Tryz.prog 80 #[.pointer (some ⟨m.p, 0, none⟩), .int .i64 n] w (FPost base w m c (0, m, c)) := by
  have HM : Hid (MLies base w m c) := h
  clear h
  go_enter Tryz.func80, Tryz.ntmps80
  go_wp2
  go_ret
  exact ⟨_, rfl, .inl ⟨rfl, rfl⟩, HM.out, Kept.refl _ _, rfl⟩
theorem mdrop_some {base : Nat} {w : World} {m : Mg} {c : CS} (h : MLies base w m c) (i q : Nat) (o : Bl) (ho : m.bl[i]? = some o) (hq : o.cnt = q) (hq2 : q ≤ 2147483647) (hz : 64 ≤ c.gz) :
    Calls Tryz.prog 80 #[.pointer (some ⟨m.p, 0, none⟩), .int .i64 (i : Nat)] w (FPost base w m c (freeM m c i q)) := by
  have k1 := mfree_any h i q o ho hq hq2 hz
  obtain ⟨r, hr⟩ : ∃ r, r = freeM m c i q := ⟨_, rfl⟩
  rw [← hr] at k1 ⊢
  have n0 : ¬ (i : Int) < 0 := by omega
  clear h ho hq hq2 hz hr
  go_enter Tryz.func80, Tryz.ntmps80
  go_wp2_with (go_at_call 87; refine k1.mono ?_; rintro e w1 ⟨v, rfl, he, hl, hk, hf⟩)
  go_ret
  exact ⟨v, rfl, he, hl, hk, hf⟩
end Go.Proofs.YtkfecngkdlajgaaGreatDoor
namespace Go.Proofs.YtkfecngkdlajgaaGreatDoor
open Go.RowKit
set_option maxRecDepth 10000

@[local go_sem] theorem run_store_func (P : Program) (w : World) (a : Addr) (m : Mode) (f : Fn) (x y : Array Value) : (store a (.func f x y) m).run P w = stored P w a (.func f x y) m := run_store P w a _ m rfl
theorem grown1_any (B : Nat) (i : Int) (a : Option Addr) (n cap : Nat) (w : World) (h : w.cell? ⟨B, 0, none⟩ = some (.slice a n cap)) :
    Calls Tryz.prog 223 #[.int .i64 i, .pointer (some ⟨B, 0, none⟩)] w fun e w' => e = .returned (.tuple #[.slice a n cap, .nilIface]) ∧ w = w' := by
  go_enter Tryz.func223, Tryz.ntmps223
  go_wp2
  refine bodyPost_ret (v := .tuple #[.slice a n cap, .nilIface]) ?_ rfl ⟨rfl, rfl⟩
  simp [results, Tryz.f223, go_sem]
set_option maxHeartbeats 1000000 in
theorem transfer_grown {base : Nat} {w : World} {m : Mg} {c : CS} (h : MLies base w m c) (n B i : Nat) (hi : i ≤ 64) (leb p q : Int) (a : Option Addr) (k cap : Nat) (data : List Nat) (hB : w.cell? ⟨B, 0, none⟩ = some (.slice a k cap)) (hm : k = data.length) (hd : BRow w a data) (hd2 : ∀ x ∈ data, x < 256) (hdne : data = [] ∨ ∀ b o, a = some ⟨b, o, none⟩ → ¬ c.foot b) :
    Calls Tryz.prog 192 #[.pointer (some ⟨m.p, 0, none⟩), .int .i64 (n : Nat), .int .i64 (i : Nat), .agg #[.int .i64 leb, .int .i64 p, .int .i64 q, .func (.func 223) #[] #[.pointer (some ⟨B, 0, none⟩)]]] w (DoPost base w m c (c.programM n (2 + (i : Int)) data)) := by
  obtain ⟨W, hW⟩ : ∃ W, W = w.alloc (.cells #[.int .i64 leb, .int .i64 p, .int .i64 q, .func (.func 223) #[] #[.pointer (some ⟨B, 0, none⟩)]] 149) := ⟨_, rfl⟩
  have HBW : Hid (Below w.heap.size w W) := by rw [hW]; exact below_new w _
  have k1 : ∀ j : Int, Calls Tryz.prog 223 #[.int .i64 j, .pointer (some ⟨B, 0, none⟩)] W fun e w' => e = .returned (.tuple #[.slice a k cap, .nilIface]) ∧ W = w' := fun j => grown1_any B j a k cap W (by rw [HBW.out.cell (p := ⟨B, 0, none⟩) (World.block_lt_of_cell? w _ hB)]; exact hB)
  have k2 := mprogram_any (h.later HBW.out) (n : Nat) (2 + (i : Int)) a k cap data hm (hd.later HBW.out) hd2 hdne
  obtain ⟨r, hr⟩ : ∃ r, r = c.programM n (2 + (i : Int)) data := ⟨_, rfl⟩
  rw [← hr] at k2 ⊢
  have i0 : (0 : Int) ≤ (i : Int) := by omega
  have i1 : (i : Int) ≤ 64 := by omega
  clear h hB hm hd hd2 hdne hr hi
  go_enter Tryz.func192, Tryz.ntmps192
  go_wp2_with fail
  rw [← hW]
  clear hW
  go_wp2_with (first
    | (go_at_call 223; refine (k1 _).mono ?_; rintro e w1 ⟨rfl, rfl⟩)
    | (go_at_call 170; refine k2.mono ?_; rintro e w2 ⟨v, rfl, he, hl, hk, hf⟩))
  go_ret
  exact ⟨v, rfl, he, hl, (Kept.of_below HBW.out).trans hk, hf⟩
end Go.Proofs.YtkfecngkdlajgaaGreatDoor
namespace Go.Proofs.YtkfecngkdlajgaaGreatDoor
open Go.RowKit
set_option maxRecDepth 10000

theorem mread_ok {base : Nat} {w : World} {m : Mg} {c : CS} (h : MLies base w m c) (n i : Nat) (hi : i ≤ 64) (l : List Nat) (hr : c.read n (2 + (i : Int)) = (l, 0)) :
    Calls Tryz.prog 226 #[.pointer (some ⟨m.p, 0, none⟩), .int .i64 (n : Nat), .int .i64 (i : Nat)] w fun e w' => ∃ a k cap, e = .returned (.tuple #[.slice a k cap, .nilIface]) ∧ Got w w' l a k cap := by
  obtain ⟨c0, _, _, _⟩ := h.cells
  have k1 := read_any h.chip (n : Nat) (2 + (i : Int))
  rw [hr] at k1
  have i0 : (0 : Int) ≤ (i : Int) := by omega
  have i1 : (i : Int) ≤ 64 := by omega
  clear h hr hi
  go_enter Tryz.func226, Tryz.ntmps226
  go_wp2_with (go_at_call 85; refine k1.mono ?_; rintro e w1 ⟨a, k, cap, rfl, hg⟩; have HG : Hid (Got w w1 l a k cap) := hg; clear hg)
  refine bodyPost_ret (v := .tuple #[.slice a k cap, .nilIface]) ?_ rfl ⟨a, k, cap, rfl, HG.out⟩
  simp [results, Tryz.f226, go_sem]
end Go.Proofs.YtkfecngkdlajgaaGreatDoor
namespace Go.Proofs.YtkfecngkdlajgaaGreatDoor
open Go.RowKit
set_option maxRecDepth 10000

def Mg.next (m : Mg) : Mg := { m with seq := m.seq + 1 }
/-- Pages, one behind the other, from page i on. -/
def pagesM (c : CS) (n : Int) : Nat → List (List Nat) → Int × CS
  | _, [] => (0, c)
  | i, d :: r => if (c.programM n (2 + (i : Int)) d).1 = 0 then pagesM (c.programM n (2 + (i : Int)) d).2 n (i + 1) r else c.programM n (2 + (i : Int)) d
theorem MLies.next {base : Nat} {w : World} {m : Mg} {c : CS} (h : MLies base w m c) : MLies base (w.setCell ⟨m.p, 2, none⟩ (.int .u64 ((m.seq : Int) + 1))) m.next c :=
  h.wroteP ((Kept.refl (fun k => k = m.p) w).setCell (p := ⟨m.p, 2, none⟩) rfl _) rfl rfl rfl rfl (by
    have := h.box.set (i := 2) (.int .u64 ((m.seq : Int) + 1)) (by simp [mgCells])
    have e : mgCells m.next c.p = (mgCells m c.p).set 2 (.int .u64 ((m.seq : Int) + 1)) := by unfold mgCells Mg.next; simp
    rw [e]; exact this)
end Go.Proofs.YtkfecngkdlajgaaGreatDoor
