/-
  A block tells how often it was erased.
  What errors.Is finds in an error of the manager.
  A block is freed.
-/
import Derived.Test.YtfcmkkkdccnhgaaGreatDoorKA
import Derived.Test.YtfcmkkkdccnhgaaGreatDoorGE
import Derived.Test.YtfcmkkkdccnhgaaGreatDoorGC
namespace Go.Proofs.YtfcmkkkdccnhgaaGreatDoor
open Go.RowKit
set_option maxRecDepth 10000

theorem brow_hd {w : World} {a : Option Addr} {l : List Nat} (h : Hd.BRow w a l) : BRow w a l := h
theorem foot_new {base : Nat} {w : World} {c : CS} (h : Lies base w c) {g : Nat} (hg : w.heap.size ≤ g) : ¬ c.foot g := fun hf => absurd (h.foot_lt hf) (by omega)
theorem own_ge {w1 w2 : World} {g z : Nat} {l : List Nat} (h : Hd.Own w1 w2 (.slice (some ⟨g, 0, none⟩) z z) l) (hl : 0 < l.length) : w1.heap.size ≤ g := by
  obtain ⟨g', cap, e, _, _, hg, _⟩ := Row.of_owns h.1 hl
  simp only [Value.slice.injEq, Option.some.injEq, Addr.mk.injEq] at e
  obtain rfl := e.1.1
  exact hg
theorem img_pos (p : List Nat) {z : Nat} (hz : 64 ≤ z) : 0 < (Hd.imgL p z).length := by rw [Hd.imgL_length]; omega
set_option maxHeartbeats 1000000 in
theorem mtell_any {base : Nat} {w : World} {m : Mg} {c : CS} (h : MLies base w m c) (n : Int) (count : Nat) (hc : count ≤ 2147483647) (hz : 64 ≤ c.gz) (hz2 : c.gz ≤ 512) :
    Calls Tryz.prog 107 #[.pointer (some ⟨m.p, 0, none⟩), .int .i64 n, .int .i64 (count : Nat)] w (DoPost base w m c (c.programM n 0 (Hd.imgL (Hd.countL count) c.gz))) := by
  have k1 := mpage_any h
  have k2 := fun W => Hd.count_made count c.gz W hc hz hz2
  have HM : Hid (MLies base w m c) := h
  obtain ⟨r, hr⟩ : ∃ r, r = c.programM n 0 (Hd.imgL (Hd.countL count) c.gz) := ⟨_, rfl⟩
  have HR : Hid (r = c.programM n 0 (Hd.imgL (Hd.countL count) c.gz)) := hr
  rw [← hr]
  clear h hr hc
  go_enter Tryz.func107, Tryz.ntmps107
  go_wp2_with (first
    | (go_at_call 40; refine k1.mono ?_; rintro e w1 ⟨rfl, hb1⟩; have HB1 : Hid (Below w.heap.size w w1) := hb1; clear hb1)
    | (go_at_call 144; refine (k2 _).mono ?_; rintro e w2 ⟨g, rfl, hl, hb2, ho⟩; have HB2 : Hid (Below w.heap.size w w2) := Below.after HB1.out hb2; have HG : Hid (Hd.Lies w2 (some ⟨g, 0, none⟩) c.gz c.gz (Hd.imgL (Hd.countL count) c.gz) ∧ Hd.Own w1 w2 (.slice (some ⟨g, 0, none⟩) c.gz c.gz) (Hd.imgL (Hd.countL count) c.gz)) := ⟨hl, ho⟩; clear hl hb2 ho)
    | (go_at_call 81; refine (mprogram_any (HM.out.later HB2.out) n 0 (some ⟨g, 0, none⟩) c.gz c.gz (Hd.imgL (Hd.countL count) c.gz) HG.out.1.len (brow_hd HG.out.1.row) HG.out.1.lt (.inr fun b o e => by cases e; exact foot_new HM.out.chip (Nat.le_trans HB1.out.size (own_ge HG.out.2 (img_pos _ hz))))).mono ?_; rw [← HR.out]; rintro e w3 ⟨v, rfl, he, hl3, hk3, hf3⟩))
  go_ret
  exact ⟨v, rfl, he, hl3, (Kept.of_below HB2.out).trans hk3, hf3⟩
set_option maxHeartbeats 1000000 in
theorem mtell_worn {base : Nat} {w : World} {m : Mg} {c : CS} (h : MLies base w m c) (n : Int) (count : Nat) (hc : ¬ count ≤ 2147483647) :
    Calls Tryz.prog 107 #[.pointer (some ⟨m.p, 0, none⟩), .int .i64 n, .int .i64 (count : Nat)] w (DoPost base w m c (5, c)) := by
  have k1 := mpage_any h
  have k2 := fun W => Hd.count_no (count : Nat) (c.gz : Nat) W (fun hh => hc (by have := hh.1.2; omega))
  have kf := failed_any
  have HM : Hid (MLies base w m c) := h
  clear h hc
  go_enter Tryz.func107, Tryz.ntmps107
  go_wp2_with (first
    | (go_at_call 40; refine k1.mono ?_; rintro e w1 ⟨rfl, hb1⟩; have HB1 : Hid (Below w.heap.size w w1) := hb1; clear hb1)
    | (go_at_call 144; refine (k2 _).mono ?_; rintro e w2 ⟨rfl, hb2⟩; have HB2 : Hid (Below w.heap.size w w2) := Below.after HB1.out hb2; clear hb2)
    | (go_at_call 80; refine (kf _ _ _ _).mono ?_; rintro e w3 ⟨v, rfl, he, hb3⟩))
  go_ret
  exact ⟨v, rfl, he, HM.out.later (Below.after HB2.out hb3), .of_below (Below.after HB2.out hb3), rfl⟩
/-- What tell does. -/
def CS.tellM (c : CS) (n : Int) (count : Nat) : Int × CS := if count ≤ 2147483647 then c.programM n 0 (Hd.imgL (Hd.countL count) c.gz) else (5, c)
theorem mtell_all {base : Nat} {w : World} {m : Mg} {c : CS} (h : MLies base w m c) (n : Int) (count : Nat) (hz : 64 ≤ c.gz) :
    Calls Tryz.prog 107 #[.pointer (some ⟨m.p, 0, none⟩), .int .i64 n, .int .i64 (count : Nat)] w (DoPost base w m c (c.tellM n count)) := by
  unfold CS.tellM
  split
  · exact mtell_any h n count (by assumption) hz h.chip.good.gs.2.2.2.2.2
  · exact mtell_worn h n count (by assumption)
end Go.Proofs.YtfcmkkkdccnhgaaGreatDoor
namespace Go.Proofs.YtfcmkkkdccnhgaaGreatDoor
open Go.RowKit Go.Extern.Stop Go.Stop Go.Extern
set_option maxRecDepth 10000

theorem assert_F_Is (v : Value) (xT : TypeId) (w : World) : (Instr.typeAssert (.iface 164 v) xT 220 true).run Tryz.prog w = .ok (.tuple #[.nilIface, .bool false]) w := run_typeAssert_lacksB Tryz.underlying220 (by kernel_rfl) (by kernel_rfl) v xT w
theorem assert_F_U1 (v : Value) (xT : TypeId) (w : World) : (Instr.typeAssert (.iface 164 v) xT 223 true).run Tryz.prog w = .ok (.tuple #[.iface 164 v, .bool true]) w := run_typeAssert_hasB Tryz.underlying223 (by kernel_rfl) v xT w
theorem assert_E_Is (v : Value) (xT : TypeId) (w : World) : (Instr.typeAssert (.iface 30 v) xT 220 true).run Tryz.prog w = .ok (.tuple #[.nilIface, .bool false]) w := run_typeAssert_lacksB Tryz.underlying220 (by kernel_rfl) (by kernel_rfl) v xT w
theorem assert_E_U1 (v : Value) (xT : TypeId) (w : World) : (Instr.typeAssert (.iface 30 v) xT 223 true).run Tryz.prog w = .ok (.tuple #[.nilIface, .bool false]) w := run_typeAssert_lacksB Tryz.underlying223 (by kernel_rfl) (by kernel_rfl) v xT w
theorem assert_E_U2 (v : Value) (xT : TypeId) (w : World) : (Instr.typeAssert (.iface 30 v) xT 224 true).run Tryz.prog w = .ok (.tuple #[.nilIface, .bool false]) w := run_typeAssert_lacksB Tryz.underlying224 (by kernel_rfl) (by kernel_rfl) v xT w
theorem unwrap_F (h : Value) (w : World) : (Go.method 403 164 h "Unwrap").run Tryz.prog w = .ok (210, h) w := by kernel_rfl
theorem unwrapF_any (b : Nat) (what : ByteArray) (block x : Int) (w : World) (h : Row w b [.string what, .int .i64 block, .iface 30 (.int .i64 x)] 166) :
    Calls Tryz.prog 210 #[.pointer (some ⟨b, 0, none⟩)] w fun e w' => e = .returned (.iface 30 (.int .i64 x)) ∧ w = w' := by
  have c2 : w.cell? ⟨b, 2, none⟩ = some (.iface 30 (.int .i64 x)) := h.cell (i := 2) rfl
  clear h
  go_enter Tryz.func210, Tryz.ntmps210
  go_wp2
  go_ret
  exact ⟨rfl, rfl⟩
set_option maxHeartbeats 4000000 in
theorem is_failure (b : Nat) (what : ByteArray) (block x y : Int) (w : World) (r : Row w b [.string what, .int .i64 block, .iface 30 (.int .i64 x)] 166) :
    Calls Tryz.prog 121 #[.iface 164 (.pointer (some ⟨b, 0, none⟩)), .iface 30 (.int .i64 y), .bool true] w fun ev w' => ev = .returned (.bool (x == y)) ∧ w = w' := by
  have cU := unwrapF_any b what block x w r
  clear r
  go_enter Tryz.func121, Tryz.ntmps121
  go_wp2
  go_loopg [0] 1 (fun gm s0 wr => w = wr ∧ Hid ((gm = 1 ∧ s0 = .iface 164 (.pointer (some ⟨b, 0, none⟩))) ∨ (gm = 0 ∧ s0 = .iface 30 (.int .i64 x))))
  case atStart => exact ⟨rfl, .inl ⟨rfl, rfl⟩⟩
  case round =>
    obtain ⟨rfl, HS⟩ := hrel
    rcases HS.out with ⟨h1, rfl⟩ | ⟨h1, rfl⟩
    · have HG : Hid (gk = 1) := h1
      clear h1 HS
      have s0 := Hd.eql_types 164 30 (.pointer (some ⟨b, 0, none⟩)) (.int .i64 y) (by decide) w
      have s1 := assert_F_Is
      have s2 := assert_F_U1
      have uF := unwrap_F
      go_wp2_with (go_at_call 210; refine cU.mono ?_; rintro e w' ⟨rfl, rfl⟩)
      go_roundg 0
      case measure => have := HG.out; omega
      case rel => exact ⟨rfl, .inr ⟨rfl, rfl⟩⟩
    · clear h1 HS
      have s0 := Hd.eql_int w x y
      cases hb : x == y with
      | true =>
        rw [hb] at s0
        have HE : Hid ((x == y) = true) := hb
        clear hb
        go_wp2
        go_ret
        exact ⟨by rw [HE.out]; rfl, rfl⟩
      | false =>
        rw [hb] at s0
        have HE : Hid ((x == y) = false) := hb
        clear hb
        have s1 := assert_E_Is
        have s2 := assert_E_U1
        have s3 := assert_E_U2
        go_wp2
        go_ret
        exact ⟨by rw [HE.out]; rfl, rfl⟩
set_option maxHeartbeats 4000000 in
theorem Is_any {w : World} {v : Value} {x : Int} (h : ErrV w v x) (y : Int) (hy : y ≠ 0) :
    Calls Tryz.prog 82 #[v, .iface 30 (.int .i64 y)] w fun ev w' => ev = .returned (.bool (x == y)) ∧ w = w' := by
  rcases h with ⟨rfl, rfl⟩ | ⟨_, B, what, block, rfl, hr⟩
  · have s0 := fun w => run_eql_iface_nil_left (P := Tryz.prog) (w := w) 30 (.int .i64 y) Tryz.underlying84
    have e : ((0 : Int) == y) = false := by simp; omega
    rw [e]
    clear e hy
    go_enter Tryz.func82, Tryz.ntmps82
    go_wp2
    go_ret
    exact ⟨rfl, rfl⟩
  · have h36 := @run_callFunc_extern Tryz.prog 120 _ ReflectliteType.typeOf Tryz.func120 (by kernel_rfl) (by kernel_rfl) (by kernel_rfl) (by kernel_rfl)
    have h96 := @run_callFunc_extern Tryz.prog 218 _ (ReflectliteType.method (fun t => do Rtype.noPackHeld "Comparable" t; pure (.bool (← typeInfo t).comparable))) Tryz.func218 (by kernel_rfl) (by kernel_rfl) (by kernel_rfl) (by kernel_rfl)
    have tO := Hd.typeOf_E
    have mC : ∀ (h : Value) (w : World), (Go.method 403 218 (.agg #[h]) "Comparable").run Tryz.prog w = _ := Hd.method_Comparable
    have cE : ∀ w, (callFunc 218 #[.agg #[.pointer (some ⟨3, 30, none⟩)]]).run Tryz.prog w = .ok (.value (.bool true)) w := fun w => by rw [h96, Hd.comparable_E]; rfl
    clear h96
    have cA := is_failure B what block x y w hr
    obtain ⟨q, hq⟩ : ∃ q, q = (x == y) := ⟨_, rfl⟩
    rw [← hq] at cA ⊢
    clear hq hr hy
    go_enter Tryz.func82, Tryz.ntmps82
    go_wp2_with (go_at_call 121; refine cA.mono ?_; rintro ev w3 ⟨rfl, rfl⟩)
    go_ret
    exact ⟨rfl, rfl⟩
end Go.Proofs.YtfcmkkkdccnhgaaGreatDoor
namespace Go.Proofs.YtfcmkkkdccnhgaaGreatDoor
open Go.RowKit
set_option maxRecDepth 10000

/-- What a call of the manager leaves: its error, itself, the chip. -/
def FPost (base : Nat) (w : World) (m : Mg) (c : CS) (r : Int × Mg × CS) (e : Ending) (w' : World) : Prop :=
  ∃ v, e = .returned v ∧ ErrV w' v r.1 ∧ MLies base w' r.2.1 r.2.2 ∧ Kept (MFoot m c) w w' ∧ r.2.2.foot = c.foot
/-- Behind an error: a block that failed is marked, and that is no error. -/
def endM (m : Mg) (i : Nat) (r : Int × CS) (k : Int) : Int × Mg × CS :=
  if r.1 = 0 then (0, m.put i ⟨2, k, 0, 0, 0, false⟩, r.2) else if r.1 = 5 then (0, m.put i badBl, (r.2.mark i).2) else (r.1, m, r.2)
def freeM (m : Mg) (c : CS) (i : Nat) (q : Nat) : Int × Mg × CS :=
  if (c.eraseM i).1 = 0 then endM m i ((c.eraseM i).2.tellM i (q + 1)) ((q : Int) + 1) else endM m i (c.eraseM i) ((q : Int) + 1)
theorem CS.eraseM_gz (c : CS) (n : Int) : (c.eraseM n).2.gz = c.gz := by
  unfold CS.eraseM CS.erase
  repeat' split
  all_goals rfl
/-- An error that tells 0 is none; any other is one. -/
theorem ErrV.nil {w : World} {v : Value} (h : ErrV w v 0) : v = .nilIface := by
  rcases h with ⟨_, h⟩ | ⟨h, _⟩
  · exact h
  · exact absurd rfl h
theorem ErrV.some {w : World} {v : Value} {x : Int} (h : ErrV w v x) (hx : x ≠ 0) : ∃ B, v = .iface 164 (.pointer (some ⟨B, 0, none⟩)) := by
  rcases h with ⟨h, _⟩ | ⟨_, B, _, _, h, _⟩
  · exact absurd h hx
  · exact ⟨B, h⟩
set_option maxHeartbeats 4000000 in
theorem mfree_any {base : Nat} {w : World} {m : Mg} {c : CS} (h : MLies base w m c) (i q : Nat) (o : Bl) (ho : m.bl[i]? = some o) (hq : o.cnt = q) (hq2 : q ≤ 2147483647) (hz : 64 ≤ c.gz) :
    Calls Tryz.prog 70 #[.pointer (some ⟨m.p, 0, none⟩), .int .i64 (i : Nat)] w (FPost base w m c (freeM m c i q)) := by
  obtain ⟨_, c1, _, _⟩ := h.cells
  have hi := (List.getElem?_eq_some_iff.1 ho).1
  have n0 : ¬ (i : Int) < 0 := by omega
  have n1 : (i : Int) < (m.bl.length : Int) := by omega
  have g1 := (h.blAt ho).c1
  rw [hq] at g1
  have HO : Hid (m.bl[i]? = some o) := ho
  have ke := merase_any h i
  have hgz := c.eraseM_gz i
  unfold freeM
  obtain ⟨r1, hr1⟩ : ∃ r1, r1 = c.eraseM i := ⟨_, rfl⟩
  rw [← hr1] at ke hgz ⊢
  have hz1 : 64 ≤ r1.2.gz := by omega
  have hq0 : (0 : Int) ≤ (q : Int) := by omega
  have hq3 : (q : Int) ≤ 2147483647 := by omega
  have HZ : Hid (64 ≤ r1.2.gz) := hz1
  clear hr1 hgz hz1 hz ho hq hq2 hi h
  have HI : Hid (i < m.bl.length) := (List.getElem?_eq_some_iff.1 HO.out).1
  by_cases hx : r1.1 = 0
  · rw [if_pos hx]
    obtain ⟨r2, hr2⟩ : ∃ r2, r2 = r1.2.tellM i (q + 1) := ⟨_, rfl⟩
    rw [← hr2]
    have HT : Hid (∀ W, MLies base W m r1.2 → Calls Tryz.prog 107 #[.pointer (some ⟨m.p, 0, none⟩), .int .i64 (i : Nat), .int .i64 ((q : Int) + 1)] W (DoPost base W m r1.2 r2)) := fun W hW => by
      have := mtell_all hW (i : Nat) (q + 1) HZ.out
      rw [← hr2, show ((q + 1 : Nat) : Int) = (q : Int) + 1 from by omega] at this
      exact this
    clear hr2
    have HX : Hid (r1.1 = 0) := hx
    clear hx
    unfold endM
    by_cases hy : r2.1 = 0
    · rw [if_pos hy]
      have HY : Hid (r2.1 = 0) := hy
      clear hy
      go_enter Tryz.func70, Tryz.ntmps70
      go_wp2_with (first
        | (go_at_call 106; refine ke.mono ?_; rintro e w1 ⟨v1, rfl, he1, hl1, hk1, hf1⟩; rw [HX.out] at he1; obtain rfl := he1.nil; have HL1 : Hid (MLies base w1 m r1.2 ∧ Kept c.foot w w1 ∧ r1.2.foot = c.foot) := ⟨hl1, hk1, hf1⟩; clear hl1 hk1 hf1 he1)
        | (go_at_call 107; refine (HT.out _ HL1.out.1).mono ?_; rintro e w2 ⟨v2, rfl, he2, hl2, hk2, hf2⟩; rw [HY.out] at he2; obtain rfl := he2.nil; have HL2 : Hid (MLies base w2 m r2.2 ∧ Kept r1.2.foot w1 w2 ∧ r2.2.foot = r1.2.foot) := ⟨hl2, hk2, hf2⟩; have d1 := hl2.cells.2.1; have fz := hl2.row.frozen; obtain ⟨b0, b1, b2, b3, b4, b5⟩ := hl2.blAt HO.out; clear hl2 hk2 hf2 he2))
      have hk12 : Kept c.foot w w2 := HL1.out.2.1.trans (by have := HL2.out.2.1; rw [HL1.out.2.2] at this; exact this)
      have HP : Hid (MLies base (put6 w2 m.bb i ⟨2, (q : Int) + 1, 0, 0, 0, false⟩) (m.put i ⟨2, (q : Int) + 1, 0, 0, 0, false⟩) r2.2 ∧ Kept (MFoot m c) w (put6 w2 m.bb i ⟨2, (q : Int) + 1, 0, 0, 0, false⟩) ∧ r2.2.foot = c.foot) := ⟨HL2.out.1.put HO.out _, (hk12.mono (fun _ hk => .inr (.inr hk))).trans ((kept6 w2 m.bb i _).mono (fun _ hk => .inr (.inl hk))), HL2.out.2.2.trans HL1.out.2.2⟩
      simp only [put6] at HP
      clear hk12
      go_ret
      exact ⟨.nilIface, rfl, .inl ⟨rfl, rfl⟩, HP.out.1, HP.out.2.1, HP.out.2.2⟩
    · have HY : Hid (r2.1 ≠ 0) := hy
      rw [if_neg hy]
      by_cases h5 : r2.1 = 5
      · rw [if_pos h5]
        have HF : Hid ((r2.1 == 5) = true) := (by simp [h5] : (r2.1 == 5) = true)
        clear h5 hy
        go_enter Tryz.func70, Tryz.ntmps70
        go_wp2_with (first
          | (go_at_call 106; refine ke.mono ?_; rintro e w1 ⟨v1, rfl, he1, hl1, hk1, hf1⟩; rw [HX.out] at he1; obtain rfl := he1.nil; have HL1 : Hid (MLies base w1 m r1.2 ∧ Kept c.foot w w1 ∧ r1.2.foot = c.foot) := ⟨hl1, hk1, hf1⟩; clear hl1 hk1 hf1 he1)
          | (go_at_call 107; refine (HT.out _ HL1.out.1).mono ?_; rintro e w2 ⟨v2, rfl, he2, hl2, hk2, hf2⟩; obtain ⟨B, rfl⟩ := he2.some HY.out; have kI := Is_any he2 5 (by decide); rw [HF.out] at kI; have HE : Hid (ErrV w2 (.iface 164 (.pointer (some ⟨B, 0, none⟩))) r2.1) := he2; have HL2 : Hid (MLies base w2 m r2.2 ∧ Kept c.foot w w2 ∧ r2.2.foot = c.foot) := ⟨hl2, HL1.out.2.1.trans (by rw [HL1.out.2.2] at hk2; exact hk2), hf2.trans HL1.out.2.2⟩; clear hl2 hk2 hf2 he2)
          | (go_at_call 82; refine kI.mono ?_; rintro e w3 ⟨rfl, rfl⟩)
          | (go_at_call 108; refine (mretire_any HL2.out.1 i HI.out).mono ?_; rintro e w4 ⟨rfl, hl4, hk4, hf4⟩; have HL4 : Hid (MLies base w4 (m.put i badBl) (r2.2.mark i).2 ∧ Kept (MFoot m c) w w4 ∧ (r2.2.mark i).2.foot = c.foot) := ⟨hl4, (HL2.out.2.1.mono (fun _ hk => .inr (.inr hk))).trans (hk4.mono (fun k hk => by rcases hk with hk | hk | hk; exact .inl hk; exact .inr (.inl hk); exact .inr (.inr (HL2.out.2.2 ▸ hk)))), hf4.trans HL2.out.2.2⟩; clear hl4 hk4 hf4))
        go_ret
        exact ⟨.nilIface, rfl, .inl ⟨rfl, rfl⟩, HL4.out.1, HL4.out.2.1, HL4.out.2.2⟩
      · rw [if_neg h5]
        have HF : Hid ((r2.1 == 5) = false) := (by simp [h5] : (r2.1 == 5) = false)
        clear h5 hy
        go_enter Tryz.func70, Tryz.ntmps70
        go_wp2_with (first
          | (go_at_call 106; refine ke.mono ?_; rintro e w1 ⟨v1, rfl, he1, hl1, hk1, hf1⟩; rw [HX.out] at he1; obtain rfl := he1.nil; have HL1 : Hid (MLies base w1 m r1.2 ∧ Kept c.foot w w1 ∧ r1.2.foot = c.foot) := ⟨hl1, hk1, hf1⟩; clear hl1 hk1 hf1 he1)
          | (go_at_call 107; refine (HT.out _ HL1.out.1).mono ?_; rintro e w2 ⟨v2, rfl, he2, hl2, hk2, hf2⟩; obtain ⟨B, rfl⟩ := he2.some HY.out; have kI := Is_any he2 5 (by decide); rw [HF.out] at kI; have HE : Hid (ErrV w2 (.iface 164 (.pointer (some ⟨B, 0, none⟩))) r2.1) := he2; have HL2 : Hid (MLies base w2 m r2.2 ∧ Kept c.foot w w2 ∧ r2.2.foot = c.foot) := ⟨hl2, HL1.out.2.1.trans (by rw [HL1.out.2.2] at hk2; exact hk2), hf2.trans HL1.out.2.2⟩; clear hl2 hk2 hf2 he2)
          | (go_at_call 82; refine kI.mono ?_; rintro e w3 ⟨rfl, rfl⟩))
        go_ret
        exact ⟨_, rfl, HE.out, HL2.out.1, HL2.out.2.1.mono (fun _ hk => .inr (.inr hk)), HL2.out.2.2⟩
  · rw [if_neg hx]
    obtain ⟨r2, hr2⟩ : ∃ r2, r2 = r1 := ⟨_, rfl⟩
    rw [← hr2] at ke hx ⊢
    unfold endM
    clear hr2 HZ
    have hy := hx
    clear hx
    have HY : Hid (r2.1 ≠ 0) := hy
    rw [if_neg hy]
    by_cases h5 : r2.1 = 5
    · rw [if_pos h5]
      have HF : Hid ((r2.1 == 5) = true) := (by simp [h5] : (r2.1 == 5) = true)
      clear h5 hy
      go_enter Tryz.func70, Tryz.ntmps70
      go_wp2_with (first
        | (go_at_call 106; refine ke.mono ?_; rintro e w2 ⟨v2, rfl, he2, hl2, hk2, hf2⟩; obtain ⟨B, rfl⟩ := he2.some HY.out; have kI := Is_any he2 5 (by decide); rw [HF.out] at kI; have HE : Hid (ErrV w2 (.iface 164 (.pointer (some ⟨B, 0, none⟩))) r2.1) := he2; have HL2 : Hid (MLies base w2 m r2.2 ∧ Kept c.foot w w2 ∧ r2.2.foot = c.foot) := ⟨hl2, hk2, hf2⟩; clear hl2 hk2 hf2 he2)
        | (go_at_call 82; refine kI.mono ?_; rintro e w3 ⟨rfl, rfl⟩)
        | (go_at_call 108; refine (mretire_any HL2.out.1 i HI.out).mono ?_; rintro e w4 ⟨rfl, hl4, hk4, hf4⟩; have HL4 : Hid (MLies base w4 (m.put i badBl) (r2.2.mark i).2 ∧ Kept (MFoot m c) w w4 ∧ (r2.2.mark i).2.foot = c.foot) := ⟨hl4, (HL2.out.2.1.mono (fun _ hk => .inr (.inr hk))).trans (hk4.mono (fun k hk => by rcases hk with hk | hk | hk; exact .inl hk; exact .inr (.inl hk); exact .inr (.inr (HL2.out.2.2 ▸ hk)))), hf4.trans HL2.out.2.2⟩; clear hl4 hk4 hf4))
      go_ret
      exact ⟨.nilIface, rfl, .inl ⟨rfl, rfl⟩, HL4.out.1, HL4.out.2.1, HL4.out.2.2⟩
    · rw [if_neg h5]
      have HF : Hid ((r2.1 == 5) = false) := (by simp [h5] : (r2.1 == 5) = false)
      clear h5 hy
      go_enter Tryz.func70, Tryz.ntmps70
      go_wp2_with (first
        | (go_at_call 106; refine ke.mono ?_; rintro e w2 ⟨v2, rfl, he2, hl2, hk2, hf2⟩; obtain ⟨B, rfl⟩ := he2.some HY.out; have kI := Is_any he2 5 (by decide); rw [HF.out] at kI; have HE : Hid (ErrV w2 (.iface 164 (.pointer (some ⟨B, 0, none⟩))) r2.1) := he2; have HL2 : Hid (MLies base w2 m r2.2 ∧ Kept c.foot w w2 ∧ r2.2.foot = c.foot) := ⟨hl2, hk2, hf2⟩; clear hl2 hk2 hf2 he2)
        | (go_at_call 82; refine kI.mono ?_; rintro e w3 ⟨rfl, rfl⟩))
      go_ret
      exact ⟨_, rfl, HE.out, HL2.out.1, HL2.out.2.1.mono (fun _ hk => .inr (.inr hk)), HL2.out.2.2⟩
end Go.Proofs.YtfcmkkkdccnhgaaGreatDoor
