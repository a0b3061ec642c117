/-
  Program of the document's chip, where the operation begins: by its fault.
-/
import Derived.Test.YtiejkbncpbhcdaaDProgB
import Derived.Deep.RegionLaw
namespace Go.Proofs.Ytiejkbncpbhcdaa
open Go.RowKit

theorem step_append_bytes {w : World} {ops : Array Oper} {o : Oper} {a : Act} {K : Act → World → Prop} {Q : Exit → Act → World → Prop} {E : Prop} (hgd : o.guard = none) (s x : Operand)
    (ho : o.op = .call { callee := .builtin .append, args := #[s, x], argTypes := #[35, 35] })
    (base : Nat) (v : Value) (n : Nat) (xs : List Value) (hs : a.eval s = v) (hown : w.ownsRow base 5 1 v n xs)
    (ao : Option Addr) (m c : Nat) (M : List Nat) (hx : a.eval x = .slice ao m c) (hM : m = M.length) (hr : BRow w ao M) (hnil : ao = none → m = 0 ∧ c = 0)
    (h63 : n + m ≤ maxLen) (hbytes : (n + m) * 1 ≤ 140737488355328) (hbase : base ≤ w.heap.size)
    (h : ∀ v' w', w'.ownsRow base 5 1 v' (n + m) (xs ++ M.map u8v) → w.grownBy w' v.ownBlock → K (a.put o.dst v') w') :
    if Region.wanted o (yielded ops a.tmps) = true then Oper.wp Try.prog o a w K Q else E := by
  have hw : Region.wanted o (yielded ops a.tmps) = true := by simp [Region.wanted, hgd]
  rw [if_pos hw]
  obtain ⟨i0, hi, hz0, hz1, hz2⟩ := info_parts info8
  cases ao with
  | none =>
    obtain ⟨rfl, rfl⟩ := hnil rfl
    have hM0 : M = [] := List.eq_nil_of_length_eq_zero hM.symm
    subst hM0
    have hrun := run_append_owned_none (P := Try.prog) (w := w) base 35 o.type 5 i0 1 Try.underlying35 hi v n xs hown
    unfold Oper.wp
    simp [execOp, ho, resolve, invoke, builtin, hs, hx, hrun, Result.andThen]
    exact h v w (by simpa using hown) ⟨rfl, rfl, rfl, Nat.le_refl _, fun _ _ _ => rfl⟩
  | some ad =>
    obtain ⟨v', w', hrun, r1, r2, _⟩ := run_append_own (P := Try.prog) w base 35 o.type 5 i0 (.int .u8 0) 1 1 Try.underlying35 hi hz0 hz1 hz2 rfl (by omega) v n xs hown ad m c (M.map u8v) (by simp [hM]) (cells_any hr) (u8v_one _) h63 hbytes hbase
    unfold Oper.wp
    simp [execOp, ho, resolve, invoke, builtin, hs, hx, hrun, Result.andThen]
    exact h v' w' r1 r2

/-- What is known behind the copy of the data. -/
structure Laid4 (base : Nat) (w1 w4 : World) (d : DS) (data : List Nat) (na : Option Addr) (m ncap : Nat) (x kd : Int) : Prop where
  lies : DLies base w4 d.counted
  bel : Below w1.heap.size w1 w4
  row : BRow w4 na data
  nil : na = none → m = 0 ∧ ncap = 0
  apart : data = [] ∨ ∀ b o, na = some ⟨b, o, none⟩ → ∃ cs, Row w4 b cs 5
  flt : Row w4 w1.heap.size [.int .i64 x, .int .i64 kd, .int .i64 2] 78
theorem laid4 {base : Nat} {w1 w4 : World} {d : DS} (h1 : DLies base w1 d.counted) (data : List Nat) (m : Nat) (hm : m = data.length) (x kd : Int) (v4 : Value)
    (hown : w4.ownsRow (w1.heap.size + 1) 5 1 v4 (0 + m) ([] ++ data.map u8v))
    (hgr : ((w1.alloc (Obj.cells #[.int .i64 x, .int .i64 kd, .int .i64 2] 78)).alloc (Obj.cells #[] 5)).drew.grownBy w4 (Value.ownBlock (.slice (some ⟨w1.heap.size + 1, 0, none⟩) 0 0))) :
    ∃ na ncap, v4 = .slice na m ncap ∧ Laid4 base w1 w4 d data na m ncap x kd := by
  have hb0 : Below w1.heap.size w1 ((w1.alloc (Obj.cells #[.int .i64 x, .int .i64 kd, .int .i64 2] 78)).alloc (Obj.cells #[] 5)).drew := (Below.after (below_new _ _) (below_new _ _)).drew
  have hb : Below w1.heap.size w1 w4 := hb0.grown hgr (by show _ ≤ ((w1.alloc _).alloc _).heap.size; simp; omega) (fun k hk => by simp [Value.ownBlock] at hk; omega)
  rw [Nat.zero_add, List.nil_append] at hown
  obtain ⟨na, ncap, rfl, hrow, hnil, _, _⟩ := own_shape' hm hown
  refine ⟨na, ncap, rfl, h1.later hb, hb, hrow, hnil, ?_, ?_⟩
  · by_cases he : data = []
    · exact .inl he
    · refine .inr fun b o e => ?_
      obtain ⟨g, cap, e2, _, _, _, hr⟩ := Row.of_owns hown (by rw [hm]; exact List.length_pos_iff.2 he)
      simp only [Value.slice.injEq] at e2
      rw [e] at e2
      obtain ⟨e3, _⟩ := e2
      simp only [Option.some.injEq, Addr.mk.injEq] at e3
      rw [e3.1]
      exact ⟨_, hr⟩
  · have h0 : Row ((w1.alloc (Obj.cells #[.int .i64 x, .int .i64 kd, .int .i64 2] 78)).alloc (Obj.cells #[] 5)).drew w1.heap.size [.int .i64 x, .int .i64 kd, .int .i64 2] 78 := ((Row.new w1 [_, _, _] _).alloc _).drew
    exact h0.same (hgr.block _ h0.lt (by simp [Value.ownBlock]))
theorem brow_kept {S : Nat → Prop} {w w' : World} {a : Option Addr} {l : List Nat} (h : BRow w a l) (hk : Kept S w w') (hs : l = [] ∨ ∀ k o, a = some ⟨k, o, none⟩ → ¬ S k) : BRow w' a l := by
  rcases h with e | ⟨b, off, e, hc⟩
  · exact .inl e
  · rcases hs with q | q
    · exact .inl q
    · refine .inr ⟨b, off, e, fun i hi => ?_⟩
      have h1 := hc i hi
      rw [World.cell?_of_block (w := w) (hk.block b (World.block_lt_of_cell? w _ h1) (q b off e))]
      exact h1

set_option maxHeartbeats 4000000 in
theorem d_prog12 {base : Nat} {w : World} {d : DS} (h : DLies base w d) (i j : Nat) (a : Option Addr) (m dc : Nat) (data : List Nat) {b : DBk} (ho : d.off = false) (hb : d.bks[i]? = some b) (hj : j < d.gp) (hz : m ≤ d.gz)
    (hbad : b.bad = false) (hnx : b.next = (j : Int)) (x : Int) (hf : d.flt = ⟨x, 1, 2⟩) (hm : m = data.length) (hd : BRow w a data) (hd2 : ∀ y ∈ data, y < 256) (hnil : a = none → m = 0 ∧ dc = 0) (hap : data = [] ∨ ∀ k o, a = some ⟨k, o, none⟩ → ¬ k = d.p) :
    Calls Try.prog 32 #[.pointer (some ⟨d.p, 0, none⟩), .int .i64 i, .int .i64 j, .slice a m dc] w fun e w' => ∃ d', e = .returned (.int .i64 d.flt.says) ∧ DPost base w w' d { d.abs.begun with bks := d.abs.bks.set i (b.abs.programmed data d.flt.ext) } d' := by
  have hat : d.at i = some b := by unfold DS.at; rw [if_neg (by omega)]; simpa using hb
  have ha := d_asked h i
  rw [asked_ok ho hat] at ha
  have hfl := d_fault h
  rw [hf] at hfl
  have hbm : b ∈ d.bks := List.mem_of_getElem? hb
  have hplen := h.good.plen b hbm
  have HG : Hid (∀ w1, DLies base w1 d.counted → After w1 d i j b) := fun w1 h1 => After.of h1 hb hj
  have hqr : ¬ d.q = b.r := h.bks.ne (h.pgs b hbm).1 (by decide)
  have hrq : ¬ b.r = d.q := fun e => hqr e.symm
  have HB : Hid (d.bks[i]? = some b) := hb
  have hcap := h.good.gs
  have HMD : Hid (m = data.length) := hm
  have HRD : Hid (∀ w1, Kept (fun k => k = d.p) w w1 → BRow w1 a data) := fun w1 hk => brow_kept hd hk hap
  have HLT : Hid (∀ y ∈ data, y < 256) := hd2
  have HNIL : Hid (a = none → m = 0 ∧ dc = 0) := hnil
  have HZ : Hid (data.length ≤ d.gz) := by show _ ≤ _; omega
  have hm512 : m ≤ 512 := by omega
  clear hm hd hd2 hnil hap
  obtain ⟨c1, c2, c4, ⟨_, d1, d2, _⟩, hil, hjl⟩ := PAt.of h (j := j) hb hj
  rw [hbad] at d2
  rw [hnx] at d1
  have hjj : ((j : Int) != (j : Int)) = false := by simp
  have q1 : ¬ (j : Int) < 0 := by omega
  have q2 : ¬ (d.gp : Int) ≤ (j : Int) := by omega
  have q3 : ¬ (d.gz : Int) < (m : Int) := by omega
  have hjp : (j : Int) < (b.pgs.length : Int) := by omega
  have hwr : wrap64 ((j : Int) + 1) = (j : Int) + 1 := by unfold wrap64; omega
  have HNX : Hid (b.next = (j : Int)) := hnx
  have HBA : Hid (b.bad = false) := hbad
  have HF : Hid (d.flt = ⟨x, 1, 2⟩) := hf
  have HJ : Hid (j < d.gp) := hj
  clear hb hat ho hbm hplen hnx hbad h hf hj hcap
  go_enter Try.func32, Try.ntmps32
  go_wp2_with (first
    | (go_at_call 63; refine ha.mono ?_; rintro e w' ⟨rfl, rfl⟩)
    | (go_at_call 64; refine hfl.mono ?_; rintro e w1 ⟨rfl, hd1, hk1⟩; obtain ⟨g1, g4, ⟨e0, e1, e2, _⟩, z1, z20, z21, z22, z3, z4, z5, v0, v1, v2, u0, u1, u2⟩ := HG.out w1 hd1; rw [HNX.out] at e1; rw [HBA.out] at e2; have HD1 : Hid (DLies _ _ _) := hd1; have HK1 : Hid (Kept _ _ _) := hk1; clear hd1 hk1))
  have hFr : ¬ w1.heap.size = b.r := by omega
  have hFq : ¬ w1.heap.size = d.q := by omega
  have hrF : ¬ b.r = w1.heap.size := by omega
  have hqF : ¬ d.q = w1.heap.size := by omega
  have HW : Hid (BRow ((w1.alloc (Obj.cells #[.int .i64 x, .int .i64 1, .int .i64 2] 78)).alloc (Obj.cells #[] 5)).drew a data) := ((HRD.out w1 HK1.out).later (below_new _ (Obj.cells #[.int .i64 x, .int .i64 1, .int .i64 2] 78))).later (below_new _ (Obj.cells #[] 5)).drew
  have HOE : Hid (((w1.alloc (Obj.cells #[.int .i64 x, .int .i64 1, .int .i64 2] 78)).alloc (Obj.cells #[] 5)).drew.ownsRow (w1.heap.size + 1) 5 1 (.slice (some ⟨w1.heap.size + 1, 0, none⟩) 0 0) 0 []) := by
    have := own_empty (w1.alloc (Obj.cells #[.int .i64 x, .int .i64 1, .int .i64 2] 78)) (w1.heap.size + 1) (by simp)
    simp only [World.size_alloc] at this
    exact this
  go_region_law (refine step_append_bytes rfl (.tmp 92) (.tmp 93) rfl (w1.heap.size + 1) (.slice (some ⟨w1.heap.size + 1, 0, none⟩) 0 0) 0 [] (by simp [Act.eval]) HOE.out a m dc data (by simp [Act.eval]) HMD.out HW.out HNIL.out (by unfold maxLen; omega) (by omega) (by show _ ≤ ((w1.alloc _).alloc _).heap.size; simp) ?_; intro v4 w4 hown4 hgrow4; obtain ⟨na, ncap, rfl, L4⟩ := laid4 HD1.out data m HMD.out x 1 v4 hown4 hgrow4; have HL4 : Hid (Laid4 _ _ _ _ _ _ _ _ _ _) := L4; obtain ⟨j1, j4, ⟨j0, j2, j3, _⟩, y1, y20, y21, y22, y3, y4, y5, s0, s1, s2, t0, t1, t2⟩ := HG.out w4 L4.lies; rw [HNX.out] at j2; have r0 := L4.flt.cell (i := 0) rfl; have r1 := L4.flt.cell (i := 1) rfl; have r2 := L4.flt.cell (i := 2) rfl; have r3 := L4.flt.lt; clear hown4 hgrow4 L4)
  all_goals
    go_wp2_with (go_at_call 65; obtain ⟨L5, K5, F5⟩ := prog_lies HL4.out.lies HB.out HJ.out HNX.out ⟨true, false, na, m, ncap, data⟩ ⟨HMD.out, HLT.out, HL4.out.row, HL4.out.nil, HL4.out.apart⟩ HZ.out; rw [HNX.out] at L5 K5; have T6 := d_told L5 ⟨x, 1, 2⟩; have HK6 : Hid (Kept _ _ _) := (Kept.of_below HL4.out.bel).trans K5; have HF5 : Hid (DS.foot _ = DS.foot _) := F5; clear L5 K5 F5; go_must (refine T6.mono ?_); rintro e w3 ⟨rfl, hl3, hk3⟩; have HL3 : Hid (DLies _ _ _) := hl3; have HK3 : Hid (Kept _ _ _) := hk3; clear hl3 hk3 T6)
    go_ret
    refine ⟨_, ?_, ends x 1 2 HF.out data ?_ HK1.out HK6.out HF5.out HK3.out ⟨x, 1, 2⟩ rfl HL3.out⟩
    · rw [HF.out, ← (tell_abs (d.progd i j b ⟨true, false, na, m, ncap, data⟩) ⟨x, 1, 2⟩).2]; rfl
    · rw [HF.out]; exact data_abs b j HNX.out ⟨true, false, na, m, ncap, data⟩ rfl

set_option maxHeartbeats 4000000 in
theorem d_prog02 {base : Nat} {w : World} {d : DS} (h : DLies base w d) (i j : Nat) (a : Option Addr) (m dc : Nat) (data : List Nat) {b : DBk} (ho : d.off = false) (hb : d.bks[i]? = some b) (hj : j < d.gp) (hz : m ≤ d.gz)
    (hbad : b.bad = false) (hnx : b.next = (j : Int)) (x : Int) (hf : d.flt = ⟨x, 0, 2⟩) (hm : m = data.length) (hd : BRow w a data) (hd2 : ∀ y ∈ data, y < 256) (hnil : a = none → m = 0 ∧ dc = 0) (hap : data = [] ∨ ∀ k o, a = some ⟨k, o, none⟩ → ¬ k = d.p) :
    Calls Try.prog 32 #[.pointer (some ⟨d.p, 0, none⟩), .int .i64 i, .int .i64 j, .slice a m dc] w fun e w' => ∃ d', e = .returned (.int .i64 d.flt.says) ∧ DPost base w w' d { d.abs.begun with bks := d.abs.bks.set i (b.abs.programmed data d.flt.ext) } d' := by
  have hat : d.at i = some b := by unfold DS.at; rw [if_neg (by omega)]; simpa using hb
  have ha := d_asked h i
  rw [asked_ok ho hat] at ha
  have hfl := d_fault h
  rw [hf] at hfl
  have hbm : b ∈ d.bks := List.mem_of_getElem? hb
  have hplen := h.good.plen b hbm
  have HG : Hid (∀ w1, DLies base w1 d.counted → After w1 d i j b) := fun w1 h1 => After.of h1 hb hj
  have hqr : ¬ d.q = b.r := h.bks.ne (h.pgs b hbm).1 (by decide)
  have hrq : ¬ b.r = d.q := fun e => hqr e.symm
  have HB : Hid (d.bks[i]? = some b) := hb
  have hcap := h.good.gs
  have HMD : Hid (m = data.length) := hm
  have HRD : Hid (∀ w1, Kept (fun k => k = d.p) w w1 → BRow w1 a data) := fun w1 hk => brow_kept hd hk hap
  have HLT : Hid (∀ y ∈ data, y < 256) := hd2
  have HNIL : Hid (a = none → m = 0 ∧ dc = 0) := hnil
  have HZ : Hid (data.length ≤ d.gz) := by show _ ≤ _; omega
  have hm512 : m ≤ 512 := by omega
  clear hm hd hd2 hnil hap
  obtain ⟨c1, c2, c4, ⟨_, d1, d2, _⟩, hil, hjl⟩ := PAt.of h (j := j) hb hj
  rw [hbad] at d2
  rw [hnx] at d1
  have hjj : ((j : Int) != (j : Int)) = false := by simp
  have q1 : ¬ (j : Int) < 0 := by omega
  have q2 : ¬ (d.gp : Int) ≤ (j : Int) := by omega
  have q3 : ¬ (d.gz : Int) < (m : Int) := by omega
  have hjp : (j : Int) < (b.pgs.length : Int) := by omega
  have hwr : wrap64 ((j : Int) + 1) = (j : Int) + 1 := by unfold wrap64; omega
  have HNX : Hid (b.next = (j : Int)) := hnx
  have HBA : Hid (b.bad = false) := hbad
  have HF : Hid (d.flt = ⟨x, 0, 2⟩) := hf
  have HJ : Hid (j < d.gp) := hj
  clear hb hat ho hbm hplen hnx hbad h hf hj hcap
  go_enter Try.func32, Try.ntmps32
  go_wp2_with (first
    | (go_at_call 63; refine ha.mono ?_; rintro e w' ⟨rfl, rfl⟩)
    | (go_at_call 64; refine hfl.mono ?_; rintro e w1 ⟨rfl, hd1, hk1⟩; obtain ⟨g1, g4, ⟨e0, e1, e2, _⟩, z1, z20, z21, z22, z3, z4, z5, v0, v1, v2, u0, u1, u2⟩ := HG.out w1 hd1; rw [HNX.out] at e1; rw [HBA.out] at e2; have HD1 : Hid (DLies _ _ _) := hd1; have HK1 : Hid (Kept _ _ _) := hk1; clear hd1 hk1))
  have hFr : ¬ w1.heap.size = b.r := by omega
  have hFq : ¬ w1.heap.size = d.q := by omega
  have hrF : ¬ b.r = w1.heap.size := by omega
  have hqF : ¬ d.q = w1.heap.size := by omega
  have HW : Hid (BRow ((w1.alloc (Obj.cells #[.int .i64 x, .int .i64 0, .int .i64 2] 78)).alloc (Obj.cells #[] 5)).drew a data) := ((HRD.out w1 HK1.out).later (below_new _ (Obj.cells #[.int .i64 x, .int .i64 0, .int .i64 2] 78))).later (below_new _ (Obj.cells #[] 5)).drew
  have HOE : Hid (((w1.alloc (Obj.cells #[.int .i64 x, .int .i64 0, .int .i64 2] 78)).alloc (Obj.cells #[] 5)).drew.ownsRow (w1.heap.size + 1) 5 1 (.slice (some ⟨w1.heap.size + 1, 0, none⟩) 0 0) 0 []) := by
    have := own_empty (w1.alloc (Obj.cells #[.int .i64 x, .int .i64 0, .int .i64 2] 78)) (w1.heap.size + 1) (by simp)
    simp only [World.size_alloc] at this
    exact this
  go_region_law (refine step_append_bytes rfl (.tmp 92) (.tmp 93) rfl (w1.heap.size + 1) (.slice (some ⟨w1.heap.size + 1, 0, none⟩) 0 0) 0 [] (by simp [Act.eval]) HOE.out a m dc data (by simp [Act.eval]) HMD.out HW.out HNIL.out (by unfold maxLen; omega) (by omega) (by show _ ≤ ((w1.alloc _).alloc _).heap.size; simp) ?_; intro v4 w4 hown4 hgrow4; obtain ⟨na, ncap, rfl, L4⟩ := laid4 HD1.out data m HMD.out x 0 v4 hown4 hgrow4; have HL4 : Hid (Laid4 _ _ _ _ _ _ _ _ _ _) := L4; obtain ⟨j1, j4, ⟨j0, j2, j3, _⟩, y1, y20, y21, y22, y3, y4, y5, s0, s1, s2, t0, t1, t2⟩ := HG.out w4 L4.lies; rw [HNX.out] at j2; have r0 := L4.flt.cell (i := 0) rfl; have r1 := L4.flt.cell (i := 1) rfl; have r2 := L4.flt.cell (i := 2) rfl; have r3 := L4.flt.lt; clear hown4 hgrow4 L4)
  all_goals
    go_wp2_with (go_at_call 65; obtain ⟨L5, K5, F5⟩ := prog_lies HL4.out.lies HB.out HJ.out HNX.out ⟨true, false, na, m, ncap, data⟩ ⟨HMD.out, HLT.out, HL4.out.row, HL4.out.nil, HL4.out.apart⟩ HZ.out; rw [HNX.out] at L5 K5; have T6 := d_told L5 ⟨x, 0, 2⟩; have HK6 : Hid (Kept _ _ _) := (Kept.of_below HL4.out.bel).trans K5; have HF5 : Hid (DS.foot _ = DS.foot _) := F5; clear L5 K5 F5; go_must (refine T6.mono ?_); rintro e w3 ⟨rfl, hl3, hk3⟩; have HL3 : Hid (DLies _ _ _) := hl3; have HK3 : Hid (Kept _ _ _) := hk3; clear hl3 hk3 T6)
    go_ret
    refine ⟨_, ?_, ends x 0 2 HF.out data ?_ HK1.out HK6.out HF5.out HK3.out ⟨x, 0, 2⟩ rfl HL3.out⟩
    · rw [HF.out, ← (tell_abs (d.progd i j b ⟨true, false, na, m, ncap, data⟩) ⟨x, 0, 2⟩).2]; rfl
    · rw [HF.out]; exact data_abs b j HNX.out ⟨true, false, na, m, ncap, data⟩ rfl

theorem set_toNat (i : Nat) : (i : Int).toNat = i := Int.toNat_natCast i
/-- Program of the document's chip, whole. -/
theorem d_program {base : Nat} {w : World} {d : DS} (h : DLies base w d) (block page : Int) (a : Option Addr) (m dc : Nat) (data : List Nat) (hm : m = data.length) (hd : BRow w a data) (hd2 : ∀ y ∈ data, y < 256) (hnil : a = none → m = 0 ∧ dc = 0) (hap : data = [] ∨ ∀ k o, a = some ⟨k, o, none⟩ → ¬ k = d.p) :
    Calls Try.prog 32 #[.pointer (some ⟨d.p, 0, none⟩), .int .i64 block, .int .i64 page, .slice a m dc] w fun e w' => ∃ d', e = .returned (.int .i64 (d.abs.program block page data).1) ∧ DPost base w w' d (d.abs.program block page data).2 d' := by
  by_cases he : d.off = true ∨ (d.off = false ∧ d.at block = none)
  · refine (d_prog_err h block page a m dc data he).mono ?_
    rintro e w' ⟨h1, h2⟩
    exact ⟨d, h1, h2⟩
  · have ho : d.off = false := by cases hh : d.off with | true => exact absurd (.inl hh) he | false => rfl
    obtain ⟨b, hb⟩ : ∃ b, d.at block = some b := by
      cases hh : d.at block with
      | none => exact absurd (.inr ⟨ho, hh⟩) he
      | some b => exact ⟨b, rfl⟩
    by_cases hs : ¬ (0 ≤ page ∧ page < d.gp) ∨ d.gz < data.length
    · refine (d_prog_shape h block page a m dc data hm ho hb hs).mono ?_
      rintro e w' ⟨h1, h2⟩
      exact ⟨d, h1, h2⟩
    · obtain ⟨hb1, hb2⟩ := dat_some hb
      obtain ⟨i, rfl⟩ : ∃ i : Nat, block = i := ⟨block.toNat, by omega⟩
      by_cases hw : b.bad = true ∨ page ≠ b.next
      · refine (d_prog_wrong h i page a m dc data hm ho hb hs hw).mono ?_
        rintro e w' ⟨h1, h2⟩
        exact ⟨_, h1, h2⟩
      · rw [prog_some ho hb, if_neg hs, if_neg hw]
        obtain ⟨j, rfl⟩ : ∃ j : Nat, page = j := ⟨page.toNat, by omega⟩
        rw [set_toNat] at hb1
        simp only [set_toNat]
        have hbad : b.bad = false := by cases hh : b.bad with | true => exact absurd (.inl hh) hw | false => rfl
        have hnx : b.next = (j : Int) := Classical.byContradiction fun q => hw (.inr (fun e => q e.symm))
        have hj : j < d.gp := by omega
        have hz : m ≤ d.gz := by omega
        have hor : d.flt = ⟨0, 0, 2⟩ ∨ d.flt.ok := by
          rcases findF_or (wrap64 (wrap64 (d.ops + 1) - d.since)) d.plan with q | q
          · exact .inl q
          · exact .inr (h.good.pln.2.2.1 _ q)
        rcases hor with e | ⟨_, ⟨k1, t⟩ | ⟨k1, t⟩⟩
        · exact d_prog02 h i j a m dc data ho hb1 hj hz hbad hnx 0 e hm hd hd2 hnil hap
        · have hfl : d.flt = ⟨d.flt.num, 1, d.flt.torn⟩ := by rw [← k1]
          rcases t with t | t | t
          · rw [t] at hfl; exact d_prog10 h i j a m dc data ho hb1 hj hz hbad hnx _ hfl
          · rw [t] at hfl; exact d_prog11 h i j a m dc data ho hb1 hj hz hbad hnx _ hfl
          · rw [t] at hfl; exact d_prog12 h i j a m dc data ho hb1 hj hz hbad hnx _ hfl hm hd hd2 hnil hap
        · have hfl : d.flt = ⟨d.flt.num, 2, d.flt.torn⟩ := by rw [← k1]
          rw [t] at hfl
          exact d_prog20 h i j a m dc data ho hb1 hj hz hbad hnx _ hfl
end Go.Proofs.Ytiejkbncpbhcdaa
