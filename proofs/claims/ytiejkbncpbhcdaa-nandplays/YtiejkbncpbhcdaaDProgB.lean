/-
  Program of the document's chip, where the operation begins: by its fault.
-/
import Derived.Test.YtiejkbncpbhcdaaDProg
import Derived.Deep.RegionLaw
namespace Go.Proofs.Ytiejkbncpbhcdaa
open Go.RowKit

/-- What is known when the operation has begun. -/
structure After (w1 : World) (d : DS) (i j : Nat) (b : DBk) : Prop where
  c1 : w1.cell? ⟨d.p, 1, none⟩ = some (.int .i64 d.gp)
  c4 : w1.cell? ⟨d.p, 4, none⟩ = some (.slice (some ⟨d.q, 0, none⟩) d.bks.length d.qcap)
  at_ : DAt w1 d.q (i * 4) b
  z1 : w1.frozen? ⟨d.q, i * 4 + 1, none⟩ = false
  z20 : w1.frozen? ⟨b.r, j * 3, none⟩ = false
  z21 : w1.frozen? ⟨b.r, j * 3 + 1, none⟩ = false
  z22 : w1.frozen? ⟨b.r, j * 3 + 2, none⟩ = false
  r_lt : b.r < w1.heap.size
  q_lt : d.q < w1.heap.size
  p_lt : d.p < w1.heap.size
  u : ∃ v0 v1 v2, w1.cell? ⟨b.r, j * 3, none⟩ = some v0 ∧ w1.cell? ⟨b.r, j * 3 + 1, none⟩ = some v1 ∧ w1.cell? ⟨b.r, j * 3 + 2, none⟩ = some v2
theorem After.of {base : Nat} {w1 : World} {d : DS} {i j : Nat} {b : DBk} (h1 : DLies base w1 d.counted) (hb : d.bks[i]? = some b) (hj : j < d.gp) : After w1 d i j b := by
  have hbm : b ∈ d.bks := List.mem_of_getElem? hb
  have hr := (h1.pgs b hbm).1
  have hjb : j < b.pgs.length := by have := (h1.good.plen b hbm).1; rw [this]; exact hj
  exact ⟨h1.chip.cell (by rfl), h1.chip.cell (by rfl), DAt.of h1.bks hb, h1.bks.frozen _, hr.frozen _, hr.frozen _, hr.frozen _, hr.lt, h1.bks.lt, h1.chip.lt, _, _, _, hr.cell (flat_get dpCells 3 dp_len 0 (by decide) b.pgs j _ (List.getElem?_eq_getElem hjb)), hr.cell (flat_get dpCells 3 dp_len 1 (by decide) b.pgs j _ (List.getElem?_eq_getElem hjb)), hr.cell (flat_get dpCells 3 dp_len 2 (by decide) b.pgs j _ (List.getElem?_eq_getElem hjb))⟩
def blank : DPg := ⟨true, true, none, 0, 0, []⟩
theorem blank_ok (w : World) : DOk w blank := ⟨rfl, by simp [blank], .inl rfl, fun _ => ⟨rfl, rfl⟩, .inl rfl⟩
theorem prog_abs (b : DBk) (j : Nat) (np : DPg) : (b.prog j np).abs = { b.abs with pgs := b.abs.pgs.set j np.abs, next := b.next + 1 } := by
  simp [DBk.prog, DBk.abs, List.map_set]
/-- How the ways end: the chip told, behind what was stored. -/
theorem ends {base : Nat} {w w1 W W' : World} {d : DS} {i j : Nat} {b : DBk} {np : DPg} (x kd td : Int) (hf : d.flt = ⟨x, kd, td⟩) (data : List Nat)
    (hx : b.abs.programmed data d.flt.ext = { b.abs with pgs := b.abs.pgs.set j np.abs, next := b.next + 1 })
    (h0 : Kept (fun k => k = d.p) w w1) (h1 : Kept d.foot w1 W) (hfoot : (d.progd i j b np).foot = d.foot) (h2 : Kept (d.progd i j b np).foot W W') (f : Flt) (hk : f.kind = kd) (h3 : DLies base W' ((d.progd i j b np).tell f).2) :
    DPost base w W' d { d.abs.begun with bks := d.abs.bks.set i (b.abs.programmed data d.flt.ext) } ((d.progd i j b np).tell f).2 := by
  obtain ⟨t1, t2, t3, t4⟩ := tell_foot (d.progd i j b np) f
  refine ⟨h3, ?_, ?_, ?_, t2, t3, t4⟩
  · rw [hfoot] at h2
    exact ((h0.mono (fun k e => .inl e)).trans h1).trans h2
  · intro k hk
    rw [t1, hfoot] at hk
    exact .inl hk
  · rw [(tell_abs _ f).1, abs_progd, prog_abs b j, hx, hk]
    have : d.abs.flt.kind = kd := by rw [abs_flt, hf]
    simp only [AS.begun, this]
    rfl
theorem spoil_abs (b : DBk) (j : Nat) (hnx : b.next = (j : Int)) (data : List Nat) : b.abs.programmed data 1 = { b.abs with pgs := b.abs.pgs.set j blank.abs, next := b.next + 1 } := by
  unfold ABk.programmed
  rw [if_neg (by decide), if_pos rfl]
  have : b.abs.next.toNat = j := by show b.next.toNat = j; rw [hnx]; simp
  rw [this]
  rfl
theorem data_abs (b : DBk) (j : Nat) (hnx : b.next = (j : Int)) (np : DPg) (hs : np.spoilt = false) : b.abs.programmed np.data 2 = { b.abs with pgs := b.abs.pgs.set j np.abs, next := b.next + 1 } := by
  unfold ABk.programmed
  rw [if_neg (by decide), if_neg (by decide)]
  have : b.abs.next.toNat = j := by show b.next.toNat = j; rw [hnx]; simp
  rw [this]
  have e : np.abs = ⟨false, np.data⟩ := by unfold DPg.abs; rw [hs]
  rw [e]
  rfl

set_option maxHeartbeats 4000000 in
theorem d_prog11 {base : Nat} {w : World} {d : DS} (h : DLies base w d) (i j : Nat) (a : Option Addr) (m dc : Nat) (data : List Nat) {b : DBk} (ho : d.off = false) (hb : d.bks[i]? = some b) (hj : j < d.gp) (hz : m ≤ d.gz)
    (hbad : b.bad = false) (hnx : b.next = (j : Int)) (x : Int) (hf : d.flt = ⟨x, 1, 1⟩) :
    Calls Try.prog 32 #[.pointer (some ⟨d.p, 0, none⟩), .int .i64 i, .int .i64 j, .slice a m dc] w fun e w' => ∃ d', e = .returned (.int .i64 d.flt.says) ∧ DPost base w w' d { d.abs.begun with bks := d.abs.bks.set i (b.abs.programmed data d.flt.ext) } d' := by
  have hat : d.at i = some b := by unfold DS.at; rw [if_neg (by omega)]; simpa using hb
  have ha := d_asked h i
  rw [asked_ok ho hat] at ha
  have hfl := d_fault h
  rw [hf] at hfl
  have hbm : b ∈ d.bks := List.mem_of_getElem? hb
  have hplen := h.good.plen b hbm
  have HG : Hid (∀ w1, DLies base w1 d.counted → After w1 d i j b) := fun w1 h1 => After.of h1 hb hj
  have hqr : ¬ d.q = b.r := h.bks.ne (h.pgs b hbm).1 (by decide)
  have hrq : ¬ b.r = d.q := fun e => hqr e.symm
  have HB : Hid (d.bks[i]? = some b) := hb
  have hcap := h.good.gs
  obtain ⟨c1, c2, c4, ⟨_, d1, d2, _⟩, hil, hjl⟩ := PAt.of h (j := j) hb hj
  rw [hbad] at d2
  rw [hnx] at d1
  have hjj : ((j : Int) != (j : Int)) = false := by simp
  have q1 : ¬ (j : Int) < 0 := by omega
  have q2 : ¬ (d.gp : Int) ≤ (j : Int) := by omega
  have q3 : ¬ (d.gz : Int) < (m : Int) := by omega
  have hjp : (j : Int) < (b.pgs.length : Int) := by omega
  have hwr : wrap64 ((j : Int) + 1) = (j : Int) + 1 := by unfold wrap64; omega
  have HNX : Hid (b.next = (j : Int)) := hnx
  have HBA : Hid (b.bad = false) := hbad
  have HF : Hid (d.flt = ⟨x, 1, 1⟩) := hf
  have HJ : Hid (j < d.gp) := hj
  clear hb hat ho hbm hplen hnx hbad h hf hj hcap
  go_enter Try.func32, Try.ntmps32
  go_wp2_with (first
    | (go_at_call 63; refine ha.mono ?_; rintro e w' ⟨rfl, rfl⟩)
    | (go_at_call 64; refine hfl.mono ?_; rintro e w1 ⟨rfl, hd1, hk1⟩; obtain ⟨g1, g4, ⟨e0, e1, e2, _⟩, z1, z20, z21, z22, z3, z4, z5, v0, v1, v2, u0, u1, u2⟩ := HG.out w1 hd1; rw [HNX.out] at e1; rw [HBA.out] at e2; have HD1 : Hid (DLies _ _ _) := hd1; have HK1 : Hid (Kept _ _ _) := hk1; clear hd1 hk1)
    | (go_at_call 65; obtain ⟨L5, K5, F5⟩ := prog_lies HD1.out HB.out HJ.out HNX.out blank (blank_ok _) (Nat.zero_le _); rw [HNX.out] at L5 K5; have L6 := L5.later (below_new _ (Obj.cells #[.int .i64 x, .int .i64 1, .int .i64 1] 78)); have K6 := K5.alloc (Obj.cells #[.int .i64 x, .int .i64 1, .int .i64 1] 78); have T6 := d_told L6 ⟨x, 1, 1⟩; have HK6 : Hid (Kept _ _ _) := K6; have HF5 : Hid (DS.foot _ = DS.foot _) := F5; clear L5 K5 L6 K6 F5; go_must (refine T6.mono ?_); rintro e w3 ⟨rfl, hl3, hk3⟩; have HL3 : Hid (DLies _ _ _) := hl3; have HK3 : Hid (Kept _ _ _) := hk3; clear hl3 hk3 T6))
  go_ret
  refine ⟨_, ?_, ends x 1 1 HF.out data ?_ HK1.out HK6.out HF5.out HK3.out ⟨x, 1, 1⟩ rfl HL3.out⟩
  · rw [HF.out, ← (tell_abs (d.progd i j b blank) ⟨x, 1, 1⟩).2]; rfl
  · rw [HF.out]; exact spoil_abs b j HNX.out data

set_option maxHeartbeats 4000000 in
theorem d_prog20 {base : Nat} {w : World} {d : DS} (h : DLies base w d) (i j : Nat) (a : Option Addr) (m dc : Nat) (data : List Nat) {b : DBk} (ho : d.off = false) (hb : d.bks[i]? = some b) (hj : j < d.gp) (hz : m ≤ d.gz)
    (hbad : b.bad = false) (hnx : b.next = (j : Int)) (x : Int) (hf : d.flt = ⟨x, 2, 0⟩) :
    Calls Try.prog 32 #[.pointer (some ⟨d.p, 0, none⟩), .int .i64 i, .int .i64 j, .slice a m dc] w fun e w' => ∃ d', e = .returned (.int .i64 d.flt.says) ∧ DPost base w w' d { d.abs.begun with bks := d.abs.bks.set i (b.abs.programmed data d.flt.ext) } d' := by
  have hat : d.at i = some b := by unfold DS.at; rw [if_neg (by omega)]; simpa using hb
  have ha := d_asked h i
  rw [asked_ok ho hat] at ha
  have hfl := d_fault h
  rw [hf] at hfl
  have hbm : b ∈ d.bks := List.mem_of_getElem? hb
  have hplen := h.good.plen b hbm
  have HG : Hid (∀ w1, DLies base w1 d.counted → After w1 d i j b) := fun w1 h1 => After.of h1 hb hj
  have hqr : ¬ d.q = b.r := h.bks.ne (h.pgs b hbm).1 (by decide)
  have hrq : ¬ b.r = d.q := fun e => hqr e.symm
  have HB : Hid (d.bks[i]? = some b) := hb
  have hcap := h.good.gs
  obtain ⟨c1, c2, c4, ⟨_, d1, d2, _⟩, hil, hjl⟩ := PAt.of h (j := j) hb hj
  rw [hbad] at d2
  rw [hnx] at d1
  have hjj : ((j : Int) != (j : Int)) = false := by simp
  have q1 : ¬ (j : Int) < 0 := by omega
  have q2 : ¬ (d.gp : Int) ≤ (j : Int) := by omega
  have q3 : ¬ (d.gz : Int) < (m : Int) := by omega
  have hjp : (j : Int) < (b.pgs.length : Int) := by omega
  have hwr : wrap64 ((j : Int) + 1) = (j : Int) + 1 := by unfold wrap64; omega
  have HNX : Hid (b.next = (j : Int)) := hnx
  have HBA : Hid (b.bad = false) := hbad
  have HF : Hid (d.flt = ⟨x, 2, 0⟩) := hf
  have HJ : Hid (j < d.gp) := hj
  clear hb hat ho hbm hplen hnx hbad h hf hj hcap
  go_enter Try.func32, Try.ntmps32
  go_wp2_with (first
    | (go_at_call 63; refine ha.mono ?_; rintro e w' ⟨rfl, rfl⟩)
    | (go_at_call 64; refine hfl.mono ?_; rintro e w1 ⟨rfl, hd1, hk1⟩; obtain ⟨g1, g4, ⟨e0, e1, e2, _⟩, z1, z20, z21, z22, z3, z4, z5, v0, v1, v2, u0, u1, u2⟩ := HG.out w1 hd1; rw [HNX.out] at e1; rw [HBA.out] at e2; have HD1 : Hid (DLies _ _ _) := hd1; have HK1 : Hid (Kept _ _ _) := hk1; clear hd1 hk1)
    | (go_at_call 65; obtain ⟨L5, K5, F5⟩ := prog_lies HD1.out HB.out HJ.out HNX.out blank (blank_ok _) (Nat.zero_le _); rw [HNX.out] at L5 K5; have L6 := L5.later (below_new _ (Obj.cells #[.int .i64 x, .int .i64 2, .int .i64 1] 78)); have K6 := K5.alloc (Obj.cells #[.int .i64 x, .int .i64 2, .int .i64 1] 78); have T6 := d_told L6 ⟨x, 2, 1⟩; have HK6 : Hid (Kept _ _ _) := K6; have HF5 : Hid (DS.foot _ = DS.foot _) := F5; clear L5 K5 L6 K6 F5; go_must (refine T6.mono ?_); rintro e w3 ⟨rfl, hl3, hk3⟩; have HL3 : Hid (DLies _ _ _) := hl3; have HK3 : Hid (Kept _ _ _) := hk3; clear hl3 hk3 T6))
  go_ret
  refine ⟨_, ?_, ends x 2 0 HF.out data ?_ HK1.out HK6.out HF5.out HK3.out ⟨x, 2, 1⟩ rfl HL3.out⟩
  · rw [HF.out, ← (tell_abs (d.progd i j b blank) ⟨x, 2, 0⟩).2]; rfl
  · rw [HF.out]; exact spoil_abs b j HNX.out data

set_option maxHeartbeats 4000000 in
theorem d_prog10 {base : Nat} {w : World} {d : DS} (h : DLies base w d) (i j : Nat) (a : Option Addr) (m dc : Nat) (data : List Nat) {b : DBk} (ho : d.off = false) (hb : d.bks[i]? = some b) (hj : j < d.gp) (hz : m ≤ d.gz)
    (hbad : b.bad = false) (hnx : b.next = (j : Int)) (x : Int) (hf : d.flt = ⟨x, 1, 0⟩) :
    Calls Try.prog 32 #[.pointer (some ⟨d.p, 0, none⟩), .int .i64 i, .int .i64 j, .slice a m dc] w fun e w' => ∃ d', e = .returned (.int .i64 d.flt.says) ∧ DPost base w w' d { d.abs.begun with bks := d.abs.bks.set i (b.abs.programmed data d.flt.ext) } d' := by
  have hat : d.at i = some b := by unfold DS.at; rw [if_neg (by omega)]; simpa using hb
  have ha := d_asked h i
  rw [asked_ok ho hat] at ha
  have hfl := d_fault h
  rw [hf] at hfl
  have hbm : b ∈ d.bks := List.mem_of_getElem? hb
  have hplen := h.good.plen b hbm
  have HG : Hid (∀ w1, DLies base w1 d.counted → After w1 d i j b) := fun w1 h1 => After.of h1 hb hj
  have hqr : ¬ d.q = b.r := h.bks.ne (h.pgs b hbm).1 (by decide)
  have hrq : ¬ b.r = d.q := fun e => hqr e.symm
  have HB : Hid (d.bks[i]? = some b) := hb
  have hcap := h.good.gs
  obtain ⟨c1, c2, c4, ⟨_, d1, d2, _⟩, hil, hjl⟩ := PAt.of h (j := j) hb hj
  rw [hbad] at d2
  rw [hnx] at d1
  have hjj : ((j : Int) != (j : Int)) = false := by simp
  have q1 : ¬ (j : Int) < 0 := by omega
  have q2 : ¬ (d.gp : Int) ≤ (j : Int) := by omega
  have q3 : ¬ (d.gz : Int) < (m : Int) := by omega
  have hjp : (j : Int) < (b.pgs.length : Int) := by omega
  have hwr : wrap64 ((j : Int) + 1) = (j : Int) + 1 := by unfold wrap64; omega
  have HNX : Hid (b.next = (j : Int)) := hnx
  have HBA : Hid (b.bad = false) := hbad
  have HF : Hid (d.flt = ⟨x, 1, 0⟩) := hf
  have HJ : Hid (j < d.gp) := hj
  clear hb hat ho hbm hplen hnx hbad h hf hj hcap
  go_enter Try.func32, Try.ntmps32
  go_wp2_with (first
    | (go_at_call 63; refine ha.mono ?_; rintro e w' ⟨rfl, rfl⟩)
    | (go_at_call 64; refine hfl.mono ?_; rintro e w1 ⟨rfl, hd1, hk1⟩; obtain ⟨g1, g4, ⟨e0, e1, e2, _⟩, z1, z20, z21, z22, z3, z4, z5, v0, v1, v2, u0, u1, u2⟩ := HG.out w1 hd1; rw [HNX.out] at e1; rw [HBA.out] at e2; have HD1 : Hid (DLies _ _ _) := hd1; have HK1 : Hid (Kept _ _ _) := hk1; clear hd1 hk1)
    | (go_at_call 65; have L6 := HD1.out.later (below_new w1 (Obj.cells #[.int .i64 x, .int .i64 1, .int .i64 0] 78)); have T6 := d_told L6 ⟨x, 1, 0⟩; clear L6; go_must (refine T6.mono ?_); rintro e w3 ⟨rfl, hl3, hk3⟩; have HL3 : Hid (DLies _ _ _) := hl3; have HK3 : Hid (Kept _ _ _) := hk3; clear hl3 hk3 T6))
  go_ret
  obtain ⟨t1, t2, t3, t4⟩ := tell_foot d.counted ⟨x, 1, 0⟩
  refine ⟨(d.counted.tell ⟨x, 1, 0⟩).2, ?_, HL3.out, ?_, ?_, ?_, t2, t3, t4⟩
  · rw [HF.out]; rfl
  · exact ((HK1.out.mono (fun k e => .inl e)).alloc _).trans HK3.out
  · intro k hk; rw [t1] at hk; exact .inl hk
  · rw [(tell_abs _ _).1]
    have e1 : b.abs.programmed data d.flt.ext = b.abs := by rw [HF.out]; rfl
    have e2 : d.abs.bks.set i b.abs = d.abs.bks := set_self (by show (d.bks.map DBk.abs)[i]? = _; rw [List.getElem?_map, HB.out]; rfl)
    have e3 : d.abs.flt.kind = 1 := by rw [abs_flt, HF.out]
    rw [e1, e2]
    simp only [AS.begun, e3]
    rfl
end Go.Proofs.Ytiejkbncpbhcdaa
