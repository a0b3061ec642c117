/-
  Both chips in one memory: what one of them does leaves the other alone.
  A step of a script, on both chips.
  Both chips say the same of a block and a page.
  Both chips made anew; scripts.
-/
import Derived.Test.YteoakhfofnocfaaGreatDoorGZ
import Derived.Test.YteoakhfofnocfaaGreatDoorGV
import Derived.Deep.RegionHeld3
namespace Go.Proofs.YteoakhfofnocfaaGreatDoor
open Go.RowKit
set_option maxRecDepth 10000

theorem Lies.foot_not {base : Nat} {w : World} {c : CS} (h : Lies base w c) {k : Nat} {cs : List Value} {t : TypeId} (hr : Row w k cs t) (h1 : t ≠ 75) (h2 : t ≠ 80) (h3 : t ≠ 147) : ¬ c.foot k := by
  rintro (rfl | rfl | hk)
  · obtain ⟨fa, fc, g, _⟩ := h.chip; exact hr.ne g h1 rfl
  · exact hr.ne h.bks h2 rfl
  · obtain ⟨b, hb, rfl⟩ := List.mem_map.1 hk; exact hr.ne (h.pgs b hb) h3 rfl
theorem DLies.foot_not {base : Nat} {w : World} {d : DS} (h : DLies base w d) {k : Nat} {cs : List Value} {t : TypeId} (hr : Row w k cs t) (h1 : t ≠ 84) (h2 : t ≠ 87) (h3 : t ≠ 132) : ¬ d.foot k := by
  rintro (rfl | rfl | hk)
  · exact hr.ne h.chip h1 rfl
  · exact hr.ne h.bks h2 rfl
  · obtain ⟨b, hb, rfl⟩ := List.mem_map.1 hk; exact hr.ne (h.pgs b hb).1 h3 rfl
theorem apart_feet {base base2 : Nat} {w : World} {c : CS} {d : DS} (h : Lies base w c) (g : DLies base2 w d) : ∀ k, c.foot k → ¬ d.foot k := by
  rintro k hc (rfl | rfl | hk)
  · exact h.foot_not g.chip (by decide) (by decide) (by decide) hc
  · exact h.foot_not g.bks (by decide) (by decide) (by decide) hc
  · obtain ⟨b, hb, rfl⟩ := List.mem_map.1 hk; exact h.foot_not (g.pgs b hb).1 (by decide) (by decide) (by decide) hc
/-- Where the document's chip keeps its plan. -/
def PlanAt (base : Nat) (w : World) (d : DS) : Prop := ∀ b o, d.pa = some ⟨b, o, none⟩ → d.plan ≠ [] → b < base ∨ ∃ cs, Row w b cs 121
/-- Steps of a script that were laid stay. -/
def OpKept (w w' : World) : Prop := ∀ B cs, Row w B cs 38 → Row w' B cs 38
theorem OpKept.trans {a b c : World} (h : OpKept a b) (k : OpKept b c) : OpKept a c := fun B cs r => k B cs (h B cs r)
theorem OpKept.later {a b : World} (h : Below a.heap.size a b) : OpKept a b := fun _ _ r => r.later h
structure Duo (base : Nat) (w : World) (c : CS) (d : DS) (k : Nat) : Prop where
  cl : Lies base w c
  dl : DLies base w d
  rel : Rel k c d.abs
  pat : PlanAt base w d
theorem Duo.later {base : Nat} {w W : World} {c : CS} {d : DS} {k : Nat} (h : Duo base w c d k) (hb : Below w.heap.size w W) : Duo base W c d k :=
  ⟨h.cl.later hb, h.dl.later hb, h.rel, fun b o e hl => (h.pat b o e hl).imp id fun ⟨cs, r⟩ => ⟨cs, r.later hb⟩⟩
theorem Lies.size {base : Nat} {w : World} {c : CS} (h : Lies base w c) : base ≤ w.heap.size := Nat.le_of_lt (Nat.lt_of_le_of_lt (h.low _ (.inl rfl)) (h.foot_lt (.inl rfl)))
theorem DLies.size {base : Nat} {w : World} {d : DS} (h : DLies base w d) : base ≤ w.heap.size := Nat.le_of_lt (Nat.lt_of_le_of_lt (h.low _ (.inl rfl)) (h.foot_lt (.inl rfl)))
theorem d_keeps {base : Nat} {W w1 : World} {c : CS} {d : DS} (hc : Lies base W c) (hd : DLies base W d) (hp : PlanAt base W d) (hk : Kept c.foot W w1) : DLies base w1 d ∧ PlanAt base w1 d ∧ OpKept W w1 ∧ Below base W w1 := by
  refine ⟨hd.kept hk (fun k h1 h2 => apart_feet hc hd k h2 h1) (fun b cs hr => hc.foot_not hr (by decide) (by decide) (by decide)) ?_, ?_, ?_, hk.low hc hc.size⟩
  · intro b o e hl hf
    rcases hp b o e hl with q | ⟨cs, q⟩
    · have := hc.low b hf; omega
    · exact hc.foot_not q (by decide) (by decide) (by decide) hf
  · intro b o e hl
    refine (hp b o e hl).imp id fun ⟨cs, q⟩ => ⟨cs, q.kept hk (hc.foot_not q (by decide) (by decide) (by decide))⟩
  · exact fun B cs r => r.kept hk (hc.foot_not r (by decide) (by decide) (by decide))
theorem c_keeps {base : Nat} {W w1 : World} {c : CS} {d : DS} (hc : Lies base W c) (hd : DLies base W d) (hk : Kept d.foot W w1) : Lies base w1 c ∧ OpKept W w1 ∧ Below base W w1 ∧ ∀ b cs, Row W b cs 121 → Row w1 b cs 121 :=
  ⟨hc.kept hk (fun k h1 h2 => apart_feet hc hd k h1 h2) (fun b cs hr => hd.foot_not hr (by decide) (by decide) (by decide)), fun B cs r => r.kept hk (hd.foot_not r (by decide) (by decide) (by decide)), hk.below hd.size hd.low, fun b cs r => r.kept hk (hd.foot_not r (by decide) (by decide) (by decide))⟩
/-- Behind the chip's own step. -/
structure Mid (base : Nat) (W w1 : World) (c' : CS) (d : DS) : Prop where
  cl : Lies base w1 c'
  dl : DLies base w1 d
  pat : PlanAt base w1 d
  ops : OpKept W w1
  below : Below base W w1
theorem Duo.mid {base : Nat} {W w1 : World} {c c' : CS} {d : DS} {k : Nat} (h : Duo base W c d k) (hl : Lies base w1 c') (hk : Kept c.foot W w1) : Mid base W w1 c' d := by
  obtain ⟨a1, a2, a3, a4⟩ := d_keeps h.cl h.dl h.pat hk
  exact ⟨hl, a1, a2, a3, a4⟩
/-- A chip's geometry. -/
def CS.geo (c : CS) : Nat × Nat × Nat × Nat := (c.gb, c.gp, c.gz, c.gr)
/-- Behind both steps. -/
structure Went (base : Nat) (W w2 : World) (p q k : Nat) (c' : CS) (d' : DS) (c : CS) : Prop where
  duo : Duo base w2 c' d' k
  ops : OpKept W w2
  below : Below base W w2
  p : c'.p = p
  q : d'.p = q
  geo : c'.geo = c.geo
theorem Mid.went {base : Nat} {W w1 w2 : World} {c' : CS} {d d' : DS} {p q k : Nat} (h : Mid base W w1 c' d) (hl : DLies base w2 d') (hk : Kept d.foot w1 w2) (hr : Rel k c' d'.abs) (hpa : PlanAt base w2 d') (hp : c'.p = p) (hq : d'.p = q) {c : CS} (hge : c'.geo = c.geo) : Went base W w2 p q k c' d' c := by
  obtain ⟨b1, b2, b3, _⟩ := c_keeps h.cl h.dl hk
  exact ⟨⟨b1, hl, hr, hpa⟩, h.ops.trans b2, h.below.trans b3, hp, hq, hge⟩
theorem Mid.plan {base : Nat} {W w1 w2 : World} {c' : CS} {d d' : DS} (h : Mid base W w1 c' d) (hk : Kept d.foot w1 w2) (e1 : d'.pa = d.pa) (e2 : d'.plan = d.plan) : PlanAt base w2 d' := by
  intro b o e hl
  rw [e1] at e
  rw [e2] at hl
  exact (h.pat b o e hl).imp id fun ⟨cs, r⟩ => ⟨cs, (c_keeps h.cl h.dl hk).2.2.2 b cs r⟩
/-- A row that came in from below. -/
def Old (base : Nat) (a : Option Addr) : Prop := ∀ b o, a = some ⟨b, o, none⟩ → b < base
theorem brow_below {base : Nat} {w w' : World} {a : Option Addr} {l : List Nat} (h : BRow w a l) (hn : l = [] ∨ Old base a) (hb : Below base w w') : BRow w' a l := by
  rcases h with e | ⟨b, off, e, hc⟩
  · exact .inl e
  · rcases hn with q | q
    · exact .inl q
    · exact .inr ⟨b, off, e, fun i hi => by rw [hb.cell (p := ⟨b, off + i, none⟩) (q b off e)]; exact hc i hi⟩
theorem frow_below {base : Nat} {w w' : World} {a : Option Addr} {l : List Flt} (h : FRow w a l) (hn : l = [] ∨ Old base a) (hb : Below base w w') : FRow w' a l := by
  rcases h with e | ⟨b, off, e, hc⟩
  · exact .inl e
  · rcases hn with q | q
    · exact .inl q
    · refine .inr ⟨b, off, e, fun i f hf => ?_⟩
      rw [hb.cell (p := ⟨b, off + i * 3, none⟩) (q b off e), hb.cell (p := ⟨b, off + i * 3 + 1, none⟩) (q b off e), hb.cell (p := ⟨b, off + i * 3 + 2, none⟩) (q b off e)]
      exact hc i f hf
/-- What a step of a script brings along. -/
structure Brings (base : Nat) (w : World) (o : OpD) : Prop where
  len : o.dl = o.data.length
  row : BRow w o.da o.data
  lt : ∀ y ∈ o.data, y < 256
  nil : o.da = none → o.dl = 0 ∧ o.dc = 0
  old : o.data = [] ∨ Old base o.da
  plen : o.pl = o.plan.length
  pmax : o.pl ≤ 9223372036854775807
  prow : FRow w o.pa o.plan
  pnil : o.pa = none → o.pl = 0 ∧ o.pc = 0
  pold : o.plan = [] ∨ Old base o.pa
theorem Brings.below {base : Nat} {w w' : World} {o : OpD} (h : Brings base w o) (hb : Below base w w') : Brings base w' o :=
  ⟨h.len, brow_below h.row h.old hb, h.lt, h.nil, h.old, h.plen, h.pmax, frow_below h.prow h.pold hb, h.pnil, h.pold⟩
theorem CS.program_p (c : CS) (b p : Int) (l : List Nat) : (c.program b p l).2.p = c.p := by
  unfold CS.program
  repeat' split
  all_goals rfl
theorem CS.erase_p (c : CS) (b : Int) : (c.erase b).2.p = c.p := by
  unfold CS.erase
  repeat' split
  all_goals rfl
theorem CS.mark_p (c : CS) (b : Int) : (c.mark b).2.p = c.p := by
  unfold CS.mark
  repeat' split
  all_goals rfl
theorem CS.program_geo (c : CS) (b p : Int) (l : List Nat) : (c.program b p l).2.geo = c.geo := by
  unfold CS.program
  repeat' split
  all_goals rfl
theorem CS.erase_geo (c : CS) (b : Int) : (c.erase b).2.geo = c.geo := by
  unfold CS.erase
  repeat' split
  all_goals rfl
theorem CS.mark_geo (c : CS) (b : Int) : (c.mark b).2.geo = c.geo := by
  unfold CS.mark
  repeat' split
  all_goals rfl
theorem Duo.prog1 {base : Nat} {W : World} {c : CS} {d : DS} {k : Nat} (h : Duo base W c d k) (o : OpD) (ho : Brings base W o) (p : Nat) (hp : c.p = p) :
    Calls Tryz.prog 32 #[.pointer (some ⟨p, 0, none⟩), .int .i64 o.block, .int .i64 o.page, .slice o.da o.dl o.dc] W fun e w1 => e = .returned (.int .i64 (c.program o.block o.page o.data).1) ∧ Mid base W w1 (c.program o.block o.page o.data).2 d := by
  subst hp
  refine (program_all h.cl o.block o.page o.da o.dl o.dc o.data ho.len ho.row ho.lt (ho.old.imp id fun q b oo e hf => ?_)).mono ?_
  · have := q b oo e; have := h.cl.low b hf; omega
  · rintro e w1 ⟨he, hl, hk, _⟩
    exact ⟨he, h.mid hl hk⟩
theorem Duo.prog2 {base : Nat} {W w1 : World} {c : CS} {d : DS} {k : Nat} (h : Duo base W c d k) (hk : k < 9223372036854775807) (o : OpD) (ho : Brings base W o) (p q : Nat) (hp : c.p = p) (hq : d.p = q) (hm : Mid base W w1 (c.program o.block o.page o.data).2 d) :
    Calls Tryz.prog 37 #[.pointer (some ⟨q, 0, none⟩), .int .i64 o.block, .int .i64 o.page, .slice o.da o.dl o.dc] w1 fun e w2 => e = .returned (.int .i64 (c.program o.block o.page o.data).1) ∧ ∃ c' d', Went base W w2 p q (k + 1) c' d' c := by
  subst hq
  have ho1 := ho.below hm.below
  refine (d_program hm.dl o.block o.page o.da o.dl o.dc o.data ho1.len ho1.row ho1.lt ho1.nil (ho1.old.imp id fun q b oo e hf => ?_)).mono ?_
  · have := q b oo e; have := hm.dl.low b (.inl hf); omega
  · rintro e w2 ⟨d', he, hpo⟩
    obtain ⟨r1, r2⟩ := h.rel.program h.cl.good hk o.block o.page o.data
    rw [← hpo.abs] at r2
    rw [← r1] at he
    exact ⟨he, _, d', hm.went hpo.lies hpo.kept r2 (hm.plan hpo.kept hpo.pa.1 hpo.pa.2) ((CS.program_p _ _ _ _).trans hp) hpo.pl (CS.program_geo _ _ _ _)⟩
theorem Duo.era1 {base : Nat} {W : World} {c : CS} {d : DS} {k : Nat} (h : Duo base W c d k) (b : Int) (p : Nat) (hp : c.p = p) :
    Calls Tryz.prog 38 #[.pointer (some ⟨p, 0, none⟩), .int .i64 b] W fun e w1 => e = .returned (.int .i64 (c.erase b).1) ∧ Mid base W w1 (c.erase b).2 d := by
  subst hp
  refine (erase_all h.cl b).mono ?_
  rintro e w1 ⟨he, hl, hk, _⟩
  exact ⟨he, h.mid hl hk⟩
theorem Duo.era2 {base : Nat} {W w1 : World} {c : CS} {d : DS} {k : Nat} (h : Duo base W c d k) (hk : k < 9223372036854775807) (b : Int) (p q : Nat) (hp : c.p = p) (hq : d.p = q) (hm : Mid base W w1 (c.erase b).2 d) :
    Calls Tryz.prog 39 #[.pointer (some ⟨q, 0, none⟩), .int .i64 b] w1 fun e w2 => e = .returned (.int .i64 (c.erase b).1) ∧ ∃ c' d', Went base W w2 p q (k + 1) c' d' c := by
  subst hq
  refine (d_erase hm.dl b).mono ?_
  rintro e w2 ⟨d', he, hpo⟩
  obtain ⟨r1, r2⟩ := h.rel.erase h.cl.good hk b
  rw [← hpo.abs] at r2
  rw [← r1] at he
  exact ⟨he, _, d', hm.went hpo.lies hpo.kept r2 (hm.plan hpo.kept hpo.pa.1 hpo.pa.2) ((CS.erase_p _ _).trans hp) hpo.pl (CS.erase_geo _ _)⟩
theorem mark_abs (d : DS) (b : Int) : (d.mark b).1 = (d.abs.mark b).1 ∧ (d.mark b).2.abs = (d.abs.mark b).2 ∧ (d.mark b).2.p = d.p ∧ (d.mark b).2.pa = d.pa ∧ (d.mark b).2.plan = d.plan := by
  unfold DS.mark AS.mark
  rw [abs_at]
  by_cases ho : d.off = true
  · rw [if_pos ho, if_pos (show d.abs.off = true from ho)]; exact ⟨rfl, rfl, rfl, rfl, rfl⟩
  · rw [if_neg ho, if_neg (show ¬ d.abs.off = true from ho)]
    cases d.at b with
    | none => exact ⟨rfl, rfl, rfl, rfl, rfl⟩
    | some e =>
      refine ⟨rfl, ?_, rfl, rfl, rfl⟩
      show DS.abs _ = _
      unfold DS.abs
      simp only [map_set']
      rfl
theorem Duo.mar1 {base : Nat} {W : World} {c : CS} {d : DS} {k : Nat} (h : Duo base W c d k) (b : Int) (p : Nat) (hp : c.p = p) :
    Calls Tryz.prog 40 #[.pointer (some ⟨p, 0, none⟩), .int .i64 b] W fun e w1 => e = .returned (.int .i64 (c.mark b).1) ∧ Mid base W w1 (c.mark b).2 d := by
  subst hp
  refine (mark_any h.cl b).mono ?_
  rintro e w1 ⟨he, hl, hk, _⟩
  exact ⟨he, h.mid hl hk⟩
theorem Duo.mar2 {base : Nat} {W w1 : World} {c : CS} {d : DS} {k : Nat} (h : Duo base W c d k) (b : Int) (p q : Nat) (hp : c.p = p) (hq : d.p = q) (hm : Mid base W w1 (c.mark b).2 d) :
    Calls Tryz.prog 41 #[.pointer (some ⟨q, 0, none⟩), .int .i64 b] w1 fun e w2 => e = .returned (.int .i64 (c.mark b).1) ∧ ∃ c' d', Went base W w2 p q (k + 1) c' d' c := by
  subst hq
  refine (d_mark hm.dl b).mono ?_
  rintro e w2 ⟨he, hl, hk2, _⟩
  obtain ⟨m1, m2, m3, m4, m5⟩ := mark_abs d b
  obtain ⟨r1, r2⟩ := h.rel.mark b
  rw [← m2] at r2
  rw [m1, ← r1] at he
  exact ⟨he, _, _, hm.went hl hk2 (r2.mono (Nat.le_succ k)) (hm.plan hk2 m4 m5) ((CS.mark_p _ _).trans hp) m3 (CS.mark_geo _ _)⟩
theorem Duo.pow1 {base : Nat} {W : World} {c : CS} {d : DS} {k : Nat} (h : Duo base W c d k) (p : Nat) (hp : c.p = p) :
    Calls Tryz.prog 25 #[.pointer (some ⟨p, 0, none⟩)] W fun e w1 => e = .returned (.tuple #[]) ∧ Mid base W w1 { c with on := true } d := by
  subst hp
  refine (power_any h.cl).mono ?_
  rintro e w1 ⟨he, hl, hk, _⟩
  exact ⟨he, h.mid hl hk⟩
theorem Duo.pow2 {base : Nat} {W w1 : World} {c : CS} {d : DS} {k : Nat} (h : Duo base W c d k) (p q : Nat) (hp : c.p = p) (hq : d.p = q) (hm : Mid base W w1 { c with on := true } d) :
    Calls Tryz.prog 42 #[.pointer (some ⟨q, 0, none⟩)] w1 fun e w2 => e = .returned (.tuple #[]) ∧ ∃ c' d', Went base W w2 p q (k + 1) c' d' c := by
  subst hq
  refine (d_power hm.dl).mono ?_
  rintro e w2 ⟨he, hl, hk2⟩
  exact ⟨he, _, _, hm.went hl hk2 (h.rel.power.mono (Nat.le_succ k)) (hm.plan hk2 rfl rfl) hp rfl rfl⟩
theorem Duo.armN1 {base : Nat} {W : World} {c : CS} {d : DS} {k : Nat} (h : Duo base W c d k) (o : OpD) (ho : Brings base W o) (p : Nat) (hp : c.p = p) (hn : ¬ (o.pl ≤ 256 ∧ planOk o.plan)) :
    Calls Tryz.prog 43 #[.pointer (some ⟨p, 0, none⟩), .slice o.pa o.pl o.pc] W fun e w1 => e = .returned (.int .i64 22) ∧ Mid base W w1 c d := by
  refine (arm_no h.cl p hp o.pa o.pl o.pc o.plan ho.plen ho.prow hn).mono ?_
  rintro e w1 ⟨he, hl, hb⟩
  exact ⟨he, h.mid hl (.of_below hb)⟩
theorem Duo.armN2 {base : Nat} {W w1 : World} {c : CS} {d : DS} {k : Nat} (h : Duo base W c d k) (o : OpD) (ho : Brings base W o) (p q : Nat) (hp : c.p = p) (hq : d.p = q) (hn : ¬ (o.pl ≤ 256 ∧ planOk o.plan)) (hm : Mid base W w1 c d) :
    Calls Tryz.prog 44 #[.pointer (some ⟨q, 0, none⟩), .slice o.pa o.pl o.pc] w1 fun e w2 => e = .returned (.int .i64 22) ∧ ∃ c' d', Went base W w2 p q (k + 1) c' d' c := by
  subst hq
  have ho1 := ho.below hm.below
  refine (d_arm hm.dl o.pa o.pl o.pc o.plan ho1.plen ho1.pmax ho1.prow ho1.pnil).mono ?_
  rintro e w2 (⟨_, he, hl, hb⟩ | ⟨hy, _⟩)
  · exact ⟨he, _, _, hm.went hl (.of_below hb) (h.rel.mono (Nat.le_succ k)) (hm.plan (.of_below hb) rfl rfl) hp rfl rfl⟩
  · exact absurd hy hn
/-- The plan, sorted. -/
def Sorted (s l : List Flt) : Prop := s.Perm l ∧ s.Pairwise (fun x y => x.num < y.num)
theorem Duo.armY1 {base : Nat} {W : World} {c : CS} {d : DS} {k : Nat} (h : Duo base W c d k) (o : OpD) (ho : Brings base W o) (p : Nat) (hp : c.p = p) (hy : o.pl ≤ 256 ∧ planOk o.plan) :
    Calls Tryz.prog 43 #[.pointer (some ⟨p, 0, none⟩), .slice o.pa o.pl o.pc] W fun e w1 => ∃ s, e = .returned (.int .i64 0) ∧ Sorted s o.plan ∧ Mid base W w1 { c with fs := s, steps := 0 } d := by
  refine (arm_yes h.cl p hp o.pa o.pl o.pc o.plan ho.plen ho.prow hy).mono ?_
  rintro e w1 ⟨he, s, s1, s2, hl, hk⟩
  exact ⟨s, he, ⟨s1, s2⟩, h.mid hl hk⟩
theorem Duo.armY2 {base : Nat} {W w1 : World} {c : CS} {d : DS} {k : Nat} (h : Duo base W c d k) (o : OpD) (ho : Brings base W o) (p q : Nat) (hp : c.p = p) (hq : d.p = q) (hy : o.pl ≤ 256 ∧ planOk o.plan) (s : List Flt) (hs : Sorted s o.plan) (hm : Mid base W w1 { c with fs := s, steps := 0 } d) :
    Calls Tryz.prog 44 #[.pointer (some ⟨q, 0, none⟩), .slice o.pa o.pl o.pc] w1 fun e w2 => e = .returned (.int .i64 0) ∧ ∃ c' d', Went base W w2 p q (k + 1) c' d' c := by
  subst hq
  have ho1 := ho.below hm.below
  refine (d_arm hm.dl o.pa o.pl o.pc o.plan ho1.plen ho1.pmax ho1.prow ho1.pnil).mono ?_
  rintro e w2 (⟨hn, _⟩ | ⟨_, he, na, nc, hl, hk2, hpl⟩)
  · exact absurd hy hn
  · exact ⟨he, _, _, hm.went hl hk2 ((h.rel.arm o.plan s hs.1 hs.2 hy.2 (by rw [← ho.plen]; exact hy.1)).mono (Nat.le_succ k)) (fun b oo e hl2 => .inr (hpl b oo e hl2)) hp rfl rfl⟩
end Go.Proofs.YteoakhfofnocfaaGreatDoor
namespace Go.Proofs.YteoakhfofnocfaaGreatDoor
open Go.RowKit
set_option maxRecDepth 10000

/-- A step as a value. -/
def opCells (o : OpD) : List Value := [.int .i64 o.kind, .int .i64 o.block, .int .i64 o.page, .slice o.da o.dl o.dc, .slice o.pa o.pl o.pc]
theorem op_row {w w1 : World} {o : OpD} (h : OpKept (w.alloc (.cells #[.int .i64 o.kind, .int .i64 o.block, .int .i64 o.page, .slice o.da o.dl o.dc, .slice o.pa o.pl o.pc] 38)) w1) :
    w1.cell? ⟨w.heap.size, 1, none⟩ = some (.int .i64 o.block) ∧ w1.cell? ⟨w.heap.size, 2, none⟩ = some (.int .i64 o.page) ∧ w1.cell? ⟨w.heap.size, 3, none⟩ = some (.slice o.da o.dl o.dc) ∧ w1.cell? ⟨w.heap.size, 4, none⟩ = some (.slice o.pa o.pl o.pc) := by
  have := h _ _ (Row.new w [.int .i64 o.kind, .int .i64 o.block, .int .i64 o.page, .slice o.da o.dl o.dc, .slice o.pa o.pl o.pc] 38)
  exact ⟨this.cell (i := 1) rfl, this.cell (i := 2) rfl, this.cell (i := 3) rfl, this.cell (i := 4) rfl⟩
def DoesPost (base : Nat) (w : World) (p q k : Nat) (c : CS) (e : Ending) (w' : World) : Prop := e = .returned (.bool true) ∧ ∃ c' d', Went base w w' p q (k + 1) c' d' c
theorem Went.from {base : Nat} {w W w2 : World} {p q k : Nat} {c' c : CS} {d' : DS} (h : Went base W w2 p q k c' d' c) (hb : Below w.heap.size w W) (hs : base ≤ w.heap.size) : Went base w w2 p q k c' d' c :=
  ⟨h.duo, (OpKept.later hb).trans h.ops, (hb.mono hs).trans h.below, h.p, h.q, h.geo⟩
set_option maxHeartbeats 4000000 in
theorem does_any {base : Nat} {w : World} {c : CS} {d : DS} {k : Nat} (h : Duo base w c d k) (hk : k < 9223372036854775807) (o : OpD) (ho : Brings base w o) (p q : Nat) (hp : c.p = p) (hq : d.p = q) :
    Calls Tryz.prog 12 #[.pointer (some ⟨p, 0, none⟩), .pointer (some ⟨q, 0, none⟩), .agg #[.int .i64 o.kind, .int .i64 o.block, .int .i64 o.page, .slice o.da o.dl o.dc, .slice o.pa o.pl o.pc]] w fun e w' => DoesPost base w p q k c e w' := by
  obtain ⟨WB, hWB⟩ : ∃ W, W = w.alloc (.cells #[.int .i64 o.kind, .int .i64 o.block, .int .i64 o.page, .slice o.da o.dl o.dc, .slice o.pa o.pl o.pc] 38) := ⟨_, rfl⟩
  have hbW : Below w.heap.size w WB := by rw [hWB]; exact below_new w _
  have hDW : ∀ W, Below WB.heap.size WB W → Duo base W c d k ∧ Brings base W o ∧ Below w.heap.size w W ∧ OpKept WB W := fun W hb => by
    have h2 := Below.after hbW hb
    exact ⟨h.later h2, ho.below (h2.mono h.cl.size), h2, .later hb⟩
  have HDW : Hid (∀ W, Below WB.heap.size WB W → Duo base W c d k ∧ Brings base W o ∧ Below w.heap.size w W ∧ OpKept WB W) := hDW
  have HS : Hid (base ≤ w.heap.size) := h.cl.size
  have HOR : Hid (∀ w1, OpKept WB w1 → w1.cell? ⟨w.heap.size, 1, none⟩ = some (.int .i64 o.block) ∧ w1.cell? ⟨w.heap.size, 2, none⟩ = some (.int .i64 o.page) ∧ w1.cell? ⟨w.heap.size, 3, none⟩ = some (.slice o.da o.dl o.dc) ∧ w1.cell? ⟨w.heap.size, 4, none⟩ = some (.slice o.pa o.pl o.pc)) := fun w1 hh => by
    rw [hWB] at hh; exact op_row hh
  have hc0 : WB.cell? ⟨w.heap.size, 0, none⟩ = some (.int .i64 o.kind) := by
    rw [hWB]; exact (Row.new w [.int .i64 o.kind, .int .i64 o.block, .int .i64 o.page, .slice o.da o.dl o.dc, .slice o.pa o.pl o.pc] 38).cell (i := 0) rfl
  obtain ⟨hc1, hc2, hc3, hc4⟩ := HOR.out WB (fun _ _ r => r)
  have HP : Hid (c.p = p) := hp
  have HQ : Hid (d.p = q) := hq
  have HK : Hid (k < 9223372036854775807) := hk
  clear h ho hp hq hbW hDW hk
  by_cases k1 : o.kind = 1
  · skip
    have e1 : (o.kind == 1) = true := by simpa using k1
    clear k1
    go_enter Tryz.func12, Tryz.ntmps12
    go_wp2_with fail
    rw [← hWB]
    clear hWB
    go_region_held3 (fun w' => w'.cell? ⟨w.heap.size, 1, none⟩ = some (.int .i64 o.block) ∧ w'.cell? ⟨w.heap.size, 2, none⟩ = some (.int .i64 o.page) ∧ w'.cell? ⟨w.heap.size, 3, none⟩ = some (.slice o.da o.dl o.dc) ∧ w'.cell? ⟨w.heap.size, 4, none⟩ = some (.slice o.pa o.pl o.pc)) (first | assumption | go_keep)
      (first
      | (go_at_call 32; obtain ⟨g1, g2, g3, g4⟩ := HDW.out WB.drew (Below.refl _ _).drew; refine (g1.prog1 o g2 p HP.out).mono ?_; rintro e w1 ⟨rfl, hm1⟩; have hS1 := HOR.out w1 (g4.trans hm1.ops); have HM1 : Hid (Mid _ _ _ _ _) := hm1; clear hm1)
      | (go_at_call 37; refine (g1.prog2 HK.out o g2 p q HP.out HQ.out HM1.out).mono ?_; rintro e w2 ⟨rfl, c', d', hw2⟩; have hS2 := HOR.out w2 (g4.trans hw2.ops); have HW2 : Hid (Went _ _ _ _ _ _ _ _ _) := hw2; have HG3 : Hid (Below _ _ _) := g3; clear hw2))
    all_goals go_wp2
    all_goals go_ret
    all_goals exact ⟨rfl, c', d', HW2.out.from HG3.out HS.out⟩
  by_cases k2 : o.kind = 2
  · skip
    have e1 : (o.kind == 1) = false := by simpa using k1
    have e2 : (o.kind == 2) = true := by simpa using k2
    clear k1 k2
    go_enter Tryz.func12, Tryz.ntmps12
    go_wp2_with fail
    rw [← hWB]
    clear hWB
    go_region_held3 (fun w' => w'.cell? ⟨w.heap.size, 1, none⟩ = some (.int .i64 o.block) ∧ w'.cell? ⟨w.heap.size, 2, none⟩ = some (.int .i64 o.page) ∧ w'.cell? ⟨w.heap.size, 3, none⟩ = some (.slice o.da o.dl o.dc) ∧ w'.cell? ⟨w.heap.size, 4, none⟩ = some (.slice o.pa o.pl o.pc)) (first | assumption | go_keep)
      (first
      | (go_at_call 38; obtain ⟨g1, g2, g3, g4⟩ := HDW.out WB.drew (Below.refl _ _).drew; refine (g1.era1 o.block p HP.out).mono ?_; rintro e w1 ⟨rfl, hm1⟩; have hS1 := HOR.out w1 (g4.trans hm1.ops); have HM1 : Hid (Mid _ _ _ _ _) := hm1; clear hm1)
      | (go_at_call 39; refine (g1.era2 HK.out o.block p q HP.out HQ.out HM1.out).mono ?_; rintro e w2 ⟨rfl, c', d', hw2⟩; have hS2 := HOR.out w2 (g4.trans hw2.ops); have HW2 : Hid (Went _ _ _ _ _ _ _ _ _) := hw2; have HG3 : Hid (Below _ _ _) := g3; clear hw2))
    all_goals go_wp2
    all_goals go_ret
    all_goals exact ⟨rfl, c', d', HW2.out.from HG3.out HS.out⟩
  by_cases k3 : o.kind = 3
  · skip
    have e1 : (o.kind == 1) = false := by simpa using k1
    have e2 : (o.kind == 2) = false := by simpa using k2
    have e3 : (o.kind == 3) = true := by simpa using k3
    clear k1 k2 k3
    go_enter Tryz.func12, Tryz.ntmps12
    go_wp2_with fail
    rw [← hWB]
    clear hWB
    go_region_held3 (fun w' => w'.cell? ⟨w.heap.size, 1, none⟩ = some (.int .i64 o.block) ∧ w'.cell? ⟨w.heap.size, 2, none⟩ = some (.int .i64 o.page) ∧ w'.cell? ⟨w.heap.size, 3, none⟩ = some (.slice o.da o.dl o.dc) ∧ w'.cell? ⟨w.heap.size, 4, none⟩ = some (.slice o.pa o.pl o.pc)) (first | assumption | go_keep)
      (first
      | (go_at_call 40; obtain ⟨g1, g2, g3, g4⟩ := HDW.out WB.drew (Below.refl _ _).drew; refine (g1.mar1 o.block p HP.out).mono ?_; rintro e w1 ⟨rfl, hm1⟩; have hS1 := HOR.out w1 (g4.trans hm1.ops); have HM1 : Hid (Mid _ _ _ _ _) := hm1; clear hm1)
      | (go_at_call 41; refine (g1.mar2 o.block p q HP.out HQ.out HM1.out).mono ?_; rintro e w2 ⟨rfl, c', d', hw2⟩; have hS2 := HOR.out w2 (g4.trans hw2.ops); have HW2 : Hid (Went _ _ _ _ _ _ _ _ _) := hw2; have HG3 : Hid (Below _ _ _) := g3; clear hw2))
    all_goals go_wp2
    all_goals go_ret
    all_goals exact ⟨rfl, c', d', HW2.out.from HG3.out HS.out⟩
  by_cases k4 : o.kind = 4
  · skip
    have e1 : (o.kind == 1) = false := by simpa using k1
    have e2 : (o.kind == 2) = false := by simpa using k2
    have e3 : (o.kind == 3) = false := by simpa using k3
    have e4 : (o.kind == 4) = true := by simpa using k4
    clear k1 k2 k3 k4
    obtain ⟨g1, g2, g3, g4⟩ := HDW.out WB (Below.refl _ _)
    have HG1 : Hid (Duo _ _ _ _ _) := g1
    have HG3 : Hid (Below _ _ _) := g3
    clear g1 g2 g3 g4
    rw [hWB] at HG1 HG3
    go_enter Tryz.func12, Tryz.ntmps12
    go_wp2_with (first
      | (go_at_call 25; refine (HG1.out.pow1 p HP.out).mono ?_; rintro e w1 ⟨rfl, hm1⟩; have HM1 : Hid (Mid _ _ _ _ _) := hm1; clear hm1)
      | (go_at_call 42; refine (HG1.out.pow2 p q HP.out HQ.out HM1.out).mono ?_; rintro e w2 ⟨rfl, c', d', hw2⟩; have HW2 : Hid (Went _ _ _ _ _ _ _ _ _) := hw2; clear hw2))
    go_ret
    exact ⟨rfl, c', d', HW2.out.from HG3.out HS.out⟩
  by_cases k5 : o.kind = 5
  · skip
    have e1 : (o.kind == 1) = false := by simpa using k1
    have e2 : (o.kind == 2) = false := by simpa using k2
    have e3 : (o.kind == 3) = false := by simpa using k3
    have e4 : (o.kind == 4) = false := by simpa using k4
    have e5 : (o.kind == 5) = true := by simpa using k5
    clear k1 k2 k3 k4 k5
    by_cases hy : o.pl ≤ 256 ∧ planOk o.plan
    · have HY : Hid (o.pl ≤ 256 ∧ planOk o.plan) := hy
      clear hy
      go_enter Tryz.func12, Tryz.ntmps12
      go_wp2_with fail
      rw [← hWB]
      clear hWB
      go_region_held3 (fun w' => w'.cell? ⟨w.heap.size, 1, none⟩ = some (.int .i64 o.block) ∧ w'.cell? ⟨w.heap.size, 2, none⟩ = some (.int .i64 o.page) ∧ w'.cell? ⟨w.heap.size, 3, none⟩ = some (.slice o.da o.dl o.dc) ∧ w'.cell? ⟨w.heap.size, 4, none⟩ = some (.slice o.pa o.pl o.pc)) (first | assumption | go_keep)
        (first
        | (go_at_call 43; obtain ⟨g1, g2, g3, g4⟩ := HDW.out WB.drew (Below.refl _ _).drew; refine (g1.armY1 o g2 p HP.out HY.out).mono ?_; rintro e w1 ⟨s, rfl, hso, hm1⟩; have HSO : Hid (Sorted _ _) := hso; clear hso; have hS1 := HOR.out w1 (g4.trans hm1.ops); have HM1 : Hid (Mid _ _ _ _ _) := hm1; clear hm1)
        | (go_at_call 44; refine (g1.armY2 o g2 p q HP.out HQ.out HY.out s HSO.out HM1.out).mono ?_; rintro e w2 ⟨rfl, c', d', hw2⟩; have hS2 := HOR.out w2 (g4.trans hw2.ops); have HW2 : Hid (Went _ _ _ _ _ _ _ _ _) := hw2; have HG3 : Hid (Below _ _ _) := g3; clear hw2))
      all_goals go_wp2
      all_goals go_ret
      all_goals exact ⟨rfl, c', d', HW2.out.from HG3.out HS.out⟩
    · have HY : Hid (¬ (o.pl ≤ 256 ∧ planOk o.plan)) := hy
      clear hy
      go_enter Tryz.func12, Tryz.ntmps12
      go_wp2_with fail
      rw [← hWB]
      clear hWB
      go_region_held3 (fun w' => w'.cell? ⟨w.heap.size, 1, none⟩ = some (.int .i64 o.block) ∧ w'.cell? ⟨w.heap.size, 2, none⟩ = some (.int .i64 o.page) ∧ w'.cell? ⟨w.heap.size, 3, none⟩ = some (.slice o.da o.dl o.dc) ∧ w'.cell? ⟨w.heap.size, 4, none⟩ = some (.slice o.pa o.pl o.pc)) (first | assumption | go_keep)
        (first
        | (go_at_call 43; obtain ⟨g1, g2, g3, g4⟩ := HDW.out WB.drew (Below.refl _ _).drew; refine (g1.armN1 o g2 p HP.out HY.out).mono ?_; rintro e w1 ⟨rfl, hm1⟩; have hS1 := HOR.out w1 (g4.trans hm1.ops); have HM1 : Hid (Mid _ _ _ _ _) := hm1; clear hm1)
        | (go_at_call 44; refine (g1.armN2 o g2 p q HP.out HQ.out HY.out HM1.out).mono ?_; rintro e w2 ⟨rfl, c', d', hw2⟩; have hS2 := HOR.out w2 (g4.trans hw2.ops); have HW2 : Hid (Went _ _ _ _ _ _ _ _ _) := hw2; have HG3 : Hid (Below _ _ _) := g3; clear hw2))
      all_goals go_wp2
      all_goals go_ret
      all_goals exact ⟨rfl, c', d', HW2.out.from HG3.out HS.out⟩
  · have e1 : (o.kind == 1) = false := by simpa using k1
    have e2 : (o.kind == 2) = false := by simpa using k2
    have e3 : (o.kind == 3) = false := by simpa using k3
    have e4 : (o.kind == 4) = false := by simpa using k4
    have e5 : (o.kind == 5) = false := by simpa using k5
    clear k1 k2 k3 k4 k5
    obtain ⟨g1, g2, g3, g4⟩ := HDW.out WB (Below.refl _ _)
    have HG1 : Hid (Duo _ _ _ _ _) := g1
    have HG3 : Hid (Below _ _ _) := g3
    clear g1 g2 g3 g4
    rw [hWB] at HG1 HG3
    go_enter Tryz.func12, Tryz.ntmps12
    go_wp2
    go_ret
    exact ⟨rfl, c, d, ⟨⟨HG1.out.cl, HG1.out.dl, HG1.out.rel.mono (Nat.le_succ k), HG1.out.pat⟩, OpKept.later HG3.out, HG3.out.mono HS.out, HP.out, HQ.out, rfl⟩⟩
end Go.Proofs.YteoakhfofnocfaaGreatDoor
namespace Go.Proofs.YteoakhfofnocfaaGreatDoor
open Go.RowKit
set_option maxRecDepth 10000

structure Said (base : Nat) (W : World) (c : CS) (d : DS) (p q : Nat) (bl pg : Int) (L : List Nat) (X : Int) (bad : Bool) (nx er : Int) : Prop where
  cl : Lies base W c
  dl : DLies base W d
  p : c.p = p
  q : d.p = q
  rc : c.read bl pg = (L, X)
  rd : d.read bl pg = (L, X)
  lt : ∀ x ∈ L, x < 256
  bc : (match c.at bl with | none => false | some b => b.bad) = bad
  bd : (match d.at bl with | none => false | some b => b.bad) = bad
  nc : (match c.at bl with | none => 0 | some b => b.next) = nx
  nd : (match d.at bl with | none => 0 | some b => b.next) = nx
  ec : (match c.at bl with | none => 0 | some b => b.erases) = er
  ed : (match d.at bl with | none => 0 | some b => b.erases) = er
  on : d.off = !c.on
  ops : d.ops = c.ops
  wrong : d.wrong = c.wrong
  geo : d.gb = c.gb ∧ d.gp = c.gp ∧ d.gz = c.gz ∧ d.gr = c.gr
theorem Said.later {base : Nat} {W W' : World} {c : CS} {d : DS} {p q : Nat} {bl pg : Int} {L : List Nat} {X : Int} {bad : Bool} {nx er : Int} (h : Said base W c d p q bl pg L X bad nx er) (hb : Below W.heap.size W W') : Said base W' c d p q bl pg L X bad nx er :=
  ⟨h.cl.later hb, h.dl.later hb, h.p, h.q, h.rc, h.rd, h.lt, h.bc, h.bd, h.nc, h.nd, h.ec, h.ed, h.on, h.ops, h.wrong, h.geo⟩
theorem Duo.said {base : Nat} {W : World} {c : CS} {d : DS} {k : Nat} (h : Duo base W c d k) (p q : Nat) (hp : c.p = p) (hq : d.p = q) (bl pg : Int) : ∃ L X bad nx er, Said base W c d p q bl pg L X bad nx er := by
  obtain ⟨l1, l2, l3⟩ := h.rel.looks bl
  have on : c.on = !d.off := h.rel.on
  exact ⟨_, _, _, _, _, h.cl, h.dl, hp, hq, rfl, (h.rel.read bl pg).symm, h.cl.good.read_lt bl pg, rfl, l1.symm, rfl, l2.symm, rfl, l3.symm, by rw [on]; cases d.off <;> rfl, h.rel.ops.symm, h.rel.wrong.symm, ⟨h.rel.geo.1.symm, h.rel.geo.2.1.symm, h.rel.geo.2.2.1.symm, h.rel.geo.2.2.2.symm⟩⟩
section
variable {base : Nat} {W : World} {c : CS} {d : DS} {p q : Nat} {bl pg : Int} {L : List Nat} {X : Int} {bad : Bool} {nx er : Int}
theorem Said.readC (h : Said base W c d p q bl pg L X bad nx er) : Calls Tryz.prog 28 #[.pointer (some ⟨p, 0, none⟩), .int .i64 bl, .int .i64 pg] W fun e w' => ∃ a m cap, e = .returned (.tuple #[.slice a m cap, .int .i64 X]) ∧ (m = L.length ∧ BRow w' a L) ∧ Below W.heap.size W w' := by
  have := read_any h.cl bl pg
  rw [h.rc, h.p] at this
  exact this.mono fun e w' ⟨a, m, cap, e1, g⟩ => ⟨a, m, cap, e1, ⟨g.len, g.row⟩, g.below⟩
theorem Said.readD (h : Said base W c d p q bl pg L X bad nx er) : Calls Tryz.prog 55 #[.pointer (some ⟨q, 0, none⟩), .int .i64 bl, .int .i64 pg] W fun e w' => ∃ a m cap, e = .returned (.tuple #[.slice a m cap, .int .i64 X]) ∧ (m = L.length ∧ BRow w' a L) ∧ Below W.heap.size W w' := by
  have := d_read h.dl bl pg
  rw [h.rd, h.q] at this
  exact this.mono fun e w' ⟨a, m, cap, e1, g⟩ => ⟨a, m, cap, e1, ⟨g.1, g.2.1⟩, g.2.2⟩
theorem Said.badC (h : Said base W c d p q bl pg L X bad nx er) : Calls Tryz.prog 26 #[.pointer (some ⟨p, 0, none⟩), .int .i64 bl] W fun e w' => e = .returned (.bool bad) ∧ W = w' := by
  have := bad_any h.cl bl
  rw [h.p] at this
  exact this.mono fun e w' ⟨h1, h2⟩ => ⟨h1.trans (ret_bool h.bc), h2⟩
theorem Said.badD (h : Said base W c d p q bl pg L X bad nx er) : Calls Tryz.prog 57 #[.pointer (some ⟨q, 0, none⟩), .int .i64 bl] W fun e w' => e = .returned (.bool bad) ∧ W = w' := by
  have := d_bad h.dl bl
  rw [h.q] at this
  exact this.mono fun e w' ⟨h1, h2⟩ => ⟨h1.trans (ret_bool h.bd), h2⟩
theorem Said.nextC (h : Said base W c d p q bl pg L X bad nx er) : Calls Tryz.prog 27 #[.pointer (some ⟨p, 0, none⟩), .int .i64 bl] W fun e w' => e = .returned (.int .i64 nx) ∧ W = w' := by
  have := next_any h.cl bl
  rw [h.p] at this
  exact this.mono fun e w' ⟨h1, h2⟩ => ⟨h1.trans (ret_int h.nc), h2⟩
theorem Said.nextD (h : Said base W c d p q bl pg L X bad nx er) : Calls Tryz.prog 58 #[.pointer (some ⟨q, 0, none⟩), .int .i64 bl] W fun e w' => e = .returned (.int .i64 nx) ∧ W = w' := by
  have := d_next h.dl bl
  rw [h.q] at this
  exact this.mono fun e w' ⟨h1, h2⟩ => ⟨h1.trans (ret_int h.nd), h2⟩
theorem Said.erasesC (h : Said base W c d p q bl pg L X bad nx er) : Calls Tryz.prog 59 #[.pointer (some ⟨p, 0, none⟩), .int .i64 bl] W fun e w' => e = .returned (.int .i64 er) ∧ W = w' := by
  have := erases_any h.cl bl
  rw [h.p] at this
  exact this.mono fun e w' ⟨h1, h2⟩ => ⟨h1.trans (ret_int h.ec), h2⟩
theorem Said.erasesD (h : Said base W c d p q bl pg L X bad nx er) : Calls Tryz.prog 60 #[.pointer (some ⟨q, 0, none⟩), .int .i64 bl] W fun e w' => e = .returned (.int .i64 er) ∧ W = w' := by
  have := d_erases h.dl bl
  rw [h.q] at this
  exact this.mono fun e w' ⟨h1, h2⟩ => ⟨h1.trans (ret_int h.ed), h2⟩
theorem Said.onC (h : Said base W c d p q bl pg L X bad nx er) : Calls Tryz.prog 45 #[.pointer (some ⟨p, 0, none⟩)] W fun e w' => e = .returned (.bool c.on) ∧ W = w' := by
  have := on_any h.cl
  rw [h.p] at this; exact this
theorem Said.onD (h : Said base W c d p q bl pg L X bad nx er) : Calls Tryz.prog 51 #[.pointer (some ⟨q, 0, none⟩)] W fun e w' => e = .returned (.bool c.on) ∧ W = w' := by
  have := d_on h.dl
  rw [h.q, h.on, Bool.not_not] at this; exact this
theorem Said.opsC (h : Said base W c d p q bl pg L X bad nx er) : Calls Tryz.prog 13 #[.pointer (some ⟨p, 0, none⟩)] W fun e w' => e = .returned (.int .i64 c.ops) ∧ W = w' := by
  have := ops_any h.cl
  rw [h.p] at this; exact this
theorem Said.opsD (h : Said base W c d p q bl pg L X bad nx er) : Calls Tryz.prog 61 #[.pointer (some ⟨q, 0, none⟩)] W fun e w' => e = .returned (.int .i64 c.ops) ∧ W = w' := by
  have := d_ops h.dl
  rw [h.q, h.ops] at this; exact this
theorem Said.wrongC (h : Said base W c d p q bl pg L X bad nx er) : Calls Tryz.prog 62 #[.pointer (some ⟨p, 0, none⟩)] W fun e w' => e = .returned (.int .i64 c.wrong) ∧ W = w' := by
  have := wrong_any h.cl
  rw [h.p] at this; exact this
theorem Said.wrongD (h : Said base W c d p q bl pg L X bad nx er) : Calls Tryz.prog 63 #[.pointer (some ⟨q, 0, none⟩)] W fun e w' => e = .returned (.int .i64 c.wrong) ∧ W = w' := by
  have := d_wrong h.dl
  rw [h.q, h.wrong] at this; exact this
theorem Said.geoC (h : Said base W c d p q bl pg L X bad nx er) : Calls Tryz.prog 64 #[.pointer (some ⟨p, 0, none⟩)] W fun e w' => e = .returned (.agg #[.int .i64 c.gb, .int .i64 c.gp, .int .i64 c.gz, .int .i64 c.gr]) ∧ Below W.heap.size W w' := by
  have := geometry_any h.cl
  rw [h.p] at this; exact this
theorem Said.geoD (h : Said base W c d p q bl pg L X bad nx er) : Calls Tryz.prog 52 #[.pointer (some ⟨q, 0, none⟩)] W fun e w' => e = .returned (.agg #[.int .i64 c.gb, .int .i64 c.gp, .int .i64 c.gz, .int .i64 c.gr]) ∧ Below W.heap.size W w' := by
  have := d_geometry h.dl
  obtain ⟨g1, g2, g3, g4⟩ := h.geo
  rw [h.q, g1, g2, g3, g4] at this; exact this
end
set_option maxHeartbeats 4000000 in
theorem looks_any {base : Nat} {w : World} {c : CS} {d : DS} {k : Nat} (h : Duo base w c d k) (p q : Nat) (hp : c.p = p) (hq : d.p = q) (bl pg : Int) :
    Calls Tryz.prog 17 #[.pointer (some ⟨p, 0, none⟩), .pointer (some ⟨q, 0, none⟩), .int .i64 bl, .int .i64 pg] w fun e w' => e = .returned (.bool true) ∧ Below w.heap.size w w' := by
  obtain ⟨L, X, bad, nx, er, hs⟩ := h.said p q hp hq bl pg
  obtain ⟨cop, hcop⟩ : ∃ x, x = c.ops := ⟨_, rfl⟩
  have HSD : Hid (Said base w c d p q bl pg L X bad nx er) := hs
  clear hs h hp hq
  go_enter Tryz.func17, Tryz.ntmps17
  go_wp2_with (first
    | (go_at_call 28; refine HSD.out.readC.mono ?_; rintro e w1 ⟨a1, m1, cap1, rfl, hr1, hb1⟩; have HS1 : Hid (Said base w1 c d p q bl pg L X bad nx er) := HSD.out.later hb1; have HB1 : Hid (Below _ _ _) := hb1; have HR1 : Hid (_ ∧ _) := hr1; clear hb1 hr1)
    | (go_at_call 55; refine HS1.out.readD.mono ?_; rintro e w2 ⟨a2, m2, cap2, rfl, hr2, hb2⟩; have HS2 : Hid (Said base w2 c d p q bl pg L X bad nx er) := HS1.out.later hb2; have HB2 : Hid (Below _ _ _) := Below.after HB1.out hb2; have HR2 : Hid (_ ∧ _) := hr2; have HR3 : Hid (BRow _ _ _) := HR1.out.2.later hb2; clear hb2 hr2)
    | (go_at_call 56; refine (same_at _ HR1.out.1 HR2.out.1 HSD.out.lt HR3.out HR2.out.2).mono ?_; rintro e w' ⟨rfl, rfl⟩)
    | (go_at_call 26; refine HS2.out.badC.mono ?_; rintro e w' ⟨rfl, rfl⟩)
    | (go_at_call 57; refine HS2.out.badD.mono ?_; rintro e w' ⟨rfl, rfl⟩)
    | (go_at_call 27; refine HS2.out.nextC.mono ?_; rintro e w' ⟨rfl, rfl⟩)
    | (go_at_call 58; refine HS2.out.nextD.mono ?_; rintro e w' ⟨rfl, rfl⟩)
    | (go_at_call 59; refine HS2.out.erasesC.mono ?_; rintro e w' ⟨rfl, rfl⟩)
    | (go_at_call 60; refine HS2.out.erasesD.mono ?_; rintro e w' ⟨rfl, rfl⟩)
    | (go_at_call 45; refine HS2.out.onC.mono ?_; rintro e w' ⟨rfl, rfl⟩)
    | (go_at_call 51; refine HS2.out.onD.mono ?_; rintro e w' ⟨rfl, rfl⟩)
    | (go_at_call 13; refine HS2.out.opsC.mono ?_; rintro e w' ⟨rfl, rfl⟩)
    | (go_at_call 61; refine HS2.out.opsD.mono ?_; rintro e w' ⟨rfl, rfl⟩)
    | (go_at_call 62; refine HS2.out.wrongC.mono ?_; rintro e w' ⟨rfl, rfl⟩)
    | (go_at_call 63; refine HS2.out.wrongD.mono ?_; rintro e w' ⟨rfl, rfl⟩)
    | (go_at_call 64; refine HS2.out.geoC.mono ?_; rintro e w3 ⟨rfl, hb3⟩; have HS3 : Hid (Said base w3 c d p q bl pg L X bad nx er) := HS2.out.later hb3; have HB3 : Hid (Below _ _ _) := Below.after HB2.out hb3; clear hb3)
    | (go_at_call 52; refine HS3.out.geoD.mono ?_; rintro e w4 ⟨rfl, hb4⟩; have HB4 : Hid (Below _ _ _) := Below.after HB3.out hb4; clear hb4))
  all_goals go_ret
  all_goals exact ⟨rfl, HB4.out⟩
end Go.Proofs.YteoakhfofnocfaaGreatDoor
namespace Go.Proofs.YteoakhfofnocfaaGreatDoor
open Go.RowKit
set_option maxRecDepth 10000

theorem DLies.lower {base B : Nat} {w : World} {d : DS} (h : DLies base w d) (hB : B ≤ base) : DLies B w d := ⟨h.chip, h.bks, h.pgs, h.nd, fun k hk => Nat.le_trans hB (h.low k hk), h.plan, h.good⟩
theorem map_const' {α β : Type} (f : α → β) (x : β) (h : ∀ a, f a = x) : ∀ l : List α, l.map f = List.replicate l.length x
  | [] => rfl
  | a :: l => by rw [List.map_cons, h, map_const' f x h l, List.length_cons, List.replicate_succ]
/-- The document's chip, new. -/
def newD (gb gp gz gr P q qc : Nat) (a : Option Addr) (m cap : Nat) (l : List Flt) (rs : List Nat) : DS := ⟨P, q, qc, gb, gp, gz, gr, rs.map (freshD gp), false, a, m, cap, l, 0, 0, 0⟩
theorem Rel.new (gb gp gz gr p q : Nat) (s l : List Flt) (rs rs2 : List Nat) (P q2 qc : Nat) (a : Option Addr) (m cap : Nat) (h1 : rs.length = gb) (h2 : rs2.length = gb) (hp : s.Perm l) (hs : s.Pairwise (fun x y => x.num < y.num)) (hl : planOk l) (h256 : l.length ≤ 256) :
    Rel 0 (newC gb gp gz gr p q s rs) (newD gb gp gz gr P q2 qc a m cap l rs2).abs := by
  refine ⟨⟨rfl, rfl, rfl, rfl⟩, ?_, rfl, rfl, rfl, ⟨Int.le_refl _, Int.le_refl _, Int.le_refl _⟩, rfl, hs, fun f => ?_, hl, ?_, by show s.length ≤ 256; rw [hp.length_eq]; exact h256, ?_⟩
  · show (rs.map (freshB gp)).map Bk.abs = (rs2.map (freshD gp)).map DBk.abs
    rw [List.map_map, List.map_map, map_const' (Bk.abs ∘ freshB gp) ⟨List.replicate gp ⟨false, []⟩, 0, false, 0⟩ (fun r => by simp [freshB, Bk.abs, Pg.abs]), map_const' (DBk.abs ∘ freshD gp) ⟨List.replicate gp ⟨false, []⟩, 0, false, 0⟩ (fun r => by simp [freshD, DBk.abs, DPg.abs, zeroP]), h1, h2]
  · show f ∈ s ↔ f ∈ l ∧ 0 < f.num
    rw [hp.mem_iff]
    exact ⟨fun q => ⟨q, by have := (hl.1 f q).1; omega⟩, fun q => q.1⟩
  · intro b hb
    obtain ⟨r, _, rfl⟩ := List.mem_map.1 (show b ∈ rs.map (freshB gp) from hb)
    simp [freshB, newC]
  · intro b hb
    obtain ⟨r, _, rfl⟩ := List.mem_map.1 (show b ∈ rs.map (freshB gp) from hb)
    intro k g _ hg
    obtain ⟨h1, h2⟩ := List.getElem?_eq_some_iff.1 (show (List.replicate gp (⟨0, []⟩ : Pg))[k]? = some g from hg)
    simp at h2
    rw [← h2]
theorem brings_of {w wr : World} {a : Option Addr} {n cap : Nat} {l : List OpD} {o : OpD} (h : OArg w a n cap l) (ho : o ∈ l) (hb : Below w.heap.size w wr) : Brings w.heap.size wr o := by
  obtain ⟨hd, hf⟩ := h.each o ho
  have o1 : o.data = [] ∨ Old w.heap.size o.da := by
    rcases hd.row with e | ⟨b, off, e, hc⟩
    · exact .inl e
    · cases hdl : o.data with
      | nil => exact .inl rfl
      | cons x t =>
        refine .inr fun b2 o2 e2 => ?_
        rw [e] at e2
        cases e2
        exact World.block_lt_of_cell? w _ (hc 0 (by rw [hdl]; simp))
  have o2 : o.plan = [] ∨ Old w.heap.size o.pa := by
    rcases hf.row with e | ⟨b, off, e, hc⟩
    · exact .inl e
    · cases hdl : o.plan with
      | nil => exact .inl rfl
      | cons x t =>
        refine .inr fun b2 o2 e2 => ?_
        rw [e] at e2
        cases e2
        exact World.block_lt_of_cell? w _ (hc 0 x (by rw [hdl]; rfl)).1
  exact ⟨hd.len_eq, brow_below hd.row o1 hb, hd.lt, hd.nil, o1, hf.len_eq, by have := hf.le; have := hf.max; unfold maxLen at this; omega, frow_below hf.row o2 hb, hf.nil, o2⟩
/-- Both chips, and what there was. -/
structure St (w wr : World) (p q k : Nat) (c : CS) (d : DS) : Prop where
  duo : Duo w.heap.size wr c d k
  p : c.p = p
  q : d.p = q
  below : Below w.heap.size w wr
theorem St.later {w wr W : World} {p q k : Nat} {c : CS} {d : DS} (h : St w wr p q k c d) (hb : Below wr.heap.size wr W) : St w W p q k c d := ⟨h.duo.later hb, h.p, h.q, Below.after h.below hb⟩
theorem St.went {w wr W : World} {p q k m : Nat} {c c' c0 : CS} {d d' : DS} (h : St w wr p q k c d) (hw : Went w.heap.size wr W p q m c' d' c0) : St w W p q m c' d' := ⟨hw.duo, hw.p, hw.q, h.below.trans hw.below⟩
/-- The cells of a step of a script that came in. -/
theorem op_cells {w : World} {a : Option Addr} {n cap : Nat} {l : List OpD} (h : OArg w a n cap l) {k : Nat} {o : OpD} (ho : l[k]? = some o) : ∃ b off, a = some ⟨b, off, none⟩ ∧ b < w.heap.size ∧ ∀ W, Below w.heap.size w W → W.cell? ⟨b, off + k * 5, none⟩ = some (.int .i64 o.kind) ∧ W.cell? ⟨b, off + k * 5 + 1, none⟩ = some (.int .i64 o.block) ∧ W.cell? ⟨b, off + k * 5 + 2, none⟩ = some (.int .i64 o.page) ∧ W.cell? ⟨b, off + k * 5 + 3, none⟩ = some (.slice o.da o.dl o.dc) ∧ W.cell? ⟨b, off + k * 5 + 4, none⟩ = some (.slice o.pa o.pl o.pc) := by
  rcases h.row with e | ⟨b, off, rfl, hcs⟩
  · subst e; simp at ho
  · obtain ⟨g0, g1, g2, g3, g4⟩ := hcs k o ho
    have hbw : b < w.heap.size := World.block_lt_of_cell? w _ g0
    refine ⟨b, off, rfl, hbw, fun W hW => ?_⟩
    rw [hW.cell (p := ⟨b, off + k * 5, none⟩) hbw, hW.cell (p := ⟨b, off + k * 5 + 1, none⟩) hbw, hW.cell (p := ⟨b, off + k * 5 + 2, none⟩) hbw, hW.cell (p := ⟨b, off + k * 5 + 3, none⟩) hbw, hW.cell (p := ⟨b, off + k * 5 + 4, none⟩) hbw]
    exact ⟨g0, g1, g2, g3, g4⟩
end Go.Proofs.YteoakhfofnocfaaGreatDoor
