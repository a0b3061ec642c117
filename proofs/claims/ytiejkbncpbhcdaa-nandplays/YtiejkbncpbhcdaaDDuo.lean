/-
  Both chips in one memory: what one of them does leaves the other alone.
-/
import Derived.Test.YtiejkbncpbhcdaaDRel
import Derived.Test.YtiejkbncpbhcdaaCOArg
namespace Go.Proofs.Ytiejkbncpbhcdaa
open Go.RowKit

theorem Lies.foot_not {base : Nat} {w : World} {c : CS} (h : Lies base w c) {k : Nat} {cs : List Value} {t : TypeId} (hr : Row w k cs t) (h1 : t ≠ 52) (h2 : t ≠ 57) (h3 : t ≠ 75) : ¬ c.foot k := by
  rintro (rfl | rfl | hk)
  · obtain ⟨fa, fc, g, _⟩ := h.chip; exact hr.ne g h1 rfl
  · exact hr.ne h.bks h2 rfl
  · obtain ⟨b, hb, rfl⟩ := List.mem_map.1 hk; exact hr.ne (h.pgs b hb) h3 rfl
theorem DLies.foot_not {base : Nat} {w : World} {d : DS} (h : DLies base w d) {k : Nat} {cs : List Value} {t : TypeId} (hr : Row w k cs t) (h1 : t ≠ 61) (h2 : t ≠ 64) (h3 : t ≠ 102) : ¬ d.foot k := by
  rintro (rfl | rfl | hk)
  · exact hr.ne h.chip h1 rfl
  · exact hr.ne h.bks h2 rfl
  · obtain ⟨b, hb, rfl⟩ := List.mem_map.1 hk; exact hr.ne (h.pgs b hb).1 h3 rfl
theorem apart_feet {base base2 : Nat} {w : World} {c : CS} {d : DS} (h : Lies base w c) (g : DLies base2 w d) : ∀ k, c.foot k → ¬ d.foot k := by
  rintro k hc (rfl | rfl | hk)
  · exact h.foot_not g.chip (by decide) (by decide) (by decide) hc
  · exact h.foot_not g.bks (by decide) (by decide) (by decide) hc
  · obtain ⟨b, hb, rfl⟩ := List.mem_map.1 hk; exact h.foot_not (g.pgs b hb).1 (by decide) (by decide) (by decide) hc
/-- Where the document's chip keeps its plan. -/
def PlanAt (base : Nat) (w : World) (d : DS) : Prop := ∀ b o, d.pa = some ⟨b, o, none⟩ → d.plan ≠ [] → b < base ∨ ∃ cs, Row w b cs 78
/-- Steps of a script that were laid stay. -/
def OpKept (w w' : World) : Prop := ∀ B cs, Row w B cs 37 → Row w' B cs 37
theorem OpKept.trans {a b c : World} (h : OpKept a b) (k : OpKept b c) : OpKept a c := fun B cs r => k B cs (h B cs r)
theorem OpKept.later {a b : World} (h : Below a.heap.size a b) : OpKept a b := fun _ _ r => r.later h
structure Duo (base : Nat) (w : World) (c : CS) (d : DS) (k : Nat) : Prop where
  cl : Lies base w c
  dl : DLies base w d
  rel : Rel k c d.abs
  pat : PlanAt base w d
theorem Duo.later {base : Nat} {w W : World} {c : CS} {d : DS} {k : Nat} (h : Duo base w c d k) (hb : Below w.heap.size w W) : Duo base W c d k :=
  ⟨h.cl.later hb, h.dl.later hb, h.rel, fun b o e hl => (h.pat b o e hl).imp id fun ⟨cs, r⟩ => ⟨cs, r.later hb⟩⟩
theorem Lies.size {base : Nat} {w : World} {c : CS} (h : Lies base w c) : base ≤ w.heap.size := Nat.le_of_lt (Nat.lt_of_le_of_lt (h.low _ (.inl rfl)) (h.foot_lt (.inl rfl)))
theorem DLies.size {base : Nat} {w : World} {d : DS} (h : DLies base w d) : base ≤ w.heap.size := Nat.le_of_lt (Nat.lt_of_le_of_lt (h.low _ (.inl rfl)) (h.foot_lt (.inl rfl)))
theorem d_keeps {base : Nat} {W w1 : World} {c : CS} {d : DS} (hc : Lies base W c) (hd : DLies base W d) (hp : PlanAt base W d) (hk : Kept c.foot W w1) : DLies base w1 d ∧ PlanAt base w1 d ∧ OpKept W w1 ∧ Below base W w1 := by
  refine ⟨hd.kept hk (fun k h1 h2 => apart_feet hc hd k h2 h1) (fun b cs hr => hc.foot_not hr (by decide) (by decide) (by decide)) ?_, ?_, ?_, hk.low hc hc.size⟩
  · intro b o e hl hf
    rcases hp b o e hl with q | ⟨cs, q⟩
    · have := hc.low b hf; omega
    · exact hc.foot_not q (by decide) (by decide) (by decide) hf
  · intro b o e hl
    refine (hp b o e hl).imp id fun ⟨cs, q⟩ => ⟨cs, q.kept hk (hc.foot_not q (by decide) (by decide) (by decide))⟩
  · exact fun B cs r => r.kept hk (hc.foot_not r (by decide) (by decide) (by decide))
theorem c_keeps {base : Nat} {W w1 : World} {c : CS} {d : DS} (hc : Lies base W c) (hd : DLies base W d) (hk : Kept d.foot W w1) : Lies base w1 c ∧ OpKept W w1 ∧ Below base W w1 ∧ ∀ b cs, Row W b cs 78 → Row w1 b cs 78 :=
  ⟨hc.kept hk (fun k h1 h2 => apart_feet hc hd k h1 h2) (fun b cs hr => hd.foot_not hr (by decide) (by decide) (by decide)), fun B cs r => r.kept hk (hd.foot_not r (by decide) (by decide) (by decide)), hk.below hd.size hd.low, fun b cs r => r.kept hk (hd.foot_not r (by decide) (by decide) (by decide))⟩
/-- Behind the chip's own step. -/
structure Mid (base : Nat) (W w1 : World) (c' : CS) (d : DS) : Prop where
  cl : Lies base w1 c'
  dl : DLies base w1 d
  pat : PlanAt base w1 d
  ops : OpKept W w1
  below : Below base W w1
theorem Duo.mid {base : Nat} {W w1 : World} {c c' : CS} {d : DS} {k : Nat} (h : Duo base W c d k) (hl : Lies base w1 c') (hk : Kept c.foot W w1) : Mid base W w1 c' d := by
  obtain ⟨a1, a2, a3, a4⟩ := d_keeps h.cl h.dl h.pat hk
  exact ⟨hl, a1, a2, a3, a4⟩
/-- Behind both steps. -/
structure Went (base : Nat) (W w2 : World) (p q k : Nat) (c' : CS) (d' : DS) : Prop where
  duo : Duo base w2 c' d' k
  ops : OpKept W w2
  below : Below base W w2
  p : c'.p = p
  q : d'.p = q
theorem Mid.went {base : Nat} {W w1 w2 : World} {c' : CS} {d d' : DS} {p q k : Nat} (h : Mid base W w1 c' d) (hl : DLies base w2 d') (hk : Kept d.foot w1 w2) (hr : Rel k c' d'.abs) (hpa : PlanAt base w2 d') (hp : c'.p = p) (hq : d'.p = q) : Went base W w2 p q k c' d' := by
  obtain ⟨b1, b2, b3, _⟩ := c_keeps h.cl h.dl hk
  exact ⟨⟨b1, hl, hr, hpa⟩, h.ops.trans b2, h.below.trans b3, hp, hq⟩
theorem Mid.plan {base : Nat} {W w1 w2 : World} {c' : CS} {d d' : DS} (h : Mid base W w1 c' d) (hk : Kept d.foot w1 w2) (e1 : d'.pa = d.pa) (e2 : d'.plan = d.plan) : PlanAt base w2 d' := by
  intro b o e hl
  rw [e1] at e
  rw [e2] at hl
  exact (h.pat b o e hl).imp id fun ⟨cs, r⟩ => ⟨cs, (c_keeps h.cl h.dl hk).2.2.2 b cs r⟩
/-- A row that came in from below. -/
def Old (base : Nat) (a : Option Addr) : Prop := ∀ b o, a = some ⟨b, o, none⟩ → b < base
theorem brow_below {base : Nat} {w w' : World} {a : Option Addr} {l : List Nat} (h : BRow w a l) (hn : l = [] ∨ Old base a) (hb : Below base w w') : BRow w' a l := by
  rcases h with e | ⟨b, off, e, hc⟩
  · exact .inl e
  · rcases hn with q | q
    · exact .inl q
    · exact .inr ⟨b, off, e, fun i hi => by rw [hb.cell (p := ⟨b, off + i, none⟩) (q b off e)]; exact hc i hi⟩
theorem frow_below {base : Nat} {w w' : World} {a : Option Addr} {l : List Flt} (h : FRow w a l) (hn : l = [] ∨ Old base a) (hb : Below base w w') : FRow w' a l := by
  rcases h with e | ⟨b, off, e, hc⟩
  · exact .inl e
  · rcases hn with q | q
    · exact .inl q
    · refine .inr ⟨b, off, e, fun i f hf => ?_⟩
      rw [hb.cell (p := ⟨b, off + i * 3, none⟩) (q b off e), hb.cell (p := ⟨b, off + i * 3 + 1, none⟩) (q b off e), hb.cell (p := ⟨b, off + i * 3 + 2, none⟩) (q b off e)]
      exact hc i f hf
/-- What a step of a script brings along. -/
structure Brings (base : Nat) (w : World) (o : OpD) : Prop where
  len : o.dl = o.data.length
  row : BRow w o.da o.data
  lt : ∀ y ∈ o.data, y < 256
  nil : o.da = none → o.dl = 0 ∧ o.dc = 0
  old : o.data = [] ∨ Old base o.da
  plen : o.pl = o.plan.length
  pmax : o.pl ≤ 9223372036854775807
  prow : FRow w o.pa o.plan
  pnil : o.pa = none → o.pl = 0 ∧ o.pc = 0
  pold : o.plan = [] ∨ Old base o.pa
theorem Brings.below {base : Nat} {w w' : World} {o : OpD} (h : Brings base w o) (hb : Below base w w') : Brings base w' o :=
  ⟨h.len, brow_below h.row h.old hb, h.lt, h.nil, h.old, h.plen, h.pmax, frow_below h.prow h.pold hb, h.pnil, h.pold⟩
theorem CS.program_p (c : CS) (b p : Int) (l : List Nat) : (c.program b p l).2.p = c.p := by
  unfold CS.program
  repeat' split
  all_goals rfl
theorem CS.erase_p (c : CS) (b : Int) : (c.erase b).2.p = c.p := by
  unfold CS.erase
  repeat' split
  all_goals rfl
theorem CS.mark_p (c : CS) (b : Int) : (c.mark b).2.p = c.p := by
  unfold CS.mark
  repeat' split
  all_goals rfl
theorem Duo.prog1 {base : Nat} {W : World} {c : CS} {d : DS} {k : Nat} (h : Duo base W c d k) (o : OpD) (ho : Brings base W o) (p : Nat) (hp : c.p = p) :
    Calls Try.prog 16 #[.pointer (some ⟨p, 0, none⟩), .int .i64 o.block, .int .i64 o.page, .slice o.da o.dl o.dc] W fun e w1 => e = .returned (.int .i64 (c.program o.block o.page o.data).1) ∧ Mid base W w1 (c.program o.block o.page o.data).2 d := by
  subst hp
  refine (program_all h.cl o.block o.page o.da o.dl o.dc o.data ho.len ho.row ho.lt (ho.old.imp id fun q b oo e hf => ?_)).mono ?_
  · have := q b oo e; have := h.cl.low b hf; omega
  · rintro e w1 ⟨he, hl, hk, _⟩
    exact ⟨he, h.mid hl hk⟩
theorem Duo.prog2 {base : Nat} {W w1 : World} {c : CS} {d : DS} {k : Nat} (h : Duo base W c d k) (hk : k < 9223372036854775807) (o : OpD) (ho : Brings base W o) (p q : Nat) (hp : c.p = p) (hq : d.p = q) (hm : Mid base W w1 (c.program o.block o.page o.data).2 d) :
    Calls Try.prog 32 #[.pointer (some ⟨q, 0, none⟩), .int .i64 o.block, .int .i64 o.page, .slice o.da o.dl o.dc] w1 fun e w2 => e = .returned (.int .i64 (c.program o.block o.page o.data).1) ∧ ∃ c' d', Went base W w2 p q (k + 1) c' d' := by
  subst hq
  have ho1 := ho.below hm.below
  refine (d_program hm.dl o.block o.page o.da o.dl o.dc o.data ho1.len ho1.row ho1.lt ho1.nil (ho1.old.imp id fun q b oo e hf => ?_)).mono ?_
  · have := q b oo e; have := hm.dl.low b (.inl hf); omega
  · rintro e w2 ⟨d', he, hpo⟩
    obtain ⟨r1, r2⟩ := h.rel.program hk o.block o.page o.data
    rw [← hpo.abs] at r2
    rw [← r1] at he
    exact ⟨he, _, d', hm.went hpo.lies hpo.kept r2 (hm.plan hpo.kept hpo.pa.1 hpo.pa.2) ((CS.program_p _ _ _ _).trans hp) hpo.pl⟩
theorem Duo.era1 {base : Nat} {W : World} {c : CS} {d : DS} {k : Nat} (h : Duo base W c d k) (b : Int) (p : Nat) (hp : c.p = p) :
    Calls Try.prog 11 #[.pointer (some ⟨p, 0, none⟩), .int .i64 b] W fun e w1 => e = .returned (.int .i64 (c.erase b).1) ∧ Mid base W w1 (c.erase b).2 d := by
  subst hp
  refine (erase_all h.cl b).mono ?_
  rintro e w1 ⟨he, hl, hk, _⟩
  exact ⟨he, h.mid hl hk⟩
theorem Duo.era2 {base : Nat} {W w1 : World} {c : CS} {d : DS} {k : Nat} (h : Duo base W c d k) (hk : k < 9223372036854775807) (b : Int) (p q : Nat) (hp : c.p = p) (hq : d.p = q) (hm : Mid base W w1 (c.erase b).2 d) :
    Calls Try.prog 33 #[.pointer (some ⟨q, 0, none⟩), .int .i64 b] w1 fun e w2 => e = .returned (.int .i64 (c.erase b).1) ∧ ∃ c' d', Went base W w2 p q (k + 1) c' d' := by
  subst hq
  refine (d_erase hm.dl b).mono ?_
  rintro e w2 ⟨d', he, hpo⟩
  obtain ⟨r1, r2⟩ := h.rel.erase h.cl.good hk b
  rw [← hpo.abs] at r2
  rw [← r1] at he
  exact ⟨he, _, d', hm.went hpo.lies hpo.kept r2 (hm.plan hpo.kept hpo.pa.1 hpo.pa.2) ((CS.erase_p _ _).trans hp) hpo.pl⟩
theorem mark_abs (d : DS) (b : Int) : (d.mark b).1 = (d.abs.mark b).1 ∧ (d.mark b).2.abs = (d.abs.mark b).2 ∧ (d.mark b).2.p = d.p ∧ (d.mark b).2.pa = d.pa ∧ (d.mark b).2.plan = d.plan := by
  unfold DS.mark AS.mark
  rw [abs_at]
  by_cases ho : d.off = true
  · rw [if_pos ho, if_pos (show d.abs.off = true from ho)]; exact ⟨rfl, rfl, rfl, rfl, rfl⟩
  · rw [if_neg ho, if_neg (show ¬ d.abs.off = true from ho)]
    cases d.at b with
    | none => exact ⟨rfl, rfl, rfl, rfl, rfl⟩
    | some e =>
      refine ⟨rfl, ?_, rfl, rfl, rfl⟩
      show DS.abs _ = _
      unfold DS.abs
      simp only [map_set']
      rfl
theorem Duo.mar1 {base : Nat} {W : World} {c : CS} {d : DS} {k : Nat} (h : Duo base W c d k) (b : Int) (p : Nat) (hp : c.p = p) :
    Calls Try.prog 12 #[.pointer (some ⟨p, 0, none⟩), .int .i64 b] W fun e w1 => e = .returned (.int .i64 (c.mark b).1) ∧ Mid base W w1 (c.mark b).2 d := by
  subst hp
  refine (mark_any h.cl b).mono ?_
  rintro e w1 ⟨he, hl, hk, _⟩
  exact ⟨he, h.mid hl hk⟩
theorem Duo.mar2 {base : Nat} {W w1 : World} {c : CS} {d : DS} {k : Nat} (h : Duo base W c d k) (b : Int) (p q : Nat) (hp : c.p = p) (hq : d.p = q) (hm : Mid base W w1 (c.mark b).2 d) :
    Calls Try.prog 34 #[.pointer (some ⟨q, 0, none⟩), .int .i64 b] w1 fun e w2 => e = .returned (.int .i64 (c.mark b).1) ∧ ∃ c' d', Went base W w2 p q (k + 1) c' d' := by
  subst hq
  refine (d_mark hm.dl b).mono ?_
  rintro e w2 ⟨he, hl, hk2, _⟩
  obtain ⟨m1, m2, m3, m4, m5⟩ := mark_abs d b
  obtain ⟨r1, r2⟩ := h.rel.mark b
  rw [← m2] at r2
  rw [m1, ← r1] at he
  exact ⟨he, _, _, hm.went hl hk2 (r2.mono (Nat.le_succ k)) (hm.plan hk2 m4 m5) ((CS.mark_p _ _).trans hp) m3⟩
theorem Duo.pow1 {base : Nat} {W : World} {c : CS} {d : DS} {k : Nat} (h : Duo base W c d k) (p : Nat) (hp : c.p = p) :
    Calls Try.prog 35 #[.pointer (some ⟨p, 0, none⟩)] W fun e w1 => e = .returned (.tuple #[]) ∧ Mid base W w1 { c with on := true } d := by
  subst hp
  refine (power_any h.cl).mono ?_
  rintro e w1 ⟨he, hl, hk, _⟩
  exact ⟨he, h.mid hl hk⟩
theorem Duo.pow2 {base : Nat} {W w1 : World} {c : CS} {d : DS} {k : Nat} (h : Duo base W c d k) (p q : Nat) (hp : c.p = p) (hq : d.p = q) (hm : Mid base W w1 { c with on := true } d) :
    Calls Try.prog 36 #[.pointer (some ⟨q, 0, none⟩)] w1 fun e w2 => e = .returned (.tuple #[]) ∧ ∃ c' d', Went base W w2 p q (k + 1) c' d' := by
  subst hq
  refine (d_power hm.dl).mono ?_
  rintro e w2 ⟨he, hl, hk2⟩
  exact ⟨he, _, _, hm.went hl hk2 (h.rel.power.mono (Nat.le_succ k)) (hm.plan hk2 rfl rfl) hp rfl⟩
theorem Duo.armN1 {base : Nat} {W : World} {c : CS} {d : DS} {k : Nat} (h : Duo base W c d k) (o : OpD) (ho : Brings base W o) (p : Nat) (hp : c.p = p) (hn : ¬ (o.pl ≤ 256 ∧ planOk o.plan)) :
    Calls Try.prog 37 #[.pointer (some ⟨p, 0, none⟩), .slice o.pa o.pl o.pc] W fun e w1 => e = .returned (.int .i64 22) ∧ Mid base W w1 c d := by
  refine (arm_no h.cl p hp o.pa o.pl o.pc o.plan ho.plen ho.prow hn).mono ?_
  rintro e w1 ⟨he, hl, hb⟩
  exact ⟨he, h.mid hl (.of_below hb)⟩
theorem Duo.armN2 {base : Nat} {W w1 : World} {c : CS} {d : DS} {k : Nat} (h : Duo base W c d k) (o : OpD) (ho : Brings base W o) (p q : Nat) (hp : c.p = p) (hq : d.p = q) (hn : ¬ (o.pl ≤ 256 ∧ planOk o.plan)) (hm : Mid base W w1 c d) :
    Calls Try.prog 38 #[.pointer (some ⟨q, 0, none⟩), .slice o.pa o.pl o.pc] w1 fun e w2 => e = .returned (.int .i64 22) ∧ ∃ c' d', Went base W w2 p q (k + 1) c' d' := by
  subst hq
  have ho1 := ho.below hm.below
  refine (d_arm hm.dl o.pa o.pl o.pc o.plan ho1.plen ho1.pmax ho1.prow ho1.pnil).mono ?_
  rintro e w2 (⟨_, he, hl, hb⟩ | ⟨hy, _⟩)
  · exact ⟨he, _, _, hm.went hl (.of_below hb) (h.rel.mono (Nat.le_succ k)) (hm.plan (.of_below hb) rfl rfl) hp rfl⟩
  · exact absurd hy hn
/-- The plan, sorted. -/
def Sorted (s l : List Flt) : Prop := s.Perm l ∧ s.Pairwise (fun x y => x.num < y.num)
theorem Duo.armY1 {base : Nat} {W : World} {c : CS} {d : DS} {k : Nat} (h : Duo base W c d k) (o : OpD) (ho : Brings base W o) (p : Nat) (hp : c.p = p) (hy : o.pl ≤ 256 ∧ planOk o.plan) :
    Calls Try.prog 37 #[.pointer (some ⟨p, 0, none⟩), .slice o.pa o.pl o.pc] W fun e w1 => ∃ s, e = .returned (.int .i64 0) ∧ Sorted s o.plan ∧ Mid base W w1 { c with fs := s, steps := 0 } d := by
  refine (arm_yes h.cl p hp o.pa o.pl o.pc o.plan ho.plen ho.prow hy).mono ?_
  rintro e w1 ⟨he, s, s1, s2, hl, hk⟩
  exact ⟨s, he, ⟨s1, s2⟩, h.mid hl hk⟩
theorem Duo.armY2 {base : Nat} {W w1 : World} {c : CS} {d : DS} {k : Nat} (h : Duo base W c d k) (o : OpD) (ho : Brings base W o) (p q : Nat) (hp : c.p = p) (hq : d.p = q) (hy : o.pl ≤ 256 ∧ planOk o.plan) (s : List Flt) (hs : Sorted s o.plan) (hm : Mid base W w1 { c with fs := s, steps := 0 } d) :
    Calls Try.prog 38 #[.pointer (some ⟨q, 0, none⟩), .slice o.pa o.pl o.pc] w1 fun e w2 => e = .returned (.int .i64 0) ∧ ∃ c' d', Went base W w2 p q (k + 1) c' d' := by
  subst hq
  have ho1 := ho.below hm.below
  refine (d_arm hm.dl o.pa o.pl o.pc o.plan ho1.plen ho1.pmax ho1.prow ho1.pnil).mono ?_
  rintro e w2 (⟨hn, _⟩ | ⟨_, he, na, nc, hl, hk2, hpl⟩)
  · exact absurd hy hn
  · exact ⟨he, _, _, hm.went hl hk2 ((h.rel.arm o.plan s hs.1 hs.2 hy.2 (by rw [← ho.plen]; exact hy.1)).mono (Nat.le_succ k)) (fun b oo e hl2 => .inr (hpl b oo e hl2)) hp rfl⟩
end Go.Proofs.Ytiejkbncpbhcdaa
