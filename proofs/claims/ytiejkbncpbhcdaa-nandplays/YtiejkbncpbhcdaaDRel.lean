/-
  The chip, and the document's: what is alike, and that it stays so.
-/
import Derived.Test.YtiejkbncpbhcdaaDNewB
namespace Go.Proofs.Ytiejkbncpbhcdaa
open Go.RowKit

def Pg.abs (p : Pg) : APg := if p.st = 0 then ⟨false, []⟩ else if p.st = 1 then ⟨false, p.data⟩ else ⟨true, []⟩
def Bk.abs (b : Bk) : ABk := ⟨b.pgs.map Pg.abs, b.next, b.bad, b.erases⟩
/-- The chips are alike, and at most k operations were begun. -/
structure Rel (k : Nat) (c : CS) (a : AS) : Prop where
  geo : c.gb = a.gb ∧ c.gp = a.gp ∧ c.gz = a.gz ∧ c.gr = a.gr
  bks : c.bks.map Bk.abs = a.bks
  on : c.on = !a.off
  ops : c.ops = a.ops
  wrong : c.wrong = a.wrong
  low : 0 ≤ a.since ∧ a.since ≤ a.ops ∧ a.ops ≤ (k : Int)
  steps : c.steps = a.ops - a.since
  sorted : c.fs.Pairwise (fun x y => x.num < y.num)
  mem : ∀ f, f ∈ c.fs ↔ f ∈ a.plan ∧ c.steps < f.num
  ok : planOk a.plan
  plen : ∀ b ∈ c.bks, b.pgs.length = c.gp
  short : c.fs.length ≤ 256
theorem stepF_len (s : Int) : ∀ l : List Flt, (stepF s l).2.length ≤ l.length
  | [] => Nat.le_refl _
  | g :: l => by rw [stepF_cons]; split <;> simp
theorem Rel.mono {k m : Nat} {c : CS} {a : AS} (h : Rel k c a) (hm : k ≤ m) : Rel m c a := ⟨h.geo, h.bks, h.on, h.ops, h.wrong, ⟨h.low.1, h.low.2.1, by have := h.low.2.2; omega⟩, h.steps, h.sorted, h.mem, h.ok, h.plen, h.short⟩
theorem find_none (s : Int) : ∀ l : List Flt, (∀ f ∈ l, f.num ≠ s) → findF s l = ⟨0, 0, 2⟩
  | [], _ => rfl
  | g :: l, h => by unfold findF; rw [if_neg (h g (by simp))]; exact find_none s l (fun f hf => h f (by simp [hf]))
theorem find_mem (s : Int) {f : Flt} (hs : f.num = s) : ∀ l : List Flt, f ∈ l → (l.map Flt.num).Nodup → findF s l = f
  | [], h, _ => by simp at h
  | g :: l, h, nd => by
    unfold findF
    simp only [List.map_cons, List.nodup_cons] at nd
    rcases List.mem_cons.1 h with rfl | h
    · rw [if_pos hs]
    · rw [if_neg (fun e => nd.1 (by rw [e, ← hs]; exact List.mem_map.2 ⟨f, h, rfl⟩))]
      exact find_mem s hs l h nd.2
theorem Rel.nums {k : Nat} {c : CS} {a : AS} (h : Rel k c a) (hk : k < 9223372036854775807) : wrap64 (c.steps + 1) = c.steps + 1 ∧ wrap64 (a.ops + 1) = a.ops + 1 ∧ wrap64 (wrap64 (a.ops + 1) - a.since) = c.steps + 1 := by
  obtain ⟨l1, l2, l3⟩ := h.low
  have hs := h.steps
  have e1 : wrap64 (a.ops + 1) = a.ops + 1 := by unfold wrap64; omega
  rw [e1]
  refine ⟨?_, rfl, ?_⟩ <;> (unfold wrap64; omega)
theorem Rel.fault {k : Nat} {c : CS} {a : AS} (h : Rel k c a) (hk : k < 9223372036854775807) : c.extent = a.flt.ext ∧ c.told = a.flt.says ∧ (c.fault.kind = 1 ↔ a.flt.kind = 1) ∧ (stepF (wrap64 (c.steps + 1)) c.fs).2.Pairwise (fun x y => x.num < y.num) ∧ ∀ f, f ∈ (stepF (wrap64 (c.steps + 1)) c.fs).2 ↔ f ∈ a.plan ∧ c.steps + 1 < f.num := by
  obtain ⟨n1, n2, n3⟩ := h.nums hk
  unfold CS.extent CS.told CS.fault AS.flt
  rw [n3, n1]
  obtain ⟨s, hs⟩ : ∃ s, s = c.steps + 1 := ⟨_, rfl⟩
  rw [← hs]
  have hm : ∀ f, f ∈ c.fs ↔ f ∈ a.plan ∧ s ≤ f.num := fun f => by rw [h.mem f]; constructor <;> (rintro ⟨q, r⟩; exact ⟨q, by omega⟩)
  have hso := h.sorted
  have hok := h.ok
  generalize c.fs = F at hm hso
  cases F with
  | nil =>
    have e : findF s a.plan = ⟨0, 0, 2⟩ := find_none s _ fun f hf e => by have := (hm f).2 ⟨hf, by omega⟩; simp at this
    rw [e]
    refine ⟨rfl, rfl, Iff.rfl, List.Pairwise.nil, fun f => ⟨fun q => by simp [stepF] at q, fun q => ?_⟩⟩
    have := (hm f).2 ⟨q.1, by omega⟩
    simp at this
  | cons g l =>
    have hg := (hm g).1 (by simp)
    have hgl : ∀ f ∈ l, g.num < f.num := fun f hf => (List.pairwise_cons.1 hso).1 f hf
    by_cases e : g.num = s
    · have e1 : findF s a.plan = g := find_mem s e _ hg.1 hok.2
      rw [e1, stepF_cons, if_pos e]
      obtain ⟨_, ho⟩ := hok.1 g hg.1
      refine ⟨?_, rfl, Iff.rfl, (List.pairwise_cons.1 hso).2, fun f => ⟨fun q => ⟨((hm f).1 (by simp [q])).1, by rw [← e]; exact hgl f q⟩, fun q => ?_⟩⟩
      · unfold Flt.ext
        rcases ho with ⟨k1, _⟩ | ⟨k2, _⟩
        · simp only [k1]; rfl
        · simp only [k2]; rfl
      · have := (hm f).2 ⟨q.1, by omega⟩
        rcases List.mem_cons.1 this with rfl | this
        · omega
        · exact this
    · have hno : ∀ f ∈ a.plan, f.num ≠ s := fun f hf e2 => by
        have := (hm f).2 ⟨hf, by omega⟩
        rcases List.mem_cons.1 this with rfl | this
        · exact e e2
        · have := hgl f this
          have := hg.2
          omega
      rw [find_none s _ hno, stepF_cons, if_neg e]
      refine ⟨rfl, rfl, Iff.rfl, hso, fun f => ⟨fun q => ?_, fun q => (hm f).2 ⟨q.1, by omega⟩⟩⟩
      have := (hm f).1 q
      exact ⟨this.1, by have := hno f this.1; omega⟩
theorem Rel.at {k : Nat} {c : CS} {a : AS} (h : Rel k c a) (n : Int) : a.at n = (c.at n).map Bk.abs := by
  unfold AS.at CS.at
  split
  · rfl
  · rw [← h.bks]; simp
/-- An operation begins, and a block is written. -/
theorem Rel.begin {k : Nat} {c : CS} {a : AS} (h : Rel k c a) (hk : k < 9223372036854775807) (i : Nat) (b : Bk) (b' : ABk) (hb : b.abs = b') (hl : b.pgs.length = c.gp) : Rel (k + 1) { c.operated with bks := c.bks.set i b } { a.begun with bks := a.bks.set i b' } := by
  obtain ⟨n1, n2, n3⟩ := h.nums hk
  obtain ⟨f1, f2, f3, f4, f5⟩ := h.fault hk
  refine ⟨h.geo, ?_, ?_, ?_, h.wrong, ?_, ?_, f4, ?_, h.ok, ?_, Nat.le_trans (stepF_len _ _) h.short⟩
  · show (c.bks.set i b).map Bk.abs = a.bks.set i b'
    rw [List.map_set, h.bks, hb]
  · show (if c.fault.kind = 1 then false else c.on) = !(if a.flt.kind = 1 then true else a.off)
    by_cases e : c.fault.kind = 1
    · rw [if_pos e, if_pos (f3.1 e)]; rfl
    · rw [if_neg e, if_neg (fun x => e (f3.2 x))]; exact h.on
  · show wrap64 (c.ops + 1) = wrap64 (a.ops + 1)
    rw [h.ops]
  · show 0 ≤ a.since ∧ a.since ≤ wrap64 (a.ops + 1) ∧ wrap64 (a.ops + 1) ≤ ((k + 1 : Nat) : Int)
    have := h.low
    rw [n2]; omega
  · show wrap64 (c.steps + 1) = wrap64 (a.ops + 1) - a.since
    have := h.steps
    rw [n1, n2]; omega
  · intro f
    show f ∈ (stepF (wrap64 (c.steps + 1)) c.fs).2 ↔ f ∈ a.plan ∧ wrap64 (c.steps + 1) < f.num
    rw [n1]
    rw [n1] at f5
    exact f5 f
  · intro x hx
    rcases List.mem_or_eq_of_mem_set hx with hx | rfl
    · exact h.plen x hx
    · exact hl
theorem Rel.wronged {k : Nat} {c : CS} {a : AS} (h : Rel k c a) : Rel k { c with wrong := wrap64 (c.wrong + 1) } { a with wrong := wrap64 (a.wrong + 1) } :=
  ⟨h.geo, h.bks, h.on, h.ops, by show wrap64 (c.wrong + 1) = wrap64 (a.wrong + 1); rw [h.wrong], h.low, h.steps, h.sorted, h.mem, h.ok, h.plen, h.short⟩
theorem abs_programmed (b : Bk) (data : List Nat) (x : Int) : (b.programmed data x).abs = b.abs.programmed data x ∧ (b.programmed data x).pgs.length = b.pgs.length := by
  unfold Bk.programmed ABk.programmed
  split
  · exact ⟨rfl, rfl⟩
  · split
    · exact ⟨by simp [Bk.abs, Pg.abs, List.map_set], by simp⟩
    · exact ⟨by simp [Bk.abs, Pg.abs, List.map_set], by simp⟩
theorem abs_erased (b : Bk) (gp : Nat) (x : Int) (hx : x = 0 ∨ x = 1 ∨ x = 2) (hg : b.pgs.length = gp) : (b.erased x).abs = b.abs.erased gp x ∧ (b.erased x).pgs.length = gp := by
  unfold Bk.erased ABk.erased
  rcases hx with rfl | rfl | rfl
  · exact ⟨by simp, by simpa using hg⟩
  · exact ⟨by simp [Bk.abs, Pg.abs, hg], by simp [hg]⟩
  · exact ⟨by simp [Bk.abs, Pg.abs, hg], by simp [hg]⟩
theorem Rel.program {k : Nat} {c : CS} {a : AS} (h : Rel k c a) (hk : k < 9223372036854775807) (block page : Int) (data : List Nat) :
    (c.program block page data).1 = (a.program block page data).1 ∧ Rel (k + 1) (c.program block page data).2 (a.program block page data).2 := by
  unfold AS.program
  rw [h.at block]
  have ho := h.on
  rcases (Bool.eq_false_or_eq_true a.off).symm with hoff | hoff
  · rw [hoff] at ho
    replace ho : c.on = true := ho
    rw [if_neg (by rw [hoff]; decide)]
    cases hc : c.at block with
    | none =>
      rw [(prog_err (page := page) (data := data) (.inr ⟨ho, hc, rfl⟩)).1]
      exact ⟨rfl, h.mono (by omega)⟩
    | some b =>
      rw [(prog_at (page := page) (data := data) ho hc).1]
      simp only [Option.map_some]
      have g1 := h.geo.2.1
      have g2 := h.geo.2.2.1
      by_cases e : ¬ (0 ≤ page ∧ page < (c.gp : Int)) ∨ c.gz < data.length
      · rw [if_pos e, if_pos (show ¬ (0 ≤ page ∧ page < (a.gp : Int)) ∨ a.gz < data.length by rw [← g1, ← g2]; exact e)]; exact ⟨rfl, h.mono (by omega)⟩
      · rw [if_neg e, if_neg (show ¬ (¬ (0 ≤ page ∧ page < (a.gp : Int)) ∨ a.gz < data.length) by rw [← g1, ← g2]; exact e)]
        by_cases e2 : b.bad = true ∨ page ≠ b.next
        · rw [if_pos e2, if_pos (show b.abs.bad = true ∨ page ≠ b.abs.next from e2)]
          exact ⟨rfl, h.wronged.mono (Nat.le_succ k)⟩
        · rw [if_neg e2, if_neg (show ¬ (b.abs.bad = true ∨ page ≠ b.abs.next) from e2)]
          obtain ⟨f1, f2, f3, f4, f5⟩ := h.fault hk
          refine ⟨f2, ?_⟩
          obtain ⟨q1, q2⟩ := abs_programmed b data c.extent
          refine h.begin hk _ _ _ (by rw [q1, f1]) ?_
          rw [q2]
          exact h.plen b (List.mem_of_getElem? (at_some hc).1)
  · rw [hoff] at ho
    replace ho : c.on = false := ho
    rw [if_pos hoff, (prog_err (block := block) (page := page) (data := data) (.inl ⟨ho, rfl⟩)).1]
    exact ⟨rfl, h.mono (by omega)⟩
theorem Rel.erase {k : Nat} {c : CS} {a : AS} (h : Rel k c a) (hg : Good c) (hk : k < 9223372036854775807) (block : Int) :
    (c.erase block).1 = (a.erase block).1 ∧ Rel (k + 1) (c.erase block).2 (a.erase block).2 := by
  unfold AS.erase
  rw [h.at block]
  have ho := h.on
  rcases (Bool.eq_false_or_eq_true a.off).symm with hoff | hoff
  · rw [hoff] at ho
    replace ho : c.on = true := ho
    rw [if_neg (by rw [hoff]; decide)]
    cases hc : c.at block with
    | none =>
      rw [(prog_err (page := 0) (data := []) (.inr ⟨ho, hc, rfl⟩)).2]
      exact ⟨rfl, h.mono (by omega)⟩
    | some b =>
      rw [(prog_at (page := 0) (data := []) ho hc).2]
      simp only [Option.map_some]
      by_cases e2 : b.bad = true
      · rw [if_pos e2, if_pos (show b.abs.bad = true from e2)]
        exact ⟨rfl, h.wronged.mono (Nat.le_succ k)⟩
      · rw [if_neg e2, if_neg (show ¬ b.abs.bad = true from e2)]
        obtain ⟨f1, f2, f3, f4, f5⟩ := h.fault hk
        refine ⟨f2, ?_⟩
        obtain ⟨q1, q2⟩ := abs_erased ({ b with erases := wrap64 (b.erases + 1) } : Bk) c.gp c.extent hg.extent (h.plen b (List.mem_of_getElem? (at_some hc).1))
        exact h.begin hk _ _ _ (by rw [q1, f1, ← h.geo.2.1]; rfl) q2
  · rw [hoff] at ho
    replace ho : c.on = false := ho
    rw [if_pos hoff, (prog_err (block := block) (page := 0) (data := []) (.inl ⟨ho, rfl⟩)).2]
    exact ⟨rfl, h.mono (by omega)⟩
theorem Rel.mark {k : Nat} {c : CS} {a : AS} (h : Rel k c a) (block : Int) :
    (c.mark block).1 = (a.mark block).1 ∧ Rel k (c.mark block).2 (a.mark block).2 := by
  unfold AS.mark
  rw [h.at block]
  have ho := h.on
  rcases (Bool.eq_false_or_eq_true a.off).symm with hoff | hoff
  · rw [hoff] at ho
    replace ho : c.on = true := ho
    rw [if_neg (by rw [hoff]; decide)]
    cases hc : c.at block with
    | none =>
      have : c.mark block = (22, c) := by
        unfold CS.mark
        rw [if_neg (by rw [ho]; decide)]
        rcases at_none hc with q | ⟨q, r⟩
        · rw [if_pos q]
        · rw [if_neg q, r]
      rw [this]
      exact ⟨rfl, h⟩
    | some b =>
      obtain ⟨q1, q2⟩ := at_some hc
      have : c.mark block = (0, { c with bks := c.bks.set block.toNat { b with bad := true } }) := by
        unfold CS.mark
        rw [if_neg (by rw [ho]; decide), if_neg (by omega), q1]
      rw [this]
      refine ⟨rfl, h.geo, ?_, h.on, h.ops, h.wrong, h.low, h.steps, h.sorted, h.mem, h.ok, ?_, h.short⟩
      · show (c.bks.set _ _).map Bk.abs = a.bks.set _ _
        rw [List.map_set, h.bks]
        rfl
      · intro x hx
        rcases List.mem_or_eq_of_mem_set hx with hx | rfl
        · exact h.plen x hx
        · exact h.plen b (List.mem_of_getElem? q1)
  · rw [hoff] at ho
    replace ho : c.on = false := ho
    have : c.mark block = (6, c) := by
      unfold CS.mark
      rw [if_pos ho]
    rw [if_pos hoff, this]
    exact ⟨rfl, h⟩
theorem Rel.power {k : Nat} {c : CS} {a : AS} (h : Rel k c a) : Rel k { c with on := true } { a with off := false } :=
  ⟨h.geo, h.bks, rfl, h.ops, h.wrong, h.low, h.steps, h.sorted, h.mem, h.ok, h.plen, h.short⟩
theorem Rel.arm {k : Nat} {c : CS} {a : AS} (h : Rel k c a) (l s : List Flt) (hp : s.Perm l) (hs : s.Pairwise (fun x y => x.num < y.num)) (hl : planOk l) (h256 : l.length ≤ 256) : Rel k { c with fs := s, steps := 0 } { a with plan := l, since := a.ops } := by
  have := h.low
  refine ⟨h.geo, h.bks, h.on, h.ops, h.wrong, ⟨by show 0 ≤ a.ops; omega, Int.le_refl _, h.low.2.2⟩, by show (0 : Int) = a.ops - a.ops; omega, hs, fun f => ?_, hl, h.plen, by show s.length ≤ 256; rw [hp.length_eq]; exact h256⟩
  show f ∈ s ↔ f ∈ l ∧ 0 < f.num
  rw [hp.mem_iff]
  exact ⟨fun q => ⟨q, by have := (hl.1 f q).1; omega⟩, fun q => q.1⟩
theorem bytes_abs {p : Pg} {q : DPg} (h : p.abs = q.abs) (n : Nat) : p.bytes n = q.bytes n ∧ p.err = q.err := by
  unfold Pg.abs DPg.abs at h
  unfold Pg.bytes DPg.bytes Pg.err DPg.err
  split at h
  · rename_i e
    simp only [APg.mk.injEq] at h
    simp [e, ← h.1, ← h.2]
  · split at h
    · rename_i e1 e2
      simp only [APg.mk.injEq] at h
      simp [e2, ← h.1, ← h.2]
    · rename_i e1 e2
      simp only [APg.mk.injEq] at h
      simp [e1, e2, ← h.1]
theorem Rel.atD {k : Nat} {c : CS} {d : DS} (h : Rel k c d.abs) (n : Int) : (d.at n).map DBk.abs = (c.at n).map Bk.abs := by
  rw [← abs_at]; exact h.at n
theorem Rel.read {k : Nat} {c : CS} {d : DS} (h : Rel k c d.abs) (block page : Int) : c.read block page = d.read block page := by
  have ho : c.on = !d.off := h.on
  have ha := h.atD block
  cases hoff : d.off
  · rw [hoff] at ho
    cases hc : c.at block with
    | none =>
      rw [hc] at ha
      have hd : d.at block = none := by cases q : d.at block with | none => rfl | some _ => rw [q] at ha; simp at ha
      rw [dread_none block page (by rw [hoff]; decide) hd]
      obtain ⟨x, r1, r2, _⟩ := read_err block page (.inr ⟨ho, hc⟩)
      rw [r1]
      rcases r2 with ⟨r, _⟩ | ⟨_, _, rfl⟩
      · rw [ho] at r; simp at r
      · rfl
    | some b =>
      rw [hc] at ha
      obtain ⟨e, hd, hbe⟩ : ∃ e, d.at block = some e ∧ e.abs = b.abs := by cases q : d.at block with | none => rw [q] at ha; simp at ha | some e => rw [q] at ha; simp at ha; exact ⟨e, rfl, ha⟩
      rw [read_at block page ho hc, dread_at block page (by rw [hoff]; decide) hd]
      by_cases e0 : page < 0
      · rw [if_pos e0, if_pos e0]
      · rw [if_neg e0, if_neg e0]
        have hp : e.pgs.map DPg.abs = b.pgs.map Pg.abs := by have := congrArg ABk.pgs hbe; exact this
        have hp2 : (e.pgs[page.toNat]?).map DPg.abs = (b.pgs[page.toNat]?).map Pg.abs := by rw [← List.getElem?_map, ← List.getElem?_map, hp]
        have hz : c.gz = d.gz := h.geo.2.2.1
        cases q1 : b.pgs[page.toNat]? with
        | none => 
          rw [q1] at hp2
          have : e.pgs[page.toNat]? = none := by cases q : e.pgs[page.toNat]? with | none => rfl | some _ => rw [q] at hp2; simp at hp2
          rw [this]
        | some p =>
          rw [q1] at hp2
          obtain ⟨r, q2, hr⟩ : ∃ r, e.pgs[page.toNat]? = some r ∧ r.abs = p.abs := by cases q : e.pgs[page.toNat]? with | none => rw [q] at hp2; simp at hp2 | some r => rw [q] at hp2; simp at hp2; exact ⟨r, rfl, hp2⟩
          rw [q2]
          obtain ⟨s1, s2⟩ := bytes_abs hr.symm c.gz
          show (p.bytes c.gz, p.err) = (r.bytes d.gz, r.err)
          rw [s1, s2, hz]
  · rw [hoff] at ho
    rw [dread_off block page hoff]
    obtain ⟨x, r1, r2, _⟩ := read_err (c := c) block page (.inl ho)
    rw [r1]
    rcases r2 with ⟨_, rfl⟩ | ⟨r, _⟩
    · rfl
    · rw [ho] at r; simp at r
/-- What the chips say of a block. -/
theorem Rel.looks {k : Nat} {c : CS} {d : DS} (h : Rel k c d.abs) (n : Int) :
    (match c.at n with | none => false | some b => b.bad) = (match d.at n with | none => false | some b => b.bad) ∧
    (match c.at n with | none => 0 | some b => b.next) = (match d.at n with | none => 0 | some b => b.next) ∧
    (match c.at n with | none => 0 | some b => b.erases) = (match d.at n with | none => 0 | some b => b.erases) := by
  have ha := h.atD n
  cases hc : c.at n with
  | none =>
    rw [hc] at ha
    have hd : d.at n = none := by cases q : d.at n with | none => rfl | some _ => rw [q] at ha; simp at ha
    rw [hd]
    exact ⟨rfl, rfl, rfl⟩
  | some b =>
    rw [hc] at ha
    obtain ⟨e, hd, hbe⟩ : ∃ e, d.at n = some e ∧ e.abs = b.abs := by cases q : d.at n with | none => rw [q] at ha; simp at ha | some e => rw [q] at ha; simp at ha; exact ⟨e, rfl, ha⟩
    rw [hd]
    exact ⟨(congrArg ABk.bad hbe).symm, (congrArg ABk.next hbe).symm, (congrArg ABk.erases hbe).symm⟩
end Go.Proofs.Ytiejkbncpbhcdaa
