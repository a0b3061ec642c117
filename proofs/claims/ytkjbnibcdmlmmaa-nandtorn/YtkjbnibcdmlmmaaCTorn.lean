/-
  What a power cut leaves of a program or an erase.
-/
import Derived.Test.YtkjbnibcdmlmmaaCOnce
import Derived.Test.YtkjbnibcdmlmmaaCArm
namespace Go.Proofs.Ytkjbnibcdmlmmaa
open Go.RowKit

/-- k pages of a block have the data, the others are erased. -/
structure Filled (b : Bk) (k : Nat) (data : List Nat) : Prop where
  next : b.next = k
  bad : b.bad = false
  len : b.pgs.length = 16
  done : ∀ j, j < k → b.pgs[j]? = some ⟨1, data⟩
  rest : ∀ j, k ≤ j → j < 16 → b.pgs[j]? = some ⟨0, []⟩
/-- The chip when k pages of both blocks have the data. -/
structure TS (c : CS) (p k : Nat) (data : List Nat) : Prop where
  calm : Calm c
  at_p : c.p = p
  wrong : c.wrong = 0
  gz : c.gz = 128
  gp : c.gp = 16
  two : ∃ b, c.at 2 = some b ∧ Filled b k data
  seven : ∃ b, c.at 7 = some b ∧ Filled b k data
theorem prog_ok {c : CS} (n : Int) (k : Nat) (data : List Nat) {b : Bk} (hon : c.on = true) (hb : c.at n = some b) (h1 : b.bad = false) (h2 : b.next = k) (h3 : k < c.gp) (h4 : data.length ≤ c.gz) :
    c.program n k data = (c.told, { c.operated with bks := c.bks.set n.toNat (b.programmed data c.extent) }) := by
  rw [(prog_at hon hb).1, if_neg, if_neg]
  · rintro (q | q)
    · rw [h1] at q; cases q
    · exact q h2.symm
  · rintro (q | q)
    · exact q ⟨by omega, by omega⟩
    · omega
theorem erase_ok {c : CS} (n : Int) {b : Bk} (hon : c.on = true) (hb : c.at n = some b) (h1 : b.bad = false) :
    c.erase n = (c.told, { c.operated with bks := c.bks.set n.toNat (({ b with erases := wrap64 (b.erases + 1) } : Bk).erased c.extent) }) := by
  rw [(prog_at (page := 0) (data := []) hon hb).2, if_neg (by rw [h1]; decide)]
theorem at_op {c : CS} {n m : Int} {b b' : Bk} (hb : c.at n = some b) : ({ c.operated with bks := c.bks.set n.toNat b' } : CS).at m = if m = n then some b' else c.at m :=
  at_set (c := c.operated) (show c.operated.at n = some b from hb)
theorem Filled.more {b : Bk} {k : Nat} {data : List Nat} (h : Filled b k data) (hk : k < 16) : Filled (b.programmed data 2) (k + 1) data := by
  have e : b.programmed data 2 = { b with pgs := b.pgs.set b.next.toNat ⟨1, data⟩, next := b.next + 1 } := rfl
  have hn : b.next.toNat = k := by rw [h.next]; rfl
  rw [e]
  refine ⟨by show b.next + 1 = _; rw [h.next]; simp, h.bad, by simpa using h.len, ?_, ?_⟩
  · intro j hj
    show (b.pgs.set b.next.toNat ⟨1, data⟩)[j]? = _
    rw [hn]
    by_cases e : j = k
    · subst e; exact List.getElem?_set_self (by rw [h.len]; exact hk)
    · rw [List.getElem?_set_ne (by omega)]; exact h.done j (by omega)
  · intro j hj1 hj2
    show (b.pgs.set b.next.toNat ⟨1, data⟩)[j]? = _
    rw [hn, List.getElem?_set_ne (by omega)]; exact h.rest j (by omega) hj2
theorem TS.step {c : CS} {p k : Nat} {data : List Nat} (h : TS c p k data) (hk : k < 16) (hd : data.length ≤ 128) : ∃ c1 c2, c.program 2 k data = (0, c1) ∧ c1.program 7 k data = (0, c2) ∧ c1.p = p ∧ TS c2 p (k + 1) data := by
  obtain ⟨b2, e2, f2⟩ := h.two
  obtain ⟨b7, e7, f7⟩ := h.seven
  have p1 := prog_ok 2 k data h.calm.on e2 f2.bad f2.next (by rw [h.gp]; exact hk) (by rw [h.gz]; exact hd)
  rw [h.calm.told, h.calm.extent] at p1
  obtain ⟨c1, hc1⟩ : ∃ c1 : CS, c1 = { c.operated with bks := c.bks.set (2 : Int).toNat (b2.programmed data 2) } := ⟨_, rfl⟩
  rw [← hc1] at p1
  have cm1 : Calm c1 := by rw [hc1]; exact ⟨h.calm.operated.on, h.calm.operated.fs⟩
  have e71 : c1.at 7 = some b7 := by rw [hc1, at_op e2, if_neg (by decide)]; exact e7
  have e21 : c1.at 2 = some (b2.programmed data 2) := by rw [hc1, at_op e2, if_pos rfl]
  have g1 : c1.gp = 16 ∧ c1.gz = 128 ∧ c1.wrong = 0 ∧ c1.p = p := by rw [hc1]; exact ⟨h.gp, h.gz, h.wrong, h.at_p⟩
  have p2 := prog_ok 7 k data cm1.on e71 f7.bad f7.next (by rw [g1.1]; exact hk) (by rw [g1.2.1]; exact hd)
  rw [cm1.told, cm1.extent] at p2
  refine ⟨c1, _, p1, p2, g1.2.2.2, ⟨⟨cm1.operated.on, cm1.operated.fs⟩, g1.2.2.2, g1.2.2.1, g1.2.1, g1.1, ?_, ?_⟩⟩
  · exact ⟨_, by rw [at_op e71, if_neg (by decide)]; exact e21, f2.more hk⟩
  · exact ⟨_, by rw [at_op e71, if_pos rfl], f7.more hk⟩
theorem ts_small (p q : Nat) (rs : List Nat) (h : rs.length = 16) (data : List Nat) : TS (smallC p q rs) p 0 data := by
  have hat : ∀ n : Nat, n < 16 → (smallC p q rs).at n = some (freshB 16 (rs.getD n 0)) := by
    intro n hn
    unfold CS.at
    rw [if_neg (by omega)]
    show (rs.map (freshB 16))[(n : Int).toNat]? = _
    have hl : n < rs.length := by omega
    simp [List.getElem?_map, List.getElem?_eq_getElem hl, List.getD]
  have hf : ∀ r, Filled (freshB 16 r) 0 data := by
    intro r
    refine ⟨rfl, rfl, by simp [freshB], fun j hj => by omega, fun j _ hj => ?_⟩
    show (List.replicate 16 (⟨0, []⟩ : Pg))[j]? = _
    rw [List.getElem?_replicate, if_pos hj]
  exact ⟨⟨rfl, rfl⟩, rfl, rfl, rfl, rfl, ⟨_, hat 2 (by decide), hf _⟩, ⟨_, hat 7 (by decide), hf _⟩⟩
/-- The chip with a cut at its next operation. -/
def CS.armed (c : CS) (t : Int) : CS := { c with fs := [⟨1, 1, t⟩], steps := 0 }
theorem armed_fault (c : CS) (t : Int) : (c.armed t).fault = ⟨1, 1, t⟩ ∧ (c.armed t).extent = t ∧ (c.armed t).told = 6 ∧ (c.armed t).operated = { c with fs := [], steps := 1, ops := wrap64 (c.ops + 1), on := false } := by
  have hw : wrap64 (0 + 1) = 1 := by decide +kernel
  have hf : (c.armed t).fault = ⟨1, 1, t⟩ := by
    unfold CS.fault CS.armed
    show (stepF (wrap64 (0 + 1)) [⟨1, 1, t⟩]).1 = _
    rw [hw]; rfl
  refine ⟨hf, ?_, ?_, ?_⟩
  · unfold CS.extent; rw [hf]; rfl
  · unfold CS.told; rw [hf]; rfl
  · unfold CS.operated
    rw [hf]
    show ({ c with fs := (stepF (wrap64 (0 + 1)) [⟨1, 1, t⟩]).2, steps := wrap64 (0 + 1), ops := wrap64 (c.ops + 1), on := _ } : CS) = _
    rw [hw]; rfl
/-- What is known when the power has come back. -/
structure After (c1 : CS) (p k : Nat) (b : Bk) : Prop where
  off : c1.on = false
  at_p : c1.p = p
  fs : c1.fs = []
  wrong : c1.wrong = 0
  gz : c1.gz = 128
  gp : c1.gp = 16
  two : c1.at 2 = some b
  seven : ∃ b7, c1.at 7 = some b7 ∧ b7.next = k
theorem cut_erase {c : CS} {p k : Nat} {data : List Nat} (h : TS c p k data) (t : Int) : ∃ b c1, Filled b k data ∧ (c.armed t).erase 2 = (6, c1) ∧ After c1 p k (b.erased t) := by
  obtain ⟨b2, e2, f2⟩ := h.two
  obtain ⟨b7, e7, f7⟩ := h.seven
  obtain ⟨hf, hx, ht, ho⟩ := armed_fault c t
  have e2' : (c.armed t).at 2 = some b2 := e2
  have := erase_ok 2 (c := c.armed t) h.calm.on e2' f2.bad
  rw [hx, ht] at this
  have hat : ∀ m, ({ (c.armed t).operated with bks := (c.armed t).bks.set (2 : Int).toNat (({ b2 with erases := wrap64 (b2.erases + 1) } : Bk).erased t) } : CS).at m = if m = 2 then some _ else (c.armed t).at m := fun m => at_op e2'
  refine ⟨{ b2 with erases := wrap64 (b2.erases + 1) }, _, ⟨f2.next, f2.bad, f2.len, f2.done, f2.rest⟩, this, ?_⟩
  refine ⟨by rw [ho], by rw [ho]; exact h.at_p, by rw [ho], by rw [ho]; exact h.wrong, by rw [ho]; exact h.gz, by rw [ho]; exact h.gp, by rw [hat, if_pos rfl], ⟨b7, by rw [hat, if_neg (by decide)]; exact e7, f7.next⟩⟩
theorem cut_program {c : CS} {p k : Nat} {data : List Nat} (h : TS c p k data) (t : Int) (hk : k < 16) (hd : data.length ≤ 128) : ∃ b c1, Filled b k data ∧ (c.armed t).program 2 k data = (6, c1) ∧ After c1 p k (b.programmed data t) := by
  obtain ⟨b2, e2, f2⟩ := h.two
  obtain ⟨b7, e7, f7⟩ := h.seven
  obtain ⟨hf, hx, ht, ho⟩ := armed_fault c t
  have e2' : (c.armed t).at 2 = some b2 := e2
  have := prog_ok 2 k data (c := c.armed t) h.calm.on e2' f2.bad f2.next (by show k < c.gp; rw [h.gp]; exact hk) (by show _ ≤ c.gz; rw [h.gz]; exact hd)
  rw [hx, ht] at this
  have hat : ∀ m, ({ (c.armed t).operated with bks := (c.armed t).bks.set (2 : Int).toNat (b2.programmed data t) } : CS).at m = if m = 2 then some _ else (c.armed t).at m := fun m => at_op e2'
  refine ⟨b2, _, f2, this, ?_⟩
  refine ⟨by rw [ho], by rw [ho]; exact h.at_p, by rw [ho], by rw [ho]; exact h.wrong, by rw [ho]; exact h.gz, by rw [ho]; exact h.gp, by rw [hat, if_pos rfl], ⟨b7, by rw [hat, if_neg (by decide)]; exact e7, f7.next⟩⟩
/-- With the power off nothing is answered. -/
theorem off_all {c : CS} (h : c.on = false) (bl pg : Int) (data : List Nat) : c.read bl pg = ([], 6) ∧ c.program bl pg data = (6, c) ∧ c.erase bl = (6, c) ∧ c.mark bl = (6, c) := by
  refine ⟨?_, (prog_err (.inl ⟨h, rfl⟩)).1, (prog_err (page := pg) (data := data) (.inl ⟨h, rfl⟩)).2, ?_⟩
  · unfold CS.read; rw [if_pos h]
  · unfold CS.mark; rw [if_pos h]
/-- What is read of the block when the power is on again. -/
theorem After.read {c1 : CS} {p k : Nat} {b : Bk} (h : After c1 p k b) (j : Nat) (pg : Pg) (hp : b.pgs[j]? = some pg) : ({ c1 with on := true } : CS).read 2 j = (pg.bytes 128, pg.err) := by
  rw [read_at 2 j (c := { c1 with on := true }) rfl h.two, if_neg (by omega), show ((j : Int).toNat) = j from rfl, hp]
  show (pg.bytes c1.gz, pg.err) = _
  rw [h.gz]
theorem After.calm {c1 : CS} {p k : Nat} {b : Bk} (h : After c1 p k b) : Calm { c1 with on := true } := ⟨rfl, h.fs⟩
theorem After.next2 {c1 : CS} {p k : Nat} {b : Bk} (h : After c1 p k b) : b.next = match ({ c1 with on := true } : CS).at 2 with | none => 0 | some b => b.next := by
  rw [show ({ c1 with on := true } : CS).at 2 = some b from h.two]
theorem After.next7 {c1 : CS} {p k : Nat} {b : Bk} (h : After c1 p k b) : (k : Int) = match ({ c1 with on := true } : CS).at 7 with | none => 0 | some b => b.next := by
  obtain ⟨b7, e, hn⟩ := h.seven
  rw [show ({ c1 with on := true } : CS).at 7 = some b7 from e]
  exact hn.symm
theorem power_at {base : Nat} {w : World} {c : CS} (h : Lies base w c) (p : Nat) (hp : c.p = p) :
    Calls Try.prog 30 #[.pointer (some ⟨p, 0, none⟩)] w fun e w' => e = .returned (.tuple #[]) ∧ Lies base w' { c with on := true } ∧ Kept c.foot w w' := by
  subst hp
  exact (power_any h).mono fun e w' ⟨q1, q2, q3, _⟩ => ⟨q1, q2, q3⟩
theorem on_at {base : Nat} {w : World} {c : CS} (h : Lies base w c) (p : Nat) (hp : c.p = p) (x : Bool) (hx : c.on = x) :
    Calls Try.prog 25 #[.pointer (some ⟨p, 0, none⟩)] w fun e w' => e = .returned (.bool x) ∧ w = w' := by
  subst hp hx; exact on_any h
theorem arm_cut {base : Nat} {w : World} {c : CS} (h : Lies base w c) (p : Nat) (hp : c.p = p) (b : Nat) (t : Int) (ht : t = 0 ∨ t = 1 ∨ t = 2) (hr : Row w b [.int .i64 1, .int .i64 1, .int .i64 t] 55) :
    Calls Try.prog 23 #[.pointer (some ⟨p, 0, none⟩), .slice (some ⟨b, 0, none⟩) 1 1] w fun e w' => e = .returned (.int .i64 0) ∧ Lies base w' (c.armed t) ∧ Kept c.foot w w' := by
  have hrow : FRow w (some ⟨b, 0, none⟩) [⟨1, 1, t⟩] := by
    refine .inr ⟨b, 0, rfl, fun i f hf => ?_⟩
    rcases i with _ | i
    · simp at hf; subst hf
      exact ⟨hr.cell rfl, hr.cell rfl, hr.cell rfl⟩
    · simp at hf
  refine (arm_yes h p hp (some ⟨b, 0, none⟩) 1 1 [⟨1, 1, t⟩] rfl hrow ⟨by decide, ?_, by simp⟩).mono ?_
  · intro f hf
    simp at hf
    subst hf
    exact ⟨Int.le_refl _, .inl ⟨rfl, ht⟩⟩
  · rintro e w' ⟨rfl, s, h1, _, h2, h3⟩
    have : s = [⟨1, 1, t⟩] := List.perm_singleton.1 h1
    subst this
    exact ⟨rfl, h2, h3⟩
end Go.Proofs.Ytkjbnibcdmlmmaa
