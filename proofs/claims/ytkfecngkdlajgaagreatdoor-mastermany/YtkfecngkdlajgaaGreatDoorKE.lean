/-
  Pages that are programmed one behind the other, on a chip that may fail.
  A draft in a Free block.
  The manager's blocks and the chip's.
  A draft is laid in a block, or in another one.
-/
import Derived.Test.YtkfecngkdlajgaaGreatDoorKC
import Derived.Test.YtkfecngkdlajgaaGreatDoorGS
import Derived.Test.YtkfecngkdlajgaaGreatDoorGE
namespace Go.Proofs.YtkfecngkdlajgaaGreatDoor
open Go.RowKit
set_option maxRecDepth 10000

/-- A page of a block tells these bytes. -/
def Tl (gz : Nat) (b : Bk) (i : Nat) (l : List Nat) : Prop := ∃ p, b.pgs[i]? = some p ∧ p.bytes gz = l ∧ p.err = 0
/-- The bytes of a page behind data that were programmed. -/
def fillP (gz : Nat) (d : List Nat) : List Nat := d ++ List.replicate (gz - d.length) 255
theorem tl_new {gz : Nat} {b : Bk} {i : Nat} {d : List Nat} (h : b.pgs[i]? = some ⟨1, d⟩) : Tl gz b i (fillP gz d) := ⟨_, h, rfl, rfl⟩
theorem fillP_full {gz : Nat} {d : List Nat} (h : d.length = gz) : fillP gz d = d := by unfold fillP; simp [h]
theorem fillP_length {gz : Nat} {d : List Nat} (h : d.length ≤ gz) : (fillP gz d).length = gz := by unfold fillP; simp; omega
/-- What the operation that begins meets, where nothing but failures is planned. -/
theorem told_cases {c : CS} (hf : ∀ f ∈ c.fs, f.kind = 2) :
    (c.told = 0 ∧ c.extent = 2 ∧ c.operated = { c with steps := wrap64 (c.steps + 1), ops := wrap64 (c.ops + 1) }) ∨
    (c.told = 5 ∧ c.extent = 1 ∧ ∃ f r, c.fs = f :: r ∧ c.operated = { c with steps := wrap64 (c.steps + 1), ops := wrap64 (c.ops + 1), fs := r }) := by
  unfold CS.told CS.extent CS.operated CS.fault
  rcases h : c.fs with _ | ⟨f, r⟩
  · left
    simp [stepF]
  · have hk := hf f (by rw [h]; simp)
    rw [stepF_cons]
    by_cases hn : f.num = wrap64 (c.steps + 1)
    · right
      rw [if_pos hn]
      simp [hk]
    · left
      rw [if_neg hn]
      simp
/-- The chip with block n changed to b', and so many faults left. -/
def Upd (n : Nat) (c c' : CS) (b' : Bk) (fs' : List Flt) : Prop := ∃ s o, c' = { c with steps := s, ops := o, fs := fs', bks := c.bks.set n b' }
theorem Upd.trans {n : Nat} {c c1 c2 : CS} {b1 b2 : Bk} {f1 f2 : List Flt} (h : Upd n c c1 b1 f1) (k : Upd n c1 c2 b2 f2) : Upd n c c2 b2 f2 := by
  obtain ⟨s, o, rfl⟩ := h
  obtain ⟨s', o', rfl⟩ := k
  exact ⟨s', o', by simp⟩
theorem at_nat (c : CS) (n : Nat) : c.at (n : Nat) = c.bks[n]? := by unfold CS.at; rw [if_neg (by omega)]; simp
theorem progM_eq {c : CS} {n : Nat} {b : Bk} {p : Int} {d : List Nat} (hon : c.on = true) (hb : c.bks[n]? = some b) (hbad : b.bad = false) (hn : b.next = p) (hp : 0 ≤ p ∧ p < c.gp) (hd : d.length ≤ c.gz) :
    c.programM n p d = (c.told, { c.operated with bks := c.bks.set n (b.programmed d c.extent) }) := by
  unfold CS.programM CS.badB CS.nextI
  rw [at_nat, hb]
  simp only [hbad, hn]
  unfold CS.program
  rw [if_neg (by simp), if_neg (by simp), if_neg (by simp [hon]), if_neg (by omega), Int.toNat_natCast, hb]
  simp only
  rw [if_neg (by omega), if_neg (by simp [hbad, hn])]
theorem progM_cases {c : CS} {n : Nat} {b : Bk} {p : Nat} {d : List Nat} (hon : c.on = true) (hb : c.bks[n]? = some b) (hbad : b.bad = false) (hn : b.next = p) (hp : p < c.gp) (hd : d.length ≤ c.gz) (hf : ∀ f ∈ c.fs, f.kind = 2) :
    (∃ c', c.programM n p d = (0, c') ∧ Upd n c c' { b with pgs := b.pgs.set p ⟨1, d⟩, next := (p : Int) + 1 } c.fs) ∨
    (∃ c' f r, c.fs = f :: r ∧ c.programM n p d = (5, c') ∧ Upd n c c' { b with pgs := b.pgs.set p ⟨2, []⟩, next := (p : Int) + 1 } r) := by
  rw [progM_eq hon hb hbad hn (by omega) hd]
  rcases told_cases hf with ⟨h1, h2, h3⟩ | ⟨h1, h2, f, r, h3, h4⟩
  · left
    rw [h1, h2, h3]
    refine ⟨_, rfl, wrap64 (c.steps + 1), wrap64 (c.ops + 1), ?_⟩
    simp [Bk.programmed, hn]
  · right
    rw [h1, h2, h4]
    refine ⟨_, f, r, h3, rfl, wrap64 (c.steps + 1), wrap64 (c.ops + 1), ?_⟩
    simp [Bk.programmed, hn]
theorem Upd.at {n : Nat} {c c' : CS} {b b' : Bk} {fs' : List Flt} (h : Upd n c c' b' fs') (hb : c.bks[n]? = some b) : c'.bks[n]? = some b' := by
  obtain ⟨s, o, rfl⟩ := h
  exact List.getElem?_set_self (List.getElem?_eq_some_iff.1 hb).1
theorem Upd.other {n k : Nat} {c c' : CS} {b' : Bk} {fs' : List Flt} (h : Upd n c c' b' fs') (hk : k ≠ n) : c'.bks[k]? = c.bks[k]? := by
  obtain ⟨s, o, rfl⟩ := h
  exact List.getElem?_set_ne (fun e => hk e.symm)
theorem Upd.same {n : Nat} {c c' : CS} {b' : Bk} {fs' : List Flt} (h : Upd n c c' b' fs') : c'.on = c.on ∧ c'.gb = c.gb ∧ c'.gp = c.gp ∧ c'.gz = c.gz ∧ c'.gr = c.gr ∧ c'.fs = fs' ∧ c'.wrong = c.wrong ∧ c'.bks.length = c.bks.length ∧ c'.p = c.p := by
  obtain ⟨s, o, rfl⟩ := h
  simp
/-- Pages of a block that are programmed one behind the other. -/
theorem pages_cases {n : Nat} : ∀ (L : List (List Nat)) (c : CS) (b : Bk) (i : Nat), c.on = true → c.bks[n]? = some b → b.bad = false → b.next = 2 + (i : Int) → b.pgs.length = c.gp → 2 + i + L.length ≤ c.gp → (∀ d ∈ L, d.length ≤ c.gz) → (∀ f ∈ c.fs, f.kind = 2) →
    (∃ c' b', pagesM c n i L = (0, c') ∧ Upd n c c' b' c.fs ∧ b'.bad = false ∧ b'.next = 2 + (i : Int) + L.length ∧ b'.pgs.length = c.gp ∧ b'.erases = b.erases ∧ (∀ j, j < 2 + i → b'.pgs[j]? = b.pgs[j]?) ∧ ∀ j d, L[j]? = some d → b'.pgs[2 + i + j]? = some ⟨1, d⟩) ∨
    (∃ c' b' f r, pagesM c n i L = (5, c') ∧ c.fs = f :: r ∧ Upd n c c' b' r ∧ b'.bad = false ∧ b'.pgs.length = c.gp ∧ b'.erases = b.erases)
  | [], c, b, i, hon, hb, hbad, hn, hp, hl, hd, hf => by
    left
    refine ⟨c, b, rfl, ⟨c.steps, c.ops, ?_⟩, hbad, by simp [hn], hp, rfl, fun _ _ => rfl, by simp⟩
    rw [set_self hb]
  | d :: L, c, b, i, hon, hb, hbad, hn, hp, hl, hd, hf => by
    simp only [List.length_cons] at hl
    have e2 : ((2 + i : Nat) : Int) = 2 + (i : Int) := by omega
    rcases progM_cases (p := 2 + i) hon hb hbad (by rw [hn, e2]) (by omega) (hd d (by simp)) hf with ⟨c1, h1, u1⟩ | ⟨c1, f, r, h0, h1, u1⟩
    · rw [e2] at h1
      have g := u1.same
      have hb1 := u1.at hb
      unfold pagesM
      rw [h1]
      simp only [if_pos]
      have hp1 : ({ b with pgs := b.pgs.set (2 + i) ⟨1, d⟩, next := ((2 + i : Nat) : Int) + 1 } : Bk).pgs.length = c1.gp := by rw [g.2.2.1]; simpa using hp
      rcases pages_cases L c1 _ (i + 1) (g.1.trans hon) hb1 hbad (by show ((2 + i : Nat) : Int) + 1 = _; omega) hp1 (by rw [g.2.2.1]; omega) (fun x hx => by rw [g.2.2.2.1]; exact hd x (by simp [hx])) (fun x hx => hf x (by rw [g.2.2.2.2.2.1] at hx; exact hx)) with ⟨c', b', q1, q2, q3, q4, q5, q6, q7, q8⟩ | ⟨c', b', f, r, q1, q2, q3, q4, q5, q6⟩
      · left
        rw [g.2.2.2.2.2.1] at q2
        refine ⟨c', b', q1, u1.trans q2, q3, by rw [q4]; simp; omega, by rw [q5, g.2.2.1], q6, fun j hj => ?_, ?_⟩
        · rw [q7 j (by omega)]
          exact List.getElem?_set_ne (by omega)
        · intro j x hx
          cases j with
          | zero =>
            simp at hx
            subst hx
            rw [q7 _ (by omega)]
            exact List.getElem?_set_self (by omega)
          | succ j =>
            have := q8 j x (by simpa using hx)
            rw [show 2 + i + (j + 1) = 2 + (i + 1) + j by omega]
            exact this
      · right
        rw [g.2.2.2.2.2.1] at q2
        exact ⟨c', b', f, r, q1, q2, u1.trans q3, q4, by rw [q5, g.2.2.1], q6⟩
    · right
      rw [e2] at h1
      unfold pagesM
      rw [h1]
      simp only
      rw [if_neg (by decide)]
      exact ⟨c1, _, f, r, rfl, h0, u1, hbad, by simpa using hp, rfl⟩
end Go.Proofs.YtkfecngkdlajgaaGreatDoor
namespace Go.Proofs.YtkfecngkdlajgaaGreatDoor
open Go.RowKit
set_option maxRecDepth 10000

/-- What a block of the chip has to do with what the manager keeps of it, and with the pages that stand in it. -/
inductive BOk (gz : Nat) (b : Bk) : Bl → List (List Nat) → Prop where
  | bad : b.bad = true → BOk gz b badBl []
  | free (k : Nat) : k ≤ 2147483647 → b.erases = k → b.bad = false → Tl gz b 0 (Hd.imgL (Hd.countL k) gz) → b.next = 1 → BOk gz b ⟨2, k, 0, 0, 0, false⟩ []
  | spoilt (k : Nat) : k ≤ 2147483647 → b.erases = k → b.bad = false → BOk gz b ⟨3, k, 0, 0, 0, false⟩ []
  | mapped (k leb seq must : Nat) (P : List (List Nat)) : k ≤ 2147483647 → b.erases = k → b.bad = false → Tl gz b 0 (Hd.imgL (Hd.countL k) gz) → leb ≤ 255 → seq < 18446744073709551616 → must ≤ P.length → Tl gz b 1 (Hd.imgL (Hd.mapL leb seq must) gz) → (∀ i l, P[i]? = some l → Tl gz b (2 + i) l) → (∀ l ∈ P, l.length = gz) → BOk gz b ⟨4, k, leb, P.length, seq, false⟩ P
/-- What a write of a draft does. -/
noncomputable def writeM (m : Mg) (c : CS) (n leb must : Nat) (L : List (List Nat)) : Int × Mg × CS :=
  if (c.programM n 1 (Hd.imgL (Hd.mapL leb (m.seq + 1) must) c.gz)).1 = 0 then
    (if (pagesM (c.programM n 1 (Hd.imgL (Hd.mapL leb (m.seq + 1) must) c.gz)).2 n 0 L).1 = 0 then
      (0, m.next.put n ⟨4, ((m.bl[n]?).getD zeroB).cnt, leb, L.length, (m.seq : Int) + 1, false⟩, (pagesM (c.programM n 1 (Hd.imgL (Hd.mapL leb (m.seq + 1) must) c.gz)).2 n 0 L).2)
    else ((pagesM (c.programM n 1 (Hd.imgL (Hd.mapL leb (m.seq + 1) must) c.gz)).2 n 0 L).1, m.next, (pagesM (c.programM n 1 (Hd.imgL (Hd.mapL leb (m.seq + 1) must) c.gz)).2 n 0 L).2))
  else ((c.programM n 1 (Hd.imgL (Hd.mapL leb (m.seq + 1) must) c.gz)).1, m.next, (c.programM n 1 (Hd.imgL (Hd.mapL leb (m.seq + 1) must) c.gz)).2)
theorem write_cases {m : Mg} {c : CS} {n leb must k : Nat} {L : List (List Nat)} {b : Bk} (hon : c.on = true) (hb : c.bks[n]? = some b) (hx : m.bl[n]? = some ⟨2, k, 0, 0, 0, false⟩) (hk : BOk c.gz b ⟨2, k, 0, 0, 0, false⟩ []) (hp : b.pgs.length = c.gp) (hl : 2 + L.length ≤ c.gp) (hd : ∀ d ∈ L, d.length ≤ c.gz) (hf : ∀ f ∈ c.fs, f.kind = 2) (hleb : leb ≤ 255) (hs : m.seq + 1 < 18446744073709551616) (hm : must ≤ L.length) :
    (∃ c' b', writeM m c n leb must L = (0, m.next.put n ⟨4, k, leb, L.length, (m.seq : Int) + 1, false⟩, c') ∧ Upd n c c' b' c.fs ∧ BOk c.gz b' ⟨4, k, leb, L.length, (m.seq : Int) + 1, false⟩ (L.map (fillP c.gz)) ∧ b'.pgs.length = c.gp ∧ b'.next = 2 + (L.length : Int)) ∨
    (∃ c' b' f r, writeM m c n leb must L = (5, m.next, c') ∧ c.fs = f :: r ∧ Upd n c c' b' r ∧ b'.pgs.length = c.gp ∧ b'.erases = b.erases) := by
  obtain ⟨hk1, her, hbad, ht, hn⟩ : k ≤ 2147483647 ∧ b.erases = k ∧ b.bad = false ∧ Tl c.gz b 0 (Hd.imgL (Hd.countL k) c.gz) ∧ b.next = 1 := by
    generalize hy : (⟨2, (k : Int), 0, 0, 0, false⟩ : Bl) = y at hk
    generalize hz : ([] : List (List Nat)) = z at hk
    cases hk with
    | bad _ => simp [badBl] at hy
    | free k' h1 h0 h2 h3 h4 =>
      simp at hy
      have : k = k' := by omega
      subst this
      exact ⟨h1, h0, h2, h3, h4⟩
    | spoilt k' => simp at hy
    | mapped k' leb' seq' must' => simp at hy
  unfold writeM
  have e1 : ((1 : Nat) : Int) = 1 := rfl
  rcases progM_cases (p := 1) (d := Hd.imgL (Hd.mapL leb (m.seq + 1) must) c.gz) hon hb hbad (by rw [hn]; rfl) (by omega) (by rw [Hd.imgL_length]; exact Nat.le_refl _) hf with ⟨c1, h1, u1⟩ | ⟨c1, f, r, h0, h1, u1⟩
  · rw [e1] at h1
    rw [h1]
    simp only [if_pos]
    have g := u1.same
    have hb1 := u1.at hb
    rcases pages_cases L c1 _ 0 (g.1.trans hon) hb1 hbad (by show ((1 : Nat) : Int) + 1 = _; omega) (by rw [g.2.2.1]; simpa using hp) (by rw [g.2.2.1]; omega) (fun x hx => by rw [g.2.2.2.1]; exact hd x hx) (fun x hx => hf x (by rw [g.2.2.2.2.2.1] at hx; exact hx)) with ⟨c', b', q1, q2, q3, q4, q5, q6, q7, q8⟩ | ⟨c', b', f, r, q1, q2, q3, q4, q5, q6⟩
    · left
      rw [q1]
      simp only [if_pos]
      rw [g.2.2.2.2.2.1] at q2
      rw [hx]
      refine ⟨c', b', rfl, u1.trans q2, ?_, by rw [q5, g.2.2.1], by rw [q4]; simp⟩
      have t0 : Tl c.gz b' 0 (Hd.imgL (Hd.countL k) c.gz) := by
        obtain ⟨p, hp0, hp1⟩ := ht
        refine ⟨p, ?_, hp1⟩
        rw [q7 0 (by omega)]
        show (b.pgs.set 1 _)[0]? = _
        rw [List.getElem?_set_ne (by omega)]
        exact hp0
      have t1 : Tl c.gz b' 1 (Hd.imgL (Hd.mapL leb (m.seq + 1) must) c.gz) := by
        have h : b'.pgs[1]? = some ⟨1, Hd.imgL (Hd.mapL leb (m.seq + 1) must) c.gz⟩ := by
          rw [q7 1 (by omega)]
          exact List.getElem?_set_self (by omega)
        have := tl_new (gz := c.gz) h
        rwa [fillP_full (Hd.imgL_length _ _)] at this
      have := BOk.mapped (gz := c.gz) (b := b') k leb (m.seq + 1) must (L.map (fillP c.gz)) hk1 (q6.trans her) q3 t0 hleb hs (by simpa using hm) t1 (fun i l hl => by
        rw [List.getElem?_map] at hl
        rcases hi : L[i]? with _ | d
        · rw [hi] at hl; cases hl
        · rw [hi] at hl
          cases hl
          exact tl_new (by have := q8 i d hi; simpa using this)) (fun l hl => by
        obtain ⟨d, hd1, rfl⟩ := List.mem_map.1 hl
        exact fillP_length (hd d hd1))
      simpa using this
    · right
      rw [q1]
      simp only
      rw [if_neg (by decide)]
      rw [g.2.2.2.2.2.1] at q2
      exact ⟨c', b', f, r, rfl, q2, u1.trans q3, by rw [q5, g.2.2.1], q6⟩
  · right
    rw [e1] at h1
    rw [h1]
    simp only
    rw [if_neg (by decide)]
    exact ⟨c1, _, f, r, rfl, h0, u1, by simpa using hp, rfl⟩
end Go.Proofs.YtkfecngkdlajgaaGreatDoor
namespace Go.Proofs.YtkfecngkdlajgaaGreatDoor
open Go.RowKit
set_option maxRecDepth 10000

/-- How many of the blocks are in a state. -/
def cntS (st : Int) (l : List Bl) : Nat := l.countP (fun x => x.st == st)
theorem cntS_set {st : Int} {l : List Bl} {i : Nat} {o : Bl} (hi : l[i]? = some o) (x : Bl) : cntS st (l.set i x) + (if o.st = st then 1 else 0) = cntS st l + (if x.st = st then 1 else 0) := by
  obtain ⟨h, e⟩ := List.getElem?_eq_some_iff.1 hi
  unfold cntS
  rw [List.countP_set h]
  have hpos : o.st = st → 1 ≤ l.countP (fun x => x.st == st) := fun he => List.countP_pos_iff.2 ⟨o, List.mem_of_getElem? hi, by simp [he]⟩
  rw [e]
  by_cases h1 : o.st = st
  · have := hpos h1
    by_cases h2 : x.st = st <;> simp [h1, h2] <;> omega
  · by_cases h2 : x.st = st <;> simp [h1, h2]
theorem bok_st {gz : Nat} {b : Bk} {x : Bl} {P : List (List Nat)} (h : BOk gz b x P) : x.st = 1 ∨ x.st = 2 ∨ x.st = 3 ∨ x.st = 4 := by
  cases h <;> simp [badBl]
/-- All states together. -/
theorem cnt_all : ∀ l : List Bl, (∀ x ∈ l, x.st = 1 ∨ x.st = 2 ∨ x.st = 3 ∨ x.st = 4) → cntS 1 l + cntS 2 l + cntS 3 l + cntS 4 l = l.length
  | [], _ => rfl
  | x :: l, h => by
    have := cnt_all l (fun y hy => h y (by simp [hy]))
    unfold cntS at *
    simp only [List.countP_cons, List.length_cons]
    rcases h x (by simp) with e | e | e | e <;> rw [e] <;> simp <;> omega
/-- The manager's blocks and the chip's; X: blocks of which nothing is said. -/
structure RB (bl : List Bl) (c : CS) (P : List (List (List Nat))) : Prop where
  lc : c.bks.length = c.gb
  lb : bl.length = c.gb
  lp : P.length = c.gb
  geo : 16 ≤ c.gb ∧ c.gb ≤ 256 ∧ 8 ≤ c.gp ∧ c.gp ≤ 64 ∧ 64 ≤ c.gz ∧ c.gz ≤ 512 ∧ c.gr + 2 ≤ c.gb
  on : c.on = true
  pl : ∀ b ∈ c.bks, b.pgs.length = c.gp
  blk : ∀ (i : Nat) b x p, c.bks[i]? = some b → bl[i]? = some x → P[i]? = some p → BOk c.gz b x p
  fs : ∀ f ∈ c.fs, f.kind = 2
  room : cntS 1 bl + c.fs.length ≤ c.gr
theorem RB.at {bl : List Bl} {c : CS} {P : List (List (List Nat))} (h : RB bl c P) {i : Nat} (hi : i < c.gb) : ∃ b x p, c.bks[i]? = some b ∧ bl[i]? = some x ∧ P[i]? = some p ∧ BOk c.gz b x p ∧ b.pgs.length = c.gp := by
  have h1 := List.getElem?_eq_getElem (l := c.bks) (i := i) (by rw [h.lc]; exact hi)
  have h2 := List.getElem?_eq_getElem (l := bl) (i := i) (by rw [h.lb]; exact hi)
  have h3 := List.getElem?_eq_getElem (l := P) (i := i) (by rw [h.lp]; exact hi)
  exact ⟨_, _, _, h1, h2, h3, h.blk i _ _ _ h1 h2 h3, h.pl _ (List.mem_of_getElem? h1)⟩
theorem RB.st {bl : List Bl} {c : CS} {P : List (List (List Nat))} (h : RB bl c P) : ∀ x ∈ bl, x.st = 1 ∨ x.st = 2 ∨ x.st = 3 ∨ x.st = 4 := by
  intro x hx
  obtain ⟨i, hi, rfl⟩ := List.getElem_of_mem hx
  obtain ⟨b, y, p, _, h2, _, h4, _⟩ := h.at (i := i) (by rw [← h.lb]; exact hi)
  rw [List.getElem?_eq_getElem hi] at h2
  cases h2
  exact bok_st h4
/-- A block changes, in the chip, in what is kept of it, and in what stands there. -/
theorem RB.upd {bl : List Bl} {c c' : CS} {P : List (List (List Nat))} {n : Nat} {o x : Bl} {p : List (List Nat)} {b' : Bk} {fs' : List Flt} (h : RB bl c P) (hn : bl[n]? = some o) (u : Upd n c c' b' fs') (hb : BOk c.gz b' x p) (hl : b'.pgs.length = c.gp) (hf : ∀ f ∈ fs', f ∈ c.fs) (hr : cntS 1 (bl.set n x) + fs'.length ≤ c.gr) : RB (bl.set n x) c' (P.set n p) := by
  have g := u.same
  have hnl : n < c.gb := by rw [← h.lb]; exact (List.getElem?_eq_some_iff.1 hn).1
  obtain ⟨b, _, _, hb0, _⟩ := h.at hnl
  refine ⟨by rw [g.2.2.2.2.2.2.2.1, h.lc, g.2.1], by rw [List.length_set, h.lb, g.2.1], by rw [List.length_set, h.lp, g.2.1], by rw [g.2.1, g.2.2.1, g.2.2.2.1, g.2.2.2.2.1]; exact h.geo, g.1.trans h.on, ?_, ?_, fun f hx => h.fs f (hf f (by rw [g.2.2.2.2.2.1] at hx; exact hx)), by rw [g.2.2.2.2.2.1, g.2.2.2.2.1]; exact hr⟩
  · intro y hy
    obtain ⟨i, hi⟩ := List.getElem?_of_mem hy
    rw [g.2.2.1]
    by_cases hin : i = n
    · subst hin
      rw [u.at hb0] at hi
      cases hi
      exact hl
    · rw [u.other hin] at hi
      exact h.pl y (List.mem_of_getElem? hi)
  · intro i y z q h1 h2 h3
    rw [g.2.2.2.1]
    by_cases hin : i = n
    · subst hin
      rw [u.at hb0] at h1
      rw [List.getElem?_set_self (by rw [h.lb]; exact hnl)] at h2
      rw [List.getElem?_set_self (by rw [h.lp]; exact hnl)] at h3
      cases h1; cases h2; cases h3
      exact hb
    · rw [u.other hin] at h1
      rw [List.getElem?_set_ne (fun e => hin e.symm)] at h2 h3
      exact h.blk i y z q h1 h2 h3
theorem mark_eq {c : CS} {n : Nat} {b : Bk} (hon : c.on = true) (hb : c.bks[n]? = some b) : (c.mark n).2 = { c with bks := c.bks.set n { b with bad := true } } := by
  unfold CS.mark
  rw [if_neg (by simp [hon]), if_neg (by omega), Int.toNat_natCast, hb]
theorem mark_upd {n : Nat} {c c' : CS} {b b' : Bk} {fs' : List Flt} (u : Upd n c c' b' fs') (hb : c.bks[n]? = some b) (hon : c.on = true) : Upd n c (c'.mark n).2 { b' with bad := true } fs' := by
  rw [mark_eq (u.same.1.trans hon) (u.at hb)]
  obtain ⟨s, o, rfl⟩ := u
  exact ⟨s, o, by simp⟩
/-- A draft in a Free block or, as long as one fails, in another one. -/
noncomputable def layM (leb must : Nat) (L : List (List Nat)) : Nat → Mg → CS → Nat → Int × Int × Mg × CS
  | 0, m, c, n => (n, 5, m, c)
  | f + 1, m, c, n =>
    if (writeM m c n leb must L).1 = 5 then
      (if leastI ((writeM m c n leb must L).2.1.put n badBl).bl < 0 then (leastI ((writeM m c n leb must L).2.1.put n badBl).bl, 30, (writeM m c n leb must L).2.1.put n badBl, ((writeM m c n leb must L).2.2.mark n).2)
      else layM leb must L f ((writeM m c n leb must L).2.1.put n badBl) ((writeM m c n leb must L).2.2.mark n).2 (leastI ((writeM m c n leb must L).2.1.put n badBl).bl).toNat)
    else (n, (writeM m c n leb must L).1, (writeM m c n leb must L).2.1, (writeM m c n leb must L).2.2)
noncomputable def settleM (leb must : Nat) (L : List (List Nat)) (m : Mg) (c : CS) : Int × Int × Mg × CS :=
  if leastI m.bl < 0 then (leastI m.bl, 30, m, c) else layM leb must L (m.bl.length + 1) m c (leastI m.bl).toNat
/-- The least worn Free block is one. -/
theorem sel_count (st : Int) : ∀ (l : List Bl) (k : Nat), (sel st k l).length = cntS st l
  | [], _ => rfl
  | x :: l, k => by
    have := sel_count st l (k + 1)
    unfold cntS at *
    rw [List.countP_cons]
    unfold sel
    split
    · rename_i h; simp [h, this]
    · rename_i h; simp [h, this]
theorem leastO_some : ∀ (p : List (Nat × Bl)) (o : Option (Nat × Bl)), (p ≠ [] ∨ o ≠ none) → p.foldl lessO o ≠ none
  | [], o, h => by simpa using h
  | x :: p, o, _ => by
    rw [List.foldl_cons]
    refine leastO_some p _ (.inr ?_)
    unfold lessO
    cases o with
    | none => simp
    | some y => simp only; split <;> simp
theorem least_some {l : List Bl} (h : 1 ≤ cntS 2 l) : ∃ (n : Nat) (x : Bl), leastI l = n ∧ l[n]? = some x ∧ x.st = 2 := by
  unfold leastI
  rcases ho : leastO (sel 2 0 l) with _ | y
  · refine absurd ho (leastO_some _ _ (.inl fun e => ?_))
    have := sel_count 2 l 0
    rw [e] at this
    simp at this
    omega
  · rcases leastO_mem _ _ _ ho with hm | hm
    · obtain ⟨_, h2, h3⟩ := sel_fst _ _ _ hm
      exact ⟨y.1, y.2, rfl, by simpa using h2, h3⟩
    · cases hm
end Go.Proofs.YtkfecngkdlajgaaGreatDoor
namespace Go.Proofs.YtkfecngkdlajgaaGreatDoor
open Go.RowKit
set_option maxRecDepth 10000

/-- What settling a draft makes of the manager's blocks, and of what stands in them. -/
structure Mv (m m' : Mg) (c c' : CS) (P P' : List (List (List Nat))) (gz n leb : Nat) (L : List (List Nat)) : Prop where
  st : m'.p = m.p ∧ m'.bb = m.bb ∧ m'.bcap = m.bcap ∧ m'.lost = m.lost
  new : ∃ k s : Nat, m.bl[n]? = some ⟨2, k, 0, 0, 0, false⟩ ∧ m'.bl[n]? = some ⟨4, k, leb, L.length, s, false⟩ ∧ m.seq < s ∧ s ≤ m'.seq
  pg : P'[n]? = some (L.map (fillP gz))
  oth : ∀ j, j ≠ n → (m'.bl[j]? = m.bl[j]? ∧ P'[j]? = P[j]?) ∨ ((∃ k : Nat, m.bl[j]? = some ⟨2, k, 0, 0, 0, false⟩) ∧ m'.bl[j]? = some badBl ∧ P'[j]? = some [])
  bk : ∃ b', c'.bks[n]? = some b' ∧ b'.next = 2 + (L.length : Int)
  ob : ∀ j, j ≠ n → c'.bks[j]? = c.bks[j]? ∨ m'.bl[j]? = some badBl
/-- No failure is planned, and no block is bad. -/
def Fine (c : CS) : Prop := c.fs = [] ∧ ∀ b ∈ c.bks, b.bad = false
/-- The same chip, in another state. -/
structure Gm0 (c c' : CS) : Prop where
  gb : c'.gb = c.gb
  gp : c'.gp = c.gp
  gz : c'.gz = c.gz
  gr : c'.gr = c.gr
  p : c'.p = c.p
  wrong : c'.wrong = c.wrong
/-- The same chip, in another state; where all was fine, it is. -/
structure Gm (c c' : CS) : Prop extends Gm0 c c' where
  fine : Fine c → Fine c'
theorem Gm0.trans {a b c : CS} (h : Gm0 a b) (k : Gm0 b c) : Gm0 a c := ⟨k.gb.trans h.gb, k.gp.trans h.gp, k.gz.trans h.gz, k.gr.trans h.gr, k.p.trans h.p, k.wrong.trans h.wrong⟩
theorem Gm.refl (c : CS) : Gm c c := ⟨⟨rfl, rfl, rfl, rfl, rfl, rfl⟩, id⟩
theorem Gm.trans {a b c : CS} (h : Gm a b) (k : Gm b c) : Gm a c := ⟨h.toGm0.trans k.toGm0, fun f => k.fine (h.fine f)⟩
theorem Upd.gm0 {n : Nat} {c c' : CS} {b' : Bk} {fs' : List Flt} (h : Upd n c c' b' fs') : Gm0 c c' := by
  obtain ⟨s, o, rfl⟩ := h
  exact ⟨rfl, rfl, rfl, rfl, rfl, rfl⟩
theorem Upd.gm {n : Nat} {c c' : CS} {b' : Bk} {fs' : List Flt} (h : Upd n c c' b' fs') (hf : Fine c → fs' = [] ∧ b'.bad = false) : Gm c c' := by
  refine ⟨h.gm0, fun f => ?_⟩
  obtain ⟨s, o, rfl⟩ := h
  refine ⟨(hf f).1, fun b hb => ?_⟩
  rcases List.mem_or_eq_of_mem_set hb with hb | rfl
  · exact f.2 b hb
  · exact (hf f).2
theorem bok_nb {gz : Nat} {b : Bk} {x : Bl} {P : List (List Nat)} (h : BOk gz b x P) (hx : x.st ≠ 1) : b.bad = false := by
  cases h with
  | bad _ => exact absurd rfl hx
  | free _ _ _ h _ _ => exact h
  | spoilt _ _ _ h => exact h
  | mapped _ _ _ _ _ _ _ h => exact h
theorem bok_free {gz : Nat} {b : Bk} {x : Bl} {P : List (List Nat)} (h : BOk gz b x P) (hx : x.st = 2) : ∃ k : Nat, x = ⟨2, k, 0, 0, 0, false⟩ ∧ P = [] := by
  cases h with
  | bad _ => simp [badBl] at hx
  | free k _ _ _ _ => exact ⟨k, rfl, rfl⟩
  | spoilt => simp at hx
  | mapped => simp at hx
theorem lay_ok (leb must : Nat) (L : List (List Nat)) (hleb : leb ≤ 255) (hm : must ≤ L.length) :
    ∀ (fuel : Nat) (m : Mg) (c : CS) (P : List (List (List Nat))) (n : Nat) (x : Bl), RB m.bl c P → m.bl[n]? = some x → x.st = 2 → 2 + L.length ≤ c.gp → (∀ d ∈ L, d.length ≤ c.gz) → c.fs.length < fuel → c.fs.length + 1 ≤ cntS 2 m.bl → m.seq + c.fs.length + 1 < 18446744073709551616 →
    ∃ (n' : Nat) (m' : Mg) (c' : CS) (P' : List (List (List Nat))), layM leb must L fuel m c n = ((n' : Int), 0, m', c') ∧ RB m'.bl c' P' ∧ Mv m m' c c' P P' c.gz n' leb L ∧ m'.seq + c'.fs.length ≤ m.seq + c.fs.length + 1 ∧ Gm c c' ∧ c'.fs.length ≤ c.fs.length ∧ cntS 1 m'.bl + c'.fs.length ≤ cntS 1 m.bl + c.fs.length
  | 0, m, c, P, n, x, h, hn, hx, hl, hd, hf, hc, hs => by omega
  | fuel + 1, m, c, P, n, x, h, hn, hx, hl, hd, hf, hc, hs => by
    have hnl : n < c.gb := by rw [← h.lb]; exact (List.getElem?_eq_some_iff.1 hn).1
    obtain ⟨b, y, p, hb, hy, hp, hk, hpl⟩ := h.at hnl
    rw [hn] at hy
    cases hy
    obtain ⟨k, rfl, rfl⟩ := bok_free hk hx
    unfold layM
    rcases write_cases (m := m) (leb := leb) (must := must) (L := L) h.on hb hn hk hpl hl hd h.fs hleb (by omega) hm with ⟨c', b', e, u, hk', hl', he⟩ | ⟨c', b', f, r, e, hfr, u, hl', he⟩
    · rw [e]
      simp only
      rw [if_neg (by decide)]
      have hr : RB (m.bl.set n ⟨4, k, leb, L.length, (m.seq : Int) + 1, false⟩) c' (P.set n (L.map (fillP c.gz))) := h.upd hn u hk' hl' (fun _ hx => hx) (by
        have := cntS_set (st := 1) hn (⟨4, k, leb, L.length, (m.seq : Int) + 1, false⟩ : Bl)
        simp at this
        rw [this]
        exact h.room)
      refine ⟨n, _, c', _, rfl, hr, ⟨⟨rfl, rfl, rfl, rfl⟩, ⟨k, m.seq + 1, hn, ?_, by omega, by simp [Mg.next, Mg.put]⟩, ?_, fun j hj => .inl ⟨?_, ?_⟩, ⟨b', u.at hb, he⟩, fun j hj => .inl (u.other hj)⟩, by rw [u.same.2.2.2.2.2.1]; show m.seq + 1 + _ ≤ _; omega, u.gm (fun f => ⟨f.1, bok_nb hk' (by show (4 : Int) ≠ 1; decide)⟩), by rw [u.same.2.2.2.2.2.1]; exact Nat.le_refl _, ?_⟩
      rotate_right
      · have := cntS_set (st := 1) hn (⟨4, k, leb, L.length, (m.seq : Int) + 1, false⟩ : Bl)
        simp at this
        show cntS 1 (m.bl.set n _) + _ ≤ _
        rw [u.same.2.2.2.2.2.1, this]
        exact Nat.le_refl _
      · simp only [Mg.put, Mg.next]
        rw [List.getElem?_set_self (by rw [h.lb]; exact hnl)]
        simp
      · exact List.getElem?_set_self (by rw [h.lp]; exact hnl)
      · exact List.getElem?_set_ne (fun e => hj e.symm)
      · exact List.getElem?_set_ne (fun e => hj e.symm)
    · rw [e]
      simp only
      rw [if_pos trivial]
      have u2 := mark_upd u hb h.on
      have c1 := cntS_set (st := 1) hn badBl
      have c2 := cntS_set (st := 2) hn badBl
      simp [badBl] at c1 c2
      have hroom := h.room
      have hfl : c.fs.length = r.length + 1 := by rw [hfr]; simp
      have hr : RB (m.bl.set n badBl) (c'.mark n).2 (P.set n []) := h.upd hn u2 (.bad rfl) hl' (fun f hx => by rw [hfr]; simp [hx]) (by simp [badBl]; omega)
      have hfs : (c'.mark n).2.fs = r := u2.same.2.2.2.2.2.1
      have g := u2.gm (fun q => absurd q.1 (by rw [hfr]; simp))
      have hlst : 1 ≤ cntS 2 (m.bl.set n badBl) := by simp [badBl]; omega
      obtain ⟨n2, x2, e2, hn2, hx2⟩ := least_some hlst
      have e3 : (m.next.put n badBl).bl = m.bl.set n badBl := rfl
      rw [e3, e2, if_neg (by omega), Int.toNat_natCast]
      obtain ⟨n', m', cc, P', q1, q2, q3, q4, q5, q6, q7⟩ := lay_ok leb must L hleb hm fuel (m.next.put n badBl) (c'.mark n).2 (P.set n []) n2 x2 hr hn2 hx2 (by rw [g.gp]; exact hl) (fun d hx => by rw [g.gz]; exact hd d hx) (by rw [hfs]; omega) (by rw [hfs]; show _ ≤ cntS 2 (m.bl.set n badBl); simp [badBl]; omega) (by rw [hfs]; show m.seq + 1 + _ + 1 < _; omega)
      refine ⟨n', m', cc, P', q1, q2, ?_, by have : m'.seq + cc.fs.length ≤ m.seq + 1 + (c'.mark n).2.fs.length + 1 := q4; rw [hfs] at this; omega, g.trans q5, by rw [hfs] at q6; omega, by
        have : (m.next.put n badBl).bl = m.bl.set n badBl := rfl
        rw [this, hfs] at q7
        simp [badBl] at q7
        omega⟩
      obtain ⟨k', s', a1, a2, a3, a4⟩ := q3.new
      have hne : n' ≠ n := by
        intro e
        subst e
        have : (m.next.put n' badBl).bl[n']? = some badBl := List.getElem?_set_self (by show _ < m.bl.length; rw [h.lb]; exact hnl)
        rw [this] at a1
        simp [badBl] at a1
      have hnb : (m.next.put n badBl).bl[n']? = m.bl[n']? := List.getElem?_set_ne (fun e => hne e.symm)
      refine ⟨⟨q3.st.1, q3.st.2.1, q3.st.2.2.1, q3.st.2.2.2⟩, ⟨k', s', by rw [← hnb]; exact a1, a2, by have : m.seq + 1 < s' := a3; omega, a4⟩, by have := q3.pg; rwa [g.gz] at this, fun j hj => ?_, q3.bk, fun j hj => ?_⟩
      rotate_left
      · rcases q3.ob j hj with z | z
        · by_cases hjn : j = n
          · subst hjn
            right
            rcases q3.oth j hj with ⟨z1, z2⟩ | ⟨_, z2, _⟩
            · rw [z1]; exact List.getElem?_set_self (by show _ < m.bl.length; rw [h.lb]; exact hnl)
            · exact z2
          · left
            rw [z]
            exact u2.other hjn
        · exact .inr z
      rcases q3.oth j hj with ⟨z1, z2⟩ | ⟨⟨kk, z1⟩, z2, z3⟩
      · by_cases hjn : j = n
        · subst hjn
          right
          refine ⟨⟨k, hn⟩, ?_, ?_⟩
          · rw [z1]; exact List.getElem?_set_self (by show _ < m.bl.length; rw [h.lb]; exact hnl)
          · rw [z2]; exact List.getElem?_set_self (by rw [h.lp]; exact hnl)
        · left
          rw [z1, z2]
          exact ⟨List.getElem?_set_ne (fun e => hjn e.symm), List.getElem?_set_ne (fun e => hjn e.symm)⟩
      · right
        refine ⟨⟨kk, ?_⟩, z2, z3⟩
        by_cases hjn : j = n
        · subst hjn
          have : (m.next.put j badBl).bl[j]? = some badBl := List.getElem?_set_self (by show _ < m.bl.length; rw [h.lb]; exact hnl)
          rw [this] at z1
          simp [badBl] at z1
        · rw [← z1]; exact (List.getElem?_set_ne (fun e => hjn e.symm)).symm
theorem settle_ok {leb must : Nat} {L : List (List Nat)} {m : Mg} {c : CS} {P : List (List (List Nat))} (h : RB m.bl c P) (hleb : leb ≤ 255) (hm : must ≤ L.length) (hl : 2 + L.length ≤ c.gp) (hd : ∀ d ∈ L, d.length ≤ c.gz) (hc : c.fs.length + 1 ≤ cntS 2 m.bl) (hs : m.seq + c.fs.length + 1 < 18446744073709551616) :
    ∃ (n' : Nat) (m' : Mg) (c' : CS) (P' : List (List (List Nat))), settleM leb must L m c = ((n' : Int), 0, m', c') ∧ RB m'.bl c' P' ∧ Mv m m' c c' P P' c.gz n' leb L ∧ m'.seq + c'.fs.length ≤ m.seq + c.fs.length + 1 ∧ Gm c c' ∧ c'.fs.length ≤ c.fs.length ∧ cntS 1 m'.bl + c'.fs.length ≤ cntS 1 m.bl + c.fs.length := by
  obtain ⟨n, x, e, hn, hx⟩ := least_some (l := m.bl) (by omega)
  have := h.geo
  have hlb := h.lb
  have hr := h.room
  unfold settleM
  rw [e, if_neg (by omega), Int.toNat_natCast]
  obtain ⟨n', m', c', P', q1, q2, q3, q4, q5, q6, q7⟩ := lay_ok leb must L hleb hm (m.bl.length + 1) m c P n x h hn hx hl hd (by omega) hc (by omega)
  exact ⟨n', m', c', P', q1, q2, q3, by omega, q5, q6, q7⟩
end Go.Proofs.YtkfecngkdlajgaaGreatDoor
