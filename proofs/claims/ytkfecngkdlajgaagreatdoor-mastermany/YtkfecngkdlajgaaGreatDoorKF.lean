/-
  A block is freed; what stands in a logical block.
  A manager and its chip.
  One page more of a logical block.
  What a manager's calls do.
-/
import Derived.Test.YtkfecngkdlajgaaGreatDoorKE
namespace Go.Proofs.YtkfecngkdlajgaaGreatDoor
open Go.RowKit
set_option maxRecDepth 10000

theorem eraseM_eq {c : CS} {n : Nat} {b : Bk} (hon : c.on = true) (hb : c.bks[n]? = some b) (hbad : b.bad = false) :
    c.eraseM n = (c.told, { c.operated with bks := c.bks.set n (({ b with erases := wrap64 (b.erases + 1) } : Bk).erased c.extent) }) := by
  unfold CS.eraseM CS.badB
  rw [at_nat, hb]
  simp only [hbad]
  unfold CS.erase
  rw [if_neg (by simp), if_neg (by simp [hon]), if_neg (by omega), Int.toNat_natCast, hb]
  simp only
  rw [if_neg (by simp [hbad]), hbad]
theorem eraseM_cases {c : CS} {n : Nat} {b : Bk} (hon : c.on = true) (hb : c.bks[n]? = some b) (hbad : b.bad = false) (hf : ∀ f ∈ c.fs, f.kind = 2) :
    (∃ c', c.eraseM n = (0, c') ∧ Upd n c c' { b with erases := wrap64 (b.erases + 1), pgs := List.replicate b.pgs.length ⟨0, []⟩, next := 0 } c.fs) ∨
    (∃ c' f r, c.fs = f :: r ∧ c.eraseM n = (5, c') ∧ Upd n c c' { b with erases := wrap64 (b.erases + 1), pgs := List.replicate b.pgs.length ⟨2, []⟩, next := b.pgs.length } r) := by
  rw [eraseM_eq hon hb hbad]
  rcases told_cases hf with ⟨h1, h2, h3⟩ | ⟨h1, h2, f, r, h3, h4⟩
  · left
    rw [h1, h2, h3]
    refine ⟨_, rfl, wrap64 (c.steps + 1), wrap64 (c.ops + 1), ?_⟩
    simp [Bk.erased]
  · right
    rw [h1, h2, h4]
    refine ⟨_, f, r, h3, rfl, wrap64 (c.steps + 1), wrap64 (c.ops + 1), ?_⟩
    simp [Bk.erased]
theorem bok_live {gz : Nat} {b : Bk} {x : Bl} {P : List (List Nat)} (h : BOk gz b x P) (hx : x.st ≠ 1) : ∃ k : Nat, x.cnt = k ∧ k ≤ 2147483647 ∧ b.erases = k ∧ b.bad = false := by
  cases h with
  | bad _ => simp [badBl] at hx
  | free k h1 h2 h3 _ _ => exact ⟨k, rfl, h1, h2, h3⟩
  | spoilt k h1 h2 h3 => exact ⟨k, rfl, h1, h2, h3⟩
  | mapped k leb seq must P h1 h2 h3 => exact ⟨k, rfl, h1, h2, h3⟩
/-- A block is freed, or goes bad. -/
theorem free_ok {m : Mg} {c : CS} {P : List (List (List Nat))} {i k : Nat} {o : Bl} (h : RB m.bl c P) (hi : m.bl[i]? = some o) (ho : o.st ≠ 1) (hk : o.cnt = k) (hk2 : k < 2147483647) :
    ∃ x' c', freeM m c i k = (0, m.put i x', c') ∧ RB (m.bl.set i x') c' (P.set i []) ∧ (x' = ⟨2, (k : Int) + 1, 0, 0, 0, false⟩ ∨ x' = badBl) ∧ Gm c c' ∧ c'.fs.length ≤ c.fs.length ∧ (c.fs = [] → x' = ⟨2, (k : Int) + 1, 0, 0, 0, false⟩ ∧ c'.fs = []) ∧ (∀ j, j ≠ i → c'.bks[j]? = c.bks[j]?) := by
  have hil : i < c.gb := by rw [← h.lb]; exact (List.getElem?_eq_some_iff.1 hi).1
  obtain ⟨b, y, p, hb, hy, hp, hbk, hpl⟩ := h.at hil
  rw [hi] at hy
  cases hy
  obtain ⟨k', hk', _, he, hbad⟩ := bok_live hbk ho
  have : k' = k := by omega
  subst this
  have hw : wrap64 (b.erases + 1) = (k' : Int) + 1 := by rw [he]; unfold wrap64; omega
  have hc1 : ∀ x : Bl, x.st ≠ 1 → cntS 1 (m.bl.set i x) = cntS 1 m.bl := fun x hx => by
    have := cntS_set (st := 1) hi x
    rw [if_neg ho, if_neg hx] at this
    omega
  have hc2 : cntS 1 (m.bl.set i badBl) = cntS 1 m.bl + 1 := by
    have := cntS_set (st := 1) hi badBl
    rw [if_neg ho, if_pos (show badBl.st = 1 from rfl)] at this
    omega
  have hg := h.geo
  unfold freeM
  rcases eraseM_cases h.on hb hbad h.fs with ⟨c1, e1, u1⟩ | ⟨c1, f, r, hfr, e1, u1⟩
  · rw [e1]
    simp only [if_pos]
    have g := u1.same
    unfold CS.tellM
    rw [if_pos (by omega)]
    rcases progM_cases (p := 0) (d := Hd.imgL (Hd.countL (k' + 1)) c1.gz) (g.1.trans h.on) (u1.at hb) hbad rfl (by rw [g.2.2.1]; omega) (by rw [Hd.imgL_length]; exact Nat.le_refl _) (fun x hx => h.fs x (by rw [g.2.2.2.2.2.1] at hx; exact hx)) with ⟨c2, e2, u2⟩ | ⟨c2, f, r, hfr, e2, u2⟩
    · rw [show ((0 : Nat) : Int) = 0 from rfl] at e2
      rw [e2]
      unfold endM
      simp only [if_pos]
      rw [g.2.2.2.2.2.1] at u2
      have u := u1.trans u2
      refine ⟨_, c2, rfl, h.upd hi u ?_ (by simpa using hpl) (fun _ hx => hx) (by rw [hc1 _ (by simp)]; exact h.room), .inl rfl, u.gm (fun f => ⟨f.1, hbad⟩), by rw [u.same.2.2.2.2.2.1]; exact Nat.le_refl _, fun hz => ⟨rfl, by rw [u.same.2.2.2.2.2.1]; exact hz⟩, fun j hj => u.other hj⟩
      have t : Tl c.gz { b with erases := wrap64 (b.erases + 1), pgs := (List.replicate b.pgs.length (⟨0, []⟩ : Pg)).set 0 ⟨1, Hd.imgL (Hd.countL (k' + 1)) c1.gz⟩, next := ((0 : Nat) : Int) + 1 } 0 (Hd.imgL (Hd.countL (k' + 1)) c.gz) := by
        have := tl_new (gz := c.gz) (b := { b with erases := wrap64 (b.erases + 1), pgs := (List.replicate b.pgs.length (⟨0, []⟩ : Pg)).set 0 ⟨1, Hd.imgL (Hd.countL (k' + 1)) c1.gz⟩, next := ((0 : Nat) : Int) + 1 }) (i := 0) (d := Hd.imgL (Hd.countL (k' + 1)) c1.gz) (List.getElem?_set_self (by simp; omega))
        rw [g.2.2.2.1, fillP_full (Hd.imgL_length _ _)] at this
        rw [g.2.2.2.1]
        exact this
      have := BOk.free (gz := c.gz) (b := { b with erases := wrap64 (b.erases + 1), pgs := (List.replicate b.pgs.length (⟨0, []⟩ : Pg)).set 0 ⟨1, Hd.imgL (Hd.countL (k' + 1)) c1.gz⟩, next := ((0 : Nat) : Int) + 1 }) (k' + 1) (by omega) (by show wrap64 _ = _; rw [hw]; omega) hbad t rfl
      simpa using this
    · rw [show ((0 : Nat) : Int) = 0 from rfl] at e2
      rw [e2]
      unfold endM
      simp only
      rw [if_neg (by decide), if_pos trivial]
      rw [g.2.2.2.2.2.1] at hfr
      have u := mark_upd (u1.trans u2) hb h.on
      have hr := h.room
      have hfl : c.fs.length = r.length + 1 := by rw [hfr]; simp
      exact ⟨badBl, _, rfl, h.upd hi u (.bad rfl) (by simpa using hpl) (fun x hx => by rw [hfr]; simp [hx]) (by rw [hc2]; omega), .inr rfl, u.gm (fun q => absurd q.1 (by rw [hfr]; simp)), by rw [u.same.2.2.2.2.2.1]; omega, fun hz => (by rw [hz] at hfr; cases hfr), fun j hj => u.other hj⟩
  · rw [e1]
    simp only
    rw [if_neg (by decide)]
    unfold endM
    simp only
    rw [if_neg (by decide), if_pos trivial]
    have u := mark_upd u1 hb h.on
    have hr := h.room
    have hfl : c.fs.length = r.length + 1 := by rw [hfr]; simp
    exact ⟨badBl, _, rfl, h.upd hi u (.bad rfl) (by simpa using hpl) (fun x hx => by rw [hfr]; simp [hx]) (by rw [hc2]; omega), .inr rfl, u.gm (fun q => absurd q.1 (by rw [hfr]; simp)), by rw [u.same.2.2.2.2.2.1]; omega, fun hz => (by rw [hz] at hfr; cases hfr), fun j hj => u.other hj⟩
/-- Each logical block is mapped once. -/
def Uq (l : List Bl) : Prop := ∀ (i j : Nat) x y, l[i]? = some x → l[j]? = some y → x.st = 4 → y.st = 4 → x.leb = y.leb → i = j
theorem sel_mem {st : Int} : ∀ (l : List Bl) (k i : Nat) (x : Bl), l[i]? = some x → x.st = st → (k + i, x) ∈ sel st k l
  | [], _, _, _, h, _ => by simp at h
  | y :: l, k, 0, x, h, hs => by
    simp at h
    subst h
    unfold sel
    rw [if_pos hs]
    simp
  | y :: l, k, i + 1, x, h, hs => by
    have := sel_mem l (k + 1) i x (by simpa using h) hs
    rw [show k + 1 + i = k + (i + 1) by omega] at this
    unfold sel
    split
    · exact List.mem_cons_of_mem _ this
    · exact this
theorem firstL_neg {leb : Int} : ∀ {p : List (Nat × Bl)}, firstL leb p < 0 → ∀ x ∈ p, x.2.leb ≠ leb
  | [], _, x, hx => by simp at hx
  | y :: p, h, x, hx => by
    unfold firstL at h
    split at h
    · omega
    · rename_i hne
      rcases List.mem_cons.1 hx with rfl | hx
      · exact hne
      · exact firstL_neg h x hx
theorem find_none {l : List Bl} {leb : Int} (h : findI l leb < 0) (i : Nat) (x : Bl) (hx : l[i]? = some x) (hs : x.st = 4) : x.leb ≠ leb :=
  firstL_neg h (0 + i, x) (sel_mem l 0 i x hx hs)
theorem find_at {l : List Bl} (u : Uq l) {i : Nat} {x : Bl} (hx : l[i]? = some x) (hs : x.st = 4) : findI l x.leb = i := by
  rcases find_cases l x.leb with h | ⟨j, o, h, ho, h4, hl⟩
  · exact absurd rfl (find_none (by omega) i x hx hs)
  · rw [h, u i j x o hx ho hs h4 hl.symm]
theorem find_neg {l : List Bl} {leb : Int} (h : ∀ (i : Nat) x, l[i]? = some x → x.st = 4 → x.leb ≠ leb) : findI l leb = -1 := by
  rcases find_cases l leb with h0 | ⟨j, o, h0, ho, h4, hl⟩
  · exact h0
  · exact absurd hl (h j o ho h4)
/-- What stands in a logical block. -/
def cont (bl : List Bl) (P : List (List (List Nat))) (leb : Int) : Option (List (List Nat)) := if findI bl leb < 0 then none else P[(findI bl leb).toNat]?
theorem cont_some {bl : List Bl} {P : List (List (List Nat))} (u : Uq bl) {i : Nat} {x : Bl} {p : List (List Nat)} (hx : bl[i]? = some x) (hs : x.st = 4) (hp : P[i]? = some p) : cont bl P x.leb = some p := by
  unfold cont
  rw [find_at u hx hs, if_neg (by omega), Int.toNat_natCast, hp]
theorem cont_none {bl : List Bl} {P : List (List (List Nat))} {leb : Int} (h : ∀ (i : Nat) x, bl[i]? = some x → x.st = 4 → x.leb ≠ leb) : cont bl P leb = none := by
  unfold cont
  rw [find_neg h, if_pos (by decide)]
theorem cont_cases (bl : List Bl) (P : List (List (List Nat))) (hl : P.length = bl.length) (leb : Int) : (cont bl P leb = none ∧ findI bl leb = -1) ∨ ∃ (i : Nat) (x : Bl) (p : List (List Nat)), findI bl leb = i ∧ bl[i]? = some x ∧ x.st = 4 ∧ x.leb = leb ∧ P[i]? = some p ∧ cont bl P leb = some p := by
  rcases find_cases bl leb with h0 | ⟨j, o, h0, ho, h4, hl2⟩
  · left; exact ⟨by unfold cont; rw [h0, if_pos (by decide)], h0⟩
  · right
    have hj : j < P.length := by rw [hl]; exact (List.getElem?_eq_some_iff.1 ho).1
    refine ⟨j, o, P[j], h0, ho, h4, hl2, List.getElem?_eq_getElem hj, ?_⟩
    unfold cont
    rw [h0, if_neg (by omega), Int.toNat_natCast, List.getElem?_eq_getElem hj]
end Go.Proofs.YtkfecngkdlajgaaGreatDoor
namespace Go.Proofs.YtkfecngkdlajgaaGreatDoor
open Go.RowKit
set_option maxRecDepth 10000

/-- Each mapped block's next page is the one behind its pages (but for block X). -/
def Wh (bl : List Bl) (c : CS) (P : List (List (List Nat))) (X : Option Nat) : Prop := ∀ (i : Nat) b x p, X ≠ some i → c.bks[i]? = some b → bl[i]? = some x → P[i]? = some p → x.st = 4 → b.next = 2 + (p.length : Int)
theorem nodup_le : ∀ (N : Nat) (l : List Int), l.Nodup → (∀ x ∈ l, 0 ≤ x ∧ x < N) → l.length ≤ N
  | 0, l, _, h => by
    cases l with
    | nil => exact Nat.le_refl _
    | cons x l => have := h x (by simp); omega
  | N + 1, l, hn, h => by
    have h1 := nodup_le N (l.erase N) (hn.erase _) (fun x hx => by
      obtain ⟨hne, hm⟩ := hn.mem_erase_iff.1 hx
      have := h x hm
      omega)
    by_cases hm : (N : Int) ∈ l
    · rw [List.length_erase_of_mem hm] at h1; omega
    · rw [List.erase_of_not_mem hm] at h1; omega
theorem uq_pair {l : List Bl} (u : Uq l) : l.Pairwise (fun x y => x.st = 4 → y.st = 4 → x.leb ≠ y.leb) := by
  rw [List.pairwise_iff_getElem]
  intro i j hi hj hij h1 h2 e
  have := u i j _ _ (List.getElem?_eq_getElem hi) (List.getElem?_eq_getElem hj) h1 h2 e
  omega
theorem cnt_le {l : List Bl} {N : Nat} (u : Uq l) (h : ∀ (i : Nat) x, l[i]? = some x → x.st = 4 → 0 ≤ x.leb ∧ x.leb < N) : cntS 4 l ≤ N := by
  have h1 : cntS 4 l = ((l.filter (fun x => x.st == 4)).map Bl.leb).length := by
    unfold cntS
    rw [List.length_map, List.countP_eq_length_filter]
  rw [h1]
  refine nodup_le N _ ?_ ?_
  · unfold List.Nodup
    rw [List.pairwise_map]
    have := (uq_pair u).filter (fun x => x.st == 4)
    refine List.Pairwise.imp_of_mem ?_ this
    intro a b ha hb hab
    exact hab (by simpa using (List.mem_filter.1 ha).2) (by simpa using (List.mem_filter.1 hb).2)
  · intro x hx
    obtain ⟨y, hy, rfl⟩ := List.mem_map.1 hx
    obtain ⟨hy1, hy2⟩ := List.mem_filter.1 hy
    obtain ⟨i, hi⟩ := List.getElem?_of_mem hy1
    exact h i y hi (by simpa using hy2)
theorem bok_mapped {gz : Nat} {b : Bk} {x : Bl} {P : List (List Nat)} (h : BOk gz b x P) (hx : x.st = 4) : ∃ k leb seq must : Nat, x = ⟨4, k, leb, P.length, seq, false⟩ ∧ k ≤ 2147483647 ∧ b.erases = k ∧ b.bad = false ∧ Tl gz b 0 (Hd.imgL (Hd.countL k) gz) ∧ leb ≤ 255 ∧ seq < 18446744073709551616 ∧ must ≤ P.length ∧ Tl gz b 1 (Hd.imgL (Hd.mapL leb seq must) gz) ∧ (∀ i l, P[i]? = some l → Tl gz b (2 + i) l) ∧ (∀ l ∈ P, l.length = gz) := by
  cases h with
  | bad _ => simp [badBl] at hx
  | free => simp at hx
  | spoilt => simp at hx
  | mapped k leb seq must _ h1 h2 h3 h4 h5 h6 h7 h8 h9 h10 => exact ⟨k, leb, seq, must, rfl, h1, h2, h3, h4, h5, h6, h7, h8, h9, h10⟩
/-- A manager and its chip, with what stands in each block, behind t calls. -/
structure MRep (t : Nat) (m : Mg) (c : CS) (P : List (List (List Nat))) : Prop where
  rb : RB m.bl c P
  wh : Wh m.bl c P none
  uq : Uq m.bl
  sp : ∀ (i : Nat) x, m.bl[i]? = some x → x.st ≠ 3
  lb : ∀ (i : Nat) x, m.bl[i]? = some x → x.st = 4 → x.leb + c.gr + 2 < c.gb
  sq : ∀ (i : Nat) x, m.bl[i]? = some x → x.st = 4 → x.seq ≤ m.seq
  cb : ∀ (i : Nat) x, m.bl[i]? = some x → x.cnt ≤ t
  bud : m.seq + c.fs.length ≤ t + 64
  lost : m.lost = false
  wrong : c.wrong = 0
theorem RB.leb0 {bl : List Bl} {c : CS} {P : List (List (List Nat))} (h : RB bl c P) {i : Nat} {x : Bl} (hi : bl[i]? = some x) (hs : x.st = 4) : 0 ≤ x.leb := by
  have hil : i < c.gb := by rw [← h.lb]; exact (List.getElem?_eq_some_iff.1 hi).1
  obtain ⟨b, y, p, _, hy, _, hk, _⟩ := h.at hil
  rw [hi] at hy
  cases hy
  obtain ⟨k, leb, seq, must, rfl, _⟩ := bok_mapped hk hs
  show 0 ≤ (leb : Int)
  omega
theorem cnt_zero {st : Int} {l : List Bl} (h : ∀ (i : Nat) x, l[i]? = some x → x.st ≠ st) : cntS st l = 0 := by
  unfold cntS
  rw [List.countP_eq_zero]
  intro x hx
  obtain ⟨i, hi⟩ := List.getElem?_of_mem hx
  simpa using h i x hi
theorem free_room {bl : List Bl} {c : CS} {P : List (List (List Nat))} (h : RB bl c P) (u : Uq bl) (hsp : ∀ (i : Nat) x, bl[i]? = some x → x.st ≠ 3) (hl : ∀ (i : Nat) x, bl[i]? = some x → x.st = 4 → x.leb + c.gr + 2 < c.gb) : c.fs.length + 2 ≤ cntS 2 bl := by
  have h1 := cnt_all bl h.st
  have hg := h.geo
  have h2 := cnt_le (N := c.gb - c.gr - 2) u (fun i x hi hs => ⟨h.leb0 hi hs, by have := hl i x hi hs; omega⟩)
  have := h.room
  have := h.lb
  have := cnt_zero hsp
  omega
/-- What a page's bytes are, where it tells them. -/
theorem Tl.read {c : CS} {n i : Nat} {b : Bk} {l : List Nat} (h : Tl c.gz b i l) (hon : c.on = true) (hb : c.bks[n]? = some b) : c.read n (i : Nat) = (l, 0) := by
  obtain ⟨p, h1, h2, h3⟩ := h
  unfold CS.read
  rw [if_neg (by simp [hon]), if_neg (by omega), Int.toNat_natCast, hb]
  simp only
  rw [if_neg (by omega), Int.toNat_natCast, h1]
  simp only
  rw [h2, h3]
/-- What a manager copies of a block. -/
noncomputable def copyL (c : CS) (n : Nat) (u : Nat) : List (List Nat) := (List.range u).map (fun (i : Nat) => (c.read n (2 + (i : Int))).1)
theorem copyL_eq {c : CS} {n : Nat} {b : Bk} {P : List (List Nat)} (hon : c.on = true) (hb : c.bks[n]? = some b) (h : ∀ i l, P[i]? = some l → Tl c.gz b (2 + i) l) : copyL c n P.length = P := by
  refine List.ext_getElem? fun i => ?_
  unfold copyL
  rw [List.getElem?_map]
  by_cases hi : i < P.length
  · rw [List.getElem?_range hi, List.getElem?_eq_getElem hi]
    have := (h i _ (List.getElem?_eq_getElem hi)).read hon hb
    rw [show ((2 + i : Nat) : Int) = 2 + (i : Int) by omega] at this
    simp [this]
  · rw [List.getElem?_eq_none (by simpa using hi), List.getElem?_eq_none (by simpa using hi)]
    rfl
/-- What stands in a block that failed goes to another one. -/
noncomputable def rescueM (m : Mg) (c : CS) (n : Nat) : Int × Int × Mg × CS :=
  if (settleM ((m.bl[n]?).getD zeroB).leb.toNat ((m.bl[n]?).getD zeroB).used.toNat (copyL c n ((m.bl[n]?).getD zeroB).used.toNat) m c).2.1 = 0 then
    ((settleM ((m.bl[n]?).getD zeroB).leb.toNat ((m.bl[n]?).getD zeroB).used.toNat (copyL c n ((m.bl[n]?).getD zeroB).used.toNat) m c).1, 0, (settleM ((m.bl[n]?).getD zeroB).leb.toNat ((m.bl[n]?).getD zeroB).used.toNat (copyL c n ((m.bl[n]?).getD zeroB).used.toNat) m c).2.2.1.put n badBl, ((settleM ((m.bl[n]?).getD zeroB).leb.toNat ((m.bl[n]?).getD zeroB).used.toNat (copyL c n ((m.bl[n]?).getD zeroB).used.toNat) m c).2.2.2.mark n).2)
  else settleM ((m.bl[n]?).getD zeroB).leb.toNat ((m.bl[n]?).getD zeroB).used.toNat (copyL c n ((m.bl[n]?).getD zeroB).used.toNat) m c
/-- One page more in a block. -/
noncomputable def extM (data : List Nat) : Nat → Mg → CS → Nat → Int × Mg × CS
  | 0, m, c, _ => (5, m, c)
  | f + 1, m, c, n =>
    if (c.programM n (2 + ((m.bl[n]?).getD zeroB).used) data).1 = 0 then (0, m.put n { (m.bl[n]?).getD zeroB with used := ((m.bl[n]?).getD zeroB).used + 1 }, (c.programM n (2 + ((m.bl[n]?).getD zeroB).used) data).2)
    else if (c.programM n (2 + ((m.bl[n]?).getD zeroB).used) data).1 = 5 then
      (if (rescueM m (c.programM n (2 + ((m.bl[n]?).getD zeroB).used) data).2 n).2.1 = 0 then extM data f (rescueM m (c.programM n (2 + ((m.bl[n]?).getD zeroB).used) data).2 n).2.2.1 (rescueM m (c.programM n (2 + ((m.bl[n]?).getD zeroB).used) data).2 n).2.2.2 (rescueM m (c.programM n (2 + ((m.bl[n]?).getD zeroB).used) data).2 n).1.toNat
      else ((rescueM m (c.programM n (2 + ((m.bl[n]?).getD zeroB).used) data).2 n).2.1, (rescueM m (c.programM n (2 + ((m.bl[n]?).getD zeroB).used) data).2 n).2.2))
    else ((c.programM n (2 + ((m.bl[n]?).getD zeroB).used) data).1, m, (c.programM n (2 + ((m.bl[n]?).getD zeroB).used) data).2)
end Go.Proofs.YtkfecngkdlajgaaGreatDoor
namespace Go.Proofs.YtkfecngkdlajgaaGreatDoor
open Go.RowKit
set_option maxRecDepth 10000

/-- One logical block has other pages; the others are as they were. -/
theorem shift {bl bl' : List Bl} {P P' : List (List (List Nat))} (uq : Uq bl) (hl : P.length = bl.length) (leb : Int) (n' : Nat) (y' : Bl) (p' : List (List Nat))
    (hn : bl'[n']? = some y') (hs : y'.st = 4) (hy : y'.leb = leb) (hp : P'[n']? = some p')
    (h1 : ∀ (j : Nat) y, j ≠ n' → bl'[j]? = some y → y.st = 4 → bl[j]? = some y ∧ y.leb ≠ leb ∧ P'[j]? = P[j]?)
    (h2 : ∀ (j : Nat) y, bl[j]? = some y → y.st = 4 → y.leb ≠ leb → j ≠ n' ∧ bl'[j]? = some y) :
    Uq bl' ∧ ∀ l, cont bl' P' l = if l = leb then some p' else cont bl P l := by
  have u' : Uq bl' := by
    intro i j x y hx hy2 h4 h5 he
    by_cases hi : i = n'
    · by_cases hj : j = n'
      · rw [hi, hj]
      · obtain ⟨q1, q2, _⟩ := h1 j y hj hy2 h5
        subst hi
        rw [hn] at hx
        cases hx
        exact absurd (he.symm.trans hy) q2
    · obtain ⟨q1, q2, _⟩ := h1 i x hi hx h4
      by_cases hj : j = n'
      · subst hj
        rw [hn] at hy2
        cases hy2
        exact absurd (he.trans hy) q2
      · obtain ⟨r1, r2, _⟩ := h1 j y hj hy2 h5
        exact uq i j x y q1 r1 h4 h5 he
  refine ⟨u', fun l => ?_⟩
  split
  · rename_i h
    rw [h, ← hy]
    exact cont_some u' hn hs hp
  · rename_i h
    rcases cont_cases bl P hl l with ⟨h0, hf⟩ | ⟨i, x, p, hf, hx, h4, he, hpi, h0⟩
    · rw [h0]
      refine cont_none fun i x hx h4 he => ?_
      by_cases hi : i = n'
      · subst hi
        rw [hn] at hx
        cases hx
        exact h (he.symm.trans hy)
      · exact find_none (by omega) i x (h1 i x hi hx h4).1 h4 he
    · rw [h0]
      obtain ⟨q1, q2⟩ := h2 i x hx h4 (fun e => h (he.symm.trans e))
      have := (h1 i x q1 q2 h4).2.2
      have := cont_some (P := P') u' q2 h4 (by rw [this]; exact hpi)
      rw [he] at this
      exact this
/-- One logical block is let go. -/
theorem gone {bl bl' : List Bl} {P P' : List (List (List Nat))} (uq : Uq bl) (hl : P.length = bl.length) (leb : Int)
    (h1 : ∀ (j : Nat) y, bl'[j]? = some y → y.st = 4 → bl[j]? = some y ∧ y.leb ≠ leb ∧ P'[j]? = P[j]?)
    (h2 : ∀ (j : Nat) y, bl[j]? = some y → y.st = 4 → y.leb ≠ leb → bl'[j]? = some y) :
    Uq bl' ∧ ∀ l, cont bl' P' l = if l = leb then none else cont bl P l := by
  have u' : Uq bl' := fun i j x y hx hy2 h4 h5 he => uq i j x y (h1 i x hx h4).1 (h1 j y hy2 h5).1 h4 h5 he
  refine ⟨u', fun l => ?_⟩
  split
  · rename_i h
    exact cont_none fun i x hx h4 he => (h1 i x hx h4).2.1 (he.trans h)
  · rename_i h
    rcases cont_cases bl P hl l with ⟨h0, hf⟩ | ⟨i, x, p, hf, hx, h4, he, hpi, h0⟩
    · rw [h0]
      exact cont_none fun i x hx h4 he => find_none (by omega) i x (h1 i x hx h4).1 h4 he
    · rw [h0]
      have q2 := h2 i x hx h4 (fun e => h (he.symm.trans e))
      have := (h1 i x q2 h4).2.2
      have := cont_some (P := P') u' q2 h4 (by rw [this]; exact hpi)
      rw [he] at this
      exact this
theorem Mv.ne {m m' : Mg} {c c' : CS} {P P' : List (List (List Nat))} {gz n leb : Nat} {L : List (List Nat)} (h : Mv m m' c c' P P' gz n leb L) {j : Nat} {x : Bl} (hx : m.bl[j]? = some x) (hs : x.st ≠ 2) : j ≠ n ∧ m'.bl[j]? = some x ∧ P'[j]? = P[j]? ∧ (x.st ≠ 1 → c'.bks[j]? = c.bks[j]?) := by
  have hne : j ≠ n := by
    rintro rfl
    obtain ⟨k, s, h1, _⟩ := h.new
    rw [hx] at h1
    cases h1
    exact hs rfl
  rcases h.oth j hne with ⟨h1, h2⟩ | ⟨⟨k, h1⟩, _⟩
  · refine ⟨hne, h1.trans hx, h2, fun hs1 => ?_⟩
    rcases h.ob j hne with h3 | h3
    · exact h3
    · rw [h1, hx] at h3
      cases h3
      exact absurd rfl hs1
  · rw [hx] at h1
    cases h1
    exact absurd rfl hs
/-- A mapped block of the manager behind a draft was settled. -/
theorem Mv.back {m m' : Mg} {c c' : CS} {P P' : List (List (List Nat))} {gz n leb : Nat} {L : List (List Nat)} (h : Mv m m' c c' P P' gz n leb L) {j : Nat} {x : Bl} (hj : j ≠ n) (hx : m'.bl[j]? = some x) (hs : x.st ≠ 1) : m.bl[j]? = some x ∧ P'[j]? = P[j]? ∧ c'.bks[j]? = c.bks[j]? := by
  rcases h.oth j hj with ⟨h1, h2⟩ | ⟨_, h1, _⟩
  · refine ⟨h1.symm.trans hx, h2, ?_⟩
    rcases h.ob j hj with h3 | h3
    · exact h3
    · rw [hx] at h3
      cases h3
      exact absurd rfl hs
  · rw [hx] at h1
    cases h1
    exact absurd rfl hs
theorem MRep.len {t : Nat} {m : Mg} {c : CS} {P : List (List (List Nat))} (h : MRep t m c P) : P.length = m.bl.length := by rw [h.rb.lp, h.rb.lb]
theorem MRep.mapped {t : Nat} {m : Mg} {c : CS} {P : List (List (List Nat))} (h : MRep t m c P) {n : Nat} {x : Bl} (hx : m.bl[n]? = some x) (hs : x.st = 4) : ∃ b p, c.bks[n]? = some b ∧ P[n]? = some p ∧ BOk c.gz b x p ∧ b.pgs.length = c.gp ∧ b.next = 2 + (p.length : Int) := by
  have hnl : n < c.gb := by rw [← h.rb.lb]; exact (List.getElem?_eq_some_iff.1 hx).1
  obtain ⟨b, y, p, hb, hy, hp, hk, hpl⟩ := h.rb.at hnl
  rw [hx] at hy
  cases hy
  exact ⟨b, p, hb, hp, hk, hpl, h.wh n b x p (by simp) hb hx hp hs⟩
theorem mark_upd0 {n : Nat} {c : CS} {b : Bk} (hb : c.bks[n]? = some b) (hon : c.on = true) : Upd n c (c.mark n).2 { b with bad := true } c.fs := by
  rw [mark_eq hon hb]
  exact ⟨c.steps, c.ops, rfl⟩
theorem ext_ok (data : List Nat) : ∀ (fuel t : Nat) (m : Mg) (c : CS) (P : List (List (List Nat))) (n : Nat) (x : Bl) (p : List (List Nat)), MRep t m c P → m.bl[n]? = some x → x.st = 4 → P[n]? = some p → 2 + p.length < c.gp → data.length ≤ c.gz → c.fs.length < fuel → t < 4611686018427387904 →
    ∃ m' c' P', extM data fuel m c n = (0, m', c') ∧ MRep t m' c' P' ∧ (∀ l, cont m'.bl P' l = if l = x.leb then some (p ++ [fillP c.gz data]) else cont m.bl P l) ∧ Gm c c' ∧ (m'.p = m.p ∧ m'.bb = m.bb ∧ m'.bcap = m.bcap)
  | 0, t, m, c, P, n, x, p, h, hx, hs, hp, hl, hd, hf, ht => by omega
  | fuel + 1, t, m, c, P, n, x, p, h, hx, hs, hp, hl, hd, hf, ht => by
    obtain ⟨b, p0, hb, hp0, hk, hpl, hnx⟩ := h.mapped hx hs
    rw [hp] at hp0
    cases hp0
    obtain ⟨k, leb, seq, must, rfl, k1, k2, k3, k4, k5, k6, k7, k8, k9, k10⟩ := bok_mapped hk hs
    have hnl : n < c.gb := by rw [← h.rb.lb]; exact (List.getElem?_eq_some_iff.1 hx).1
    unfold extM
    rw [hx]
    simp only [Option.getD_some]
    have e2 : ((2 + p.length : Nat) : Int) = 2 + (p.length : Int) := by omega
    have tls : ∀ (v : Pg) (nx : Int) i l, i < 2 + p.length → Tl c.gz b i l → Tl c.gz { b with pgs := b.pgs.set (2 + p.length) v, next := nx } i l := fun v nx i l hi ⟨q, h1, h2⟩ => ⟨q, by show (b.pgs.set _ _)[i]? = _; rw [List.getElem?_set_ne (by omega)]; exact h1, h2⟩
    rcases progM_cases (p := 2 + p.length) (d := data) h.rb.on hb k3 (by rw [hnx, e2]) hl hd h.rb.fs with ⟨c1, e1, u1⟩ | ⟨c1, f, r, hfr, e1, u1⟩
    · rw [e2] at e1
      rw [e1]
      simp only [if_pos]
      have g := u1.gm (fun f => ⟨f.1, k3⟩)
      have sm := u1.same
      have hr : RB (m.bl.set n ⟨4, k, leb, (p.length : Int) + 1, seq, false⟩) c1 (P.set n (p ++ [fillP c.gz data])) := by
        refine h.rb.upd hx u1 ?_ (by simpa using hpl) (fun _ q => q) ?_
        · have := BOk.mapped (gz := c.gz) (b := { b with pgs := b.pgs.set (2 + p.length) ⟨1, data⟩, next := ((2 + p.length : Nat) : Int) + 1 }) k leb seq must (p ++ [fillP c.gz data]) k1 k2 k3 (tls _ _ _ _ (by omega) k4) k5 k6 (by simp; omega) (tls _ _ _ _ (by omega) k8) (fun i l hi => by
            by_cases hil : i < p.length
            · rw [List.getElem?_append_left hil] at hi
              exact tls _ _ _ _ (by omega) (k9 i l hi)
            · rw [List.getElem?_append_right (by omega)] at hi
              have hi0 : i = p.length := by
                rcases Nat.lt_or_ge (i - p.length) 1 with h | h
                · omega
                · rw [List.getElem?_eq_none (by simpa using h)] at hi; cases hi
              subst hi0
              simp at hi
              subst hi
              exact tl_new (List.getElem?_set_self (by omega))) (fun l hl => by
            rcases List.mem_append.1 hl with hl | hl
            · exact k10 l hl
            · simp at hl
              subst hl
              exact fillP_length hd)
          simpa using this
        · have := cntS_set (st := 1) hx (⟨4, k, leb, (p.length : Int) + 1, seq, false⟩ : Bl)
          simp at this
          rw [this]
          exact h.rb.room
      have hne : ∀ (j : Nat) y, j ≠ n → (m.bl.set n ⟨4, k, leb, (p.length : Int) + 1, seq, false⟩)[j]? = some y → m.bl[j]? = some y := fun j y hj hy => by
        rwa [List.getElem?_set_ne (fun e => hj e.symm)] at hy
      have hself : (m.bl.set n ⟨4, k, leb, (p.length : Int) + 1, seq, false⟩)[n]? = some ⟨4, k, leb, (p.length : Int) + 1, seq, false⟩ := List.getElem?_set_self (by rw [h.rb.lb]; exact hnl)
      obtain ⟨uq', hc'⟩ := shift h.uq h.len (leb : Int) n ⟨4, k, leb, (p.length : Int) + 1, seq, false⟩ (p ++ [fillP c.gz data]) hself rfl rfl (P' := P.set n (p ++ [fillP c.gz data])) (List.getElem?_set_self (by rw [h.rb.lp]; exact hnl))
        (fun j y hj hy h4 => ⟨hne j y hj hy, fun e => hj (h.uq j n y _ (hne j y hj hy) hx h4 rfl e), List.getElem?_set_ne (fun e => hj e.symm)⟩)
        (fun j y hy h4 he => by
          have hj : j ≠ n := by
            rintro rfl
            rw [hx] at hy
            cases hy
            exact he rfl
          exact ⟨hj, by rw [List.getElem?_set_ne (fun e => hj e.symm)]; exact hy⟩)
      have each : ∀ {Q : Bl → Prop}, Q ⟨4, k, leb, (p.length : Int) + 1, seq, false⟩ → (∀ (i : Nat) y, m.bl[i]? = some y → Q y) → ∀ (i : Nat) y, (m.bl.set n ⟨4, k, leb, (p.length : Int) + 1, seq, false⟩)[i]? = some y → Q y := fun q1 q2 i y hy => by
        by_cases hj : i = n
        · subst hj
          rw [hself] at hy
          cases hy
          exact q1
        · exact q2 i y (hne i y hj hy)
      refine ⟨_, c1, P.set n (p ++ [fillP c.gz data]), rfl, ⟨hr, ?_, uq', ?_, ?_, ?_, ?_, ?_, h.lost, by rw [g.wrong]; exact h.wrong⟩, hc', g, ⟨rfl, rfl, rfl⟩⟩
      · intro i b' y q _ hb' hy hq h4
        by_cases hj : i = n
        · subst hj
          rw [u1.at hb] at hb'
          rw [List.getElem?_set_self (by rw [h.rb.lp]; exact hnl)] at hq
          cases hb'
          cases hq
          simp
          omega
        · rw [u1.other hj] at hb'
          rw [List.getElem?_set_ne (fun e => hj e.symm)] at hq
          exact h.wh i b' y q (by simp) hb' (hne i y hj hy) hq h4
      · exact each (Q := fun y => y.st ≠ 3) (by show (4 : Int) ≠ 3; decide) h.sp
      · rw [g.gr, g.gb]
        exact each (Q := fun y => y.st = 4 → y.leb + c.gr + 2 < c.gb) (fun _ => by have := h.lb n _ hx rfl; exact this) h.lb
      · exact each (Q := fun y => y.st = 4 → y.seq ≤ m.seq) (fun _ => by have := h.sq n _ hx rfl; exact this) h.sq
      · exact each (Q := fun y => y.cnt ≤ t) (by have := h.cb n _ hx; exact this) h.cb
      · rw [sm.2.2.2.2.2.1]; exact h.bud
    · rw [e2] at e1
      rw [e1]
      simp only
      rw [if_neg (by decide), if_pos trivial]
      have g := u1.gm (fun q => absurd q.1 (by rw [hfr]; simp))
      have sm := u1.same
      have hfl : c.fs.length = r.length + 1 := by rw [hfr]; simp
      have hr1 : RB m.bl c1 P := by
        have hroom := h.rb.room
        have e3 : m.bl.set n ⟨4, k, leb, p.length, seq, false⟩ = m.bl := set_self hx
        have e4 : P.set n p = P := set_self hp
        have := h.rb.upd (x := ⟨4, k, leb, p.length, seq, false⟩) (p := p) hx u1 (BOk.mapped k leb seq must p k1 k2 k3 (tls _ _ _ _ (by omega) k4) k5 k6 k7 (tls _ _ _ _ (by omega) k8) (fun i l hi => tls _ _ _ _ (by have := (List.getElem?_eq_some_iff.1 hi).1; omega) (k9 i l hi)) k10) (by simpa using hpl) (fun f hx => by rw [hfr]; simp [hx]) (by rw [e3]; omega)
        rwa [e3, e4] at this
      have hcp : copyL c1 n p.length = p := copyL_eq hr1.on (u1.at hb) (fun i l hi => by rw [g.gz]; exact tls _ _ _ _ (by have := (List.getElem?_eq_some_iff.1 hi).1; omega) (k9 i l hi))
      have hb0 := h.bud
      obtain ⟨n', m2, c2, P2, s1, s2, s3, s4, s5, s6, s7⟩ := settle_ok (leb := leb) (must := p.length) (L := p) (m := m) hr1 k5 (Nat.le_refl _) (by rw [g.gp]; omega) (fun d hd => by rw [k10 d hd, g.gz]; exact Nat.le_refl _) (by
        have := free_room hr1 h.uq h.sp (fun i x hi h4 => by rw [g.gr, g.gb]; exact h.lb i x hi h4)
        omega) (by rw [sm.2.2.2.2.2.1]; omega)
      obtain ⟨hne, a1, a2, a3⟩ := s3.ne hx (by show (4 : Int) ≠ 2; decide)
      have a3' := (a3 (by show (4 : Int) ≠ 1; decide)).trans (u1.at hb)
      have u3 := mark_upd0 a3' s2.on
      have g3 := u3.gm0
      have hrs : rescueM m c1 n = ((n' : Int), 0, m2.put n badBl, (c2.mark n).2) := by
        unfold rescueM
        rw [hx]
        simp only [Option.getD_some, Int.toNat_natCast]
        rw [hcp, s1]
        simp only [if_pos]
      rw [hrs]
      simp only [if_pos, Int.toNat_natCast]
      have hc1 := cntS_set (st := 1) a1 badBl
      simp [badBl] at hc1
      have hr3 : RB (m2.bl.set n badBl) (c2.mark n).2 (P2.set n []) := s2.upd a1 u3 (.bad rfl) (by show (b.pgs.set _ _).length = _; rw [s5.gp, g.gp]; simpa using hpl) (fun _ q => q) (by
        have hroom := h.rb.room
        rw [sm.2.2.2.2.2.1] at s7
        rw [s5.gr, g.gr]
        simp [badBl]
        omega)
      have hnl2 : n < m2.bl.length := (List.getElem?_eq_some_iff.1 a1).1
      have hself : (m2.bl.set n badBl)[n]? = some badBl := List.getElem?_set_self hnl2
      have hoth : ∀ (j : Nat) y, (m2.bl.set n badBl)[j]? = some y → y.st ≠ 1 → j ≠ n ∧ m2.bl[j]? = some y := fun j y hy h1 => by
        by_cases hj : j = n
        · subst hj
          rw [hself] at hy
          cases hy
          exact absurd rfl h1
        · exact ⟨hj, by rwa [List.getElem?_set_ne (fun e => hj e.symm)] at hy⟩
      obtain ⟨kk, ss, z1, z2, z3, z4⟩ := s3.new
      have hn3 : (m2.bl.set n badBl)[n']? = some ⟨4, kk, leb, p.length, ss, false⟩ := by
        rw [List.getElem?_set_ne hne]; exact z2
      have hfp : p.map (fillP c.gz) = p := by
        have : ∀ l ∈ p, fillP c.gz l = id l := fun l hl => fillP_full (k10 l hl)
        rw [List.map_congr_left this, List.map_id]
      have hpn : (P2.set n [])[n']? = some p := by
        rw [List.getElem?_set_ne hne, s3.pg, g.gz, hfp]
      obtain ⟨uq3, hc3⟩ := shift (P := P) (P' := P2.set n []) h.uq h.len (leb : Int) n' ⟨4, kk, leb, p.length, ss, false⟩ p hn3 rfl rfl hpn
        (fun j y hj hy h4 => by
          obtain ⟨q1, q2⟩ := hoth j y hy (by rw [h4]; decide)
          obtain ⟨r1, r2, _⟩ := s3.back hj q2 (by rw [h4]; decide)
          refine ⟨r1, fun e => q1 (h.uq j n y _ r1 hx h4 rfl e), ?_⟩
          rw [List.getElem?_set_ne (fun e => q1 e.symm)]; exact r2)
        (fun j y hy h4 he => by
          obtain ⟨q1, q2, _⟩ := s3.ne hy (by rw [h4]; decide)
          have hj : j ≠ n := by
            rintro rfl
            rw [hx] at hy
            cases hy
            exact he rfl
          exact ⟨q1, by rw [List.getElem?_set_ne (fun e => hj e.symm)]; exact q2⟩)
      have hr3' : MRep t (m2.put n badBl) (c2.mark n).2 (P2.set n []) := by
        refine ⟨hr3, ?_, uq3, ?_, ?_, ?_, ?_, ?_, s3.st.2.2.2.trans h.lost, by rw [g3.wrong, s5.wrong, g.wrong]; exact h.wrong⟩
        · intro i b' y q _ hb' hy hq h4
          obtain ⟨q1, q2⟩ := hoth i y hy (by rw [h4]; decide)
          rw [u3.other q1] at hb'
          rw [List.getElem?_set_ne (fun e => q1 e.symm)] at hq
          by_cases hi : i = n'
          · subst hi
            obtain ⟨bb, w1, w2⟩ := s3.bk
            rw [w1] at hb'
            rw [s3.pg] at hq
            cases hb'
            cases hq
            rw [w2, List.length_map]
          · obtain ⟨r1, r2, r3⟩ := s3.back hi q2 (by rw [h4]; decide)
            rw [r3, u1.other q1] at hb'
            rw [r2] at hq
            exact h.wh i b' y q (by simp) hb' r1 hq h4
        · intro i y hy h3
          obtain ⟨q1, q2⟩ := hoth i y hy (by rw [h3]; decide)
          by_cases hi : i = n'
          · subst hi
            rw [z2] at q2
            cases q2
            exact absurd h3 (by show (4 : Int) ≠ 3; decide)
          · exact h.sp i y (s3.back hi q2 (by rw [h3]; decide)).1 h3
        · intro i y hy h4
          rw [g3.gr, g3.gb, s5.gr, s5.gb, g.gr, g.gb]
          obtain ⟨q1, q2⟩ := hoth i y hy (by rw [h4]; decide)
          by_cases hi : i = n'
          · subst hi
            rw [z2] at q2
            cases q2
            have := h.lb n _ hx rfl
            exact this
          · exact h.lb i y (s3.back hi q2 (by rw [h4]; decide)).1 h4
        · intro i y hy h4
          obtain ⟨q1, q2⟩ := hoth i y hy (by rw [h4]; decide)
          show y.seq ≤ (m2.seq : Int)
          by_cases hi : i = n'
          · subst hi
            rw [z2] at q2
            cases q2
            show (ss : Int) ≤ _
            omega
          · have := h.sq i y (s3.back hi q2 (by rw [h4]; decide)).1 h4
            omega
        · intro i y hy
          by_cases h1 : y.st = 1
          · have hil : i < (c2.mark n).2.gb := by rw [← hr3.lb]; exact (List.getElem?_eq_some_iff.1 hy).1
            obtain ⟨b', y', q, _, hy', _, hk', _⟩ := hr3.at hil
            have : y' = y := Option.some.inj (hy'.symm.trans hy)
            subst this
            cases hk' with
            | bad _ => show (0 : Int) ≤ _; omega
            | free => simp at h1
            | spoilt => simp at h1
            | mapped => simp at h1
          · obtain ⟨q1, q2⟩ := hoth i y hy h1
            by_cases hi : i = n'
            · subst hi
              rw [z2] at q2
              cases q2
              have := h.cb _ _ z1
              exact this
            · exact h.cb i y (s3.back hi q2 h1).1
        · rw [u3.same.2.2.2.2.2.1]
          show m2.seq + _ ≤ _
          rw [sm.2.2.2.2.2.1] at s4
          omega
      obtain ⟨m', c', P', q1, q2, q3, q4, q5⟩ := ext_ok data fuel t (m2.put n badBl) (c2.mark n).2 (P2.set n []) n' _ p hr3' hn3 rfl hpn (by rw [g3.gp, s5.gp, g.gp]; exact hl) (by rw [g3.gz, s5.gz, g.gz]; exact hd) (by rw [u3.same.2.2.2.2.2.1]; rw [sm.2.2.2.2.2.1] at s6; omega) ht
      refine ⟨m', c', P', q1, q2, fun l => ?_, ⟨g.toGm0.trans (s5.toGm0.trans (g3.trans q4.toGm0)), fun q => absurd q.1 (by rw [hfr]; simp)⟩, ⟨q5.1.trans s3.st.1, q5.2.1.trans s3.st.2.1, q5.2.2.trans s3.st.2.2.1⟩⟩
      rw [q3 l]
      show (if l = (leb : Int) then _ else _) = (if l = (leb : Int) then _ else _)
      rw [g3.gz, s5.gz, g.gz]
      split
      · rfl
      · rename_i hl
        have := hc3 l
        rw [if_neg hl] at this
        exact this
end Go.Proofs.YtkfecngkdlajgaaGreatDoor
namespace Go.Proofs.YtkfecngkdlajgaaGreatDoor
open Go.RowKit
set_option maxRecDepth 10000

theorem MRep.mono {t t' : Nat} {m : Mg} {c : CS} {P : List (List (List Nat))} (h : MRep t m c P) (ht : t ≤ t') : MRep t' m c P :=
  ⟨h.rb, h.wh, h.uq, h.sp, h.lb, h.sq, fun i x hx => by have := h.cb i x hx; omega, by have := h.bud; omega, h.lost, h.wrong⟩
/-- One page more of a logical block. -/
noncomputable def extendM (m : Mg) (c : CS) (leb : Int) (data : List Nat) : Int × Mg × CS :=
  if findI m.bl leb < 0 then (settleM leb.toNat 0 [data] m c).2
  else if (homeB m.bl leb).closed = true ∨ (homeB m.bl leb).used = (c.gp : Int) - 2 then (28, m, c)
  else extM data (m.bl.length + 1) m c (findI m.bl leb).toNat
/-- What settling a draft of a logical block that stands nowhere makes. -/
theorem settle_rep {t : Nat} {m : Mg} {c : CS} {P : List (List (List Nat))} {leb must : Nat} {L : List (List Nat)} (h : MRep t m c P) (hleb : (leb : Int) + c.gr + 2 < c.gb) (hfind : findI m.bl leb < 0) (hm : must ≤ L.length) (hl : 2 + L.length ≤ c.gp) (hd : ∀ d ∈ L, d.length ≤ c.gz) (ht : t < 4611686018427387904) :
    ∃ n' m' c' P', settleM leb must L m c = (n', 0, m', c') ∧ MRep (t + 1) m' c' P' ∧ (∀ l, cont m'.bl P' l = if l = (leb : Int) then some (L.map (fillP c.gz)) else cont m.bl P l) ∧ Gm c c' ∧ (m'.p = m.p ∧ m'.bb = m.bb ∧ m'.bcap = m.bcap) := by
  have hg := h.rb.geo
  have hb0 := h.bud
  obtain ⟨n', m', c', P', s1, s2, s3, s4, s5, s6, s7⟩ := settle_ok (leb := leb) (must := must) (L := L) (m := m) h.rb (by omega) hm hl hd (by have := free_room h.rb h.uq h.sp h.lb; omega) (by omega)
  obtain ⟨k, s, z1, z2, z3, z4⟩ := s3.new
  obtain ⟨uq', hc'⟩ := shift (P := P) (P' := P') h.uq h.len (leb : Int) n' ⟨4, k, leb, L.length, s, false⟩ (L.map (fillP c.gz)) z2 rfl rfl s3.pg
    (fun j y hj hy h4 => by
      obtain ⟨r1, r2, _⟩ := s3.back hj hy (by rw [h4]; decide)
      exact ⟨r1, find_none hfind j y r1 h4, r2⟩)
    (fun j y hy h4 he => by
      obtain ⟨q1, q2, _⟩ := s3.ne hy (by rw [h4]; decide)
      exact ⟨q1, q2⟩)
  refine ⟨n', m', c', P', s1, ⟨s2, ?_, uq', ?_, ?_, ?_, ?_, by omega, s3.st.2.2.2.trans h.lost, by rw [s5.wrong]; exact h.wrong⟩, hc', s5, ⟨s3.st.1, s3.st.2.1, s3.st.2.2.1⟩⟩
  · intro i b y q _ hb hy hq h4
    by_cases hi : i = n'
    · subst hi
      obtain ⟨bb, w1, w2⟩ := s3.bk
      rw [w1] at hb
      rw [s3.pg] at hq
      cases hb
      cases hq
      rw [w2, List.length_map]
    · obtain ⟨r1, r2, r3⟩ := s3.back hi hy (by rw [h4]; decide)
      rw [r3] at hb
      rw [r2] at hq
      exact h.wh i b y q (by simp) hb r1 hq h4
  · intro i y hy h3
    by_cases hi : i = n'
    · subst hi
      rw [z2] at hy
      cases hy
      exact absurd h3 (by show (4 : Int) ≠ 3; decide)
    · exact h.sp i y (s3.back hi hy (by rw [h3]; decide)).1 h3
  · intro i y hy h4
    rw [s5.gr, s5.gb]
    by_cases hi : i = n'
    · subst hi
      rw [z2] at hy
      cases hy
      exact hleb
    · exact h.lb i y (s3.back hi hy (by rw [h4]; decide)).1 h4
  · intro i y hy h4
    by_cases hi : i = n'
    · subst hi
      rw [z2] at hy
      cases hy
      show (s : Int) ≤ _
      omega
    · have := h.sq i y (s3.back hi hy (by rw [h4]; decide)).1 h4
      omega
  · intro i y hy
    by_cases hi : i = n'
    · subst hi
      rw [z2] at hy
      cases hy
      have := h.cb _ _ z1
      show (k : Int) ≤ _
      have e : (⟨2, (k : Int), 0, 0, 0, false⟩ : Bl).cnt = k := rfl
      omega
    · rcases s3.oth i hi with ⟨q1, _⟩ | ⟨_, q1, _⟩
      · have := h.cb i y (q1.symm.trans hy)
        omega
      · rw [hy] at q1
        cases q1
        show (0 : Int) ≤ _
        omega
theorem find_home {t : Nat} {m : Mg} {c : CS} {P : List (List (List Nat))} (h : MRep t m c P) (leb : Int) : (findI m.bl leb = -1 ∧ cont m.bl P leb = none ∧ homeB m.bl leb = zeroB) ∨ ∃ (i : Nat) (x : Bl) (p : List (List Nat)), findI m.bl leb = i ∧ m.bl[i]? = some x ∧ x.st = 4 ∧ x.leb = leb ∧ P[i]? = some p ∧ cont m.bl P leb = some p ∧ homeB m.bl leb = x ∧ x.used = p.length ∧ x.closed = false := by
  rcases cont_cases m.bl P h.len leb with ⟨h0, hf⟩ | ⟨i, x, p, hf, hx, h4, he, hpi, h0⟩
  · exact .inl ⟨hf, h0, homeB_none hf⟩
  · obtain ⟨b, p', hb, hp', hk, _⟩ := h.mapped hx h4
    rw [hpi] at hp'
    cases hp'
    obtain ⟨k, l, s, mu, e, _⟩ := bok_mapped hk h4
    exact .inr ⟨i, x, p, hf, hx, h4, he, hpi, h0, homeB_some hf hx, by rw [e], by rw [e]⟩
theorem extend_ok {t : Nat} {m : Mg} {c : CS} {P : List (List (List Nat))} {leb : Int} {data : List Nat} (h : MRep t m c P) (h0 : 0 ≤ leb) (hleb : leb + c.gr + 2 < c.gb) (hd : data.length ≤ c.gz) (hl : 2 + ((cont m.bl P leb).getD []).length < c.gp) (ht : t < 4611686018427387904) :
    ∃ m' c' P', extendM m c leb data = (0, m', c') ∧ MRep (t + 1) m' c' P' ∧ (∀ l, cont m'.bl P' l = if l = leb then some ((cont m.bl P leb).getD [] ++ [fillP c.gz data]) else cont m.bl P l) ∧ Gm c c' ∧ (m'.p = m.p ∧ m'.bb = m.bb ∧ m'.bcap = m.bcap) := by
  unfold extendM
  rcases find_home h leb with ⟨hf, hc, _⟩ | ⟨i, x, p, hf, hx, h4, he, hpi, hc, hh, hu, hcl⟩
  · rw [if_pos (by omega), hc]
    obtain ⟨l, rfl⟩ : ∃ l : Nat, leb = l := ⟨leb.toNat, by omega⟩
    rw [Int.toNat_natCast]
    have hg := h.rb.geo
    obtain ⟨n', m', c', P', q1, q2, q3, q4, q5⟩ := settle_rep (must := 0) (L := [data]) h hleb (by omega) (by simp) (by simp; omega) (by simpa using hd) ht
    rw [q1]
    exact ⟨m', c', P', rfl, q2, q3, q4, q5⟩
  · rw [hc] at hl ⊢
    simp only [Option.getD_some] at hl ⊢
    rw [if_neg (by omega), if_neg (by rw [hh, hu, hcl]; simp; omega), hf, Int.toNat_natCast]
    have hg := h.rb.geo
    have hr := h.rb.room
    have hlb := h.rb.lb
    obtain ⟨m', c', P', q1, q2, q3, q4, q5⟩ := ext_ok data (m.bl.length + 1) t m c P i x p h hx h4 hpi hl hd (by omega) ht
    rw [he] at q3
    exact ⟨m', c', P', q1, q2.mono (by omega), q3, q4, q5⟩
/-- A block that is not needed any more. -/
noncomputable def dropM (m : Mg) (c : CS) (n : Int) : Int × Mg × CS := if n < 0 then (0, m, c) else freeM m c n.toNat ((m.bl[n.toNat]?).getD zeroB).cnt.toNat
/-- A draft of a logical block was settled, and the block in which it stood is freed. -/
theorem swap_rep {t : Nat} {m m2 : Mg} {c c2 : CS} {P P2 : List (List (List Nat))} {i n' leb : Nat} {x : Bl} {L : List (List Nat)} (h : MRep t m c P) (hx : m.bl[i]? = some x) (h4 : x.st = 4) (he : x.leb = leb) (s2 : RB m2.bl c2 P2) (s3 : Mv m m2 c c2 P P2 c.gz n' leb L) (s4 : m2.seq + c2.fs.length ≤ m.seq + c.fs.length + 1) (s5 : Gm c c2) (ht : t < 2147483647) :
    ∃ m' c' P', freeM m2 c2 i x.cnt.toNat = (0, m', c') ∧ MRep (t + 1) m' c' P' ∧ (∀ l, cont m'.bl P' l = if l = (leb : Int) then some (L.map (fillP c.gz)) else cont m.bl P l) ∧ Gm c c' ∧ (m'.p = m.p ∧ m'.bb = m.bb ∧ m'.bcap = m.bcap) ∧ m2.bl[i]? = some x := by
  obtain ⟨hne, a1, a2, a3⟩ := s3.ne hx (by rw [h4]; decide)
  obtain ⟨b, p', hb, hp', hk, hpl, hnx⟩ := h.mapped hx h4
  obtain ⟨k, hk1, hk2, _⟩ := bok_live hk (by rw [h4]; decide)
  have hcb := h.cb i x hx
  rw [hk1, Int.toNat_natCast]
  obtain ⟨x', c', f1, f2, f3, f4, f5, _, f7⟩ := free_ok s2 a1 (by rw [h4]; decide) hk1 (by omega)
  rw [f1]
  have hil : i < m2.bl.length := (List.getElem?_eq_some_iff.1 a1).1
  have hself : (m2.bl.set i x')[i]? = some x' := List.getElem?_set_self hil
  have hx4 : x'.st ≠ 4 ∧ x'.st ≠ 3 ∧ x'.cnt ≤ (t : Int) + 1 := by
    rcases f3 with rfl | rfl
    · refine ⟨by show (2 : Int) ≠ 4; decide, by show (2 : Int) ≠ 3; decide, ?_⟩
      show (k : Int) + 1 ≤ _
      omega
    · exact ⟨by decide, by decide, by show (0 : Int) ≤ _; omega⟩
  have hoth : ∀ (j : Nat) y, (m2.bl.set i x')[j]? = some y → (y.st = 4 ∨ y.st = 3) → j ≠ i ∧ m2.bl[j]? = some y := fun j y hy h1 => by
    by_cases hj : j = i
    · subst hj
      rw [hself] at hy
      cases hy
      rcases h1 with h1 | h1
      · exact absurd h1 hx4.1
      · exact absurd h1 hx4.2.1
    · exact ⟨hj, by rwa [List.getElem?_set_ne (fun e => hj e.symm)] at hy⟩
  obtain ⟨kk, s, z1, z2, z3, z4⟩ := s3.new
  have hn3 : (m2.bl.set i x')[n']? = some ⟨4, kk, leb, L.length, s, false⟩ := by rw [List.getElem?_set_ne hne]; exact z2
  have hpn : (P2.set i [])[n']? = some (L.map (fillP c.gz)) := by rw [List.getElem?_set_ne hne]; exact s3.pg
  obtain ⟨uq', hc'⟩ := shift (P := P) (P' := P2.set i []) h.uq h.len (leb : Int) n' ⟨4, kk, leb, L.length, s, false⟩ (L.map (fillP c.gz)) hn3 rfl rfl hpn
    (fun j y hj hy h5 => by
      obtain ⟨q1, q2⟩ := hoth j y hy (.inl h5)
      obtain ⟨r1, r2, _⟩ := s3.back hj q2 (by rw [h5]; decide)
      refine ⟨r1, fun e => q1 (h.uq j i y x r1 hx h5 h4 (e.trans he.symm)), ?_⟩
      rw [List.getElem?_set_ne (fun e => q1 e.symm)]; exact r2)
    (fun j y hy h5 hn => by
      obtain ⟨q1, q2, _⟩ := s3.ne hy (by rw [h5]; decide)
      have hj : j ≠ i := by
        rintro rfl
        rw [hx] at hy
        cases hy
        exact hn he
      exact ⟨q1, by rw [List.getElem?_set_ne (fun e => hj e.symm)]; exact q2⟩)
  refine ⟨m2.put i x', c', P2.set i [], rfl, ⟨f2, ?_, uq', ?_, ?_, ?_, ?_, ?_, s3.st.2.2.2.trans h.lost, by rw [f4.wrong, s5.wrong]; exact h.wrong⟩, hc', s5.trans f4, ⟨s3.st.1, s3.st.2.1, s3.st.2.2.1⟩, a1⟩
  · intro j b' y q _ hb' hy hq h5
    obtain ⟨q1, q2⟩ := hoth j y hy (.inl h5)
    rw [List.getElem?_set_ne (fun e => q1 e.symm)] at hq
    rw [f7 j q1] at hb'
    by_cases hj : j = n'
    · subst hj
      obtain ⟨bb, w1, w2⟩ := s3.bk
      rw [w1] at hb'
      rw [s3.pg] at hq
      cases hb'
      cases hq
      rw [w2, List.length_map]
    · obtain ⟨r1, r2, r3⟩ := s3.back hj q2 (by rw [h5]; decide)
      rw [r3] at hb'
      rw [r2] at hq
      exact h.wh j b' y q (by simp) hb' r1 hq h5
  · intro j y hy h3
    obtain ⟨q1, q2⟩ := hoth j y hy (.inr h3)
    by_cases hj : j = n'
    · subst hj
      rw [z2] at q2
      cases q2
      exact absurd h3 (by show (4 : Int) ≠ 3; decide)
    · exact h.sp j y (s3.back hj q2 (by rw [h3]; decide)).1 h3
  · intro j y hy h5
    rw [f4.gr, f4.gb, s5.gr, s5.gb]
    obtain ⟨q1, q2⟩ := hoth j y hy (.inl h5)
    by_cases hj : j = n'
    · subst hj
      rw [z2] at q2
      cases q2
      have := h.lb i x hx h4
      rw [he] at this
      exact this
    · exact h.lb j y (s3.back hj q2 (by rw [h5]; decide)).1 h5
  · intro j y hy h5
    obtain ⟨q1, q2⟩ := hoth j y hy (.inl h5)
    show y.seq ≤ (m2.seq : Int)
    by_cases hj : j = n'
    · subst hj
      rw [z2] at q2
      cases q2
      show (s : Int) ≤ _
      omega
    · have := h.sq j y (s3.back hj q2 (by rw [h5]; decide)).1 h5
      omega
  · intro j y hy
    by_cases hj : j = i
    · subst hj
      have hy : (m2.bl.set j x')[j]? = some y := hy
      rw [hself] at hy
      cases hy
      have := hx4.2.2
      omega
    · have hy : (m2.bl.set i x')[j]? = some y := hy
      rw [List.getElem?_set_ne (fun e => hj e.symm)] at hy
      by_cases hj2 : j = n'
      · subst hj2
        rw [z2] at hy
        cases hy
        have := h.cb _ _ z1
        show (kk : Int) ≤ _
        have e : (⟨2, (kk : Int), 0, 0, 0, false⟩ : Bl).cnt = kk := rfl
        omega
      · rcases s3.oth j hj2 with ⟨q1, _⟩ | ⟨_, q1, _⟩
        · have := h.cb j y (q1.symm.trans hy)
          omega
        · rw [hy] at q1
          cases q1
          show (0 : Int) ≤ _
          omega
  · have := h.bud
    show m2.seq + _ ≤ _
    omega
/-- A logical block has just these pages. -/
noncomputable def replaceM (m : Mg) (c : CS) (leb : Nat) (L : List (List Nat)) : Int × Mg × CS :=
  if (settleM leb L.length L m c).2.1 = 0 then dropM (settleM leb L.length L m c).2.2.1 (settleM leb L.length L m c).2.2.2 (findI m.bl leb) else (settleM leb L.length L m c).2
theorem replace_ok {t : Nat} {m : Mg} {c : CS} {P : List (List (List Nat))} {leb : Nat} {L : List (List Nat)} (h : MRep t m c P) (hleb : (leb : Int) + c.gr + 2 < c.gb) (hl : 2 + L.length ≤ c.gp) (hd : ∀ d ∈ L, d.length ≤ c.gz) (ht : t < 2147483647) :
    ∃ m' c' P', replaceM m c leb L = (0, m', c') ∧ MRep (t + 1) m' c' P' ∧ (∀ l, cont m'.bl P' l = if l = (leb : Int) then some (L.map (fillP c.gz)) else cont m.bl P l) ∧ Gm c c' ∧ (m'.p = m.p ∧ m'.bb = m.bb ∧ m'.bcap = m.bcap) := by
  unfold replaceM
  rcases find_home h leb with ⟨hf, hc, _⟩ | ⟨i, x, p, hf, hx, h4, he, hpi, hc, hh, hu, hcl⟩
  · obtain ⟨n', m', c', P', q1, q2, q3, q4, q5⟩ := settle_rep (must := L.length) (L := L) h hleb (by omega) (Nat.le_refl _) hl hd (by omega)
    rw [q1]
    simp only [if_pos]
    unfold dropM
    rw [if_pos (by omega)]
    exact ⟨m', c', P', rfl, q2, q3, q4, q5⟩
  · have hg := h.rb.geo
    have hb0 := h.bud
    obtain ⟨n', m2, c2, P2, s1, s2, s3, s4, s5, s6, s7⟩ := settle_ok (leb := leb) (must := L.length) (L := L) (m := m) h.rb (by omega) (Nat.le_refl _) hl hd (by have := free_room h.rb h.uq h.sp h.lb; omega) (by omega)
    rw [s1]
    simp only [if_pos]
    unfold dropM
    rw [if_neg (by omega), hf, Int.toNat_natCast]
    obtain ⟨m', c', P', q1, q2, q3, q4, q5, q6⟩ := swap_rep h hx h4 he s2 s3 s4 s5 ht
    rw [q6]
    exact ⟨m', c', P', q1, q2, q3, q4, q5⟩
end Go.Proofs.YtkfecngkdlajgaaGreatDoor
