/-
  The chip lies in memory: what is known of it, and what stays.
-/
import Derived.Test.YtiejkbncpbhcdaaCOp
import Derived.Test.YtiejkbncpbhcdaaCPg
import Derived.Test.YtiejkbncpbhcdaaCRead
namespace Go.Proofs.Ytiejkbncpbhcdaa
open Go.RowKit

/-- A fault that a plan may have. -/
def Flt.ok (f : Flt) : Prop := 1 ≤ f.num ∧ (f.kind = 1 ∧ (f.torn = 0 ∨ f.torn = 1 ∨ f.torn = 2) ∨ f.kind = 2 ∧ f.torn = 0)
/-- What holds of a chip, wherever it lies. -/
structure Good (c : CS) : Prop where
  len : c.bks.length = c.gb
  plen : ∀ b ∈ c.bks, b.pgs.length = c.gp ∧ c.gp ≤ b.cap ∧ b.cap ≤ maxLen ∧ 0 ≤ b.next ∧ b.next ≤ c.gp
  qc : c.gb ≤ c.qcap ∧ c.qcap ≤ maxLen
  gs : 1 ≤ c.gb ∧ c.gb ≤ 256 ∧ 1 ≤ c.gp ∧ c.gp ≤ 64 ∧ 1 ≤ c.gz ∧ c.gz ≤ 512
  dat : ∀ b ∈ c.bks, ∀ p ∈ b.pgs, p.data.length ≤ c.gz ∧ ∀ x ∈ p.data, x < 256
  fok : ∀ f ∈ c.fs, f.ok
/-- The chip lies in memory, all of it from base on. -/
structure Lies (base : Nat) (w : World) (c : CS) : Prop where
  chip : ∃ fa fc, Row w c.p (csCells c fa fc) 52 ∧ Flts w fa fc c.fs
  bks : Row w c.q (c.bks.flatMap bkCells) 57
  pgs : ∀ b ∈ c.bks, Row w b.r (b.pgs.flatMap pgCells) 75
  nd : (c.bks.map Bk.r).Nodup
  low : ∀ k, c.foot k → base ≤ k
  good : Good c

theorem Lies.kept {S : Nat → Prop} {base : Nat} {w w' : World} {c : CS} (h : Lies base w c) (hk : Kept S w w') (hs : ∀ k, c.foot k → ¬ S k) (hf : ∀ b cs, Row w b cs 78 → ¬ S b) : Lies base w' c := by
  obtain ⟨fa, fc, h1, h2⟩ := h.chip
  exact ⟨⟨fa, fc, h1.kept hk (hs _ (.inl rfl)), h2.kept hk hf⟩, h.bks.kept hk (hs _ (.inr (.inl rfl))), fun b hb => (h.pgs b hb).kept hk (hs _ (.inr (.inr (List.mem_map.2 ⟨b, hb, rfl⟩)))), h.nd, h.low, h.good⟩
theorem Lies.later {base : Nat} {w w' : World} {c : CS} (h : Lies base w c) (hb : Below w.heap.size w w') : Lies base w' c :=
  h.kept (S := fun _ => False) (.of_below hb) (fun _ _ x => x) (fun _ _ _ x => x)
theorem Lies.drewN {base : Nat} {w : World} {c : CS} (h : Lies base w c) (n : Nat) : Lies base (w.drewN n) c := h.later (below_drawn w n)
theorem Lies.foot_lt {base : Nat} {w : World} {c : CS} (h : Lies base w c) {k : Nat} (hk : c.foot k) : k < w.heap.size := by
  rcases hk with rfl | rfl | hk
  · obtain ⟨fa, fc, h1, _⟩ := h.chip; exact h1.lt
  · exact h.bks.lt
  · obtain ⟨b, hb, rfl⟩ := List.mem_map.1 hk; exact (h.pgs b hb).lt
/-- No block of faults is the chip's to write. -/
theorem Lies.fault {base : Nat} {w : World} {c : CS} (h : Lies base w c) : ∀ b cs, Row w b cs 78 → ¬ c.foot b := by
  rintro b cs hr (rfl | rfl | hk)
  · obtain ⟨fa, fc, h1, _⟩ := h.chip; exact hr.ne h1 (by decide) rfl
  · exact hr.ne h.bks (by decide) rfl
  · obtain ⟨k, hb, rfl⟩ := List.mem_map.1 hk; exact hr.ne (h.pgs k hb) (by decide) rfl
theorem foot_set {c c' : CS} {i : Nat} {b b' : Bk} (hp : c'.p = c.p) (hq : c'.q = c.q) (hi : c.bks[i]? = some b) (hb : c'.bks = c.bks.set i b') (hr : b'.r = b.r) : c'.bks.map Bk.r = c.bks.map Bk.r ∧ c'.foot = c.foot := by
  have e : c'.bks.map Bk.r = c.bks.map Bk.r := by
    rw [hb, List.map_set, hr]
    exact set_self (by simp [hi])
  refine ⟨e, ?_⟩
  funext k
  unfold CS.foot
  rw [hp, hq, e]
theorem Lies.step {base : Nat} {w w' : World} {c c' : CS} {i : Nat} {b b' : Bk} (h : Lies base w c) (hp : c'.p = c.p) (hq : c'.q = c.q) (hi : c.bks[i]? = some b) (hb : c'.bks = c.bks.set i b') (hr : b'.r = b.r) (good : Good c')
    (hk : Kept (fun k => k = c.p ∨ k = c.q ∨ k = b.r) w w') (h1 : ∃ fa fc, Row w' c.p (csCells c' fa fc) 52 ∧ Flts w' fa fc c'.fs)
    (h2 : Row w' c.q (c'.bks.flatMap bkCells) 57) (h3 : Row w' b.r (b'.pgs.flatMap pgCells) 75) : Lies base w' c' ∧ Kept c.foot w w' ∧ c'.foot = c.foot := by
  obtain ⟨e1, e2⟩ := foot_set hp hq hi hb hr
  have hbm : b ∈ c.bks := List.mem_of_getElem? hi
  refine ⟨⟨by rw [hp]; exact h1, by rw [hq]; exact h2, ?_, by rw [e1]; exact h.nd, by rw [e2]; exact h.low, good⟩, hk.mono ?_, e2⟩
  · intro x hx
    rw [hb] at hx
    obtain ⟨j, hj, rfl⟩ := List.getElem_of_mem hx
    rw [List.getElem_set] at *
    split
    · rw [hr]; exact h3
    · rename_i hne
      have hj2 : j < c.bks.length := by simpa using hj
      have hm : c.bks[j] ∈ c.bks := List.getElem_mem hj2
      refine (h.pgs _ hm).kept hk ?_
      rintro (e | e | e)
      · obtain ⟨fa, fc, g1, _⟩ := h.chip; exact (h.pgs _ hm).ne g1 (by decide) e
      · exact (h.pgs _ hm).ne h.bks (by decide) e
      · obtain ⟨hi1, hi2⟩ := List.getElem?_eq_some_iff.1 hi
        have hnd := List.pairwise_iff_getElem.1 h.nd
        rcases Nat.lt_or_gt_of_ne hne with hlt | hlt
        · exact hnd i j (by simpa using hi1) (by simpa using hj2) hlt (by simp [e, hi2])
        · exact hnd j i (by simpa using hj2) (by simpa using hi1) hlt (by simp [e, hi2])
  · rintro k (rfl | rfl | rfl)
    · exact .inl rfl
    · exact .inr (.inl rfl)
    · exact .inr (.inr (List.mem_map.2 ⟨b, hbm, rfl⟩))
/-- The same, where no block changes. -/
theorem Lies.step0 {base : Nat} {w w' : World} {c c' : CS} (h : Lies base w c) (hp : c'.p = c.p) (hq : c'.q = c.q) (hb : c'.bks = c.bks) (good : Good c')
    (hk : Kept (fun k => k = c.p) w w') (h1 : ∃ fa fc, Row w' c.p (csCells c' fa fc) 52 ∧ Flts w' fa fc c'.fs) : Lies base w' c' ∧ Kept c.foot w w' ∧ c'.foot = c.foot := by
  obtain ⟨fa, fc, g1, _⟩ := h.chip
  have e2 : c'.foot = c.foot := by funext k; unfold CS.foot; rw [hp, hq, hb]
  refine ⟨⟨by rw [hp]; exact h1, ?_, ?_, by rw [hb]; exact h.nd, by rw [e2]; exact h.low, good⟩, hk.mono (fun k e => .inl e), e2⟩
  · rw [hq, hb]; exact h.bks.kept hk (fun e => h.bks.ne g1 (by decide) e)
  · rw [hb]; intro x hx; exact (h.pgs x hx).kept hk (fun e => (h.pgs x hx).ne g1 (by decide) e)
theorem Good.set {c : CS} {i : Nat} {b' : Bk} (h : Good c) (h1 : b'.pgs.length = c.gp ∧ c.gp ≤ b'.cap ∧ b'.cap ≤ maxLen ∧ 0 ≤ b'.next ∧ b'.next ≤ c.gp) (h2 : ∀ p ∈ b'.pgs, p.data.length ≤ c.gz ∧ ∀ x ∈ p.data, x < 256) : Good { c with bks := c.bks.set i b' } := by
  refine ⟨by simpa using h.len, ?_, h.qc, h.gs, ?_, h.fok⟩
  · intro x hx
    rcases List.mem_or_eq_of_mem_set hx with hx | rfl
    · exact h.plen x hx
    · exact h1
  · intro x hx
    rcases List.mem_or_eq_of_mem_set hx with hx | rfl
    · exact h.dat x hx
    · exact h2
theorem stepF_cons (s : Int) (g : Flt) (l : List Flt) : stepF s (g :: l) = if g.num = s then (g, l) else (⟨0, 0, 0⟩, g :: l) := rfl
theorem stepF_sub (s : Int) : ∀ l, (∀ f ∈ l, f.ok) → ∀ f ∈ (stepF s l).2, f.ok
  | [], _, f, h => by simp [stepF] at h
  | g :: l, hl, f, h => by
    rw [stepF_cons] at h
    split at h
    · exact hl f (by simp [show f ∈ l from h])
    · exact hl f h
theorem Good.operated {c : CS} (h : Good c) : Good c.operated := ⟨h.len, h.plen, h.qc, h.gs, h.dat, stepF_sub _ _ h.fok⟩
theorem stepF_ok (s : Int) : ∀ l, (∀ f ∈ l, f.ok) → (stepF s l).1 = ⟨0, 0, 0⟩ ∨ (stepF s l).1.ok
  | [], _ => .inl rfl
  | g :: l, hl => by
    rw [stepF_cons]
    split
    · exact .inr (hl g (by simp))
    · exact .inl rfl
theorem Good.extent {c : CS} (h : Good c) : c.extent = 0 ∨ c.extent = 1 ∨ c.extent = 2 := by
  have := stepF_ok (wrap64 (c.steps + 1)) c.fs h.fok
  unfold CS.extent CS.fault
  rcases this with e | ⟨_, e | e⟩
  · rw [e]; simp
  · rw [if_pos e.1]; exact e.2
  · rw [if_neg (by rw [e.1]; decide), if_pos e.1]; simp
theorem Good.programmed {c : CS} {b : Bk} {data : List Nat} (h : Good c) (hb : b ∈ c.bks) (x : Int) (hn : b.next < c.gp) (hd : data.length ≤ c.gz) (hd2 : ∀ x ∈ data, x < 256) :
    ((b.programmed data x).pgs.length = c.gp ∧ c.gp ≤ (b.programmed data x).cap ∧ (b.programmed data x).cap ≤ maxLen ∧ 0 ≤ (b.programmed data x).next ∧ (b.programmed data x).next ≤ c.gp) ∧ (∀ p ∈ (b.programmed data x).pgs, p.data.length ≤ c.gz ∧ ∀ x ∈ p.data, x < 256) ∧ (b.programmed data x).r = b.r := by
  obtain ⟨h1, h2, h3, h4, h5⟩ := h.plen b hb
  have h6 := h.dat b hb
  unfold Bk.programmed
  split
  · exact ⟨⟨h1, h2, h3, h4, h5⟩, h6, rfl⟩
  · split
    · refine ⟨⟨by simpa using h1, h2, h3, by show 0 ≤ b.next + 1; omega, by show b.next + 1 ≤ _; omega⟩, ?_, rfl⟩
      intro p hp
      rcases List.mem_or_eq_of_mem_set hp with hp | rfl
      · exact h6 p hp
      · exact ⟨by simp, by simp⟩
    · refine ⟨⟨by simpa using h1, h2, h3, by show 0 ≤ b.next + 1; omega, by show b.next + 1 ≤ _; omega⟩, ?_, rfl⟩
      intro p hp
      rcases List.mem_or_eq_of_mem_set hp with hp | rfl
      · exact h6 p hp
      · exact ⟨hd, hd2⟩
theorem Good.erased {c : CS} {b : Bk} (h : Good c) (hb : b ∈ c.bks) (x e : Int) :
    ((({ b with erases := e } : Bk).erased x).pgs.length = c.gp ∧ c.gp ≤ (({ b with erases := e } : Bk).erased x).cap ∧ (({ b with erases := e } : Bk).erased x).cap ≤ maxLen ∧ 0 ≤ (({ b with erases := e } : Bk).erased x).next ∧ (({ b with erases := e } : Bk).erased x).next ≤ c.gp) ∧ (∀ p ∈ (({ b with erases := e } : Bk).erased x).pgs, p.data.length ≤ c.gz ∧ ∀ x ∈ p.data, x < 256) ∧ (({ b with erases := e } : Bk).erased x).r = b.r := by
  obtain ⟨h1, h2, h3, h4, h5⟩ := h.plen b hb
  have h6 := h.dat b hb
  unfold Bk.erased
  split
  · refine ⟨⟨by simpa using h1, h2, h3, by simp, by simp [h1]⟩, ?_, rfl⟩
    intro p hp
    simp at hp
    rw [hp.2]
    exact ⟨by simp, by simp⟩
  · split
    · refine ⟨⟨by simpa using h1, h2, h3, by simp, by simp⟩, ?_, rfl⟩
      intro p hp
      simp at hp
      rw [hp.2]
      exact ⟨by simp, by simp⟩
    · exact ⟨⟨h1, h2, h3, h4, h5⟩, h6, rfl⟩
end Go.Proofs.Ytiejkbncpbhcdaa
