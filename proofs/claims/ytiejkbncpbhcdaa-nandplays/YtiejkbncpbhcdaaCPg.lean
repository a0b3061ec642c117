/-
  What lay, program and erase do with a block's pages.
-/
import Derived.Test.YtiejkbncpbhcdaaCView
import Derived.BigQuiet
namespace Go.Proofs.Ytiejkbncpbhcdaa
open Go.RowKit

theorem pgs_set {W : World} {r i : Nat} {l : List Pg} {t : TypeId} (st : Int) (d : List Nat) (h : Row W r (l.flatMap pgCells) t) (hi : i < l.length) :
    Row ((W.setCell ⟨r, i * 2, none⟩ (.int .i64 st)).setCell ⟨r, i * 2 + 1, none⟩ (.string (bstr d))) r ((l.set i ⟨st, d⟩).flatMap pgCells) t := by
  have hlen := flat_len pgCells 2 pg_len l
  have h1 := h.set (i := i * 2) (.int .i64 st) (by omega)
  have e1 := flat_set pgCells 2 pg_len 0 (by decide) (.int .i64 st) ⟨st, l[i].data⟩ l i l[i] (List.getElem?_eq_getElem hi) rfl
  simp only [Nat.add_zero] at e1
  rw [e1] at h1
  have hlen2 := flat_len pgCells 2 pg_len (l.set i ⟨st, l[i].data⟩)
  rw [List.length_set] at hlen2
  have h2 := h1.set (i := i * 2 + 1) (.string (bstr d)) (by omega)
  rw [flat_set pgCells 2 pg_len 1 (by decide) (.string (bstr d)) ⟨st, d⟩ _ i ⟨st, l[i].data⟩ (by simp [hi]) rfl, List.set_set] at h2
  exact h2
theorem pg_cells {W : World} {r i : Nat} {l : List Pg} {t : TypeId} (h : Row W r (l.flatMap pgCells) t) (hi : i < l.length) :
    W.cell? ⟨r, i * 2, none⟩ = some (.int .i64 l[i].st) ∧ W.cell? ⟨r, i * 2 + 1, none⟩ = some (.string (bstr l[i].data)) := by
  have e1 := flat_get pgCells 2 pg_len 0 (by decide) l i l[i] (List.getElem?_eq_getElem hi)
  have e2 := flat_get pgCells 2 pg_len 1 (by decide) l i l[i] (List.getElem?_eq_getElem hi)
  exact ⟨h.cell e1, h.cell e2⟩
theorem bstr_nil : bstr [] = ⟨#[]⟩ := rfl
/-- k pages of a list laid with a state. -/
def laidL (s : Int) (l : List Pg) (k : Nat) : List Pg := List.replicate k ⟨s, []⟩ ++ l.drop k
theorem laidL_len (s : Int) (l : List Pg) (k : Nat) (h : k ≤ l.length) : (laidL s l k).length = l.length := by simp [laidL]; omega
theorem laidL_set (s : Int) (l : List Pg) (k : Nat) (h : k < l.length) : (laidL s l k).set k ⟨s, []⟩ = laidL s l (k + 1) := by
  unfold laidL
  rw [List.set_append_right _ _ (by simp), List.length_replicate, Nat.sub_self, List.drop_eq_getElem_cons h, List.set_cons_zero, List.replicate_succ', List.append_assoc]
  rfl
theorem laidL_end (s : Int) (l : List Pg) : laidL s l l.length = List.replicate l.length ⟨s, []⟩ := by simp [laidL]

set_option maxHeartbeats 1000000 in
theorem lay_any (q o r cap n : Nat) (l : List Pg) (s : Int) (w : World) (hn : n = l.length) (hl : n ≤ 64) (hc : w.cell? ⟨q, o, none⟩ = some (.slice (some ⟨r, 0, none⟩) n cap)) (hqr : q ≠ r) (hr : Row w r (l.flatMap pgCells) 75) :
    Calls Try.prog 62 #[.pointer (some ⟨q, o, none⟩), .int .i64 s] w fun e w' => e = .returned (.tuple #[]) ∧ Row w' r ((List.replicate n (⟨s, []⟩ : Pg)).flatMap pgCells) 75 ∧ Kept (fun k => k = r) w w' := by
  have HN : Hid (n = l.length) := hn
  have HR : Hid (Row w r ((laidL s l 0).flatMap pgCells) 75) := by show Row _ _ _ _; simpa [laidL] using hr
  clear hr hn
  go_enter Try.func62, Try.ntmps62
  go_wp2
  go_loopw [10] (fun i wr => ∃ k : Nat, k ≤ n ∧ i = .int .i64 k ∧ Hid (Row wr r ((laidL s l k).flatMap pgCells) 75) ∧ Kept (fun k => k = r) w wr) (fun i _ => n - (intOf i).toNat)
  case atStart => exact ⟨0, by omega, rfl, HR, Kept.refl _ w⟩
  case round =>
    obtain ⟨k, hk, rfl, hrow, hkept⟩ := hrel
    have hcr : wr.cell? ⟨q, o, none⟩ = some (.slice (some ⟨r, 0, none⟩) n cap) := (World.cell?_of_block (w := w) (hkept.block q (World.block_lt_of_cell? w _ hc) hqr)).trans hc
    by_cases hlt : k < n
    · have hf0 := hrow.out.frozen (k * 2)
      have hf1 := hrow.out.frozen (k * 2 + 1)
      have hkl : k < l.length := by have := HN.out; omega
      have HKL : Hid (k < (laidL s l k).length) := by show _ < _; rw [laidL_len s l k (by omega)]; exact hkl
      obtain ⟨g0, g1⟩ := pg_cells hrow.out HKL.out
      obtain ⟨v0, hv0⟩ : ∃ v0, wr.cell? ⟨r, k * 2, none⟩ = some v0 := ⟨_, g0⟩
      obtain ⟨v1, hv1⟩ : ∃ v1, wr.cell? ⟨r, k * 2 + 1, none⟩ = some v1 := ⟨_, g1⟩
      clear g0 g1
      go_wp2
      refine ⟨⟨k + 1, by omega, by simp, ?_, ?_⟩, by simp [intOf]; omega⟩
      · have := pgs_set s [] hrow.out HKL.out
        rw [laidL_set s l k hkl] at this
        exact this
      · exact (hkept.setCell (p := ⟨r, k * 2, none⟩) rfl _).setCell (p := ⟨r, k * 2 + 1, none⟩) rfl _
    · go_wp2
      go_end0
      have e : k = l.length := by have := HN.out; omega
      subst e
      refine ⟨rfl, ?_, hkept⟩
      have := hrow.out
      rw [laidL_end] at this
      rw [HN.out]
      exact this

/-- A block's own cells, at o in its row. -/
structure At (w : World) (q o : Nat) (b : Bk) : Prop where
  list : w.cell? ⟨q, o, none⟩ = some (.slice (some ⟨b.r, 0, none⟩) b.pgs.length b.cap)
  next : w.cell? ⟨q, o + 1, none⟩ = some (.int .i64 b.next)
  erases : w.cell? ⟨q, o + 2, none⟩ = some (.int .i64 b.erases)
  bad : w.cell? ⟨q, o + 3, none⟩ = some (.bool b.bad)
theorem At.of {W : World} {q i : Nat} {l : List Bk} {b : Bk} {t : TypeId} (h : Row W q (l.flatMap bkCells) t) (hi : l[i]? = some b) : At W q (i * 4) b :=
  ⟨h.cell (flat_get bkCells 4 bk_len 0 (by decide) l i b hi), h.cell (flat_get bkCells 4 bk_len 1 (by decide) l i b hi), h.cell (flat_get bkCells 4 bk_len 2 (by decide) l i b hi), h.cell (flat_get bkCells 4 bk_len 3 (by decide) l i b hi)⟩

/-- What a program leaves of a block. -/
def Bk.programmed (b : Bk) (data : List Nat) (x : Int) : Bk :=
  if x = 0 then b else if x = 1 then { b with pgs := b.pgs.set b.next.toNat ⟨2, []⟩, next := b.next + 1 } else { b with pgs := b.pgs.set b.next.toNat ⟨1, data⟩, next := b.next + 1 }
/-- What an erase leaves of a block. -/
def Bk.erased (b : Bk) (x : Int) : Bk :=
  if x = 1 then { b with pgs := List.replicate b.pgs.length ⟨2, []⟩, next := b.pgs.length } else if x = 2 then { b with pgs := List.replicate b.pgs.length ⟨0, []⟩, next := 0 } else b

theorem bk_next {W : World} {q i : Nat} {l : List Bk} {b : Bk} {t : TypeId} (b' : Bk) (h : Row W q (l.flatMap bkCells) t) (hi : l[i]? = some b) (e : (bkCells b).set 1 (.int .i64 b'.next) = bkCells b') : Row (W.setCell ⟨q, i * 4 + 1, none⟩ (.int .i64 b'.next)) q ((l.set i b').flatMap bkCells) t := by
  have hlen := flat_len bkCells 4 bk_len l
  have hlt := (List.getElem?_eq_some_iff.1 hi).1
  have := h.set (i := i * 4 + 1) (.int .i64 b'.next) (by omega)
  rw [flat_set bkCells 4 bk_len 1 (by decide) _ b' l i b hi e] at this
  exact this
theorem bk_erases {W : World} {q i : Nat} {l : List Bk} {b : Bk} {t : TypeId} (b' : Bk) (h : Row W q (l.flatMap bkCells) t) (hi : l[i]? = some b) (e : (bkCells b).set 2 (.int .i64 b'.erases) = bkCells b') : Row (W.setCell ⟨q, i * 4 + 2, none⟩ (.int .i64 b'.erases)) q ((l.set i b').flatMap bkCells) t := by
  have hlen := flat_len bkCells 4 bk_len l
  have hlt := (List.getElem?_eq_some_iff.1 hi).1
  have := h.set (i := i * 4 + 2) (.int .i64 b'.erases) (by omega)
  rw [flat_set bkCells 4 bk_len 2 (by decide) _ b' l i b hi e] at this
  exact this
theorem bk_bad {W : World} {q i : Nat} {l : List Bk} {b : Bk} {t : TypeId} (b' : Bk) (h : Row W q (l.flatMap bkCells) t) (hi : l[i]? = some b) (e : (bkCells b).set 3 (.bool b'.bad) = bkCells b') : Row (W.setCell ⟨q, i * 4 + 3, none⟩ (.bool b'.bad)) q ((l.set i b').flatMap bkCells) t := by
  have hlen := flat_len bkCells 4 bk_len l
  have hlt := (List.getElem?_eq_some_iff.1 hi).1
  have := h.set (i := i * 4 + 3) (.bool b'.bad) (by omega)
  rw [flat_set bkCells 4 bk_len 3 (by decide) _ b' l i b hi e] at this
  exact this
theorem set_self {α : Type} {l : List α} {i : Nat} {b : α} (h : l[i]? = some b) : l.set i b = l := by
  obtain ⟨hlt, e⟩ := List.getElem?_eq_some_iff.1 h
  rw [← e]; exact List.set_getElem_self hlt

set_option maxHeartbeats 2000000 in
theorem program_any (q i : Nat) (l : List Bk) (b : Bk) (data : List Nat) (a : Option Addr) (dc : Nat) (x : Int) (k : Nat) (w : World) (hi : l[i]? = some b) (hx : x = 0 ∨ x = 1 ∨ x = 2) (hk : b.next = k) (hk2 : k < b.pgs.length) (hcap : b.pgs.length ≤ b.cap) (hcm : b.cap ≤ maxLen)
    (hq : Row w q (l.flatMap bkCells) 57) (hr : Row w b.r (b.pgs.flatMap pgCells) 75) (hd : BRow w a data) :
    Calls Try.prog 53 #[.pointer (some ⟨q, i * 4, none⟩), .slice a data.length dc, .int .i64 x] w fun e w' => e = .returned (.tuple #[]) ∧ Row w' b.r ((b.programmed data x).pgs.flatMap pgCells) 75 ∧
      Row w' q ((l.set i (b.programmed data x)).flatMap bkCells) 57 ∧ Kept (fun k => k = q ∨ k = b.r) w w' := by
  have hat := At.of hq hi
  obtain ⟨c0, c1, _, _⟩ := hat
  have hf := hq.frozen (i * 4 + 1)
  have hqr : q ≠ b.r := hq.ne hr (by decide)
  have hqr2 : b.r ≠ q := hqr.symm
  rw [hk] at c1
  obtain ⟨g0, g1⟩ := pg_cells hr hk2
  obtain ⟨v0, hv0⟩ : ∃ v0, w.cell? ⟨b.r, k * 2, none⟩ = some v0 := ⟨_, g0⟩
  obtain ⟨v1, hv1⟩ : ∃ v1, w.cell? ⟨b.r, k * 2 + 1, none⟩ = some v1 := ⟨_, g1⟩
  have hf0 := hr.frozen (k * 2)
  have hf1 := hr.frozen (k * 2 + 1)
  clear g0 g1
  have HQ : Hid (Row w q (l.flatMap bkCells) 57) := hq
  have HR : Hid (Row w b.r (b.pgs.flatMap pgCells) 75) := hr
  have HI : Hid (l[i]? = some b) := hi
  have HK : Hid (b.next = k) := hk
  have HK2 : Hid (k < b.pgs.length) := hk2
  clear hq hr hi
  obtain ⟨n, hn⟩ : ∃ n, n = b.pgs.length := ⟨_, rfl⟩
  rw [← hn] at c0 hk2 hcap
  have HD := conv_row dc hd
  obtain ⟨S, hS⟩ : ∃ S, S = bstr data := ⟨_, rfl⟩
  rw [← hS] at HD
  have hkt : b.next.toNat = k := by omega
  unfold maxLen at hcm
  rcases hx with rfl | rfl | rfl
  · have hb : b.programmed data 0 = b := rfl
    rw [hb, set_self HI.out]
    clear hb HD hd hS hn hk hkt
    go_enter Try.func53, Try.ntmps53
    go_wp2
    refine bodyPost_ret (results_none rfl _ _ _) rfl ?_
    exact ⟨rfl, HR.out, HQ.out, Kept.refl _ w⟩
  · have hb : b.programmed data 1 = { b with pgs := b.pgs.set k ⟨2, []⟩, next := (k : Int) + 1 } := by unfold Bk.programmed; rw [if_neg (by decide), if_pos rfl, hkt, hk]
    rw [hb]
    have fin : ∀ W, W = ((w.setCell ⟨b.r, k * 2, none⟩ (.int .i64 2)).setCell ⟨b.r, k * 2 + 1, none⟩ (.string ⟨#[]⟩)).setCell ⟨q, i * 4 + 1, none⟩ (.int .i64 ((k : Int) + 1)) →
        Row W b.r ((b.pgs.set k ⟨2, []⟩).flatMap pgCells) 75 ∧ Row W q ((l.set i { b with pgs := b.pgs.set k ⟨2, []⟩, next := (k : Int) + 1 }).flatMap bkCells) 57 ∧ Kept (fun k => k = q ∨ k = b.r) w W := by
      rintro W rfl
      refine ⟨(pgs_set 2 [] HR.out HK2.out).other _ _ hqr2, ?_, (((Kept.refl _ w).setCell (p := ⟨b.r, k * 2, none⟩) (.inr rfl) _).setCell (p := ⟨b.r, k * 2 + 1, none⟩) (.inr rfl) _).setCell (p := ⟨q, i * 4 + 1, none⟩) (.inl rfl) _⟩
      exact bk_next { b with pgs := b.pgs.set k ⟨2, []⟩, next := (k : Int) + 1 } ((HQ.out.other _ _ hqr).other _ _ hqr) HI.out (by simp [bkCells])
    clear hb HD hd hS hn hk hkt
    generalize b.r = r at *
    generalize b.cap = cap at *
    go_enter Try.func53, Try.ntmps53
    go_wp2
    go_region
    all_goals go_wp2
    all_goals go_end0
    all_goals
      obtain ⟨h1, h2, h3⟩ := fin _ rfl
      exact ⟨rfl, h1, h2, h3.drew⟩
  · have hb : b.programmed data 2 = { b with pgs := b.pgs.set k ⟨1, data⟩, next := (k : Int) + 1 } := by unfold Bk.programmed; rw [if_neg (by decide), if_neg (by decide), hkt, hk]
    rw [hb]
    have fin : ∀ W, W = ((w.setCell ⟨b.r, k * 2, none⟩ (.int .i64 1)).setCell ⟨b.r, k * 2 + 1, none⟩ (.string S)).setCell ⟨q, i * 4 + 1, none⟩ (.int .i64 ((k : Int) + 1)) →
        Row W b.r ((b.pgs.set k ⟨1, data⟩).flatMap pgCells) 75 ∧ Row W q ((l.set i { b with pgs := b.pgs.set k ⟨1, data⟩, next := (k : Int) + 1 }).flatMap bkCells) 57 ∧ Kept (fun k => k = q ∨ k = b.r) w W := by
      rintro W rfl
      rw [hS]
      refine ⟨(pgs_set 1 data HR.out HK2.out).other _ _ hqr2, ?_, (((Kept.refl _ w).setCell (p := ⟨b.r, k * 2, none⟩) (.inr rfl) _).setCell (p := ⟨b.r, k * 2 + 1, none⟩) (.inr rfl) _).setCell (p := ⟨q, i * 4 + 1, none⟩) (.inl rfl) _⟩
      exact bk_next { b with pgs := b.pgs.set k ⟨1, data⟩, next := (k : Int) + 1 } ((HQ.out.other _ _ hqr).other _ _ hqr) HI.out (by simp [bkCells])
    have HDn : ∀ m, (convert 35 9 (.slice a data.length dc)).run Try.prog (w.drewN m) = .ok (.string S) (w.drewN m) := fun m => by rw [hS]; exact conv_row dc (hd.later (below_drawn w m))
    have HD1 : (convert 35 9 (.slice a data.length dc)).run Try.prog w.drew = .ok (.string S) w.drew := HDn 1
    clear hb hd hS hn hk hkt
    generalize b.r = r at *
    generalize b.cap = cap at *
    generalize data.length = dl at *
    go_enter Try.func53, Try.ntmps53
    go_wp2
    go_region
    all_goals go_wp2
    all_goals go_end0
    all_goals
      obtain ⟨h1, h2, h3⟩ := fin _ rfl
      exact ⟨rfl, h1, h2, h3.drew⟩

set_option maxHeartbeats 2000000 in
theorem erase_any (q i : Nat) (l : List Bk) (b : Bk) (x : Int) (w : World) (hi : l[i]? = some b) (hx : x = 0 ∨ x = 1 ∨ x = 2) (hl : b.pgs.length ≤ 64)
    (hq : Row w q (l.flatMap bkCells) 57) (hr : Row w b.r (b.pgs.flatMap pgCells) 75) :
    Calls Try.prog 31 #[.pointer (some ⟨q, i * 4, none⟩), .int .i64 x] w fun e w' => e = .returned (.tuple #[]) ∧ Row w' b.r ((b.erased x).pgs.flatMap pgCells) 75 ∧
      Row w' q ((l.set i (b.erased x)).flatMap bkCells) 57 ∧ Kept (fun k => k = q ∨ k = b.r) w w' := by
  obtain ⟨c0, c1, _, _⟩ := At.of hq hi
  have hqr : q ≠ b.r := hq.ne hr (by decide)
  rcases hx with rfl | rfl | rfl
  · have hb : b.erased 0 = b := rfl
    rw [hb, set_self hi]
    go_enter Try.func31, Try.ntmps31
    go_wp2
    go_end0
    exact ⟨rfl, hr, hq, Kept.refl _ w⟩
  · have hlay := lay_any q (i * 4) b.r b.cap b.pgs.length b.pgs 2 w rfl hl c0 hqr hr
    have hb : b.erased 1 = { b with pgs := List.replicate b.pgs.length ⟨2, []⟩, next := (b.pgs.length : Int) } := rfl
    rw [hb]
    have fin : ∀ W, Row W b.r ((List.replicate b.pgs.length (⟨2, []⟩ : Pg)).flatMap pgCells) 75 → Kept (fun k => k = b.r) w W → Row W q (l.flatMap bkCells) 57 ∧ W.cell? ⟨q, i * 4, none⟩ = some (.slice (some ⟨b.r, 0, none⟩) b.pgs.length b.cap) ∧ W.cell? ⟨q, i * 4 + 1, none⟩ = some (.int .i64 b.next) ∧ W.frozen? ⟨q, i * 4 + 1, none⟩ = false ∧
        Row (W.setCell ⟨q, i * 4 + 1, none⟩ (.int .i64 (b.pgs.length : Int))) b.r ((List.replicate b.pgs.length (⟨2, []⟩ : Pg)).flatMap pgCells) 75 ∧ Row (W.setCell ⟨q, i * 4 + 1, none⟩ (.int .i64 (b.pgs.length : Int))) q ((l.set i { b with pgs := List.replicate b.pgs.length ⟨2, []⟩, next := (b.pgs.length : Int) }).flatMap bkCells) 57 ∧ Kept (fun k => k = q ∨ k = b.r) w (W.setCell ⟨q, i * 4 + 1, none⟩ (.int .i64 (b.pgs.length : Int))) := by
      intro W h1 h2
      have h3 := hq.kept h2 hqr
      obtain ⟨d0, d1, _, _⟩ := At.of h3 hi
      refine ⟨h3, d0, d1, h3.frozen _, h1.other _ _ hqr.symm, ?_, (h2.mono (fun k e => .inr e)).setCell (p := ⟨q, i * 4 + 1, none⟩) (.inl rfl) _⟩
      exact bk_next { b with pgs := List.replicate b.pgs.length ⟨2, []⟩, next := (b.pgs.length : Int) } h3 hi (by simp [bkCells])
    clear hb hi hq hr
    generalize b.r = r at *
    generalize b.cap = cap at *
    generalize hn : b.pgs.length = n at *
    clear hn
    go_enter Try.func31, Try.ntmps31
    go_wp2_with (go_at_call 62; refine hlay.mono ?_; rintro e w1 ⟨rfl, h1, h2⟩; obtain ⟨h3, d0, d1, hf, h4, h5, h6⟩ := fin w1 h1 h2)
    go_end0
    exact ⟨rfl, h4, h5, h6⟩
  · have hlay := lay_any q (i * 4) b.r b.cap b.pgs.length b.pgs 0 w rfl hl c0 hqr hr
    have hb : b.erased 2 = { b with pgs := List.replicate b.pgs.length ⟨0, []⟩, next := 0 } := rfl
    rw [hb]
    have fin : ∀ W, Row W b.r ((List.replicate b.pgs.length (⟨0, []⟩ : Pg)).flatMap pgCells) 75 → Kept (fun k => k = b.r) w W → Row W q (l.flatMap bkCells) 57 ∧ W.cell? ⟨q, i * 4 + 1, none⟩ = some (.int .i64 b.next) ∧ W.frozen? ⟨q, i * 4 + 1, none⟩ = false ∧
        Row (W.setCell ⟨q, i * 4 + 1, none⟩ (.int .i64 0)) b.r ((List.replicate b.pgs.length (⟨0, []⟩ : Pg)).flatMap pgCells) 75 ∧ Row (W.setCell ⟨q, i * 4 + 1, none⟩ (.int .i64 0)) q ((l.set i { b with pgs := List.replicate b.pgs.length ⟨0, []⟩, next := 0 }).flatMap bkCells) 57 ∧ Kept (fun k => k = q ∨ k = b.r) w (W.setCell ⟨q, i * 4 + 1, none⟩ (.int .i64 0)) := by
      intro W h1 h2
      have h3 := hq.kept h2 hqr
      obtain ⟨d0, d1, _, _⟩ := At.of h3 hi
      refine ⟨h3, d1, h3.frozen _, h1.other _ _ hqr.symm, ?_, (h2.mono (fun k e => .inr e)).setCell (p := ⟨q, i * 4 + 1, none⟩) (.inl rfl) _⟩
      exact bk_next { b with pgs := List.replicate b.pgs.length ⟨0, []⟩, next := 0 } h3 hi (by simp [bkCells])
    clear hb hi hq hr
    generalize b.r = r at *
    generalize b.cap = cap at *
    generalize hn : b.pgs.length = n at *
    clear hn
    go_enter Try.func31, Try.ntmps31
    go_wp2_with (go_at_call 62; refine hlay.mono ?_; rintro e w1 ⟨rfl, h1, h2⟩; obtain ⟨h3, d1, hf, h4, h5, h6⟩ := fin w1 h1 h2)
    go_end0
    exact ⟨rfl, h4, h5, h6⟩
end Go.Proofs.Ytiejkbncpbhcdaa
