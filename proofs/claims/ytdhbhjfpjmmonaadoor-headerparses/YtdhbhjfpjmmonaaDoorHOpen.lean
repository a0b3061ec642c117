/-
  What open of package header answers: a reader of the payload behind its mark, or one that knows that something is wrong.
-/
import Derived.Test.YtdhbhjfpjmmonaaDoorHRead
namespace Go.Proofs.YtdhbhjfpjmmonaaDoor
open Go.RowKit Go.Extern.Stop Go.Stop Go.Extern M
variable {L : Nat}

/-- What mark leaves. -/
def markS (m : Nat) (st : Option (List Nat)) : Option (List Nat) := if numV 1 st = m then numS 1 st else none
theorem RPost.trans {w w1 w2 : World} {B : Nat} {s1 s2 : Option (List Nat)} (h : RPost L w B s1 w1) (h2 : RPost L w1 B s2 w2) : RPost L w B s2 w2 := ⟨h2.rd, h.kept.trans h2.kept⟩
set_option maxRecDepth 10000 in
set_option maxHeartbeats 4000000 in
theorem mark_any (B m : Nat) (hm : m < 256) (st : Option (List Nat)) (w : World) (h : Rd L w B st) :
    Calls Tryd.prog 40 #[.pointer (some ⟨B, 0, none⟩), .int .u8 m] w fun e w' => e = .returned (.tuple #[]) ∧ RPost L w B (markS m st) w' := by
  have cN := number_any B 1 st w h (by decide) (by decide)
  obtain ⟨z, hz⟩ : ∃ z, z = numV 1 st := ⟨_, rfl⟩
  rw [← hz] at cN
  have HZ : Hid (z = numV 1 st) := hz
  clear hz h
  by_cases hzm : z = m
  · have hne : ((z : Int) != (m : Int)) = false := by simp; omega
    have HM : Hid (z = m) := hzm
    clear hzm
    go_enter Tryd.func40, Tryd.ntmps40
    go_wp2_with (go_at_call 27; refine cN.mono ?_; rintro e w1 ⟨rfl, hp⟩; have HP : Hid (RPost _ _ _ _ _) := hp; clear hp cN)
    go_end0
    refine ⟨rfl, ?_⟩
    unfold markS
    rw [if_pos (by rw [← HZ.out]; exact HM.out)]
    exact HP.out
  · have hne : ((z : Int) != (m : Int)) = true := by simp; omega
    have HM : Hid (¬ z = m) := hzm
    clear hzm
    go_enter Tryd.func40, Tryd.ntmps40
    go_wp2_with (first
      | (go_at_call 27; refine cN.mono ?_; rintro e w1 ⟨rfl, hp⟩; obtain ⟨x, g0⟩ := hp.rd.glb; have HP : Hid (RPost _ _ _ _ _) := hp; clear hp cN)
      | (go_at_call 29; refine (note_any _ _ _ (.inr ⟨_, _, rfl⟩) _ _ HP.out.rd).mono ?_; rintro e w2 ⟨rfl, hp2⟩; have HP2 : Hid (RPost _ _ _ _ _) := hp2; clear hp2))
    go_end0
    refine ⟨rfl, ?_⟩
    unfold markS
    rw [if_neg (by rw [← HZ.out]; exact HM.out)]
    exact HP.out.trans HP2.out

/-- The reader that open made, as it stands. -/
structure Opn (L : Nat) (w wr : World) (st : Option (List Nat)) : Prop where
  rd : Rd L wr w.heap.size st
  bel : Below w.heap.size w wr
theorem Opn.step {w wr w' : World} {s1 s2 : Option (List Nat)} (h : Opn L w wr s1) (hp : RPost L wr w.heap.size s2 w') : Opn L w w' s2 :=
  ⟨hp.rd, h.bel.trans (hp.kept.below h.bel.size (fun _ e => Nat.le_of_eq e.symm))⟩
theorem Opn.later {w wr w' : World} {s1 : Option (List Nat)} (h : Opn L w wr s1) (hb : Below wr.heap.size wr w') : Opn L w w' s1 := ⟨h.rd.later hb, Below.after h.bel hb⟩
theorem Opn.tight {w wr : World} {s1 : Option (List Nat)} (h : Opn L w wr s1) : Opn wr.heap.size w wr s1 := ⟨h.rd.tight, h.bel⟩
theorem opn_start {w : World} (hg : Glb w) : Opn L w (w.alloc (.cells #[.slice none 0 0, .nilIface] 58)) (some []) := by
  refine ⟨⟨hg.later (below_new _ _), by have := hg.lt; omega, none, 0, 0, .nilIface, Row.new w [_, _] _, Nat.le_refl _, by decide, ?_, fun h => by cases h⟩, below_new _ _⟩
  intro l hl
  cases hl
  exact ⟨rfl, rfl, .inl rfl, by simp, .inl rfl⟩
/-- A reader at a new place. -/
def OPost (w : World) (st : Option (List Nat)) (e : Ending) (w' : World) : Prop := e = .returned (.pointer (some ⟨w.heap.size, 0, none⟩)) ∧ Opn w'.heap.size w w' st

set_option maxRecDepth 10000 in
set_option maxHeartbeats 4000000 in
theorem open_page (a : Option Addr) (n cap m : Nat) (w : World) (hg : Glb w) (hn : ¬ pageOk n) :
    Calls Tryd.prog 26 #[.slice a n cap, .int .u8 m] w (OPost w none) := by
  have HO : Hid (Opn (w.heap.size + 2) w (w.alloc (.cells #[.slice none 0 0, .nilIface] 58)) (some [])) := opn_start hg
  have HN : Hid (¬ pageOk n) := hn
  clear hn hg
  go_enter Tryd.func26, Tryd.ntmps26
  go_wp2_with (first
    | (go_at_call 20; refine (page_bad _ _ HN.out).mono ?_; rintro e w1 ⟨b1, rfl, _, hb1⟩; have HO1 : Hid (Opn _ _ _ _) := HO.out.later hb1; clear hb1)
    | (go_at_call 29; refine (note_any _ _ _ (.inr ⟨_, _, rfl⟩) _ _ HO1.out.rd).mono ?_; rintro e w2 ⟨rfl, hp⟩; have HO2 : Hid (Opn _ _ _ none) := HO1.out.step hp; clear hp; obtain ⟨xa, xn, xc, xt, xx, xr, _⟩ := HO2.out.rd.bad; have c1 : w2.cell? ⟨w.heap.size, 1, none⟩ = some (.iface xt xx) := xr.cell (i := 1) rfl; clear xr))
  go_ret
  exact ⟨rfl, HO2.out.tight⟩

theorem unno_at {w wr : World} {a : Option Addr} {n cap : Nat} {l : List Nat} (hn : n = l.length) (hc : n ≤ cap) (hm : cap ≤ maxLen) (hl : ∀ x ∈ l, x < 256) (hr : BRow w a l) (hb : Below w.heap.size w wr) (hf : ¬ isFrame l) :
    Calls Tryd.prog 38 #[.slice a n cap] wr fun e w' => e = .returned (.tuple #[.slice none 0 0, .int .i64 0, .bool false]) ∧ Below wr.heap.size wr w' := by
  subst hn
  exact unframe_not a cap l wr hc (by unfold maxLen at hm; omega) hl (hr.later hb) hf
theorem unis_at {w wr : World} {a : Option Addr} {n cap z : Nat} {l p : List Nat} (hn : n = l.length) (hc : n ≤ cap) (hm : cap ≤ maxLen) (hl : ∀ x ∈ l, x < 256) (hr : BRow w a l) (hb : Below w.heap.size w wr) (hf : isFrame l) (hz : z = sizeL l) (hp : p = bodyL l) :
    Calls Tryd.prog 38 #[.slice a n cap] wr fun e w' => e = .returned (.tuple #[.slice (some ⟨wr.heap.size, 0, none⟩) z z, .int .i64 (6 + (z : Int)), .bool true]) ∧ BRow w' (some ⟨wr.heap.size, 0, none⟩) p ∧ Below wr.heap.size wr w' := by
  subst hn hz hp
  refine (unframe_is a cap l wr hc (by unfold maxLen at hm; omega) hl (hr.later hb) hf).mono ?_
  rintro e w' ⟨rfl, ho⟩
  exact ⟨rfl, own_at ho, ho.2⟩

set_option maxRecDepth 10000 in
set_option maxHeartbeats 4000000 in
theorem open_no (a : Option Addr) (n cap m : Nat) (l : List Nat) (w : World) (hg : Glb w) (hn : pageOk n) (hl : n = l.length) (hc : n ≤ cap) (hm : cap ≤ maxLen) (h256 : ∀ x ∈ l, x < 256) (hr : BRow w a l) (hf : ¬ isFrame l) :
    Calls Tryd.prog 26 #[.slice a n cap, .int .u8 m] w (OPost w none) := by
  have HO : Hid (Opn (w.heap.size + 2) w (w.alloc (.cells #[.slice none 0 0, .nilIface] 58)) (some [])) := opn_start hg
  have HN : Hid (pageOk n) := hn
  have cU := fun wr hb => unno_at (wr := wr) hl hc hm h256 hr hb hf
  clear hn hg hl hc hm h256 hr hf
  have M1 : Hid True := trivial
  go_enter Tryd.func26, Tryd.ntmps26
  go_wp2_with (first
    | (go_at_call 20; refine (page_ok _ _ HN.out).mono ?_; rintro e w' ⟨rfl, rfl⟩)
    | (go_at_call 29; clear M1; refine (note_nil _ _ [] _ HO.out.rd).mono ?_; rintro e w' ⟨rfl, rfl⟩)
    | (go_at_call 38; refine (cU _ HO.out.bel).mono ?_; rintro e w1 ⟨rfl, hb1⟩; have HO1 : Hid (Opn _ _ _ _) := HO.out.later hb1; clear hb1; obtain ⟨x, g0⟩ := HO1.out.rd.glb)
    | (go_at_call 29; refine (note_any _ _ _ (.inr ⟨_, _, rfl⟩) _ _ HO1.out.rd).mono ?_; rintro e w2 ⟨rfl, hp⟩; have HO2 : Hid (Opn _ _ _ none) := HO1.out.step hp; clear hp))
  go_ret
  exact ⟨rfl, HO2.out.tight⟩
theorem blank_at (a : Option Addr) (cap n : Nat) (l : List Nat) (w : World) (R : Bool) (hn : n = l.length) (hR : R = l.all (· == 255)) (hl : l.length ≤ maxLen) (hr : BRow w a l) :
    Calls Tryd.prog 39 #[.slice a n cap] w fun e w' => e = .returned (.bool R) ∧ w = w' := by
  subst hn hR
  exact blank_any a cap l w hl hr
/-- The bytes behind the frame. -/
def restL (l : List Nat) : List Nat := l.drop (6 + sizeL l)
theorem opn_rest {w wr : World} {g : Nat} {p : List Nat} (h : Opn L w wr (some [])) (hr : BRow wr (some ⟨g, 0, none⟩) p) (hp : ∀ x ∈ p, x < 256) (hg : w.heap.size < g) (hgL : g < L) (hm : p.length ≤ maxLen) :
    Opn L w (wr.setCell ⟨w.heap.size, 0, none⟩ (.slice (some ⟨g, 0, none⟩) p.length p.length)) (some p) := by
  obtain ⟨a, c, hrow, _⟩ := h.rd.good
  have hk : Kept (fun k => k = w.heap.size) wr (wr.setCell ⟨w.heap.size, 0, none⟩ (.slice (some ⟨g, 0, none⟩) p.length p.length)) := (Kept.refl (fun k => k = w.heap.size) wr).setCell (p := ⟨w.heap.size, 0, none⟩) rfl _
  refine h.step ⟨⟨h.rd.glb.kept hk (fun e => h.rd.ne e.symm), h.rd.ne, some ⟨g, 0, none⟩, p.length, p.length, .nilIface, ?_, Nat.le_refl _, hm, ?_, (fun h => by cases h)⟩, hk⟩
  · exact hrow.set (i := 0) (.slice (some ⟨g, 0, none⟩) p.length p.length) (by simp)
  · intro l2 hl2
    cases hl2
    exact ⟨rfl, rfl, brow_kept hr hk (fun b off e => by cases e; omega), hp, .inr fun b off e => by cases e; omega⟩

set_option maxRecDepth 10000 in
set_option maxHeartbeats 1000000 in
theorem open_go (b off n cap m : Nat) (hm256 : m < 256) (l : List Nat) (w : World) (hg : Glb w) (hn : pageOk n) (hl : n = l.length) (hc : n ≤ cap) (hm : cap ≤ maxLen) (h256 : ∀ x ∈ l, x < 256) (hr : BRow w (some ⟨b, off, none⟩) l) (hf : isFrame l) (hB : (restL l).all (· == 255) = true) :
    Calls Tryd.prog 26 #[.slice (some ⟨b, off, none⟩) n cap, .int .u8 m] w (OPost w (markS m (some (bodyL l)))) := by
  have HO : Hid (Opn (w.heap.size + 2) w (w.alloc (.cells #[.slice none 0 0, .nilIface] 58)) (some [])) := opn_start hg
  have HN : Hid (pageOk n) := hn
  obtain ⟨z, hz⟩ : ∃ z, z = sizeL l := ⟨_, rfl⟩
  obtain ⟨p, hp⟩ : ∃ p, p = bodyL l := ⟨_, rfl⟩
  have cU := fun wr hb => unis_at (wr := wr) hl hc hm h256 hr hb hf hz hp
  have hzn : 6 + z ≤ n := by have h6 := hf.1; have h7 := hf.2.2.2.1; omega
  have HZP : Hid (z = p.length) := by show _ = _; rw [hz, hp]; have := hf.2.2.2.1; simp [bodyL]; omega
  have HPL : Hid (∀ x ∈ p, x < 256) := by rw [hp]; exact lt_of_sub h256 6 _
  have HPM : Hid (p.length ≤ maxLen) := by show _ ≤ _; rw [← HZP.out]; unfold maxLen at hm ⊢; omega
  have cB1 : Hid (∀ wr c', Below w.heap.size w wr → Calls Tryd.prog 39 #[.slice (some ⟨b, off + (6 + z), none⟩) (n - (6 + z)) c'] wr fun e w' => e = .returned (.bool true) ∧ wr = w') := fun wr c' hb =>
    blank_at _ c' _ (restL l) wr true (by simp [restL, hz, hl]) hB.symm (by simp [restL]; unfold maxLen at hm ⊢; omega) (by have := (hr.later hb).sub (i := 6 + z) (j := l.length); rw [List.take_of_length_le (by simp)] at this; unfold restL; rw [← hz]; exact this)
  have cB2 : Hid (cap = 6 + z → ∀ wr ao c', Below w.heap.size w wr → Calls Tryd.prog 39 #[.slice ao (n - (6 + z)) c'] wr fun e w' => e = .returned (.bool true) ∧ wr = w') := fun e wr ao c' _ =>
    blank_at _ c' _ [] wr true (by simp; omega) rfl (by simp) (.inl rfl)
  rw [← hp]
  unfold maxLen at hm
  clear hn hg hl h256 hr hf hz hp hB
  have HM : Hid (m < 256) := hm256
  have M1 : Hid True := trivial
  by_cases hcap : cap = 6 + z
  · subst hcap
    have hn2 : n = 6 + z := by omega
    subst hn2
    have cB := cB2.out rfl
    rw [Nat.sub_self] at cB
    clear cB1 cB2
    go_enter Tryd.func26, Tryd.ntmps26
    go_wp2_with (first
      | (go_at_call 20; refine (page_ok _ _ HN.out).mono ?_; rintro e w' ⟨rfl, rfl⟩)
      | (go_at_call 29; clear M1; refine (note_nil _ _ [] _ HO.out.rd).mono ?_; rintro e w' ⟨rfl, rfl⟩)
      | (go_at_call 38; refine (cU _ HO.out.bel).mono ?_; rintro e w1 ⟨rfl, hr1, hb1⟩; have HO1 : Hid (Opn _ _ _ _) := HO.out.later hb1; obtain ⟨ya, yc, yr, _⟩ := HO1.out.rd.good; have y0 : w1.cell? ⟨w.heap.size, 0, none⟩ = some (.slice ya 0 yc) := yr.cell (i := 0) rfl; have y1 : w1.cell? ⟨w.heap.size, 1, none⟩ = some .nilIface := yr.cell (i := 1) rfl; have y2 := yr.frozen 0; have HO2 : Hid (Opn (w.heap.size + 2) w (w1.setCell ⟨w.heap.size, 0, none⟩ (.slice (some ⟨(w.alloc (.cells #[.slice none 0 0, .nilIface] 58)).heap.size, 0, none⟩) p.length p.length)) (some p)) := opn_rest HO1.out hr1 HPL.out (by simp) (by simp) HPM.out; rw [← HZP.out] at HO2; simp only [size_new] at HO2; clear hb1 hr1 yr)
      | (go_at_call 39; refine (cB _ _ _ HO1.out.bel).mono ?_; rintro e w' ⟨rfl, rfl⟩)
      | (go_at_call 40; refine (mark_any _ m HM.out (some p) _ HO2.out.rd).mono ?_; rintro e w2 ⟨rfl, hp2⟩; have HO3 : Hid (Opn _ _ _ _) := HO2.out.step hp2; clear hp2))
    go_ret
    exact ⟨rfl, HO3.out.tight⟩
  · have cB := cB1.out
    clear cB1 cB2
    go_enter Tryd.func26, Tryd.ntmps26
    go_wp2_with (first
      | (go_at_call 20; refine (page_ok _ _ HN.out).mono ?_; rintro e w' ⟨rfl, rfl⟩)
      | (go_at_call 29; clear M1; refine (note_nil _ _ [] _ HO.out.rd).mono ?_; rintro e w' ⟨rfl, rfl⟩)
      | (go_at_call 38; refine (cU _ HO.out.bel).mono ?_; rintro e w1 ⟨rfl, hr1, hb1⟩; have HO1 : Hid (Opn _ _ _ _) := HO.out.later hb1; obtain ⟨ya, yc, yr, _⟩ := HO1.out.rd.good; have y0 : w1.cell? ⟨w.heap.size, 0, none⟩ = some (.slice ya 0 yc) := yr.cell (i := 0) rfl; have y1 : w1.cell? ⟨w.heap.size, 1, none⟩ = some .nilIface := yr.cell (i := 1) rfl; have y2 := yr.frozen 0; have HO2 : Hid (Opn (w.heap.size + 2) w (w1.setCell ⟨w.heap.size, 0, none⟩ (.slice (some ⟨(w.alloc (.cells #[.slice none 0 0, .nilIface] 58)).heap.size, 0, none⟩) p.length p.length)) (some p)) := opn_rest HO1.out hr1 HPL.out (by simp) (by simp) HPM.out; rw [← HZP.out] at HO2; simp only [size_new] at HO2; clear hb1 hr1 yr)
      | (go_at_call 39; refine (cB _ _ HO1.out.bel).mono ?_; rintro e w' ⟨rfl, rfl⟩)
      | (go_at_call 40; refine (mark_any _ m HM.out (some p) _ HO2.out.rd).mono ?_; rintro e w2 ⟨rfl, hp2⟩; have HO3 : Hid (Opn _ _ _ _) := HO2.out.step hp2; clear hp2))
    go_ret
    exact ⟨rfl, HO3.out.tight⟩
set_option maxRecDepth 10000 in
set_option maxHeartbeats 1000000 in
theorem open_full (b off n cap m : Nat) (l : List Nat) (w : World) (hg : Glb w) (hn : pageOk n) (hl : n = l.length) (hc : n ≤ cap) (hm : cap ≤ maxLen) (h256 : ∀ x ∈ l, x < 256) (hr : BRow w (some ⟨b, off, none⟩) l) (hf : isFrame l) (hB : (restL l).all (· == 255) = false) :
    Calls Tryd.prog 26 #[.slice (some ⟨b, off, none⟩) n cap, .int .u8 m] w (OPost w none) := by
  have HO : Hid (Opn (w.heap.size + 2) w (w.alloc (.cells #[.slice none 0 0, .nilIface] 58)) (some [])) := opn_start hg
  have HN : Hid (pageOk n) := hn
  obtain ⟨z, hz⟩ : ∃ z, z = sizeL l := ⟨_, rfl⟩
  obtain ⟨p, hp⟩ : ∃ p, p = bodyL l := ⟨_, rfl⟩
  have cU := fun wr hb => unis_at (wr := wr) hl hc hm h256 hr hb hf hz hp
  have hzn : 6 + z ≤ n := by have h6 := hf.1; have h7 := hf.2.2.2.1; omega
  have cB1 : Hid (∀ wr c', Below w.heap.size w wr → Calls Tryd.prog 39 #[.slice (some ⟨b, off + (6 + z), none⟩) (n - (6 + z)) c'] wr fun e w' => e = .returned (.bool false) ∧ wr = w') := fun wr c' hb =>
    blank_at _ c' _ (restL l) wr false (by simp [restL, hz, hl]) hB.symm (by simp [restL]; unfold maxLen at hm ⊢; omega) (by have := (hr.later hb).sub (i := 6 + z) (j := l.length); rw [List.take_of_length_le (by simp)] at this; unfold restL; rw [← hz]; exact this)
  have hcap : ¬ cap = 6 + z := by
    intro e
    have : restL l = [] := by unfold restL; rw [← hz]; exact List.drop_eq_nil_of_le (by omega)
    rw [this] at hB
    simp at hB
  unfold maxLen at hm
  clear hn hg hl h256 hr hf hz hp hB
  have M1 : Hid True := trivial
  have cB := cB1.out
  clear cB1
  go_enter Tryd.func26, Tryd.ntmps26
  go_wp2_with (first
    | (go_at_call 20; refine (page_ok _ _ HN.out).mono ?_; rintro e w' ⟨rfl, rfl⟩)
    | (go_at_call 29; clear M1; refine (note_nil _ _ [] _ HO.out.rd).mono ?_; rintro e w' ⟨rfl, rfl⟩)
    | (go_at_call 38; refine (cU _ HO.out.bel).mono ?_; rintro e w1 ⟨rfl, hr1, hb1⟩; have HO1 : Hid (Opn _ _ _ _) := HO.out.later hb1; obtain ⟨x, g0⟩ := HO1.out.rd.glb; clear hb1 hr1)
    | (go_at_call 39; refine (cB _ _ HO1.out.bel).mono ?_; rintro e w' ⟨rfl, rfl⟩)
    | (go_at_call 29; refine (note_any _ _ _ (.inr ⟨_, _, rfl⟩) _ _ HO1.out.rd).mono ?_; rintro e w2 ⟨rfl, hp⟩; have HO2 : Hid (Opn _ _ _ none) := HO1.out.step hp; clear hp))
  go_ret
  exact ⟨rfl, HO2.out.tight⟩

open Classical in
/-- What open makes of the bytes l: what stands behind the mark m of an image's payload. -/
noncomputable def openL (m : Nat) (l : List Nat) : Option (List Nat) := if pageOk l.length ∧ isFrame l ∧ (restL l).all (· == 255) = true then markS m (some (bodyL l)) else none
theorem openL_yes {m : Nat} {l : List Nat} (h1 : pageOk l.length) (h2 : isFrame l) (h3 : (restL l).all (· == 255) = true) : openL m l = markS m (some (bodyL l)) := if_pos ⟨h1, h2, h3⟩
theorem openL_no {m : Nat} {l : List Nat} (h : ¬ (pageOk l.length ∧ isFrame l ∧ (restL l).all (· == 255) = true)) : openL m l = none := if_neg h
theorem open_any (a : Option Addr) (n cap m : Nat) (hm256 : m < 256) (l : List Nat) (w : World) (hg : Glb w) (hl : n = l.length) (hc : n ≤ cap) (hm : cap ≤ maxLen) (h256 : ∀ x ∈ l, x < 256) (hr : BRow w a l) :
    Calls Tryd.prog 26 #[.slice a n cap, .int .u8 m] w (OPost w (openL m l)) := by
  by_cases h1 : pageOk n
  · have h1' : pageOk l.length := by rw [← hl]; exact h1
    by_cases h2 : isFrame l
    · obtain ⟨b, off, rfl⟩ : ∃ b off, a = some ⟨b, off, none⟩ := by
        rcases hr with h | ⟨b, off, h, _⟩
        · have := h2.1
          rw [h] at this
          simp at this
        · exact ⟨b, off, h⟩
      cases h3 : (restL l).all (· == 255) with
      | true =>
        rw [openL_yes h1' h2 h3]
        exact open_go b off n cap m hm256 l w hg h1 hl hc hm h256 hr h2 h3
      | false =>
        rw [openL_no (fun h => by rw [h3] at h; exact absurd h.2.2 (by simp))]
        exact open_full b off n cap m l w hg h1 hl hc hm h256 hr h2 h3
    · rw [openL_no (fun h => h2 h.2.1)]
      exact open_no a n cap m l w hg h1 hl hc hm h256 hr h2
  · rw [openL_no (fun h => h1 (by rw [hl]; exact h.1))]
    exact open_page a n cap m w hg h1
end Go.Proofs.YtdhbhjfpjmmonaaDoor
