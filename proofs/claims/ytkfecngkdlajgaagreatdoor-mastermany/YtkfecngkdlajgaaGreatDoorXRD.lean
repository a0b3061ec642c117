/-
  The master's reader: a view of frames, and what was wrong first.
  The reader: a superblock, a record.
  A log's frames as the reader sees them.
-/
import Derived.Test.YtkfecngkdlajgaaGreatDoorXRA
import Derived.Test.YtkfecngkdlajgaaGreatDoorQH
import Derived.Test.YtkfecngkdlajgaaGreatDoorGA
import Derived.Test.YtkfecngkdlajgaaGreatDoorQE
import Derived.Deep.RegionWith
namespace Go.Proofs.YtkfecngkdlajgaaGreatDoor
open Go.RowKit Go.Extern.Stop Go.Stop Go.Extern
set_option maxRecDepth 10000

/-- A payload that lies beside the reader. -/
def XPl (n0 : Nat) (w : World) (rp : Nat) (v : Value) (p : List Nat) : Prop :=
  ∃ a c, v = .slice a p.length c ∧ BRow w a p ∧ p.length ≤ c ∧ c ≤ maxLen ∧ (∀ x ∈ p, x < 256) ∧ ∀ b o m, a = some ⟨b, o, m⟩ → b ≠ rp ∧ b < n0
theorem kept_cell {S : Nat → Prop} {w w' : World} (hk : Kept S w w') {p : Addr} {v : Value} (h : w.cell? p = some v) (hn : ¬ S p.block) : w'.cell? p = some v := by
  have hl := World.block_lt_of_cell? w p h
  simp only [World.cell?, hk.block p.block hl hn] at h ⊢
  exact h
theorem XPl.kept {n0 : Nat} {S : Nat → Prop} {w w' : World} {rp : Nat} {v : Value} {p : List Nat} (h : XPl n0 w rp v p) (hk : Kept S w w') (hS : ∀ k, S k → k = rp ∨ n0 ≤ k) : XPl n0 w' rp v p := by
  obtain ⟨a, c, rfl, hr, h1, h2, h4, h3⟩ := h
  refine ⟨a, c, rfl, ?_, h1, h2, h4, h3⟩
  rcases hr with h | ⟨b, off, rfl, hc⟩
  · exact .inl h
  · exact .inr ⟨b, off, rfl, fun i hi => kept_cell hk (hc i hi) (fun q => by have := h3 b off none rfl; have := hS b q; omega)⟩
theorem row_kept {S : Nat → Prop} {w w' : World} {a : Option Addr} {p : List Nat} (hr : BRow w a p) (hk : Kept S w w') (hn : ∀ b o m, a = some ⟨b, o, m⟩ → ¬ S b) : BRow w' a p := by
  rcases hr with h | ⟨b, off, rfl, hc⟩
  · exact .inl h
  · exact .inr ⟨b, off, rfl, fun i hi => kept_cell hk (hc i hi) (hn b off none rfl)⟩
/-- Frames that are to be taken yet. -/
def XFr (n0 : Nat) (w : World) (rp : Nat) (v : Value) (rest : List (List Nat)) : Prop :=
  ∃ a cap, v = .slice a rest.length cap ∧ rest.length ≤ cap ∧ cap ≤ maxLen ∧ (rest = [] ∨ ∃ g off, a = some ⟨g, off, none⟩ ∧ g ≠ rp ∧ g < n0 ∧ ∀ i p, rest[i]? = some p → ∃ (k : Int) (u : Value), w.cell? ⟨g, off + i * 2, none⟩ = some (.int .i64 k) ∧ w.cell? ⟨g, off + i * 2 + 1, none⟩ = some u ∧ XPl n0 w rp u p)
theorem XFr.kept {n0 : Nat} {S : Nat → Prop} {w w' : World} {rp : Nat} {v : Value} {rest : List (List Nat)} (h : XFr n0 w rp v rest) (hk : Kept S w w') (hS : ∀ k, S k → k = rp ∨ n0 ≤ k) : XFr n0 w' rp v rest := by
  obtain ⟨a, cap, rfl, h1, h2, h3⟩ := h
  refine ⟨a, cap, rfl, h1, h2, ?_⟩
  rcases h3 with h | ⟨g, off, rfl, hg, hgn, hc⟩
  · exact .inl h
  · refine .inr ⟨g, off, rfl, hg, hgn, fun i p hi => ?_⟩
    obtain ⟨k, u, c1, c2, c3⟩ := hc i p hi
    have hn : ¬ S g := fun q => by have := hS g q; omega
    exact ⟨k, u, kept_cell hk c1 hn, kept_cell hk c2 hn, c3.kept hk hS⟩
/-- The reader: the payloads left, the errno of what was wrong first. -/
def XRd (n0 : Nat) (w : World) (rp : Nat) (rest : List (List Nat)) (x : Int) : Prop :=
  ∃ v ev, Row w rp [v, ev] 125 ∧ XFr n0 w rp v rest ∧ ErX w ev x ∧ rp < n0 ∧ n0 ≤ w.heap.size
theorem ErX.keptR {w w' : World} {rp : Nat} {v : Value} {x : Int} {cs : List Value} (h : ErX w v x) (hr : Row w rp cs 125) (hk : Kept (fun k => k = rp) w w') : ErX w' v x := by
  rcases h with h | ⟨h0, B, what, h1, h2⟩
  · exact .inl h
  · exact .inr ⟨h0, B, what, h1, h2.kept hk (h2.ne hr (by decide))⟩
theorem XRd.later {n0 : Nat} {w w' : World} {rp : Nat} {rest : List (List Nat)} {x : Int} (h : XRd n0 w rp rest x) (hb : Below w.heap.size w w') : XRd n0 w' rp rest x := by
  obtain ⟨v, ev, h1, h2, h3, h4, h5⟩ := h
  exact ⟨v, ev, h1.later hb, h2.kept (S := fun _ => False) (.of_below hb) (fun k q => q.elim), h3.later hb, h4, Nat.le_trans h5 hb.size⟩
theorem XRd.setRec {n0 : Nat} {w : World} {rp : Nat} {rest : List (List Nat)} {x : Int} {B i : Nat} {cs : List Value} (v : Value) (h : XRd n0 w rp rest x) (hr : Row w B cs 40) (hB : n0 ≤ B) : XRd n0 (w.setCell ⟨B, i, none⟩ v) rp rest x := by
  obtain ⟨v1, ev, h1, h2, h3, h4, h5⟩ := h
  have hk : Kept (fun k => k = B) w (w.setCell ⟨B, i, none⟩ v) := Kept.setCell (S := fun k => k = B) (Kept.refl _ w) (p := ⟨B, i, none⟩) rfl _
  refine ⟨v1, ev, h1.kept hk (by show ¬ rp = B; omega), h2.kept hk (fun k q => by show k = rp ∨ n0 ≤ k; have q' : k = B := q; omega), ?_, h4, Nat.le_trans h5 hk.size⟩
  rcases h3 with h | ⟨h0, C, what, e1, e2⟩
  · exact .inl h
  · exact .inr ⟨h0, C, what, e1, e2.kept hk (e2.ne hr (by decide))⟩
theorem ErX.nil {w : World} {v : Value} {x : Int} (h : ErX w v x) : (x = 0 ∧ v = .nilIface) ∨ (x ≠ 0 ∧ ∃ t u, v = .iface t u) := by
  rcases h with h | ⟨h0, B, what, h1, _⟩
  · exact .inl h
  · exact .inr ⟨h0, _, _, h1⟩
theorem more_any (rp : Nat) (rest : List (List Nat)) (x : Int) (n0 : Nat) (w : World) (h : XRd n0 w rp rest x) :
    Calls Tryz.prog 61 #[.pointer (some ⟨rp, 0, none⟩)] w fun e w' => e = .returned (.bool (decide (x = 0 ∧ rest ≠ []))) ∧ w = w' := by
  obtain ⟨v, ev, hr, ⟨a, cap, rfl, hl1, hl2, _⟩, he, _, _⟩ := h
  have c0 := hr.cell (i := 0) rfl
  have c1 := hr.cell (i := 1) rfl
  have hn : (rest ≠ []) ↔ 0 < rest.length := by cases rest <;> simp
  rcases he.nil with ⟨rfl, rfl⟩ | ⟨h0, t, u, rfl⟩
  · by_cases h : 0 < rest.length
    · rw [decide_eq_true (show ((0 : Int) = 0 ∧ rest ≠ []) from ⟨rfl, hn.2 h⟩)]
      clear hn he hr
      go_enter Tryz.func61, Tryz.ntmps61
      go_wp2
      go_ret
      exact ⟨rfl, rfl⟩
    · rw [decide_eq_false (show ¬ ((0 : Int) = 0 ∧ rest ≠ []) from fun q => h (hn.1 q.2))]
      clear hn he hr
      go_enter Tryz.func61, Tryz.ntmps61
      go_wp2
      go_ret
      exact ⟨rfl, rfl⟩
  · rw [decide_eq_false (show ¬ (x = 0 ∧ rest ≠ []) from fun q => h0 q.1)]
    clear hn he hr h0
    go_enter Tryz.func61, Tryz.ntmps61
    go_wp2
    go_ret
    exact ⟨rfl, rfl⟩
theorem xnext_no (rp : Nat) (rest : List (List Nat)) (x : Int) (n0 : Nat) (w : World) (h : XRd n0 w rp rest x) (hn : ¬ (x = 0 ∧ rest ≠ [])) :
    Calls Tryz.prog 99 #[.pointer (some ⟨rp, 0, none⟩)] w fun e w' => e = .returned (.slice none 0 0) ∧ w = w' := by
  have kM := more_any rp rest x n0 w h
  rw [decide_eq_false hn] at kM
  clear h hn
  go_enter Tryz.func99, Tryz.ntmps99
  go_wp2_with (go_at_call 61; refine kM.mono ?_; rintro e w1 ⟨rfl, rfl⟩)
  go_ret
  exact ⟨rfl, rfl⟩
set_option maxHeartbeats 4000000 in
theorem xnext_go (rp : Nat) (p : List Nat) (rest : List (List Nat)) (n0 : Nat) (w : World) (h : XRd n0 w rp (p :: rest) 0) :
    Calls Tryz.prog 99 #[.pointer (some ⟨rp, 0, none⟩)] w fun e w' => ∃ v, e = .returned v ∧ XPl n0 w' rp v p ∧ XRd n0 w' rp rest 0 ∧ Kept (fun k => k = rp) w w' := by
  have kM := more_any rp (p :: rest) 0 n0 w h
  rw [decide_eq_true (show ((0 : Int) = 0 ∧ p :: rest ≠ []) from ⟨rfl, by simp⟩)] at kM
  obtain ⟨v, ev, hr, ⟨a, cap, rfl, hl1, hl2, hc⟩, he, hrp, hsz⟩ := h
  rcases hc with hc | ⟨g, off, rfl, hg, hgn, hc⟩
  · cases hc
  obtain ⟨k0, u, c1, c2, hp⟩ := hc 0 p rfl
  have f0 := hr.frozen 0
  have d0 := hr.cell (i := 0) rfl
  have HF : Hid (∀ a' cap', (rest = [] ∨ a' = some ⟨g, off + 2, none⟩) → cap' = cap - 1 → XPl n0 (w.setCell ⟨rp, 0, none⟩ (.slice a' rest.length cap')) rp u p ∧ XRd n0 (w.setCell ⟨rp, 0, none⟩ (.slice a' rest.length cap')) rp rest 0 ∧ Kept (fun k => k = rp) w (w.setCell ⟨rp, 0, none⟩ (.slice a' rest.length cap'))) := by
    intro a' cap' ha hcap
    have hk : Kept (fun k => k = rp) w (w.setCell ⟨rp, 0, none⟩ (.slice a' rest.length cap')) := Kept.setCell (S := fun k => k = rp) (Kept.refl _ w) (p := ⟨rp, 0, none⟩) rfl _
    have hS : ∀ k, (fun k => k = rp) k → k = rp ∨ n0 ≤ k := fun k q => .inl q
    refine ⟨hp.kept hk hS, ⟨.slice a' rest.length cap', ev, ?_, ?_, ErX.keptR he hr hk, hrp, Nat.le_trans hsz hk.size⟩, hk⟩
    · exact hr.set (i := 0) _ (by simp)
    · refine ⟨a', cap', rfl, by simp at hl1; omega, by omega, ?_⟩
      rcases ha with ha | ha
      · exact .inl ha
      · refine .inr ⟨g, off + 2, ha, hg, hgn, fun i q hi => ?_⟩
        obtain ⟨k1, u1, e1, e2, e3⟩ := hc (i + 1) q (by simpa using hi)
        refine ⟨k1, u1, kept_cell hk ?_ hg, kept_cell hk ?_ hg, e3.kept hk hS⟩
        · rw [show off + 2 + i * 2 = off + (i + 1) * 2 by omega]; exact e1
        · rw [show off + 2 + i * 2 + 1 = off + (i + 1) * 2 + 1 by omega]; exact e2
  obtain ⟨n, hn⟩ : ∃ n, n = rest.length := ⟨_, rfl⟩
  have HN : Hid (n = rest.length) := hn
  simp only [List.length_cons] at d0 hl1
  rw [← hn] at d0 hl1
  have hnn : n + 1 ≠ 0 := by omega
  unfold maxLen at hl2
  simp only [Nat.zero_mul, Nat.add_zero] at c1 c2
  obtain ⟨a1, c1', rfl, hp2⟩ := hp
  clear hr he hc hn hp2 hrp hsz hgn
  go_enter Tryz.func99, Tryz.ntmps99
  go_wp2_with (go_at_call 61; refine kM.mono ?_; rintro e w1 ⟨rfl, rfl⟩)
  · go_ret
    have h1 : cap = 1 := by assumption
    have hF := HF.out (some ⟨g, off, none⟩) 0 (.inl (List.eq_nil_of_length_eq_zero (by have := HN.out; omega))) (by omega)
    rw [← HN.out] at hF
    exact ⟨_, rfl, hF⟩
  · go_ret
    have hF := HF.out (some ⟨g, off + 2, none⟩) (cap - 1) (.inr rfl) rfl
    rw [← HN.out] at hF
    exact ⟨_, rfl, hF⟩
def wrg (x : Int) : Int := if x = 0 then 117 else x
theorem wrg_no {x : Int} (h : x ≠ 0) : wrg x = x := if_neg h
theorem xwrong_any (rp : Nat) (what : ByteArray) (rest : List (List Nat)) (x : Int) (n0 : Nat) (w : World) (h : XRd n0 w rp rest x) :
    Calls Tryz.prog 100 #[.pointer (some ⟨rp, 0, none⟩), .string what] w fun e w' => e = .returned (.tuple #[]) ∧ XRd n0 w' rp rest (wrg x) ∧ Kept (fun k => k = rp) w w' := by
  obtain ⟨v, ev, hr, hf, he, hrp, hsz⟩ := h
  have d1 := hr.cell (i := 1) rfl
  rcases he.nil with ⟨rfl, rfl⟩ | ⟨h0, t, u, rfl⟩
  · have HH : Hid (Row w rp [v, .nilIface] 125 ∧ XFr n0 w rp v rest ∧ rp < n0 ∧ n0 ≤ w.heap.size) := ⟨hr, hf, hrp, hsz⟩
    have kF := xfailed_any what 117
    clear hr hf he hrp hsz
    go_enter Tryz.func100, Tryz.ntmps100
    go_wp2_with (go_at_call 56; refine (kF _).mono ?_; rintro e w1 ⟨v1, rfl, he1, hb1⟩; obtain ⟨t1, u1, rfl⟩ : ∃ t u, v1 = .iface t u := (by rcases he1.nil with ⟨q, _⟩ | ⟨_, q⟩; exact absurd q (by decide); exact q); have HE := (show Hid (ErX w1 (.iface t1 u1) 117 ∧ Below w.heap.size w w1) from ⟨he1, hb1⟩); have hr1 := HH.out.1.later hb1; have f1 := hr1.frozen 1; have d11 := hr1.cell (i := 1) rfl; have HR1 := (show Hid (Row w1 rp [v, .nilIface] 125) from hr1); clear he1 hb1 hr1)
    go_end0
    have hk : Kept (fun k => k = rp) w1 (w1.setCell ⟨rp, 1, none⟩ (.iface t1 u1)) := Kept.setCell (S := fun k => k = rp) (Kept.refl _ w1) (p := ⟨rp, 1, none⟩) rfl _
    have hk0 : Kept (fun k => k = rp) w w1 := .of_below HE.out.2
    exact ⟨rfl, ⟨v, .iface t1 u1, HR1.out.set (i := 1) _ (by simp), (HH.out.2.1.kept hk0 (fun k q => .inl q)).kept hk (fun k q => .inl q), ErX.keptR HE.out.1 HR1.out hk, HH.out.2.2.1, Nat.le_trans HH.out.2.2.2 (Nat.le_trans hk0.size hk.size)⟩, hk0.trans hk⟩
  · have HH : Hid (XRd n0 w rp rest x ∧ x ≠ 0) := ⟨⟨v, _, hr, hf, he, hrp, hsz⟩, h0⟩
    clear hr hf he h0 hrp hsz
    go_enter Tryz.func100, Tryz.ntmps100
    go_wp2
    go_end0
    exact ⟨rfl, by rw [wrg_no HH.out.2]; exact HH.out.1, Kept.refl _ _⟩
end Go.Proofs.YtkfecngkdlajgaaGreatDoor
namespace Go.Proofs.YtkfecngkdlajgaaGreatDoor
open Go.RowKit Go.Extern.Stop Go.Stop Go.Extern
set_option maxRecDepth 10000

theorem equal_any (a : Option Addr) (cap : Nat) (l : List Nat) (b : Option Addr) (cap2 : Nat) (m : List Nat) (w : World) (hl : ∀ x ∈ l, x < 256) (hm : ∀ x ∈ m, x < 256) (ha : BRow w a l) (hb : BRow w b m) :
    Calls Tryz.prog 98 #[.slice a l.length cap, .slice b m.length cap2] w fun e w' => e = .returned (.bool (decide (l = m))) ∧ w = w' := by
  have h1 := conv_row cap ha
  have h2 := conv_row cap2 hb
  have HI : Hid (((bstr l).toList == (bstr m).toList) = decide (l = m)) := bstr_eq hl hm
  clear ha hb hl hm
  go_enter Tryz.func98, Tryz.ntmps98
  go_wp2
  go_ret
  exact ⟨ret_bool HI.out, rfl⟩
theorem super_go (rp : Nat) (a : Option Addr) (cap : Nat) (want p : List Nat) (rest : List (List Nat)) (n0 : Nat) (w : World) (h : XRd n0 w rp (p :: rest) 0) (hw : ∀ x ∈ want, x < 256) (ha : BRow w a want) (hne : ∀ b o m, a = some ⟨b, o, m⟩ → b ≠ rp) :
    Calls Tryz.prog 58 #[.pointer (some ⟨rp, 0, none⟩), .slice a want.length cap] w fun e w' => e = .returned (.tuple #[]) ∧ XRd n0 w' rp rest (if p = want then 0 else 117) ∧ Kept (fun k => k = rp) w w' := by
  have kN := xnext_go rp p rest n0 w h
  have HA : Hid (BRow w a want ∧ ∀ b o m, a = some ⟨b, o, m⟩ → b ≠ rp) := ⟨ha, hne⟩
  have HW : Hid (∀ x ∈ want, x < 256) := hw
  clear ha hne h hw
  by_cases hp : p = want
  · have HP := (show Hid (p = want) from hp)
    have hb : decide (p = want) = true := decide_eq_true hp
    rw [if_pos hp]
    clear hp
    go_enter Tryz.func58, Tryz.ntmps58
    go_wp2_with (first
      | (go_at_call 99; refine kN.mono ?_; rintro e w1 ⟨v, rfl, ⟨a1, c1, rfl, hr1, _, _, hb1, _⟩, hx1, hk1⟩; have kE := equal_any a1 c1 p a cap want w1 hb1 HW.out hr1 (row_kept HA.out.1 hk1 HA.out.2); rw [hb] at kE; have HX := (show Hid (XRd n0 w1 rp rest 0 ∧ Kept (fun k => k = rp) w w1) from ⟨hx1, hk1⟩); clear hr1 hb1 hx1 hk1 hb)
      | (go_at_call 98; refine kE.mono ?_; rintro e w2 ⟨rfl, rfl⟩))
    go_end0
    exact ⟨rfl, HX.out.1, HX.out.2⟩
  · have HP := (show Hid (p ≠ want) from hp)
    have hb : decide (p = want) = false := decide_eq_false hp
    rw [if_neg hp]
    clear hp
    go_enter Tryz.func58, Tryz.ntmps58
    go_wp2_with (first
      | (go_at_call 99; refine kN.mono ?_; rintro e w1 ⟨v, rfl, ⟨a1, c1, rfl, hr1, _, _, hb1, _⟩, hx1, hk1⟩; have kE := equal_any a1 c1 p a cap want w1 hb1 HW.out hr1 (row_kept HA.out.1 hk1 HA.out.2); rw [hb] at kE; have HX := (show Hid (XRd n0 w1 rp rest 0 ∧ Kept (fun k => k = rp) w w1) from ⟨hx1, hk1⟩); clear hr1 hb1 hx1 hk1 hb)
      | (go_at_call 98; refine kE.mono ?_; rintro e w2 ⟨rfl, rfl⟩)
      | (go_at_call 100; refine (xwrong_any rp _ rest 0 n0 _ HX.out.1).mono ?_; rintro e w3 ⟨rfl, hx3, hk3⟩; have HX3 := (show Hid (XRd n0 w3 rp rest 117 ∧ Kept (fun k => k = rp) w w3) from ⟨hx3, HX.out.2.trans hk3⟩); clear hx3 hk3))
    go_end0
    exact ⟨rfl, HX3.out.1, HX3.out.2⟩
theorem super_no (rp : Nat) (a : Option Addr) (cap : Nat) (want : List Nat) (n0 : Nat) (w : World) (h : XRd n0 w rp [] 0) (hw : ∀ x ∈ want, x < 256) (ha : BRow w a want) (h1 : want ≠ []) :
    Calls Tryz.prog 58 #[.pointer (some ⟨rp, 0, none⟩), .slice a want.length cap] w fun e w' => e = .returned (.tuple #[]) ∧ XRd n0 w' rp [] 117 ∧ Kept (fun k => k = rp) w w' := by
  have kN := xnext_no rp [] 0 n0 w h (fun q => q.2 rfl)
  have kE := equal_any none 0 [] a cap want w (by simp) hw (.inl rfl) ha
  rw [decide_eq_false (fun e => h1 e.symm)] at kE
  have HX := (show Hid (XRd n0 w rp [] 0) from h)
  clear ha h hw h1
  go_enter Tryz.func58, Tryz.ntmps58
  go_wp2_with (first
    | (go_at_call 99; refine kN.mono ?_; rintro e w1 ⟨rfl, rfl⟩)
    | (go_at_call 98; refine kE.mono ?_; rintro e w2 ⟨rfl, rfl⟩)
    | (go_at_call 100; refine (xwrong_any rp _ [] 0 n0 _ HX.out).mono ?_; rintro e w3 ⟨rfl, hx3, hk3⟩; have HX3 := (show Hid (XRd n0 w3 rp [] 117 ∧ Kept (fun k => k = rp) _ w3) from ⟨hx3, hk3⟩); clear hx3 hk3))
  go_end0
  exact ⟨rfl, HX3.out.1, HX3.out.2⟩
/-- A record's value, of its payload. -/
def recV (p : List Nat) : Value := .agg #[.int .u64 (Hd.M.getL ((p.drop 1).take 8) : Nat), .string (bstr (p.drop 9))]
def recV0 : Value := .agg #[.int .u64 0, .string ⟨#[]⟩]
theorem results_cell_one {fn : Func} {p : Tmp} {ty : TypeId} (h : fn.results = #[.cell p ty]) (tmps : Array Value) (P : Program) (w : World) :
    (results fn tmps).run P w = ((asAddr (tmps.getD p undef)).run P w).andThen fun a w₁ => (loadVar ty a).run P w₁ := by
  simp only [results, h]
  simp [Sem.run_bind, Result.andThen]
/-- The record's call as it stands behind its result's variable. -/
structure RcB (n0 : Nat) (w0 w : World) (rp : Nat) (rest : List (List Nat)) (x : Int) : Prop where
  rd : XRd n0 w rp rest x
  bx : Row w w0.heap.size [.int .u64 0, .string ⟨#[]⟩] 40
  kp : Kept (fun k => k = rp) w0 w
  lt : rp < w0.heap.size
  ge : n0 ≤ w0.heap.size
theorem RcB.new {n0 : Nat} {w : World} {rp : Nat} {rest : List (List Nat)} {x : Int} (h : XRd n0 w rp rest x) : RcB n0 w (w.alloc (.cells #[.int .u64 0, .string ⟨#[]⟩] 40)) rp rest x := by
  obtain ⟨_, _, hr, _, _, h1, h2⟩ := id h
  exact ⟨XRd.later h (below_new _ _), Row.new w [_, _] _, .of_below (below_new _ _), hr.lt, h2⟩
theorem RcB.step {n0 : Nat} {w0 w w1 : World} {rp : Nat} {rest rest1 : List (List Nat)} {x x1 : Int} (h : RcB n0 w0 w rp rest x) (hx : XRd n0 w1 rp rest1 x1) (hk : Kept (fun k => k = rp) w w1) : RcB n0 w0 w1 rp rest1 x1 :=
  ⟨hx, h.bx.kept hk (by have := h.lt; show ¬ _ = _; omega), h.kp.trans hk, h.lt, h.ge⟩
theorem RcB.cells {n0 : Nat} {w0 w : World} {rp : Nat} {rest : List (List Nat)} {x : Int} (h : RcB n0 w0 w rp rest x) :
    w.cell? ⟨w0.heap.size, 0, none⟩ = some (.int .u64 0) ∧ w.cell? ⟨w0.heap.size, 1, none⟩ = some (.string ⟨#[]⟩) ∧ w.frozen? ⟨w0.heap.size, 0, none⟩ = false ∧ w.frozen? ⟨w0.heap.size, 1, none⟩ = false :=
  ⟨h.bx.cell (i := 0) rfl, h.bx.cell (i := 1) rfl, h.bx.frozen 0, h.bx.frozen 1⟩
theorem RcB.fin {n0 : Nat} {w0 w : World} {rp : Nat} {rest : List (List Nat)} {x : Int} (h : RcB n0 w0 w rp rest x) (u v : Value) :
    XRd n0 ((w.setCell ⟨w0.heap.size, 0, none⟩ u).setCell ⟨w0.heap.size, 1, none⟩ v) rp rest x ∧ Kept (fun k => k = rp) w0 ((w.setCell ⟨w0.heap.size, 0, none⟩ u).setCell ⟨w0.heap.size, 1, none⟩ v) := by
  have hr1 := h.bx.set (i := 0) u (by simp)
  exact ⟨(h.rd.setRec u h.bx h.ge).setRec v hr1 h.ge, (h.kp.setNew (p := ⟨w0.heap.size, 0, none⟩) (Nat.le_refl _) u).setNew (p := ⟨w0.heap.size, 1, none⟩) (Nat.le_refl _) v⟩
theorem record_no (rp : Nat) (rest : List (List Nat)) (x : Int) (n0 : Nat) (w : World) (h : XRd n0 w rp rest x) (hn : ¬ (x = 0 ∧ rest ≠ [])) :
    Calls Tryz.prog 60 #[.pointer (some ⟨rp, 0, none⟩)] w fun e w' => e = .returned recV0 ∧ XRd n0 w' rp rest (wrg x) ∧ Kept (fun k => k = rp) w w' := by
  obtain ⟨W, hW⟩ : ∃ W, W = w.alloc (.cells #[.int .u64 0, .string ⟨#[]⟩] 40) := ⟨_, rfl⟩
  have hx := RcB.new h
  rw [← hW] at hx
  have kN := xnext_no rp rest x n0 W hx.rd hn
  have HX1 := (show Hid (RcB n0 w W rp rest x) from hx)
  clear h hn hx
  go_enter Tryz.func60, Tryz.ntmps60
  go_wp2_with fail
  rw [← hW]
  clear hW
  go_wp2_with (first
    | (go_at_call 99; refine kN.mono ?_; rintro e w1 ⟨rfl, rfl⟩)
    | (go_at_call 100; refine (xwrong_any rp _ rest x n0 _ HX1.out.rd).mono ?_; rintro e w3 ⟨rfl, hx3, hk3⟩; have HX3 := (show Hid (RcB n0 w w3 rp rest (wrg x)) from HX1.out.step hx3 hk3); obtain ⟨r0, r1, r2, r3⟩ := HX3.out.cells; clear hx3 hk3))
  (try simp only [Exit.inBlock, Exit.then])
  obtain ⟨q1, q2⟩ := HX3.out.fin (.int .u64 0) (.string ⟨#[]⟩)
  refine bodyPost_ret (v := recV0) ?_ rfl ⟨rfl, q1, q2⟩
  rw [results_cell_one rfl]
  go_simp
  rfl
set_option maxHeartbeats 4000000 in
theorem record_bad (rp : Nat) (p : List Nat) (rest : List (List Nat)) (n0 : Nat) (w : World) (h : XRd n0 w rp (p :: rest) 0) (hp : isRec p = false) :
    Calls Tryz.prog 60 #[.pointer (some ⟨rp, 0, none⟩)] w fun e w' => e = .returned recV0 ∧ XRd n0 w' rp rest 117 ∧ Kept (fun k => k = rp) w w' := by
  obtain ⟨W, hW⟩ : ∃ W, W = w.alloc (.cells #[.int .u64 0, .string ⟨#[]⟩] 40) := ⟨_, rfl⟩
  have hx := RcB.new h
  rw [← hW] at hx
  have kN := xnext_go rp p rest n0 W hx.rd
  have HX0 := (show Hid (RcB n0 w W rp (p :: rest) 0) from hx)
  have hcase : (p.length < 9) ∨ (9 ≤ p.length ∧ 521 < p.length) ∨ (9 ≤ p.length ∧ p.length ≤ 521 ∧ p.getD 0 0 ≠ 82) := by
    unfold isRec at hp
    by_cases q1 : 9 ≤ p.length
    · by_cases q2 : p.length ≤ 521
      · refine .inr (.inr ⟨q1, q2, fun q3 => ?_⟩)
        rw [decide_eq_true q1, decide_eq_true q2, decide_eq_true q3] at hp
        cases hp
      · exact .inr (.inl ⟨q1, by omega⟩)
    · exact .inl (by omega)
  obtain ⟨n, hn⟩ : ∃ n, n = p.length := ⟨_, rfl⟩
  obtain ⟨x0, hx0⟩ : ∃ x0 : Nat, x0 = p.getD 0 0 := ⟨_, rfl⟩
  rw [← hn, ← hx0] at hcase
  have HN := (show Hid (n = p.length ∧ x0 = p.getD 0 0) from ⟨hn, hx0⟩)
  clear h hp hn hx0 hx
  rcases hcase with h1 | ⟨h1, h2⟩ | ⟨h1, h2, h3⟩
  · go_enter Tryz.func60, Tryz.ntmps60
    go_wp2_with fail
    rw [← hW]
    clear hW
    go_wp2_with (first
      | (go_at_call 99; refine kN.mono ?_; rintro e w1 ⟨v, rfl, ⟨a1, c1, rfl, hr1, _, _, hb1, _⟩, hx1, hk1⟩; rw [← HN.out.1]; have HX1 := (show Hid (RcB n0 w w1 rp rest 0) from HX0.out.step hx1 hk1); clear hr1 hb1 hx1 hk1)
      | (go_at_call 100; refine (xwrong_any rp _ rest 0 n0 _ HX1.out.rd).mono ?_; rintro e w3 ⟨rfl, hx3, hk3⟩; have HX3 := (show Hid (RcB n0 w w3 rp rest 117) from HX1.out.step hx3 hk3); obtain ⟨r0, r1, r2, r3⟩ := HX3.out.cells; clear hx3 hk3))
    (try simp only [Exit.inBlock, Exit.then])
    obtain ⟨q1, q2⟩ := HX3.out.fin (.int .u64 0) (.string ⟨#[]⟩)
    refine bodyPost_ret (v := recV0) ?_ rfl ⟨rfl, q1, q2⟩
    rw [results_cell_one rfl]
    go_simp
    rfl
  · go_enter Tryz.func60, Tryz.ntmps60
    go_wp2_with fail
    rw [← hW]
    clear hW
    go_wp2_with (first
      | (go_at_call 99; refine kN.mono ?_; rintro e w1 ⟨v, rfl, ⟨a1, c1, rfl, hr1, _, _, hb1, _⟩, hx1, hk1⟩; rw [← HN.out.1]; have HX1 := (show Hid (RcB n0 w w1 rp rest 0) from HX0.out.step hx1 hk1); clear hr1 hb1 hx1 hk1)
      | (go_at_call 100; refine (xwrong_any rp _ rest 0 n0 _ HX1.out.rd).mono ?_; rintro e w3 ⟨rfl, hx3, hk3⟩; have HX3 := (show Hid (RcB n0 w w3 rp rest 117) from HX1.out.step hx3 hk3); obtain ⟨r0, r1, r2, r3⟩ := HX3.out.cells; clear hx3 hk3))
    (try simp only [Exit.inBlock, Exit.then])
    obtain ⟨q1, q2⟩ := HX3.out.fin (.int .u64 0) (.string ⟨#[]⟩)
    refine bodyPost_ret (v := recV0) ?_ rfl ⟨rfl, q1, q2⟩
    rw [results_cell_one rfl]
    go_simp
    rfl
  · have h4 : ((x0 : Int) == 82) = false := by simp; omega
    have h5 : ¬ ((x0 : Int) = 82) := by omega
    have h6 : ((x0 : Int) != 82) = true := by simp; omega
    go_enter Tryz.func60, Tryz.ntmps60
    go_wp2_with fail
    rw [← hW]
    clear hW
    go_wp2_with (first
      | (go_at_call 99; refine kN.mono ?_; rintro e w1 ⟨v, rfl, ⟨a1, c1, rfl, hr1, _, _, hb1, _⟩, hx1, hk1⟩; obtain ⟨b1, o1, rfl, d0⟩ : ∃ b o, a1 = some ⟨b, o, none⟩ ∧ w1.cell? ⟨b, o, none⟩ = some (.int .u8 (x0 : Nat)) := (by rcases hr1 with q | ⟨b, o, q, hc⟩; (exfalso; have := HN.out.1; rw [q] at this; simp at this; omega); exact ⟨b, o, q, by have := hc 0 (by have := HN.out.1; omega); rw [HN.out.2]; simpa using this⟩); rw [← HN.out.1]; have HX1 := (show Hid (RcB n0 w w1 rp rest 0) from HX0.out.step hx1 hk1); clear hr1 hb1 hx1 hk1)
      | (go_at_call 100; refine (xwrong_any rp _ rest 0 n0 _ HX1.out.rd).mono ?_; rintro e w3 ⟨rfl, hx3, hk3⟩; have HX3 := (show Hid (RcB n0 w w3 rp rest 117) from HX1.out.step hx3 hk3); obtain ⟨r0, r1, r2, r3⟩ := HX3.out.cells; clear hx3 hk3))
    (try simp only [Exit.inBlock, Exit.then])
    obtain ⟨q1, q2⟩ := HX3.out.fin (.int .u64 0) (.string ⟨#[]⟩)
    refine bodyPost_ret (v := recV0) ?_ rfl ⟨rfl, q1, q2⟩
    rw [results_cell_one rfl]
    go_simp
    rfl
set_option maxHeartbeats 4000000 in
theorem record_yes (rp : Nat) (p : List Nat) (rest : List (List Nat)) (n0 : Nat) (w : World) (h : XRd n0 w rp (p :: rest) 0) (hp : isRec p = true) :
    Calls Tryz.prog 60 #[.pointer (some ⟨rp, 0, none⟩)] w fun e w' => e = .returned (recV p) ∧ XRd n0 w' rp rest 0 ∧ Kept (fun k => k = rp) w w' := by
  obtain ⟨W, hW⟩ : ∃ W, W = w.alloc (.cells #[.int .u64 0, .string ⟨#[]⟩] 40) := ⟨_, rfl⟩
  have hx := RcB.new h
  rw [← hW] at hx
  have kN := xnext_go rp p rest n0 W hx.rd
  have HX0 := (show Hid (RcB n0 w W rp (p :: rest) 0) from hx)
  obtain ⟨g1, g2, g3⟩ : 9 ≤ p.length ∧ p.length ≤ 521 ∧ p.getD 0 0 = 82 := by
    unfold isRec at hp
    simp only [Bool.and_eq_true, decide_eq_true_eq] at hp
    exact ⟨hp.1.1, hp.1.2, hp.2⟩
  obtain ⟨n, hn⟩ : ∃ n, n = p.length := ⟨_, rfl⟩
  rw [← hn] at g1 g2
  have HN := (show Hid (n = p.length ∧ p.getD 0 0 = 82) from ⟨hn, g3⟩)
  clear h hp hn g3 hx
  obtain ⟨X, hX⟩ : ∃ X, X = Hd.M.getL ((p.drop 1).take 8) := ⟨_, rfl⟩
  obtain ⟨T, hT⟩ : ∃ T, T = bstr (p.drop 9) := ⟨_, rfl⟩
  have HXT := (show Hid (X = Hd.M.getL ((p.drop 1).take 8) ∧ T = bstr (p.drop 9) ∧ recV p = .agg #[.int .u64 (X : Nat), .string T]) from ⟨hX, hT, by rw [hX, hT]; rfl⟩)
  rw [HXT.out.2.2]
  clear hX hT
  go_enter Tryz.func60, Tryz.ntmps60
  go_wp2_with fail
  rw [← hW]
  clear hW
  go_wp2_with (first
    | (go_at_call 99; refine kN.mono ?_; rintro e w1 ⟨v, rfl, ⟨a1, c1, rfl, hr1, hc1, hc2, hb1, _⟩, hx1, hk1⟩; obtain ⟨b1, o1, rfl, d0⟩ : ∃ b o, a1 = some ⟨b, o, none⟩ ∧ w1.cell? ⟨b, o, none⟩ = some (.int .u8 82) := (by rcases hr1 with q | ⟨b, o, q, hc⟩; (exfalso; have := HN.out.1; rw [q] at this; simp at this; omega); exact ⟨b, o, q, by have := hc 0 (by have := HN.out.1; omega); rw [HN.out.2] at this; simpa using this⟩); have HC1 := (show Hid (∀ W2, Below w1.heap.size w1 W2 → BRow W2 (some ⟨b1, o1, none⟩) p ∧ (∀ x ∈ p, x < 256)) from fun W2 hb => ⟨hr1.later hb, hb1⟩); rw [← HN.out.1] at hc1 ⊢; have HX1 := (show Hid (RcB n0 w w1 rp rest 0) from HX0.out.step hx1 hk1); obtain ⟨r0, r1, r2, r3⟩ := HX1.out.cells; clear hr1 hb1 hx1 hk1))
  have HB := HC1.out _ (Below.refl _ w1).drew
  have kG : Calls Tryz.prog 101 #[.slice (some ⟨b1, o1 + 1, none⟩) 8 (c1 - 1)] w1.drew fun e w' => e = .returned (.int .u64 (X : Nat)) ∧ w1.drew = w' := by
    have hl : ((p.drop 1).take 8).length = 8 := by simp only [List.length_take, List.length_drop]; have := HN.out.1; omega
    have := Hd.get_any (some ⟨b1, o1 + 1, none⟩) (c1 - 1) ((p.drop 1).take 8) w1.drew (by rw [hl]; unfold maxLen; omega) (fun x hx => HB.2 x (List.mem_of_mem_drop (List.mem_of_mem_take hx))) (Hd.BRow.sub HB.1)
    rw [hl, List.take_of_length_le (Nat.le_of_eq hl), ← HXT.out.1] at this
    exact this
  have HCV : ∀ a cap', (n = 9 ∨ a = some ⟨b1, o1 + 9, none⟩) → (convert 56 9 (.slice a (n - 9) cap')).run Tryz.prog w1.drew = .ok (.string T) w1.drew := by
    intro a cap' ha
    have hl : (p.drop 9).length = n - 9 := by rw [List.length_drop, HN.out.1]
    have := conv_row (w := w1.drew) (a := a) (l := p.drop 9) cap' (by
      rcases ha with ha | ha
      · exact .inl (List.drop_eq_nil_of_le (by have := HN.out.1; omega))
      · rw [ha]
        have := Hd.BRow.sub (i := 9) (j := p.length) HB.1
        rw [List.take_of_length_le (by simp)] at this
        exact this)
    rw [hl, ← HXT.out.2.1] at this
    exact this
  have c0 : ¬ c1 = 1 := by omega
  unfold maxLen at hc2
  by_cases h9 : c1 = 9
  · have hn9 : n = 9 := by omega
    have cv := HCV (some ⟨b1, o1, none⟩) 0 (.inl hn9)
    have HC9 := (show Hid (c1 = 9) from h9)
    subst hn9
    subst h9
    clear HCV HB
    go_region_with (first
      | (go_at_call 101; refine kG.mono ?_; rintro e w5 ⟨rfl, rfl⟩))
    all_goals
      go_wp2_with fail
      (try simp only [Exit.inBlock, Exit.then])
      obtain ⟨q1, q2⟩ := HX1.out.fin (.int .u64 (X : Nat)) (.string T)
      refine bodyPost_ret (v := .agg #[.int .u64 (X : Nat), .string T]) ?_ rfl ⟨rfl, q1.later (Below.refl _ _).drew, q2.drew⟩
      rw [results_cell_one rfl]
      go_simp
  · have cv := HCV (some ⟨b1, o1 + 9, none⟩) (c1 - 9) (.inr rfl)
    clear HCV HB
    go_region_with (first
      | (go_at_call 101; refine kG.mono ?_; rintro e w5 ⟨rfl, rfl⟩))
    all_goals
      go_wp2_with fail
      (try simp only [Exit.inBlock, Exit.then])
      obtain ⟨q1, q2⟩ := HX1.out.fin (.int .u64 (X : Nat)) (.string T)
      refine bodyPost_ret (v := .agg #[.int .u64 (X : Nat), .string T]) ?_ rfl ⟨rfl, q1.later (Below.refl _ _).drew, q2.drew⟩
      rw [results_cell_one rfl]
      go_simp
end Go.Proofs.YtkfecngkdlajgaaGreatDoor
namespace Go.Proofs.YtkfecngkdlajgaaGreatDoor
open Go.RowKit Go.Extern.Stop Go.Stop Go.Extern
set_option maxRecDepth 10000

theorem fz_len (q : Fm × Value) : (fzCells q).length = 2 := rfl
theorem owns_pl {n0 rp base : Nat} {w : World} {v : Value} {p : List Nat} (h : w.ownsRow base 5 1 v p.length (p.map u8v)) (hp : ∀ x ∈ p, x < 256) (h1 : w.heap.size ≤ rp) (h2 : rp < n0) : XPl n0 w rp v p := by
  have hb := h
  obtain ⟨a, c, rfl, hr, hc, hm⟩ := owns_row h
  refine ⟨a, c, rfl, hr, hc, hm, hp, fun b o m e => ?_⟩
  have : b < w.heap.size := by
    subst e
    obtain ⟨_, cs, r⟩ := lown_row hb (g := b) rfl
    exact r.lt
  omega
theorem FBk.view {base n0 rp : Nat} {w : World} {v : Value} {fs : List Fm} (h : FBk base w v fs) (hp : ∀ x ∈ fs, ∀ y ∈ x.2, y < 256) (h1 : w.heap.size ≤ rp) (h2 : rp < n0) : XFr n0 w rp v (fs.map (·.2)) := by
  obtain ⟨vs, hl, ho, hq⟩ := h
  rcases ho.2 with ⟨rfl, hn⟩ | ⟨g, cap, cur, rfl, hbg, hgg, hnc, hcm, hcs, htake⟩
  · have : fs = [] := List.eq_nil_of_length_eq_zero hn
    subst this
    exact ⟨none, 0, rfl, Nat.le_refl _, by decide, .inl rfl⟩
  · have hg : g < w.heap.size := (Array.getElem?_eq_some_iff.1 hgg).1
    refine ⟨_, cap, by rw [List.length_map], by rw [List.length_map]; exact hnc, hcm, .inr ⟨g, 0, rfl, by omega, by omega, fun i p hi => ?_⟩⟩
    rw [List.getElem?_map] at hi
    obtain ⟨x, hx, rfl⟩ := Option.map_eq_some_iff.1 hi
    have hil := (List.getElem?_eq_some_iff.1 hx).1
    have hiv : i < vs.length := by omega
    have hz : (fs.zip vs)[i]? = some (x, vs[i]) := by
      rw [List.getElem?_zip_eq_some]
      exact ⟨hx, by simp⟩
    have hm : (x, vs[i]) ∈ fs.zip vs := List.mem_of_getElem? hz
    have k0 := flat_get fzCells 2 fz_len 0 (by decide) _ i _ hz
    have k1 := flat_get fzCells 2 fz_len 1 (by decide) _ i _ hz
    refine ⟨(x.1 : Nat), vs[i], ?_, ?_, owns_pl (hq _ hm) (hp x (List.mem_of_getElem? hx)) h1 h2⟩
    · rw [Nat.zero_add, ho.cellAt (i * 2) (by omega)]
      simpa [fzCells] using k0
    · rw [Nat.zero_add, ho.cellAt (i * 2 + 1) (by omega)]
      simpa [fzCells] using k1
end Go.Proofs.YtkfecngkdlajgaaGreatDoor
