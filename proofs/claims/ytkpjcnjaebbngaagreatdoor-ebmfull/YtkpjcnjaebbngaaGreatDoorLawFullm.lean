/-
  For all geometries, logical blocks and bytes: EbmFull answers true (a logical block takes just as many pages as it has, then ENOSPC, whatever the others have), and leaves its arguments as they were; given that the two variables that it reaches hold what their initialisers lay (the card ties them). No other condition.
-/
import Derived.Test.YtkpjcnjaebbngaaGreatDoorKS
import Derived.Test.YtkpjcnjaebbngaaGreatDoorKT
namespace Go.Proofs.YtkpjcnjaebbngaaGreatDoor.ebmFull
open Go.ChangeShapes Go.WideShapes Go.ChangeAt Go.RowKit
set_option maxRecDepth 10000

set_option maxHeartbeats 8000000 in
theorem walk_no (b p z r leb : Int) (a : Option Addr) (n cap : Nat) (w : World) (hg : Hd.Glb w) (ht : Typed w) (hR : rightB b p z r = false) :
    Calls Tryz.prog 7 #[.agg #[.int .i64 b, .int .i64 p, .int .i64 z, .int .i64 r], .int .i64 leb, .slice a n cap] w fun e w' => e = .returned (.bool true) ∧ Below w.heap.size w w' := by
  have HG : Hid (Hd.Glb w ∧ Typed w) := ⟨hg, ht⟩
  have cN := fun W => new_c0 b p z r W hR
  have hb0 := below_new w (.cells #[.int .i64 b, .int .i64 p, .int .i64 z, .int .i64 r] 23)
  have HB0 : Hid (Below w.heap.size w (w.alloc (.cells #[.int .i64 b, .int .i64 p, .int .i64 z, .int .i64 r] 23))) := hb0
  clear hg ht hR hb0
  go_enter Tryz.func7, Tryz.ntmps7
  go_wp2_with (first
    | (go_at_call 12; refine (cN _).mono ?_; rintro e w1 ⟨rfl, hb1⟩; have HB1 : Hid (Below w.heap.size w w1) := Below.after HB0.out hb1; clear hb1)
    | (go_at_call 11; refine (alive_any _ (HG.out.1.later HB1.out) (HG.out.2.later HB1.out)).mono ?_; rintro e w6 ⟨rfl, hb6⟩; have HB6 : Hid (Below w.heap.size w w6) := Below.after HB1.out hb6; clear hb6))
  go_ret
  exact ⟨rfl, HB6.out⟩

theorem lebs_go {base t : Nat} {w0 : World} {gz : Nat} {W : World} {m : Mg} {c : CS} {P : List (List (List Nat))} {f : Int → Option (List (List Nat))} (h : Al base t w0 gz W m c P f) :
    Calls Tryz.prog 29 #[.pointer (some ⟨m.p, 0, none⟩)] W fun e w' => e = .returned (.int .i64 ((c.gb : Int) - c.gr - 2)) ∧ Below W.heap.size W w' := by
  have := mlebs_any h.ms.ml
  rw [h.ms.lebs] at this
  exact this
theorem pages_go {base t : Nat} {w0 : World} {gz : Nat} {W : World} {m : Mg} {c : CS} {P : List (List (List Nat))} {f : Int → Option (List (List Nat))} (h : Al base t w0 gz W m c P f) :
    Calls Tryz.prog 30 #[.pointer (some ⟨m.p, 0, none⟩)] W fun e w' => e = .returned (.int .i64 ((c.gp : Int) - 2)) ∧ Below W.heap.size W w' :=
  mpages_any h.ms.ml (by have := h.ms.rp.rb.geo; omega)
/-- What Format of a new chip leaves. -/
structure Beg (w0 : World) (gb gp gz gr : Nat) (w : World) (m : Mg) (c0 c : CS) (P : List (List (List Nat))) : Prop where
  al : Al w0.heap.size 1 w0 c0.gz w m c P (fun _ => none)
  gm : Gm c0 c
  geo : c0.gb = gb ∧ c0.gp = gp ∧ c0.gz = gz ∧ c0.gr = gr
theorem Beg.later {w0 : World} {gb gp gz gr : Nat} {w w' : World} {m : Mg} {c0 c : CS} {P : List (List (List Nat))} (h : Beg w0 gb gp gz gr w m c0 c P) (hb : Below w.heap.size w w') : Beg w0 gb gp gz gr w' m c0 c P := ⟨h.al.later hb, h.gm, h.geo⟩
theorem Beg.fu {w0 : World} {gb gp gz gr : Nat} {w : World} {m : Mg} {c0 c : CS} {P : List (List (List Nat))} (h : Beg w0 gb gp gz gr w m c0 c P) (leb : Int) : Fu w0.heap.size 0 1 w0 leb c0 w m c P (fun _ => none) := ⟨h.al, h.gm, rfl, fun _ _ => rfl⟩
theorem right_more {gb gp gz gr : Nat} (h : rightB gb gp gz gr = true) : 4 * gr ≤ gb := by
  have hg := right_geo h
  unfold rightB at h
  simp only [Bool.and_eq_true, decide_eq_true_eq] at h
  obtain ⟨h1, h2, _, h3, _, _, h4⟩ := h
  have e : wrap64 ((gb : Int).tdiv 4) = (gb : Int) / 4 := by
    rw [Int.tdiv_eq_ediv_of_nonneg (by omega)]
    unfold wrap64; omega
  rw [e] at h4
  omega
/-- The chip that New made. -/
structure Nc (w0 w : World) (c : CS) (gb gp gz gr : Nat) : Prop where
  lies : Lies w0.heap.size w c
  fr : Fresh c
  geo : c.gb = gb ∧ c.gp = gp ∧ c.gz = gz ∧ c.gr = gr
  bel : Below w0.heap.size w0 w
theorem nc_format {w0 w : World} {c : CS} {gb gp gz gr : Nat} (h : Nc w0 w c gb gp gz gr) (hg : Hd.Glb w0) (ht : Typed w0) :
    Calls Tryz.prog 13 #[.pointer (some ⟨c.p, 0, none⟩)] w fun e w' => ∃ m c' P, e = .returned (.tuple #[.pointer (some ⟨m.p, 0, none⟩), .int .i64 0]) ∧ Beg w0 gb gp gz gr w' m c c' P := by
  refine (format_al (w0 := w0) h.lies h.fr (hg.later h.bel) hg.lt (ht.later h.bel) ht.pos (.of_below h.bel)).mono ?_
  rintro e w' ⟨m, c', P, rfl, ha, hgm, _⟩
  exact ⟨m, c', P, rfl, ha, hgm, h.geo⟩
structure Env (X : World) (gb gp gz gr n : Nat) (leb : Int) (a : Option Addr) (l : List Nat) (c0 : CS) : Prop where
  row : BRow X a l
  lt : ∀ x ∈ l, x < 256
  len : n = l.length
  nz : n ≤ gz
  geo : c0.gb = gb ∧ c0.gp = gp ∧ c0.gz = gz ∧ c0.gr = gr
  leb0 : 0 ≤ leb
  leb1 : leb + gr + 2 < gb
  rt : rightB gb gp gz gr = true
/-- One logical block has k pages, the others none. -/
def Rn (X : World) (leb : Int) (c0 : CS) (p k t : Nat) (W : World) : Prop := ∃ m c P f, Fu X.heap.size k t X leb c0 W m c P f ∧ m.p = p
theorem Rn.later {X : World} {leb : Int} {c0 : CS} {p k t : Nat} {W W' : World} (h : Rn X leb c0 p k t W) (hb : Below W.heap.size W W') : Rn X leb c0 p k t W' := by
  obtain ⟨m, c, P, f, h, hp⟩ := h
  exact ⟨m, c, P, f, h.later hb, hp⟩
theorem Rn.below {X : World} {leb : Int} {c0 : CS} {p k t : Nat} {W : World} (h : Rn X leb c0 p k t W) : Below X.heap.size X W := by
  obtain ⟨m, c, P, f, h, hp⟩ := h
  exact h.al.below (Nat.le_refl _)
theorem rn_pages {X : World} {gb gp gz gr n : Nat} {leb : Int} {a : Option Addr} {l : List Nat} {c0 : CS} {p k t : Nat} {W : World} (E : Env X gb gp gz gr n leb a l c0) (h : Rn X leb c0 p k t W) :
    Calls Tryz.prog 30 #[.pointer (some ⟨p, 0, none⟩)] W fun e w' => e = .returned (.int .i64 ((gp : Int) - 2)) ∧ Rn X leb c0 p k t w' := by
  have h' := h
  obtain ⟨m, c, P, f, h, rfl⟩ := h
  refine (pages_go h.al).mono ?_
  rintro e w' ⟨rfl, hb⟩
  exact ⟨by rw [h.gm.gp, E.geo.2.1], h'.later hb⟩
theorem rn_lebs {X : World} {gb gp gz gr n : Nat} {leb : Int} {a : Option Addr} {l : List Nat} {c0 : CS} {p k t : Nat} {W : World} (E : Env X gb gp gz gr n leb a l c0) (h : Rn X leb c0 p k t W) :
    Calls Tryz.prog 29 #[.pointer (some ⟨p, 0, none⟩)] W fun e w' => e = .returned (.int .i64 ((gb : Int) - gr - 2)) ∧ Rn X leb c0 p k t w' := by
  have h' := h
  obtain ⟨m, c, P, f, h, rfl⟩ := h
  refine (lebs_go h.al).mono ?_
  rintro e w' ⟨rfl, hb⟩
  exact ⟨by rw [h.gm.gb, h.gm.gr, E.geo.1, E.geo.2.2.2], h'.later hb⟩
theorem rn_used {X : World} {leb : Int} {c0 : CS} {p k t : Nat} {W : World} (h : Rn X leb c0 p k t W) :
    Calls Tryz.prog 32 #[.pointer (some ⟨p, 0, none⟩), .int .i64 leb] W fun e w' => e = .returned (.int .i64 (k : Nat)) ∧ Rn X leb c0 p k t w' := by
  have h' := h
  obtain ⟨m, c, P, f, h, rfl⟩ := h
  refine (fu_used h).mono ?_
  rintro e w' ⟨rfl, hb⟩
  exact ⟨rfl, h'.later hb⟩
theorem rn_write {X : World} {gb gp gz gr n : Nat} {leb : Int} {a : Option Addr} {l : List Nat} {c0 : CS} {p k t dc : Nat} {W : World} (E : Env X gb gp gz gr n leb a l c0) (h : Rn X leb c0 p k t W) (hk : k + 2 < gp) (ht : t < 1000) :
    Calls Tryz.prog 26 #[.pointer (some ⟨p, 0, none⟩), .int .i64 leb, .slice a n dc] W fun e w' => e = .returned (.int .i64 0) ∧ Rn X leb c0 p (k + 1) (t + 1) w' := by
  obtain ⟨m, c, P, f, h, rfl⟩ := h
  have e1 := h.gm.gb
  have e2 := h.gm.gr
  have e3 := h.gm.gz
  have e4 := h.gm.gp
  have e5 := E.geo
  have e6 := E.leb1
  have e7 := E.nz
  have e8 := E.len
  have := fu_write h a l dc E.leb0 (by omega) E.row E.lt (Nat.le_refl _) (by omega) (by omega) ht
  rw [← E.len] at this
  refine this.mono ?_
  rintro e w' ⟨rfl, m', c', P', f', h', hp⟩
  exact ⟨rfl, m', c', P', f', h', hp⟩
theorem rn_full {X : World} {gb gp gz gr n : Nat} {leb : Int} {a : Option Addr} {l : List Nat} {c0 : CS} {p k t dc : Nat} {W : World} (E : Env X gb gp gz gr n leb a l c0) (h : Rn X leb c0 p k t W) (hk : k + 2 = gp) :
    Calls Tryz.prog 26 #[.pointer (some ⟨p, 0, none⟩), .int .i64 leb, .slice a n dc] W fun e w' => e = .returned (.int .i64 28) ∧ Rn X leb c0 p k t w' := by
  obtain ⟨m, c, P, f, h, rfl⟩ := h
  have e1 := h.gm.gb
  have e2 := h.gm.gr
  have e3 := h.gm.gz
  have e4 := h.gm.gp
  have e5 := E.geo
  have e6 := E.leb1
  have e7 := E.nz
  have e8 := E.len
  have e9 := right_geo E.rt
  have := fu_full h a l dc E.leb0 (by omega) (by omega) (by omega) (by omega)
  rw [← E.len] at this
  refine this.mono ?_
  rintro e w' ⟨rfl, m', c', P', f', h', hp⟩
  exact ⟨rfl, m', c', P', f', h', hp⟩
/-- Another logical block has one page. -/
def Ro (X : World) (o : Int) (c0 : CS) (p : Nat) (W : World) : Prop := ∃ t m c P f, Al X.heap.size t X c0.gz W m c P f ∧ m.p = p ∧ ((f o).getD []).length = 1
theorem rn_other {X : World} {gb gp gz gr n : Nat} {leb : Int} {a : Option Addr} {l : List Nat} {c0 : CS} {p k t dc : Nat} {W : World} (E : Env X gb gp gz gr n leb a l c0) (h : Rn X leb c0 p k t W) (ht : t < 1000) (o : Int) (h0 : 0 ≤ o) (h1 : o + gr + 2 < gb) (h2 : o ≠ leb) :
    Calls Tryz.prog 26 #[.pointer (some ⟨p, 0, none⟩), .int .i64 o, .slice a n dc] W fun e w' => e = .returned (.int .i64 0) ∧ Ro X o c0 p w' := by
  obtain ⟨m, c, P, f, h, rfl⟩ := h
  have e1 := h.gm.gb
  have e2 := h.gm.gr
  have e3 := h.gm.gz
  have e5 := E.geo
  have e7 := E.nz
  have e8 := E.len
  have := h.other o h2 a l dc h0 (by omega) E.row E.lt (Nat.le_refl _) (by omega) ht
  rw [← E.len] at this
  refine this.mono ?_
  rintro e w' ⟨rfl, m', c', P', f', h', hp, hf⟩
  exact ⟨rfl, _, m', c', P', f', h', hp, hf⟩
theorem ro_used {X : World} {o : Int} {c0 : CS} {p : Nat} {W : World} (h : Ro X o c0 p W) :
    Calls Tryz.prog 32 #[.pointer (some ⟨p, 0, none⟩), .int .i64 o] W fun e w' => e = .returned (.int .i64 1) ∧ Below X.heap.size X w' := by
  obtain ⟨t, m, c, P, f, h, rfl, hf⟩ := h
  have := used_go h.ms o
  rw [h.fn o, hf] at this
  refine this.mono ?_
  rintro e w' ⟨rfl, hb⟩
  exact ⟨rfl, (h.later hb).below (Nat.le_refl _)⟩
theorem other_ok {gb gr : Nat} {leb : Int} (h0 : 0 ≤ leb) (h1 : leb + gr + 2 < gb) (h2 : (gr : Int) + 4 ≤ gb) : 0 ≤ (leb + 1).tmod ((gb : Int) - gr - 2) ∧ (leb + 1).tmod ((gb : Int) - gr - 2) + gr + 2 < gb ∧ (leb + 1).tmod ((gb : Int) - gr - 2) ≠ leb := by
  rw [Int.tmod_eq_emod_of_nonneg (by omega)]
  by_cases h : leb + 1 < (gb : Int) - gr - 2
  · rw [Int.emod_eq_of_lt (by omega) h]
    omega
  · have : leb + 1 = (gb : Int) - gr - 2 := by omega
    rw [this, Int.emod_self]
    omega
set_option maxHeartbeats 8000000 in
theorem walk_long (gb gp gz gr : Nat) (leb : Int) (a : Option Addr) (n cap : Nat) (w : World) (hg : Hd.Glb w) (ht : Typed w) (hR : rightB gb gp gz gr = true) (hz : gz < n) :
    Calls Tryz.prog 7 #[.agg #[.int .i64 gb, .int .i64 gp, .int .i64 gz, .int .i64 gr], .int .i64 leb, .slice a n cap] w fun e w' => e = .returned (.bool true) ∧ Below w.heap.size w w' := by
  have HG : Hid (Hd.Glb w ∧ Typed w) := ⟨hg, ht⟩
  have cN := fun W => new_chip gb gp gz gr W hR
  have hz2 : (gz : Int) < (n : Int) := by omega
  obtain ⟨X, hX⟩ : ∃ X, X = w.alloc (.cells #[.int .i64 gb, .int .i64 gp, .int .i64 gz, .int .i64 gr] 23) := ⟨_, rfl⟩
  have HB0 : Hid (Below w.heap.size w X) := by rw [hX]; exact below_new w _
  have hx : Row X w.heap.size [.int .i64 gb, .int .i64 gp, .int .i64 gz, .int .i64 gr] 23 := by rw [hX]; exact Row.new w _ _
  have HX : Hid (Row X w.heap.size [.int .i64 gb, .int .i64 gp, .int .i64 gz, .int .i64 gr] 23) := hx
  have x0 := hx.cell (i := 0) rfl
  have x1 := hx.cell (i := 1) rfl
  have x2 := hx.cell (i := 2) rfl
  have x3 := hx.cell (i := 3) rfl
  clear hg ht hR hx hz
  go_enter Tryz.func7, Tryz.ntmps7
  go_wp2_with fail
  rw [← hX]
  clear hX
  go_wp2_with (first
    | (go_at_call 12; refine (cN _).mono ?_; rintro e w1 ⟨c0, rfl, _, _, _, _, _, _, hb1⟩; have HB1 : Hid (Below w.heap.size w w1) := Below.after HB0.out hb1; have y2 : w1.cell? ⟨w.heap.size, 2, none⟩ = some (.int .i64 gz) := (HX.out.later hb1).cell (i := 2) rfl; clear hb1 x0 x1 x2 x3)
    | (go_at_call 11; refine (alive_any _ (HG.out.1.later HB1.out) (HG.out.2.later HB1.out)).mono ?_; rintro e w6 ⟨rfl, hb6⟩; have HB6 : Hid (Below w.heap.size w w6) := Below.after HB1.out hb6; clear hb6))
  go_ret
  exact ⟨rfl, HB6.out⟩
set_option maxHeartbeats 8000000 in
theorem walk_out (gb gp gz gr : Nat) (leb : Int) (a : Option Addr) (n cap : Nat) (w : World) (hg : Hd.Glb w) (ht : Typed w) (hR : rightB gb gp gz gr = true) (hz : n ≤ gz) (hl : ¬ (0 ≤ leb ∧ leb + gr + 2 < gb)) :
    Calls Tryz.prog 7 #[.agg #[.int .i64 gb, .int .i64 gp, .int .i64 gz, .int .i64 gr], .int .i64 leb, .slice a n cap] w fun e w' => e = .returned (.bool true) ∧ Below w.heap.size w w' := by
  have HG : Hid (Hd.Glb w ∧ Typed w) := ⟨hg, ht⟩
  have cN := fun W => new_chip gb gp gz gr W hR
  have hz2 : ¬ (gz : Int) < (n : Int) := by omega
  have HR : Hid (rightB gb gp gz gr = true) := hR
  obtain ⟨X, hX⟩ : ∃ X, X = w.alloc (.cells #[.int .i64 gb, .int .i64 gp, .int .i64 gz, .int .i64 gr] 23) := ⟨_, rfl⟩
  have HB0 : Hid (Below w.heap.size w X) := by rw [hX]; exact below_new w _
  have hx : Row X w.heap.size [.int .i64 gb, .int .i64 gp, .int .i64 gz, .int .i64 gr] 23 := by rw [hX]; exact Row.new w _ _
  have HX : Hid (Row X w.heap.size [.int .i64 gb, .int .i64 gp, .int .i64 gz, .int .i64 gr] 23) := hx
  have x0 := hx.cell (i := 0) rfl
  have x1 := hx.cell (i := 1) rfl
  have x2 := hx.cell (i := 2) rfl
  have x3 := hx.cell (i := 3) rfl
  have HL : Hid (¬ (0 ≤ leb ∧ leb + gr + 2 < gb)) := hl
  clear hg ht hR hx hz hl
  by_cases hneg : leb < 0
  · go_enter Tryz.func7, Tryz.ntmps7
    go_wp2_with fail
    rw [← hX]
    clear hX
    go_wp2_with (first
      | (go_at_call 12; refine (cN _).mono ?_; rintro e w1 ⟨c0, rfl, q1, q2, q3, q4, q5, q6, hb1⟩; have HB1 : Hid (Nc X w1 c0 gb gp gz gr) := ⟨q1, q2, ⟨q3, q4, q5, q6⟩, hb1⟩; have y2 : w1.cell? ⟨w.heap.size, 2, none⟩ = some (.int .i64 gz) := (HX.out.later hb1).cell (i := 2) rfl; clear hb1 x0 x1 x2 x3 q1 q2 q3 q4 q5 q6)
      | (go_at_call 13; refine (nc_format HB1.out (HG.out.1.later HB0.out) (HG.out.2.later HB0.out)).mono ?_; rintro e w2 ⟨m, c1, P1, rfl, hA2⟩; have HA2 : Hid (Beg X gb gp gz gr w2 m c0 c1 P1) := hA2; clear hA2 y2)
      | (go_at_call 29; refine (lebs_go HA2.out.al).mono ?_; rintro e w3 ⟨rfl, hb3⟩; have HA3 : Hid (Beg X gb gp gz gr w3 m c0 c1 P1) := HA2.out.later hb3; clear hb3)
      | (go_at_call 26; refine (mwrite_no HA2.out.al.ms.ml leb a n cap (by unfold hasB; simp; omega)).mono ?_; rintro e w4 ⟨rfl, hb4⟩; have HB4 : Hid (Below w.heap.size w w4) := Below.after HB0.out (Below.after (HA2.out.al.below (Nat.le_refl _)) hb4); clear hb4)
      | (go_at_call 11; refine (alive_any _ (HG.out.1.later HB4.out) (HG.out.2.later HB4.out)).mono ?_; rintro e w6 ⟨rfl, hb6⟩; have HB6 : Hid (Below w.heap.size w w6) := Below.after HB4.out hb6; clear hb6))
    go_ret
    exact ⟨rfl, HB6.out⟩
  · have HNeg : Hid (¬ leb < 0) := hneg
    have n1 : ¬ leb < 0 := hneg
    clear hneg
    go_enter Tryz.func7, Tryz.ntmps7
    go_wp2_with fail
    rw [← hX]
    clear hX
    go_wp2_with (first
      | (go_at_call 12; refine (cN _).mono ?_; rintro e w1 ⟨c0, rfl, q1, q2, q3, q4, q5, q6, hb1⟩; have HB1 : Hid (Nc X w1 c0 gb gp gz gr) := ⟨q1, q2, ⟨q3, q4, q5, q6⟩, hb1⟩; have y2 : w1.cell? ⟨w.heap.size, 2, none⟩ = some (.int .i64 gz) := (HX.out.later hb1).cell (i := 2) rfl; clear hb1 x0 x1 x2 x3 q1 q2 q3 q4 q5 q6)
      | (go_at_call 13; refine (nc_format HB1.out (HG.out.1.later HB0.out) (HG.out.2.later HB0.out)).mono ?_; rintro e w2 ⟨m, c1, P1, rfl, hA2⟩; have HA2 : Hid (Beg X gb gp gz gr w2 m c0 c1 P1) := hA2; clear hA2 y2)
      | (go_at_call 29; refine (lebs_go HA2.out.al).mono ?_; rintro e w3 ⟨rfl, hb3⟩; have HA3 : Hid (Beg X gb gp gz gr w3 m c0 c1 P1) := HA2.out.later hb3; have n2 : (c1.gb : Int) - c1.gr - 2 ≤ leb := (by have := HL.out; have := HNeg.out; have := HA3.out.gm.gb; have := HA3.out.gm.gr; have := HA3.out.geo; omega); clear hb3)
      | (go_at_call 26; refine (mwrite_no HA3.out.al.ms.ml leb a n cap (by unfold hasB; rw [HA3.out.al.ms.lebs]; simp; omega)).mono ?_; rintro e w4 ⟨rfl, hb4⟩; have HB4 : Hid (Below w.heap.size w w4) := Below.after HB0.out (Below.after (HA3.out.al.below (Nat.le_refl _)) hb4); clear hb4)
      | (go_at_call 11; refine (alive_any _ (HG.out.1.later HB4.out) (HG.out.2.later HB4.out)).mono ?_; rintro e w6 ⟨rfl, hb6⟩; have HB6 : Hid (Below w.heap.size w w6) := Below.after HB4.out hb6; clear hb6))
    go_ret
    exact ⟨rfl, HB6.out⟩
set_option maxHeartbeats 8000000 in
theorem walk_go (gb gp gz gr : Nat) (leb : Int) (a : Option Addr) (n cap : Nat) (l : List Nat) (w : World) (hg : Hd.Glb w) (ht : Typed w) (hR : rightB gb gp gz gr = true) (h0 : BArg w a n cap l) (hz : n ≤ gz) (hl0 : 0 ≤ leb) (hl1 : leb + gr + 2 < gb) :
    Calls Tryz.prog 7 #[.agg #[.int .i64 gb, .int .i64 gp, .int .i64 gz, .int .i64 gr], .int .i64 leb, .slice a n cap] w fun e w' => e = .returned (.bool true) ∧ Below w.heap.size w w' := by
  have HG : Hid (Hd.Glb w ∧ Typed w) := ⟨hg, ht⟩
  have cN := fun W => new_chip gb gp gz gr W hR
  have hz2 : ¬ (gz : Int) < (n : Int) := by omega
  have HR : Hid (rightB gb gp gz gr = true) := hR
  obtain ⟨X, hX⟩ : ∃ X, X = w.alloc (.cells #[.int .i64 gb, .int .i64 gp, .int .i64 gz, .int .i64 gr] 23) := ⟨_, rfl⟩
  have HB0 : Hid (Below w.heap.size w X) := by rw [hX]; exact below_new w _
  have hx : Row X w.heap.size [.int .i64 gb, .int .i64 gp, .int .i64 gz, .int .i64 gr] 23 := by rw [hX]; exact Row.new w _ _
  have HX : Hid (Row X w.heap.size [.int .i64 gb, .int .i64 gp, .int .i64 gz, .int .i64 gr] 23) := hx
  have x0 := hx.cell (i := 0) rfl
  have x1 := hx.cell (i := 1) rfl
  have x2 := hx.cell (i := 2) rfl
  have x3 := hx.cell (i := 3) rfl
  have HL : Hid (0 ≤ leb ∧ leb + gr + 2 < gb) := ⟨hl0, hl1⟩
  have HD : Hid (BArg w a n cap l ∧ n ≤ gz) := ⟨h0, hz⟩
  have n1 : ¬ leb < 0 := by omega
  clear hg ht hR hx hz hl0 hl1 h0
  go_enter Tryz.func7, Tryz.ntmps7
  go_wp2_with fail
  rw [← hX]
  clear hX
  go_wp2_with (first
    | (go_at_call 12; refine (cN _).mono ?_; rintro e w1 ⟨c0, rfl, q1, q2, q3, q4, q5, q6, hb1⟩; have HB1 : Hid (Nc X w1 c0 gb gp gz gr) := ⟨q1, q2, ⟨q3, q4, q5, q6⟩, hb1⟩; have y2 : w1.cell? ⟨w.heap.size, 2, none⟩ = some (.int .i64 gz) := (HX.out.later hb1).cell (i := 2) rfl; clear hb1 x0 x1 x2 x3 q1 q2 q3 q4 q5 q6)
    | (go_at_call 13; refine (nc_format HB1.out (HG.out.1.later HB0.out) (HG.out.2.later HB0.out)).mono ?_; rintro e w2 ⟨m, c1, P1, rfl, hA2⟩; have HA2 : Hid (Beg X gb gp gz gr w2 m c0 c1 P1) := hA2; clear hA2 y2)
    | (go_at_call 29; refine (lebs_go HA2.out.al).mono ?_; rintro e w3 ⟨rfl, hb3⟩; have HA3 : Hid (Beg X gb gp gz gr w3 m c0 c1 P1) := HA2.out.later hb3; have n2 : ¬ (c1.gb : Int) - c1.gr - 2 ≤ leb := (by have := HL.out; have := HA3.out.gm.gb; have := HA3.out.gm.gr; have := HA3.out.geo; omega); clear hb3))
  have hG := right_geo HR.out
  have hM := right_more HR.out
  have hgm : (gp : Int) ≤ 64 ∧ 8 ≤ (gp : Int) := by omega
  have HE : Hid (Env X gb gp gz gr n leb a l c0) := ⟨HD.out.1.row.later HB0.out, HD.out.1.lt, HD.out.1.len_eq, HD.out.2, HA3.out.geo, HL.out.1, HL.out.2, HR.out⟩
  have HO : Hid (0 ≤ (wrap64 (leb + 1)).tmod ((gb : Int) - gr - 2) ∧ (wrap64 (leb + 1)).tmod ((gb : Int) - gr - 2) + gr + 2 < gb ∧ (wrap64 (leb + 1)).tmod ((gb : Int) - gr - 2) ≠ leb) := by
    have e : wrap64 (leb + 1) = leb + 1 := by have := HL.out; unfold wrap64; omega
    rw [e]
    exact other_ok HL.out.1 HL.out.2 (by omega)
  have hn0 : ¬ ((gb : Int) - gr - 2 = 0) := by omega
  have r0 : Rn X leb c0 m.p 0 1 w3 := ⟨m, c1, P1, _, HA3.out.fu leb, rfl⟩
  have HR0 : Hid (Rn X leb c0 m.p 0 1 w3) := r0
  clear r0
  go_loopw [10] (fun i wr => ∃ k : Nat, i = .int .i64 (k : Int) ∧ k + 2 ≤ gp ∧ Hid (Rn X leb c0 m.p k (k + 1) wr)) (fun i _ => gp - (intOf i).toNat)
  case atStart => exact ⟨0, rfl, by omega, HR0⟩
  case round =>
    obtain ⟨k, rfl, hk, HK⟩ := hrel
    by_cases hkl : k + 2 < gp
    · have hlt : (k : Int) < (gp : Int) - 2 := by omega
      have hk64 : (k : Int) ≤ 64 := by omega
      have hkk : ((k + 1 : Nat) : Int) = (k : Int) + 1 := by omega
      have HKL : Hid (k + 2 < gp) := hkl
      clear hkl
      go_wp2_with (first
        | (go_at_call 30; refine (rn_pages HE.out HK.out).mono ?_; rintro e v1 ⟨rfl, h1⟩; have HK1 : Hid (Rn X leb c0 m.p k (k + 1) v1) := h1; clear h1)
        | (go_at_call 26; refine (rn_write HE.out HK1.out HKL.out (by omega)).mono ?_; rintro e v2 ⟨rfl, h1⟩; have HK2 : Hid (Rn X leb c0 m.p (k + 1) (k + 1 + 1) v2) := h1; clear h1)
        | (go_at_call 32; refine (rn_used HK2.out).mono ?_; rintro e v3 ⟨rfl, h1⟩; have HK3 : Hid (Rn X leb c0 m.p (k + 1) (k + 1 + 1) v3) := h1; clear h1))
      go_roundw
      case rel => exact ⟨k + 1, by go_num, by have := HKL.out; omega, HK3⟩
      case measure => simp [intOf]; have := HKL.out; omega
    · have hke : k + 2 = gp := by omega
      have hlt : ¬ (k : Int) < (gp : Int) - 2 := by omega
      have hpk : (gp : Int) - 2 = (k : Int) := by omega
      have HKE : Hid (k + 2 = gp) := hke
      clear hkl hke
      go_wp2_with (first
        | (go_at_call 30; refine (rn_pages HE.out HK.out).mono ?_; rintro e v1 ⟨rfl, h1⟩; have HK1 : Hid (Rn X leb c0 m.p k (k + 1) v1) := h1; clear h1 HK)
        | (go_at_call 26; refine (rn_full HE.out HK1.out HKE.out).mono ?_; rintro e v2 ⟨rfl, h1⟩; have HK2 : Hid (Rn X leb c0 m.p k (k + 1) v2) := h1; clear h1 HK1)
        | (go_at_call 29; refine (rn_lebs HE.out HK2.out).mono ?_; rintro e v3 ⟨rfl, h1⟩; have HK3 : Hid (Rn X leb c0 m.p k (k + 1) v3) := h1; clear h1 HK2)
        | (go_at_call 32; refine (rn_used HK3.out).mono ?_; rintro e v4 ⟨rfl, h1⟩; have HK4 : Hid (Rn X leb c0 m.p k (k + 1) v4) := h1; clear h1 HK3)
        | (go_at_call 30; refine (rn_pages HE.out HK4.out).mono ?_; rintro e v5 ⟨rfl, h1⟩; have HK5 : Hid (Rn X leb c0 m.p k (k + 1) v5) := h1; clear h1 HK4)
        | (go_at_call 26; refine (rn_other HE.out HK5.out (by omega) _ HO.out.1 HO.out.2.1 HO.out.2.2).mono ?_; rintro e v6 ⟨rfl, h1⟩; have HK6 : Hid (Ro X _ c0 m.p v6) := h1; clear h1 HK5)
        | (go_at_call 32; refine (ro_used HK6.out).mono ?_; rintro e v7 ⟨rfl, h1⟩; have HB7 : Hid (Below w.heap.size w v7) := Below.after HB0.out h1; clear h1 HK6)
        | (go_at_call 11; refine (alive_any _ (HG.out.1.later HB7.out) (HG.out.2.later HB7.out)).mono ?_; rintro e v8 ⟨rfl, hb6⟩; have HB8 : Hid (Below w.heap.size w v8) := Below.after HB7.out hb6; clear hb6))
      go_ret
      exact ⟨rfl, HB8.out⟩
theorem walk (b p z r leb : Int) (a : Option Addr) (n cap : Nat) (l : List Nat) (w : World) (hg : Hd.Glb w) (ht : Typed w) (_ : -9223372036854775808 ≤ leb ∧ leb ≤ 9223372036854775807) (h0 : BArg w a n cap l) :
    Calls Tryz.prog 7 #[.agg #[.int .i64 b, .int .i64 p, .int .i64 z, .int .i64 r], .int .i64 leb, .slice a n cap] w fun e w' => e = .returned (.bool true) ∧ Below w.heap.size w w' := by
  cases h : rightB b p z r with
  | false => exact walk_no b p z r leb a n cap w hg ht h
  | true =>
    obtain ⟨gb, gp, gz, gr, rfl, rfl, rfl, rfl, g1, g2, g3, g4, g5, g6⟩ := right_nums h
    by_cases hz : n ≤ gz
    · by_cases hl : 0 ≤ leb ∧ leb + gr + 2 < gb
      · exact walk_go gb gp gz gr leb a n cap l w hg ht h h0 hz hl.1 hl.2
      · exact walk_out gb gp gz gr leb a n cap w hg ht h hz hl
    · exact walk_long gb gp gz gr leb a n cap w hg ht h (by omega)

set_option maxRecDepth 100000 in
theorem contract (H : Type) (enc : TypeId × Value → H) (W : World) (base : Nat) (args : Array Value) (ds gs : List (DataW H)) (before : List MemPlace)
    (hval : ∀ (j : Nat) t v, Tryz.f7.params[j]? = some t → args[j]? = some v → Value.okWide Tryz.prog W .any base t v)
    (hW : DataW.Whole enc Tryz.prog Tryz.f7.params.toList Rows.ebmFullSpec.vars false W args.toList ds gs before) (hL : laidMetH Tryz.prog laid W)
    : Calls Tryz.prog 7 args W fun e W' => ∃ v, e = .returned v ∧ Rows.ebmFullSpec.post enc Tryz.prog Tryz.f7 false true false false W args v W' := by
  have hW' := hW
  obtain ⟨p, q, hA0, hV, rfl, hfz, hnd⟩ := hW
  have hA : DataW.TrodAll enc Tryz.prog W 0 (fun _ => true) true Tryz.f7.params.toList args.toList ds p := hA0
  rw [Tryz.params7] at hA hval
  obtain ⟨v0, vs0, d0, ds0, p0, q0, hargs, rfl, rfl, h0, r0⟩ := trodAll_cons hA
  obtain ⟨v1, vs1, d1, ds1, p1, q1, rfl, rfl, rfl, h1, r1⟩ := trodAll_cons r0
  obtain ⟨v2, vs2, d2, ds2, p2, q2, rfl, rfl, rfl, h2, r2⟩ := trodAll_cons r1
  obtain ⟨rfl, rfl, rfl⟩ := trodAll_nil r2
  obtain rfl : args = #[v0, v1, v2] := by cases args; simp_all
  obtain ⟨rfl, rfl⟩ := trodVars_none hV
  obtain ⟨cs0, rfl, sz0⟩ := okWide_struct Tryz.underlying23 (hval 0 23 v0 rfl rfl)
  have k0 := h0
  have lt0 : ∀ x ∈ p0, x.block < W.heap.size := by obtain ⟨m, hm⟩ := k0; exact DataW.trod_lt m _ _ _ hm
  obtain ⟨gb0, gp0, gz0, gr0, rfl⟩ : ∃ b p z r, cs0 = #[.int .i64 b, .int .i64 p, .int .i64 z, .int .i64 r] := by
    obtain ⟨fuel, hf⟩ := h0
    exact garg_open sz0 hf
  obtain ⟨a1, rfl, rfl, rfl, w1⟩ := open_int Tryz.underlying3 (hval 1 3 v1 rfl rfl) h1
  obtain ⟨a2, len2, cap2, rfl⟩ := okWide_slice Tryz.underlying39 (hval 2 39 v2 rfl rfl)
  have k2 := h2
  have lt2 : ∀ x ∈ p2, x.block < W.heap.size := by obtain ⟨m, hm⟩ := k2; exact DataW.trod_lt m _ _ _ hm
  obtain ⟨l2, w2⟩ : ∃ l, BArg W a2 len2 cap2 l := by
    obtain ⟨fuel, hf⟩ := h2
    exact barg_open hf
  clear hA0
  refine (walk gb0 gp0 gz0 gr0 a1 a2 len2 cap2 l2 W (glb_of hL) (typed_of hL) (bounds_i64 w1) w2).mono fun e W' ⟨he, bel⟩ => ?_
  subst he
  exact ⟨_, rfl, _, _, _, [], _, [], hW', trodAll_mk1 (shut_bool Tryz.underlying4 _), (trodAll_cons_mk (Below.trod laidOut (by kernel_rfl) (of_decide_eq_true (by kernel_rfl)) k0 bel lt0) (trodAll_cons_mk (shut_int Tryz.underlying3 w1) (trodAll_cons_mk (Below.trod laidOut (by kernel_rfl) (of_decide_eq_true (by kernel_rfl)) k2 bel lt2) trodAll_mk0))), rfl, bel.frame _, fun h => by cases h⟩

theorem reads (os : Os) {H : Type} (enc : TypeId × Value → H) : ∃ places, DataW.whole enc Tryz.prog ((laidWorld os).forCall (fun _ _ => 0) ⟨#[], #[.agg #[.int .i64 0, .int .i64 0, .int .i64 0, .int .i64 0], .int .i64 0, .slice none 0 0], []⟩).memory Tryz.f7.params.toList Rows.ebmFullSpec.vars false (#[.agg #[.int .i64 0, .int .i64 0, .int .i64 0, .int .i64 0], .int .i64 0, .slice none 0 0] : Array Value).toList 8 = some ([.agg [.lit (.int .i64 0), .lit (.int .i64 0), .lit (.int .i64 0), .lit (.int .i64 0)], .lit (.int .i64 0), .nil], [], places) :=
  ⟨[], by kernel_rfl⟩
set_option maxRecDepth 100000 in
theorem lifted (os : Os) (started : os.Started) (H : Type) (enc : TypeId × Value → H) (F : Stop.Interp) :
    ReturnsInHanded {} Tryz.checked os 7 .any ((OpenSpec.ofChange Rows.ebmFullSpec).preRow enc Tryz.prog Tryz.f7 Rows.ebmFullRow.domain false Rows.ebmFullRow.laid) (((OpenSpec.ofChange Rows.ebmFullSpec).at F).post enc Tryz.prog Tryz.f7 false true false false) := by
  obtain ⟨places, hx⟩ := reads os enc
  refine returnsInHanded_of_row (C := Tryz.checked) (s := OpenSpec.ofChange Rows.ebmFullSpec) own started (by kernel_rfl) Tryz.func7
    (witness_row_at (enc := enc) (C := Tryz.checked) false (laidWorld os) #[.agg #[.int .i64 0, .int .i64 0, .int .i64 0, .int .i64 0], .int .i64 0, .slice none 0 0] (laid_os os) (by kernel_rfl) (by kernel_rfl) (by kernel_rfl)
      (OpenSpec.preRow_of_cond 8 hx (by kernel_rfl) (fun k hk => by cases hk) (by kernel_rfl) (laid_met os _))) ?_
  intro W base args ds gs before hval hW _ _ hsz hL _ _
  exact contract H enc W base args ds gs before hval hW hL
theorem said : Rows.EbmFullSaid :=
  OpenClaim.holds_of_cond 7 Tryz.f7 rfl rfl rfl rfl rfl rfl rfl ⟨rfl, rfl, rfl, rfl, rfl⟩ rfl rfl rfl rfl rfl (by kernel_rfl) Tryz.func7 (by kernel_rfl)
    (of_decide_eq_true (by kernel_rfl)) (by unfold Func.isWrapper; first | (rw [if_pos (by decide +kernel)]; kernel_rfl) | (rw [if_neg (by decide +kernel)]; exact ⟨rfl, rfl⟩))
    (fun os started H enc _ F => by rw [OpenClaim.pre_eq_preRow]; exact lifted os started H enc F)
set_option maxRecDepth 100000 in
theorem plain (f : FuncId) (fn : Func) (hf : Tryz.pinned.checked.prog.funcNamed "pumice/pumicelaw09.EbmFull" = some f) (hfn : Tryz.pinned.checked.prog.funcs[f]? = some fn) :
    true = Tryz.pinned.checked.prog.looks [] ∧ ∀ (j : Nat) t, fn.params[j]? = some t → Tryz.pinned.checked.prog.wantsStandIn t = false := by
  obtain rfl : f = 7 := Option.some.inj ((show Tryz.prog.funcNamed "pumice/pumicelaw09.EbmFull" = some 7 by kernel_rfl).symm.trans hf) |>.symm
  obtain rfl : fn = Tryz.f7 := (Option.some.inj (Tryz.func7.symm.trans hfn)).symm
  refine ⟨by kernel_rfl, fun j t ht => ?_⟩
  rw [Tryz.params7] at ht
  have hm : t = 23 ∨ t = 3 ∨ t = 39 := by simpa using Array.mem_of_getElem? ht
  rcases hm with rfl | rfl | rfl
  · exact (show Tryz.prog.wantsStandIn 23 = false by kernel_rfl)
  · exact (show Tryz.prog.wantsStandIn 3 = false by kernel_rfl)
  · exact (show Tryz.prog.wantsStandIn 39 = false by kernel_rfl)
theorem card : Rows.EbmFullCardSaid :=
  Claim7.holds_tied_plain_at .later [] _ _ _ _ said (fun _ h => by cases h) (by kernel_rfl) (fun _ h => by cases h) ebmFull_row_tie rfl ⟨rfl, rfl⟩ (by kernel_rfl) rfl plain (by kernel_rfl)
end Go.Proofs.YtkpjcnjaebbngaaGreatDoor.ebmFull

namespace Go.Proofs.YtkpjcnjaebbngaaGreatDoor
theorem ebmFull_holds : Rows.EbmFullCardSaid := ebmFull.card
#print axioms ebmFull_holds
end Go.Proofs.YtkpjcnjaebbngaaGreatDoor
