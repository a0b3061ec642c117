/-
  For all geometries, numbers and bytes: EbmLooks answers true, and leaves its arguments as they were; given that the two variables that it reaches hold what their initialisers lay (the card ties them). No other condition.
-/
import Derived.Test.YtkpjcnjaebbngaaGreatDoorKU
import Derived.Test.YtkpjcnjaebbngaaGreatDoorKT
namespace Go.Proofs.YtkpjcnjaebbngaaGreatDoor.ebmLooks
open Go.ChangeShapes Go.WideShapes Go.ChangeAt Go.RowKit
set_option maxRecDepth 10000

/-- A new chip's manager. -/
structure Lk (X : World) (gb gp gz gr : Nat) (w : World) (m : Mg) (c : CS) : Prop where
  ms : ∃ P, Ms X.heap.size 1 w m c P
  geo : c.gb = gb ∧ c.gp = gp ∧ c.gz = gz ∧ c.gr = gr
  gd : goodN c.bks = gb
  bel : Below X.heap.size X w
theorem Lk.later {X : World} {gb gp gz gr : Nat} {w w' : World} {m : Mg} {c : CS} (h : Lk X gb gp gz gr w m c) (hb : Below w.heap.size w w') : Lk X gb gp gz gr w' m c := by
  obtain ⟨⟨P, h1⟩, h2, h3, h4⟩ := h
  have hp := h1.ml.low.1
  exact ⟨⟨P, h1.later hb⟩, h2, h3, Below.after h4 hb⟩
theorem lk_format {X w : World} {c : CS} {gb gp gz gr : Nat} (h : Lies X.heap.size w c) (hf : Fresh c) (hgeo : c.gb = gb ∧ c.gp = gp ∧ c.gz = gz ∧ c.gr = gr) (hb : Below X.heap.size X w) (hg : Hd.Glb X) (ht : Typed X) :
    Calls Tryz.prog 13 #[.pointer (some ⟨c.p, 0, none⟩)] w fun e w' => ∃ m c', e = .returned (.tuple #[.pointer (some ⟨m.p, 0, none⟩), .int .i64 0]) ∧ Lk X gb gp gz gr w' m c' ∧ c'.p = c.p := by
  refine (format_two h hf (hg.later hb) hg.lt (ht.later hb) ht.pos).mono ?_
  rintro e w' ⟨m, c', P, rfl, h1, _, h3, _, h5, _, h7⟩
  have hk : Kept (fun k => X.heap.size ≤ k) X w' := (Kept.of_below hb).trans h5
  exact ⟨m, c', rfl, ⟨⟨P, h1⟩, by rw [h3.gb, h3.gp, h3.gz, h3.gr]; exact hgeo, by rw [h7]; exact hgeo.1, hk.below (Nat.le_refl _) (fun _ e => e)⟩, h3.p⟩
theorem lk_lebs {X : World} {gb gp gz gr : Nat} {w : World} {m : Mg} {c : CS} (h : Lk X gb gp gz gr w m c) :
    Calls Tryz.prog 29 #[.pointer (some ⟨m.p, 0, none⟩)] w fun e w' => e = .returned (.int .i64 (lebsI gb gp gz gr)) ∧ Below w.heap.size w w' := by
  obtain ⟨P, h1⟩ := h.ms
  refine (mlebs_any h1.ml).mono ?_
  rintro e w' ⟨rfl, hb⟩
  obtain ⟨rfl, rfl, rfl, rfl⟩ := h.geo
  exact ⟨rfl, hb⟩
theorem lk_pages {X : World} {gb gp gz gr : Nat} {w : World} {m : Mg} {c : CS} (h : Lk X gb gp gz gr w m c) :
    Calls Tryz.prog 30 #[.pointer (some ⟨m.p, 0, none⟩)] w fun e w' => e = .returned (.int .i64 ((gp : Int) - 2)) ∧ Below w.heap.size w w' := by
  obtain ⟨P, h1⟩ := h.ms
  refine (mpages_any h1.ml (by have := h1.rp.rb.geo; omega)).mono ?_
  rintro e w' ⟨rfl, hb⟩
  obtain ⟨rfl, rfl, rfl, rfl⟩ := h.geo
  exact ⟨rfl, hb⟩
theorem lk_page {X : World} {gb gp gz gr : Nat} {w : World} {m : Mg} {c : CS} (h : Lk X gb gp gz gr w m c) :
    Calls Tryz.prog 31 #[.pointer (some ⟨m.p, 0, none⟩)] w fun e w' => e = .returned (.int .i64 gz) ∧ Below w.heap.size w w' := by
  obtain ⟨P, h1⟩ := h.ms
  refine (mpage_any h1.ml).mono ?_
  rintro e w' ⟨rfl, hb⟩
  obtain ⟨rfl, rfl, rfl, rfl⟩ := h.geo
  exact ⟨rfl, hb⟩
theorem lk_spare {X : World} {gb gp gz gr : Nat} {w : World} {m : Mg} {c : CS} (h : Lk X gb gp gz gr w m c) :
    Calls Tryz.prog 33 #[.pointer (some ⟨m.p, 0, none⟩)] w fun e w' => e = .returned (.int .i64 gr) ∧ Below w.heap.size w w' := by
  obtain ⟨P, h1⟩ := h.ms
  refine (mspare_any h1.ml).mono ?_
  rintro e w' ⟨rfl, hb⟩
  refine ⟨?_, hb⟩
  have e1 : spareI c = gr := by
    unfold spareI
    rw [h1.lebs, h.gd]
    have := h.geo
    omega
  rw [e1]
theorem lk_spent {X : World} {gb gp gz gr : Nat} {w : World} {m : Mg} {c : CS} (h : Lk X gb gp gz gr w m c) :
    Calls Tryz.prog 17 #[.pointer (some ⟨m.p, 0, none⟩)] w fun e w' => e = .returned (.bool false) ∧ Below w.heap.size w w' := by
  obtain ⟨P, h1⟩ := h.ms
  have := mspent_any h1.ml
  rw [h1.spent] at this
  refine this.mono ?_
  rintro e w' ⟨rfl, hb⟩
  exact ⟨rfl, hb⟩
theorem lk_chip {X : World} {gb gp gz gr : Nat} {w : World} {m : Mg} {c : CS} (h : Lk X gb gp gz gr w m c) :
    Calls Tryz.prog 35 #[.pointer (some ⟨m.p, 0, none⟩)] w fun e w' => e = .returned (.pointer (some ⟨c.p, 0, none⟩)) ∧ Below w.heap.size w w' := by
  obtain ⟨P, h1⟩ := h.ms
  refine (mchip_any h1.ml).mono ?_
  rintro e w' ⟨rfl, rfl⟩
  exact ⟨rfl, Below.refl _ _⟩
theorem lk_ops {X : World} {gb gp gz gr : Nat} {w : World} {m : Mg} {c : CS} (h : Lk X gb gp gz gr w m c) (p : Nat) (hp : c.p = p) :
    Calls Tryz.prog 37 #[.pointer (some ⟨p, 0, none⟩)] w fun e w' => e = .returned (.int .i64 c.ops) ∧ Below w.heap.size w w' := by
  obtain ⟨P, h1⟩ := h.ms
  subst hp
  refine (ops_any h1.ml.chip).mono ?_
  rintro e w' ⟨rfl, rfl⟩
  exact ⟨rfl, Below.refl _ _⟩
set_option maxHeartbeats 8000000 in
theorem walk_no (gb gp gz gr : Int) (leb page : Int) (a : Option Addr) (n cap : Nat) (w : World) (hg : Hd.Glb w) (ht : Typed w) (hR : rightB gb gp gz gr = false) :
    Calls Tryz.prog 6 #[.agg #[.int .i64 gb, .int .i64 gp, .int .i64 gz, .int .i64 gr], .int .i64 leb, .int .i64 page, .slice a n cap] w fun e w' => e = .returned (.bool true) ∧ Below w.heap.size w w' := by
  have HG : Hid (Hd.Glb w ∧ Typed w) := ⟨hg, ht⟩
  have MLebs : Hid True := trivial
  have MPages : Hid True := trivial
  have MPage : Hid True := trivial
  have MSpare : Hid True := trivial
  have MSpent : Hid True := trivial
  have MChip : Hid True := trivial
  have MFormat : Hid True := trivial
  have cN := fun W => new_c0 gb gp gz gr W hR
  obtain ⟨X, hX⟩ : ∃ X, X = w.alloc (.cells #[.int .i64 gb, .int .i64 gp, .int .i64 gz, .int .i64 gr] 23) := ⟨_, rfl⟩
  have HB0 : Hid (Below w.heap.size w X) := by rw [hX]; exact below_new w _
  have HX : Hid (Row X w.heap.size [.int .i64 gb, .int .i64 gp, .int .i64 gz, .int .i64 gr] 23) := by rw [hX]; exact Row.new w _ _
  have HB9 : Hid (Below w.heap.size w X) := HB0
  clear HB0
  have HB0 : Hid (Below X.heap.size X X) := Below.refl _ _
  have HXB : Hid (∀ v, Below X.heap.size X v → Below w.heap.size w v) := fun v hb => Below.after HB9.out hb
  clear hg ht hR
  go_enter Tryz.func6, Tryz.ntmps6
  go_wp2_with fail
  rw [← hX]
  clear hX
  go_wp2_with (first
    | (go_at_call 24; refine (nread _ leb page).mono ?_; rintro e v1 ⟨rfl, hb⟩; have HB1 : Hid (Below X.heap.size X v1) := Below.after HB0.out hb; clear hb)
    | (go_at_call 25; refine (nwear _).mono ?_; rintro e v2 ⟨rfl, hb⟩; have HB2 : Hid (Below X.heap.size X v2) := Below.after HB1.out hb; clear hb)
    | (go_at_call 26; refine (nwrite _ leb a n cap).mono ?_; rintro e v3 ⟨rfl, hb⟩; have HB3 : Hid (Below X.heap.size X v3) := Below.after HB2.out hb; clear hb)
    | (go_at_call 27; refine (nunmap _ leb).mono ?_; rintro e v4 ⟨rfl, hb⟩; have HB4 : Hid (Below X.heap.size X v4) := Below.after HB3.out hb; clear hb)
    | (go_at_call 28; refine (nchange _ leb none 0 0).mono ?_; rintro e v5 ⟨rfl, hb⟩; have HB5 : Hid (Below X.heap.size X v5) := Below.after HB4.out hb; clear hb)
    | (go_at_call 29; clear MLebs; refine (nlebs _).mono ?_; rintro e v6 ⟨rfl, hb⟩; have HB6 : Hid (Below X.heap.size X v6) := Below.after HB5.out hb; clear hb)
    | (go_at_call 30; clear MPages; refine (npages _).mono ?_; rintro e v7 ⟨rfl, hb⟩; have HB7 : Hid (Below X.heap.size X v7) := Below.after HB6.out hb; clear hb)
    | (go_at_call 31; clear MPage; refine (npage _).mono ?_; rintro e v8 ⟨rfl, hb⟩; have HB8 : Hid (Below X.heap.size X v8) := Below.after HB7.out hb; clear hb)
    | (go_at_call 32; refine (nused _ leb).mono ?_; rintro e v9 ⟨rfl, hb⟩; have HB9 : Hid (Below X.heap.size X v9) := Below.after HB8.out hb; clear hb)
    | (go_at_call 33; clear MSpare; refine (nspare _).mono ?_; rintro e v10 ⟨rfl, hb⟩; have HB10 : Hid (Below X.heap.size X v10) := Below.after HB9.out hb; clear hb)
    | (go_at_call 34; refine (nclosed _ leb).mono ?_; rintro e v11 ⟨rfl, hb⟩; have HB11 : Hid (Below X.heap.size X v11) := Below.after HB10.out hb; clear hb)
    | (go_at_call 17; clear MSpent; refine (mspent_nil _).mono ?_; rintro e w' ⟨rfl, rfl⟩)
    | (go_at_call 35; clear MChip; refine (mchip_nil _).mono ?_; rintro e w' ⟨rfl, rfl⟩)
    | (go_at_call 11; refine (alive_any _ (HG.out.1.later (HXB.out _ HB11.out)) (HG.out.2.later (HXB.out _ HB11.out))).mono ?_; rintro e v12 ⟨rfl, hb⟩; have HB12 : Hid (Below X.heap.size X v12) := Below.after HB11.out hb; clear hb; have hgx := HX.out.later HB12.out; have x0 := hgx.cell (i := 0) rfl; have x1 := hgx.cell (i := 1) rfl; have x2 := hgx.cell (i := 2) rfl; have x3 := hgx.cell (i := 3) rfl; clear hgx)
    | (go_at_call 13; clear MFormat; refine (nformat _).mono ?_; rintro e w' ⟨rfl, rfl⟩)
    | (go_at_call 23; refine (nattach _).mono ?_; rintro e w' ⟨rfl, rfl⟩)
    | (go_at_call 12; refine (cN _).mono ?_; rintro e v13 ⟨rfl, hb⟩; have HB13 : Hid (Below w.heap.size w v13) := HXB.out _ (Below.after HB12.out hb); clear hb))
  go_ret
  exact ⟨rfl, HB13.out⟩
set_option maxHeartbeats 8000000 in
theorem walk_go (gb gp gz gr : Nat) (leb page : Int) (a : Option Addr) (n cap : Nat) (w : World) (hg : Hd.Glb w) (ht : Typed w) (hR : rightB gb gp gz gr = true) :
    Calls Tryz.prog 6 #[.agg #[.int .i64 gb, .int .i64 gp, .int .i64 gz, .int .i64 gr], .int .i64 leb, .int .i64 page, .slice a n cap] w fun e w' => e = .returned (.bool true) ∧ Below w.heap.size w w' := by
  have HG : Hid (Hd.Glb w ∧ Typed w) := ⟨hg, ht⟩
  have MLebs : Hid True := trivial
  have MPages : Hid True := trivial
  have MPage : Hid True := trivial
  have MSpare : Hid True := trivial
  have MSpent : Hid True := trivial
  have MChip : Hid True := trivial
  have MFormat : Hid True := trivial
  have cN := fun W => new_chip gb gp gz gr W hR
  have cS := fun W => lebs_any (gb : Nat) (gp : Nat) (gz : Nat) (gr : Nat) W
  have HR : Hid (rightB gb gp gz gr = true) := hR
  obtain ⟨L, hL⟩ : ∃ L, L = lebsI gb gp gz gr := ⟨_, rfl⟩
  have hgp : (gp : Int) ≤ 64 := by have := right_geo hR; omega
  obtain ⟨X, hX⟩ : ∃ X, X = w.alloc (.cells #[.int .i64 gb, .int .i64 gp, .int .i64 gz, .int .i64 gr] 23) := ⟨_, rfl⟩
  have HB0 : Hid (Below w.heap.size w X) := by rw [hX]; exact below_new w _
  have HX : Hid (Row X w.heap.size [.int .i64 gb, .int .i64 gp, .int .i64 gz, .int .i64 gr] 23) := by rw [hX]; exact Row.new w _ _
  have HB9 : Hid (Below w.heap.size w X) := HB0
  clear HB0
  have HB0 : Hid (Below X.heap.size X X) := Below.refl _ _
  have HXB : Hid (∀ v, Below X.heap.size X v → Below w.heap.size w v) := fun v hb => Below.after HB9.out hb
  clear hg ht hR
  go_enter Tryz.func6, Tryz.ntmps6
  go_wp2_with fail
  rw [← hX]
  clear hX
  go_wp2_with (first
    | (go_at_call 24; refine (nread _ leb page).mono ?_; rintro e v1 ⟨rfl, hb⟩; have HB1 : Hid (Below X.heap.size X v1) := Below.after HB0.out hb; clear hb)
    | (go_at_call 25; refine (nwear _).mono ?_; rintro e v2 ⟨rfl, hb⟩; have HB2 : Hid (Below X.heap.size X v2) := Below.after HB1.out hb; clear hb)
    | (go_at_call 26; refine (nwrite _ leb a n cap).mono ?_; rintro e v3 ⟨rfl, hb⟩; have HB3 : Hid (Below X.heap.size X v3) := Below.after HB2.out hb; clear hb)
    | (go_at_call 27; refine (nunmap _ leb).mono ?_; rintro e v4 ⟨rfl, hb⟩; have HB4 : Hid (Below X.heap.size X v4) := Below.after HB3.out hb; clear hb)
    | (go_at_call 28; refine (nchange _ leb none 0 0).mono ?_; rintro e v5 ⟨rfl, hb⟩; have HB5 : Hid (Below X.heap.size X v5) := Below.after HB4.out hb; clear hb)
    | (go_at_call 29; clear MLebs; refine (nlebs _).mono ?_; rintro e v6 ⟨rfl, hb⟩; have HB6 : Hid (Below X.heap.size X v6) := Below.after HB5.out hb; clear hb)
    | (go_at_call 30; clear MPages; refine (npages _).mono ?_; rintro e v7 ⟨rfl, hb⟩; have HB7 : Hid (Below X.heap.size X v7) := Below.after HB6.out hb; clear hb)
    | (go_at_call 31; clear MPage; refine (npage _).mono ?_; rintro e v8 ⟨rfl, hb⟩; have HB8 : Hid (Below X.heap.size X v8) := Below.after HB7.out hb; clear hb)
    | (go_at_call 32; refine (nused _ leb).mono ?_; rintro e v9 ⟨rfl, hb⟩; have HB9 : Hid (Below X.heap.size X v9) := Below.after HB8.out hb; clear hb)
    | (go_at_call 33; clear MSpare; refine (nspare _).mono ?_; rintro e v10 ⟨rfl, hb⟩; have HB10 : Hid (Below X.heap.size X v10) := Below.after HB9.out hb; clear hb)
    | (go_at_call 34; refine (nclosed _ leb).mono ?_; rintro e v11 ⟨rfl, hb⟩; have HB11 : Hid (Below X.heap.size X v11) := Below.after HB10.out hb; clear hb)
    | (go_at_call 17; clear MSpent; refine (mspent_nil _).mono ?_; rintro e w' ⟨rfl, rfl⟩)
    | (go_at_call 35; clear MChip; refine (mchip_nil _).mono ?_; rintro e w' ⟨rfl, rfl⟩)
    | (go_at_call 11; refine (alive_any _ (HG.out.1.later (HXB.out _ HB11.out)) (HG.out.2.later (HXB.out _ HB11.out))).mono ?_; rintro e v12 ⟨rfl, hb⟩; have HB12 : Hid (Below X.heap.size X v12) := Below.after HB11.out hb; clear hb; have hgx := HX.out.later HB12.out; have x0 := hgx.cell (i := 0) rfl; have x1 := hgx.cell (i := 1) rfl; have x2 := hgx.cell (i := 2) rfl; have x3 := hgx.cell (i := 3) rfl; clear hgx)
    | (go_at_call 13; clear MFormat; refine (nformat _).mono ?_; rintro e w' ⟨rfl, rfl⟩)
    | (go_at_call 23; refine (nattach _).mono ?_; rintro e w' ⟨rfl, rfl⟩)
    | (go_at_call 12; refine (cN _).mono ?_; rintro e v13 ⟨c0, rfl, q1, q2, q3, q4, q5, q6, hb⟩; have HN : Hid (Lies v12.heap.size v13 c0 ∧ Fresh c0 ∧ (c0.gb = gb ∧ c0.gp = gp ∧ c0.gz = gz ∧ c0.gr = gr) ∧ Below v12.heap.size v12 v13) := ⟨q1, q2, ⟨q3, q4, q5, q6⟩, hb⟩; clear hb q1 q2 q3 q4 q5 q6 x0 x1 x2 x3)
    | (go_at_call 13; refine (lk_format HN.out.1 HN.out.2.1 HN.out.2.2.1 HN.out.2.2.2 (HG.out.1.later (HXB.out _ HB12.out)) (HG.out.2.later (HXB.out _ HB12.out))).mono ?_; rintro e u0 ⟨m, c1, rfl, hl, hp⟩; have HL0 : Hid (Lk v12 gb gp gz gr u0 m c1) := hl; have HP : Hid (c1.p = c0.p) := hp; have hbx := Below.after HB12.out hl.bel; have hgx := HX.out.later hbx; have x0 := hgx.cell (i := 0) rfl; have x1 := hgx.cell (i := 1) rfl; have x2 := hgx.cell (i := 2) rfl; have x3 := hgx.cell (i := 3) rfl; clear hgx; clear hl hp hbx))
  have hw : wrap64 ((gp : Int) - 2) = (gp : Int) - 2 := by have := right_geo HR.out; unfold wrap64; omega
  have eL : (L == L) = true := by simp
  have HBU : Hid (Below X.heap.size X u0) := Below.after HB12.out HL0.out.bel
  have ne := Wd.non u0
  have y0 : ∀ p : Wd u0, p.v.cell? ⟨w.heap.size, 0, none⟩ = some (.int .i64 gb) := fun p => (HX.out.later (Below.after HBU.out p.h)).cell (i := 0) rfl
  have y1 : ∀ p : Wd u0, p.v.cell? ⟨w.heap.size, 1, none⟩ = some (.int .i64 gp) := fun p => (HX.out.later (Below.after HBU.out p.h)).cell (i := 1) rfl
  have y2 : ∀ p : Wd u0, p.v.cell? ⟨w.heap.size, 2, none⟩ = some (.int .i64 gz) := fun p => (HX.out.later (Below.after HBU.out p.h)).cell (i := 2) rfl
  have y3 : ∀ p : Wd u0, p.v.cell? ⟨w.heap.size, 3, none⟩ = some (.int .i64 gr) := fun p => (HX.out.later (Below.after HBU.out p.h)).cell (i := 3) rfl
  have kL := fun p : Wd u0 => quiet_call p (lk_lebs (HL0.out.later p.h))
  have kS := fun p : Wd u0 => quiet_call p (cS p.v)
  simp only [← hL] at kL kS
  have kP := fun p : Wd u0 => quiet_call p (lk_pages (HL0.out.later p.h))
  have kZ := fun p : Wd u0 => quiet_call p (lk_page (HL0.out.later p.h))
  have kR := fun p : Wd u0 => quiet_call p (lk_spare (HL0.out.later p.h))
  have kT := fun p : Wd u0 => quiet_call p (lk_spent (HL0.out.later p.h))
  have kC := fun p : Wd u0 => quiet_call p (lk_chip (HL0.out.later p.h))
  have kO := fun p : Wd u0 => quiet_call p (lk_ops (HL0.out.later p.h) c0.p HP.out)
  rw [HP.out] at kC
  clear x0 x1 x2 x3 hL cS cN
  refine quiet_below (by kernel_rfl) ?_
  repeat (first | go_big_quiet_skip | go_big_quiet_step (first
    | (go_at_call 29; exact kL _)
    | (go_at_call 36; exact kS _)
    | (go_at_call 30; exact kP _)
    | (go_at_call 31; exact kZ _)
    | (go_at_call 33; exact kR _)
    | (go_at_call 17; exact kT _)
    | (go_at_call 35; exact kC _)
    | (go_at_call 37; exact kO _)))
  refine wpQuiet_nil ?_
  rintro _ ⟨p9, rfl⟩
  have HB10 : Hid (Below w.heap.size w p9.v) := HXB.out _ (Below.after HBU.out p9.h)
  go_wp2
  go_ret
  exact ⟨rfl, HB10.out⟩
theorem walk (b p z r leb page : Int) (a : Option Addr) (n cap : Nat) (l : List Nat) (w : World) (hg : Hd.Glb w) (ht : Typed w) (_ : -9223372036854775808 ≤ leb ∧ leb ≤ 9223372036854775807) (_ : -9223372036854775808 ≤ page ∧ page ≤ 9223372036854775807) (_ : BArg w a n cap l) :
    Calls Tryz.prog 6 #[.agg #[.int .i64 b, .int .i64 p, .int .i64 z, .int .i64 r], .int .i64 leb, .int .i64 page, .slice a n cap] w fun e w' => e = .returned (.bool true) ∧ Below w.heap.size w w' := by
  cases h : rightB b p z r with
  | false => exact walk_no b p z r leb page a n cap w hg ht h
  | true =>
    obtain ⟨gb, gp, gz, gr, rfl, rfl, rfl, rfl, g1, g2, g3, g4, g5, g6⟩ := right_nums h
    exact walk_go gb gp gz gr leb page a n cap w hg ht h

set_option maxRecDepth 100000 in
theorem contract (H : Type) (enc : TypeId × Value → H) (W : World) (base : Nat) (args : Array Value) (ds gs : List (DataW H)) (before : List MemPlace)
    (hval : ∀ (j : Nat) t v, Tryz.f6.params[j]? = some t → args[j]? = some v → Value.okWide Tryz.prog W .any base t v)
    (hW : DataW.Whole enc Tryz.prog Tryz.f6.params.toList Rows.ebmLooksSpec.vars false W args.toList ds gs before) (hL : laidMetH Tryz.prog laid W)
    : Calls Tryz.prog 6 args W fun e W' => ∃ v, e = .returned v ∧ Rows.ebmLooksSpec.post enc Tryz.prog Tryz.f6 false true false false W args v W' := by
  have hW' := hW
  obtain ⟨p, q, hA0, hV, rfl, hfz, hnd⟩ := hW
  have hA : DataW.TrodAll enc Tryz.prog W 0 (fun _ => true) true Tryz.f6.params.toList args.toList ds p := hA0
  rw [Tryz.params6] at hA hval
  obtain ⟨v0, vs0, d0, ds0, p0, q0, hargs, rfl, rfl, h0, r0⟩ := trodAll_cons hA
  obtain ⟨v1, vs1, d1, ds1, p1, q1, rfl, rfl, rfl, h1, r1⟩ := trodAll_cons r0
  obtain ⟨v2, vs2, d2, ds2, p2, q2, rfl, rfl, rfl, h2, r2⟩ := trodAll_cons r1
  obtain ⟨v3, vs3, d3, ds3, p3, q3, rfl, rfl, rfl, h3, r3⟩ := trodAll_cons r2
  obtain ⟨rfl, rfl, rfl⟩ := trodAll_nil r3
  obtain rfl : args = #[v0, v1, v2, v3] := by cases args; simp_all
  obtain ⟨rfl, rfl⟩ := trodVars_none hV
  obtain ⟨cs0, rfl, sz0⟩ := okWide_struct Tryz.underlying23 (hval 0 23 v0 rfl rfl)
  have k0 := h0
  have lt0 : ∀ x ∈ p0, x.block < W.heap.size := by obtain ⟨m, hm⟩ := k0; exact DataW.trod_lt m _ _ _ hm
  obtain ⟨gb0, gp0, gz0, gr0, rfl⟩ : ∃ b p z r, cs0 = #[.int .i64 b, .int .i64 p, .int .i64 z, .int .i64 r] := by
    obtain ⟨fuel, hf⟩ := h0
    exact garg_open sz0 hf
  obtain ⟨a1, rfl, rfl, rfl, w1⟩ := open_int Tryz.underlying3 (hval 1 3 v1 rfl rfl) h1
  obtain ⟨a2, rfl, rfl, rfl, w2⟩ := open_int Tryz.underlying3 (hval 2 3 v2 rfl rfl) h2
  obtain ⟨a3, len3, cap3, rfl⟩ := okWide_slice Tryz.underlying39 (hval 3 39 v3 rfl rfl)
  have k3 := h3
  have lt3 : ∀ x ∈ p3, x.block < W.heap.size := by obtain ⟨m, hm⟩ := k3; exact DataW.trod_lt m _ _ _ hm
  obtain ⟨l3, w3⟩ : ∃ l, BArg W a3 len3 cap3 l := by
    obtain ⟨fuel, hf⟩ := h3
    exact barg_open hf
  clear hA0
  refine (walk gb0 gp0 gz0 gr0 a1 a2 a3 len3 cap3 l3 W (glb_of hL) (typed_of hL) (bounds_i64 w1) (bounds_i64 w2) w3).mono fun e W' ⟨he, bel⟩ => ?_
  subst he
  exact ⟨_, rfl, _, _, _, [], _, [], hW', trodAll_mk1 (shut_bool Tryz.underlying4 _), (trodAll_cons_mk (Below.trod laidOut (by kernel_rfl) (of_decide_eq_true (by kernel_rfl)) k0 bel lt0) (trodAll_cons_mk (shut_int Tryz.underlying3 w1) (trodAll_cons_mk (shut_int Tryz.underlying3 w2) (trodAll_cons_mk (Below.trod laidOut (by kernel_rfl) (of_decide_eq_true (by kernel_rfl)) k3 bel lt3) trodAll_mk0)))), rfl, bel.frame _, fun h => by cases h⟩

theorem reads (os : Os) {H : Type} (enc : TypeId × Value → H) : ∃ places, DataW.whole enc Tryz.prog ((laidWorld os).forCall (fun _ _ => 0) ⟨#[], #[.agg #[.int .i64 0, .int .i64 0, .int .i64 0, .int .i64 0], .int .i64 0, .int .i64 0, .slice none 0 0], []⟩).memory Tryz.f6.params.toList Rows.ebmLooksSpec.vars false (#[.agg #[.int .i64 0, .int .i64 0, .int .i64 0, .int .i64 0], .int .i64 0, .int .i64 0, .slice none 0 0] : Array Value).toList 8 = some ([.agg [.lit (.int .i64 0), .lit (.int .i64 0), .lit (.int .i64 0), .lit (.int .i64 0)], .lit (.int .i64 0), .lit (.int .i64 0), .nil], [], places) :=
  ⟨[], by kernel_rfl⟩
set_option maxRecDepth 100000 in
theorem lifted (os : Os) (started : os.Started) (H : Type) (enc : TypeId × Value → H) (F : Stop.Interp) :
    ReturnsInHanded {} Tryz.checked os 6 .any ((OpenSpec.ofChange Rows.ebmLooksSpec).preRow enc Tryz.prog Tryz.f6 Rows.ebmLooksRow.domain false Rows.ebmLooksRow.laid) (((OpenSpec.ofChange Rows.ebmLooksSpec).at F).post enc Tryz.prog Tryz.f6 false true false false) := by
  obtain ⟨places, hx⟩ := reads os enc
  refine returnsInHanded_of_row (C := Tryz.checked) (s := OpenSpec.ofChange Rows.ebmLooksSpec) own started (by kernel_rfl) Tryz.func6
    (witness_row_at (enc := enc) (C := Tryz.checked) false (laidWorld os) #[.agg #[.int .i64 0, .int .i64 0, .int .i64 0, .int .i64 0], .int .i64 0, .int .i64 0, .slice none 0 0] (laid_os os) (by kernel_rfl) (by kernel_rfl) (by kernel_rfl)
      (OpenSpec.preRow_of_cond 8 hx (by kernel_rfl) (fun k hk => by cases hk) (by kernel_rfl) (laid_met os _))) ?_
  intro W base args ds gs before hval hW _ _ hsz hL _ _
  exact contract H enc W base args ds gs before hval hW hL
theorem said : Rows.EbmLooksSaid :=
  OpenClaim.holds_of_cond 6 Tryz.f6 rfl rfl rfl rfl rfl rfl rfl ⟨rfl, rfl, rfl, rfl, rfl⟩ rfl rfl rfl rfl rfl (by kernel_rfl) Tryz.func6 (by kernel_rfl)
    (of_decide_eq_true (by kernel_rfl)) (by unfold Func.isWrapper; first | (rw [if_pos (by decide +kernel)]; kernel_rfl) | (rw [if_neg (by decide +kernel)]; exact ⟨rfl, rfl⟩))
    (fun os started H enc _ F => by rw [OpenClaim.pre_eq_preRow]; exact lifted os started H enc F)
set_option maxRecDepth 100000 in
theorem plain (f : FuncId) (fn : Func) (hf : Tryz.pinned.checked.prog.funcNamed "pumice/pumicelaw09.EbmLooks" = some f) (hfn : Tryz.pinned.checked.prog.funcs[f]? = some fn) :
    true = Tryz.pinned.checked.prog.looks [] ∧ ∀ (j : Nat) t, fn.params[j]? = some t → Tryz.pinned.checked.prog.wantsStandIn t = false := by
  obtain rfl : f = 6 := Option.some.inj ((show Tryz.prog.funcNamed "pumice/pumicelaw09.EbmLooks" = some 6 by kernel_rfl).symm.trans hf) |>.symm
  obtain rfl : fn = Tryz.f6 := (Option.some.inj (Tryz.func6.symm.trans hfn)).symm
  refine ⟨by kernel_rfl, fun j t ht => ?_⟩
  rw [Tryz.params6] at ht
  have hm : t = 23 ∨ t = 3 ∨ t = 3 ∨ t = 39 := by simpa using Array.mem_of_getElem? ht
  rcases hm with rfl | rfl | rfl | rfl
  · exact (show Tryz.prog.wantsStandIn 23 = false by kernel_rfl)
  · exact (show Tryz.prog.wantsStandIn 3 = false by kernel_rfl)
  · exact (show Tryz.prog.wantsStandIn 3 = false by kernel_rfl)
  · exact (show Tryz.prog.wantsStandIn 39 = false by kernel_rfl)
theorem card : Rows.EbmLooksCardSaid :=
  Claim7.holds_tied_plain_at .later [] _ _ _ _ said (fun _ h => by cases h) (by kernel_rfl) (fun _ h => by cases h) ebmLooks_row_tie rfl ⟨rfl, rfl⟩ (by kernel_rfl) rfl plain (by kernel_rfl)
end Go.Proofs.YtkpjcnjaebbngaaGreatDoor.ebmLooks

namespace Go.Proofs.YtkpjcnjaebbngaaGreatDoor
theorem ebmLooks_holds : Rows.EbmLooksCardSaid := ebmLooks.card
#print axioms ebmLooks_holds
end Go.Proofs.YtkpjcnjaebbngaaGreatDoor
