/-
  Both chips say the same of a block and a page.
-/
import Derived.Test.YtiejkbncpbhcdaaDDuo
namespace Go.Proofs.Ytiejkbncpbhcdaa
open Go.RowKit

structure Said (base : Nat) (W : World) (c : CS) (d : DS) (p q : Nat) (bl pg : Int) (L : List Nat) (X : Int) (bad : Bool) (nx er : Int) : Prop where
  cl : Lies base W c
  dl : DLies base W d
  p : c.p = p
  q : d.p = q
  rc : c.read bl pg = (L, X)
  rd : d.read bl pg = (L, X)
  lt : ∀ x ∈ L, x < 256
  bc : (match c.at bl with | none => false | some b => b.bad) = bad
  bd : (match d.at bl with | none => false | some b => b.bad) = bad
  nc : (match c.at bl with | none => 0 | some b => b.next) = nx
  nd : (match d.at bl with | none => 0 | some b => b.next) = nx
  ec : (match c.at bl with | none => 0 | some b => b.erases) = er
  ed : (match d.at bl with | none => 0 | some b => b.erases) = er
  on : d.off = !c.on
  ops : d.ops = c.ops
  wrong : d.wrong = c.wrong
  geo : d.gb = c.gb ∧ d.gp = c.gp ∧ d.gz = c.gz ∧ d.gr = c.gr
theorem Said.later {base : Nat} {W W' : World} {c : CS} {d : DS} {p q : Nat} {bl pg : Int} {L : List Nat} {X : Int} {bad : Bool} {nx er : Int} (h : Said base W c d p q bl pg L X bad nx er) (hb : Below W.heap.size W W') : Said base W' c d p q bl pg L X bad nx er :=
  ⟨h.cl.later hb, h.dl.later hb, h.p, h.q, h.rc, h.rd, h.lt, h.bc, h.bd, h.nc, h.nd, h.ec, h.ed, h.on, h.ops, h.wrong, h.geo⟩
theorem Duo.said {base : Nat} {W : World} {c : CS} {d : DS} {k : Nat} (h : Duo base W c d k) (p q : Nat) (hp : c.p = p) (hq : d.p = q) (bl pg : Int) : ∃ L X bad nx er, Said base W c d p q bl pg L X bad nx er := by
  obtain ⟨l1, l2, l3⟩ := h.rel.looks bl
  have on : c.on = !d.off := h.rel.on
  exact ⟨_, _, _, _, _, h.cl, h.dl, hp, hq, rfl, (h.rel.read bl pg).symm, h.cl.good.read_lt bl pg, rfl, l1.symm, rfl, l2.symm, rfl, l3.symm, by rw [on]; cases d.off <;> rfl, h.rel.ops.symm, h.rel.wrong.symm, ⟨h.rel.geo.1.symm, h.rel.geo.2.1.symm, h.rel.geo.2.2.1.symm, h.rel.geo.2.2.2.symm⟩⟩
section
variable {base : Nat} {W : World} {c : CS} {d : DS} {p q : Nat} {bl pg : Int} {L : List Nat} {X : Int} {bad : Bool} {nx er : Int}
theorem Said.readC (h : Said base W c d p q bl pg L X bad nx er) : Calls Try.prog 22 #[.pointer (some ⟨p, 0, none⟩), .int .i64 bl, .int .i64 pg] W fun e w' => ∃ a m cap, e = .returned (.tuple #[.slice a m cap, .int .i64 X]) ∧ (m = L.length ∧ BRow w' a L) ∧ Below W.heap.size W w' := by
  have := read_any h.cl bl pg
  rw [h.rc, h.p] at this
  exact this.mono fun e w' ⟨a, m, cap, e1, g⟩ => ⟨a, m, cap, e1, ⟨g.len, g.row⟩, g.below⟩
theorem Said.readD (h : Said base W c d p q bl pg L X bad nx er) : Calls Try.prog 39 #[.pointer (some ⟨q, 0, none⟩), .int .i64 bl, .int .i64 pg] W fun e w' => ∃ a m cap, e = .returned (.tuple #[.slice a m cap, .int .i64 X]) ∧ (m = L.length ∧ BRow w' a L) ∧ Below W.heap.size W w' := by
  have := d_read h.dl bl pg
  rw [h.rd, h.q] at this
  exact this.mono fun e w' ⟨a, m, cap, e1, g⟩ => ⟨a, m, cap, e1, ⟨g.1, g.2.1⟩, g.2.2⟩
theorem Said.badC (h : Said base W c d p q bl pg L X bad nx er) : Calls Try.prog 41 #[.pointer (some ⟨p, 0, none⟩), .int .i64 bl] W fun e w' => e = .returned (.bool bad) ∧ W = w' := by
  have := bad_any h.cl bl
  rw [h.p] at this
  exact this.mono fun e w' ⟨h1, h2⟩ => ⟨h1.trans (ret_bool h.bc), h2⟩
theorem Said.badD (h : Said base W c d p q bl pg L X bad nx er) : Calls Try.prog 42 #[.pointer (some ⟨q, 0, none⟩), .int .i64 bl] W fun e w' => e = .returned (.bool bad) ∧ W = w' := by
  have := d_bad h.dl bl
  rw [h.q] at this
  exact this.mono fun e w' ⟨h1, h2⟩ => ⟨h1.trans (ret_bool h.bd), h2⟩
theorem Said.nextC (h : Said base W c d p q bl pg L X bad nx er) : Calls Try.prog 23 #[.pointer (some ⟨p, 0, none⟩), .int .i64 bl] W fun e w' => e = .returned (.int .i64 nx) ∧ W = w' := by
  have := next_any h.cl bl
  rw [h.p] at this
  exact this.mono fun e w' ⟨h1, h2⟩ => ⟨h1.trans (ret_int h.nc), h2⟩
theorem Said.nextD (h : Said base W c d p q bl pg L X bad nx er) : Calls Try.prog 43 #[.pointer (some ⟨q, 0, none⟩), .int .i64 bl] W fun e w' => e = .returned (.int .i64 nx) ∧ W = w' := by
  have := d_next h.dl bl
  rw [h.q] at this
  exact this.mono fun e w' ⟨h1, h2⟩ => ⟨h1.trans (ret_int h.nd), h2⟩
theorem Said.erasesC (h : Said base W c d p q bl pg L X bad nx er) : Calls Try.prog 44 #[.pointer (some ⟨p, 0, none⟩), .int .i64 bl] W fun e w' => e = .returned (.int .i64 er) ∧ W = w' := by
  have := erases_any h.cl bl
  rw [h.p] at this
  exact this.mono fun e w' ⟨h1, h2⟩ => ⟨h1.trans (ret_int h.ec), h2⟩
theorem Said.erasesD (h : Said base W c d p q bl pg L X bad nx er) : Calls Try.prog 45 #[.pointer (some ⟨q, 0, none⟩), .int .i64 bl] W fun e w' => e = .returned (.int .i64 er) ∧ W = w' := by
  have := d_erases h.dl bl
  rw [h.q] at this
  exact this.mono fun e w' ⟨h1, h2⟩ => ⟨h1.trans (ret_int h.ed), h2⟩
theorem Said.onC (h : Said base W c d p q bl pg L X bad nx er) : Calls Try.prog 46 #[.pointer (some ⟨p, 0, none⟩)] W fun e w' => e = .returned (.bool c.on) ∧ W = w' := by
  have := on_any h.cl
  rw [h.p] at this; exact this
theorem Said.onD (h : Said base W c d p q bl pg L X bad nx er) : Calls Try.prog 47 #[.pointer (some ⟨q, 0, none⟩)] W fun e w' => e = .returned (.bool c.on) ∧ W = w' := by
  have := d_on h.dl
  rw [h.q, h.on, Bool.not_not] at this; exact this
theorem Said.opsC (h : Said base W c d p q bl pg L X bad nx er) : Calls Try.prog 25 #[.pointer (some ⟨p, 0, none⟩)] W fun e w' => e = .returned (.int .i64 c.ops) ∧ W = w' := by
  have := ops_any h.cl
  rw [h.p] at this; exact this
theorem Said.opsD (h : Said base W c d p q bl pg L X bad nx er) : Calls Try.prog 48 #[.pointer (some ⟨q, 0, none⟩)] W fun e w' => e = .returned (.int .i64 c.ops) ∧ W = w' := by
  have := d_ops h.dl
  rw [h.q, h.ops] at this; exact this
theorem Said.wrongC (h : Said base W c d p q bl pg L X bad nx er) : Calls Try.prog 24 #[.pointer (some ⟨p, 0, none⟩)] W fun e w' => e = .returned (.int .i64 c.wrong) ∧ W = w' := by
  have := wrong_any h.cl
  rw [h.p] at this; exact this
theorem Said.wrongD (h : Said base W c d p q bl pg L X bad nx er) : Calls Try.prog 49 #[.pointer (some ⟨q, 0, none⟩)] W fun e w' => e = .returned (.int .i64 c.wrong) ∧ W = w' := by
  have := d_wrong h.dl
  rw [h.q, h.wrong] at this; exact this
theorem Said.geoC (h : Said base W c d p q bl pg L X bad nx er) : Calls Try.prog 50 #[.pointer (some ⟨p, 0, none⟩)] W fun e w' => e = .returned (.agg #[.int .i64 c.gb, .int .i64 c.gp, .int .i64 c.gz, .int .i64 c.gr]) ∧ Below W.heap.size W w' := by
  have := geometry_any h.cl
  rw [h.p] at this; exact this
theorem Said.geoD (h : Said base W c d p q bl pg L X bad nx er) : Calls Try.prog 51 #[.pointer (some ⟨q, 0, none⟩)] W fun e w' => e = .returned (.agg #[.int .i64 c.gb, .int .i64 c.gp, .int .i64 c.gz, .int .i64 c.gr]) ∧ Below W.heap.size W w' := by
  have := d_geometry h.dl
  obtain ⟨g1, g2, g3, g4⟩ := h.geo
  rw [h.q, g1, g2, g3, g4] at this; exact this
end
set_option maxHeartbeats 4000000 in
theorem looks_any {base : Nat} {w : World} {c : CS} {d : DS} {k : Nat} (h : Duo base w c d k) (p q : Nat) (hp : c.p = p) (hq : d.p = q) (bl pg : Int) :
    Calls Try.prog 14 #[.pointer (some ⟨p, 0, none⟩), .pointer (some ⟨q, 0, none⟩), .int .i64 bl, .int .i64 pg] w fun e w' => e = .returned (.bool true) ∧ Below w.heap.size w w' := by
  obtain ⟨L, X, bad, nx, er, hs⟩ := h.said p q hp hq bl pg
  obtain ⟨cop, hcop⟩ : ∃ x, x = c.ops := ⟨_, rfl⟩
  have HSD : Hid (Said base w c d p q bl pg L X bad nx er) := hs
  clear hs h hp hq
  go_enter Try.func14, Try.ntmps14
  go_wp2_with (first
    | (go_at_call 22; refine HSD.out.readC.mono ?_; rintro e w1 ⟨a1, m1, cap1, rfl, hr1, hb1⟩; have HS1 : Hid (Said base w1 c d p q bl pg L X bad nx er) := HSD.out.later hb1; have HB1 : Hid (Below _ _ _) := hb1; have HR1 : Hid (_ ∧ _) := hr1; clear hb1 hr1)
    | (go_at_call 39; refine HS1.out.readD.mono ?_; rintro e w2 ⟨a2, m2, cap2, rfl, hr2, hb2⟩; have HS2 : Hid (Said base w2 c d p q bl pg L X bad nx er) := HS1.out.later hb2; have HB2 : Hid (Below _ _ _) := Below.after HB1.out hb2; have HR2 : Hid (_ ∧ _) := hr2; have HR3 : Hid (BRow _ _ _) := HR1.out.2.later hb2; clear hb2 hr2)
    | (go_at_call 40; refine (same_at _ HR1.out.1 HR2.out.1 HSD.out.lt HR3.out HR2.out.2).mono ?_; rintro e w' ⟨rfl, rfl⟩)
    | (go_at_call 41; refine HS2.out.badC.mono ?_; rintro e w' ⟨rfl, rfl⟩)
    | (go_at_call 42; refine HS2.out.badD.mono ?_; rintro e w' ⟨rfl, rfl⟩)
    | (go_at_call 23; refine HS2.out.nextC.mono ?_; rintro e w' ⟨rfl, rfl⟩)
    | (go_at_call 43; refine HS2.out.nextD.mono ?_; rintro e w' ⟨rfl, rfl⟩)
    | (go_at_call 44; refine HS2.out.erasesC.mono ?_; rintro e w' ⟨rfl, rfl⟩)
    | (go_at_call 45; refine HS2.out.erasesD.mono ?_; rintro e w' ⟨rfl, rfl⟩)
    | (go_at_call 46; refine HS2.out.onC.mono ?_; rintro e w' ⟨rfl, rfl⟩)
    | (go_at_call 47; refine HS2.out.onD.mono ?_; rintro e w' ⟨rfl, rfl⟩)
    | (go_at_call 25; refine HS2.out.opsC.mono ?_; rintro e w' ⟨rfl, rfl⟩)
    | (go_at_call 48; refine HS2.out.opsD.mono ?_; rintro e w' ⟨rfl, rfl⟩)
    | (go_at_call 24; refine HS2.out.wrongC.mono ?_; rintro e w' ⟨rfl, rfl⟩)
    | (go_at_call 49; refine HS2.out.wrongD.mono ?_; rintro e w' ⟨rfl, rfl⟩)
    | (go_at_call 50; refine HS2.out.geoC.mono ?_; rintro e w3 ⟨rfl, hb3⟩; have HS3 : Hid (Said base w3 c d p q bl pg L X bad nx er) := HS2.out.later hb3; have HB3 : Hid (Below _ _ _) := Below.after HB2.out hb3; clear hb3)
    | (go_at_call 51; refine HS3.out.geoD.mono ?_; rintro e w4 ⟨rfl, hb4⟩; have HB4 : Hid (Below _ _ _) := Below.after HB3.out hb4; clear hb4))
  all_goals go_ret
  all_goals exact ⟨rfl, HB4.out⟩
end Go.Proofs.Ytiejkbncpbhcdaa
