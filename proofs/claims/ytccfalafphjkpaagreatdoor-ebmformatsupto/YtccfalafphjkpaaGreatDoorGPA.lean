/-
  What look of package scan answers: a block's sight.
-/
import Derived.Test.YtccfalafphjkpaaGreatDoorGOA
import Derived.Test.YtccfalafphjkpaaGreatDoorGF
import Derived.Deep.RegionWith
namespace Go.Proofs.YtccfalafphjkpaaGreatDoor
open Go.RowKit
set_option maxRecDepth 10000

/-- A block's sight. -/
noncomputable def sightV (v : Vw) (n : Int) : Sg :=
  let pc := Hd.parseC (v.rd n 0).1
  let pm := Hd.parseM (v.rd n 1).1
  let mp := pm.isSome && decide (((pm.getD (0, 0, 0)).1 : Int) < v.lebs)
  ⟨v.bd n, v.nx n == 1, pc.isSome, ((pc.getD 0 : Nat) : Int), mp, ((pm.getD (0, 0, 0)).1 : Nat), ((pm.getD (0, 0, 0)).2.1 : Nat), ((pm.getD (0, 0, 0)).2.2 : Nat), if mp then (writtenV v n).1 else 0, if mp then (writtenV v n).2 else false⟩
def zeroS : List Value := [.bool false, .bool false, .bool false, .int .i64 0, .bool false, .int .i64 0, .int .u64 0, .int .i64 0, .int .i64 0, .bool false]
/-- What lies on while a block is looked at. -/
structure Lk (base : Nat) (w W : World) (B : Nat) (c : CS) (cs : List Value) (a2 : Option Addr) (n2 cap2 : Nat) (l2 : List Nat) : Prop where
  res : Row W w.heap.size zeroS 93
  box : Row W B cs 93
  ne : w.heap.size < B
  up : 1 < B
  chip : Lies base W c
  foot : ∀ k, c.foot k → k < B
  glb : Hd.Glb W
  sec : Hd.Lies W a2 n2 cap2 l2
  low : l2 = [] ∨ ∀ b o, a2 = some ⟨b, o, none⟩ → b < B
  bel : Below w.heap.size w W
theorem Lk.later {base : Nat} {w W W' : World} {B : Nat} {c : CS} {cs : List Value} {a2 : Option Addr} {n2 cap2 : Nat} {l2 : List Nat} (h : Lk base w W B c cs a2 n2 cap2 l2) (hb : Below W.heap.size W W') : Lk base w W' B c cs a2 n2 cap2 l2 :=
  ⟨h.res.later hb, h.box.later hb, h.ne, h.up, h.chip.later hb, h.foot, h.glb.later hb, h.sec.later hb, h.low, Below.after h.bel hb⟩
theorem Lk.set {base : Nat} {w W : World} {B i : Nat} {c : CS} {cs : List Value} {a2 : Option Addr} {n2 cap2 : Nat} {l2 : List Nat} (h : Lk base w W B c cs a2 n2 cap2 l2) (v : Value) (hi : i < cs.length) : Lk base w (W.setCell ⟨B, i, none⟩ v) B c (cs.set i v) a2 n2 cap2 l2 := by
  have hk : Kept (fun k => k = B) W (W.setCell ⟨B, i, none⟩ v) := (Kept.refl (fun k => k = B) W).setCell (p := ⟨B, i, none⟩) rfl v
  have hne := h.ne
  refine ⟨h.res.kept hk (by omega), h.box.set v hi, h.ne, h.up, h.chip.kept hk ?_ ?_, h.foot, ?_, ⟨h.sec.len, h.sec.le, h.sec.max, h.sec.lt, ?_⟩, h.low, h.bel.setCell (by show _ ≤ B; omega) v⟩
  · intro k hkf e
    have := h.foot k hkf
    omega
  · intro b ds hr e
    subst e
    exact hr.ne h.box (by decide) rfl
  · obtain ⟨x, hx⟩ := h.glb
    refine ⟨x, ?_⟩
    rw [World.cell?_of_block (a := ⟨1, 0, none⟩) (hk.block 1 (World.block_lt_of_cell? W _ hx) (by have := h.up; omega))]
    exact hx
  · rcases h.low with e | h2
    · exact .inl e
    · rcases h.sec.row with e | ⟨b, off, e, hc⟩
      · exact .inl e
      · refine .inr ⟨b, off, e, fun j hj => ?_⟩
        have h1 := hc j hj
        rw [World.cell?_of_block (a := ⟨b, off + j, none⟩) (hk.block b (World.block_lt_of_cell? W _ h1) (by have := h2 b off e; omega))]
        exact h1
theorem Lk.drew {base : Nat} {w W : World} {B : Nat} {c : CS} {cs : List Value} {a2 : Option Addr} {n2 cap2 : Nat} {l2 : List Nat} (h : Lk base w W B c cs a2 n2 cap2 l2) : Lk base w W.drew B c cs a2 n2 cap2 l2 := h.later (Below.refl _ _).drew
/-- The cells that the walk reads and writes. -/
structure LkS (W : World) (B : Nat) (x0 x1 x2 x3 x4 x5 x6 x7 x8 x9 : Value) : Prop where
  c0 : W.cell? ⟨B, 0, none⟩ = some x0
  c1 : W.cell? ⟨B, 1, none⟩ = some x1
  c2 : W.cell? ⟨B, 2, none⟩ = some x2
  c3 : W.cell? ⟨B, 3, none⟩ = some x3
  c4 : W.cell? ⟨B, 4, none⟩ = some x4
  c5 : W.cell? ⟨B, 5, none⟩ = some x5
  c6 : W.cell? ⟨B, 6, none⟩ = some x6
  c7 : W.cell? ⟨B, 7, none⟩ = some x7
  c8 : W.cell? ⟨B, 8, none⟩ = some x8
  c9 : W.cell? ⟨B, 9, none⟩ = some x9
  fz : ∀ i, W.frozen? ⟨B, i, none⟩ = false
  lt : B < W.heap.size
theorem LkS.of {W : World} {B : Nat} {x0 x1 x2 x3 x4 x5 x6 x7 x8 x9 : Value} {t : TypeId} (h : Row W B [x0, x1, x2, x3, x4, x5, x6, x7, x8, x9] t) : LkS W B x0 x1 x2 x3 x4 x5 x6 x7 x8 x9 :=
  ⟨h.cell (i := 0) rfl, h.cell (i := 1) rfl, h.cell (i := 2) rfl, h.cell (i := 3) rfl, h.cell (i := 4) rfl, h.cell (i := 5) rfl, h.cell (i := 6) rfl, h.cell (i := 7) rfl, h.cell (i := 8) rfl, h.cell (i := 9) rfl, h.frozen, h.lt⟩
theorem got_lies {w w' : World} {l : List Nat} {a : Option Addr} {m cap : Nat} (hg : Got w w' l a m cap) (hl : ∀ x ∈ l, x < 256) : Hd.Lies w' a m cap l :=
  ⟨hg.len, hg.fits, by have := hg.most; unfold maxLen; omega, hl, hg.row⟩
theorem lk_start {base : Nat} {w W2 : World} {c : CS} {a2 : Option Addr} {n2 cap2 : Nat} {l2 : List Nat} (x0 x1 x2 x3 x4 x5 x6 x7 x8 x9 : Value) (h1 : Row W2 w.heap.size zeroS 93) (h2 : Lies base W2 c) (h3 : Hd.Glb W2) (h4 : Hd.Lies W2 a2 n2 cap2 l2) (h5 : Below w.heap.size w W2) :
    Lk base w (W2.alloc (.cells #[x0, x1, x2, x3, x4, x5, x6, x7, x8, x9] 93)) W2.heap.size c [x0, x1, x2, x3, x4, x5, x6, x7, x8, x9] a2 n2 cap2 l2 := by
  have hb := below_new W2 (.cells #[x0, x1, x2, x3, x4, x5, x6, x7, x8, x9] 93)
  refine ⟨h1.later hb, Row.new W2 [x0, x1, x2, x3, x4, x5, x6, x7, x8, x9] _, h1.lt, h3.lt, h2.later hb, fun k hk => h2.foot_lt hk, h3.later hb, h4.later hb, ?_, Below.after h5 hb⟩
  rcases h4.row with e | ⟨b, off, e, hc⟩
  · exact .inl e
  · cases l2 with
    | nil => exact .inl rfl
    | cons y r =>
      refine .inr fun b' o' e' => ?_
      rw [e] at e'
      cases e'
      exact World.block_lt_of_cell? W2 _ (hc 0 (by simp))
theorem pc_any {w : World} {a : Option Addr} {n cap : Nat} {l : List Nat} (hg : Hd.Glb w) (h : Hd.Lies w a n cap l) : Calls Tryz.prog 64 #[.slice a n cap] w (Hd.CPost w (Hd.parseC l)) :=
  Hd.parseCount_any a n cap l w hg h.len h.le h.max h.lt h.row
theorem pm_any {w : World} {a : Option Addr} {n cap : Nat} {l : List Nat} (hg : Hd.Glb w) (h : Hd.Lies w a n cap l) : Calls Tryz.prog 116 #[.slice a n cap] w (Hd.MPost w (Hd.parseM l)) :=
  Hd.parseMapping_any a n cap l w hg h.len h.le h.max h.lt h.row
theorem cpost_elim {w : World} {r : Option Nat} {e : Ending} {w' : World} (h : Hd.CPost w r e w') : e = .returned (.tuple #[.int .i64 ((r.getD 0 : Nat) : Int), .bool r.isSome]) ∧ Below w.heap.size w w' := h
theorem mpost_elim {w : World} {r : Option (Nat × Nat × Nat)} {e : Ending} {w' : World} (h : Hd.MPost w r e w') : e = .returned (.tuple #[.agg #[.int .i64 ((r.getD (0, 0, 0)).1 : Nat), .int .u64 ((r.getD (0, 0, 0)).2.1 : Nat), .int .i64 ((r.getD (0, 0, 0)).2.2 : Nat)], .bool r.isSome]) ∧ Below w.heap.size w w' := h
theorem ten_row {W : World} {b : Nat} {t : TypeId} {z0 z1 z2 z3 z4 z5 z6 z7 z8 z9 : Value} (h : Row W b [z0, z1, z2, z3, z4, z5, z6, z7, z8, z9] t) (v0 v1 v2 v3 v4 v5 v6 v7 v8 v9 : Value) :
    Row ((((((((((W.setCell ⟨b, 0, none⟩ v0).setCell ⟨b, 1, none⟩ v1).setCell ⟨b, 2, none⟩ v2).setCell ⟨b, 3, none⟩ v3).setCell ⟨b, 4, none⟩ v4).setCell ⟨b, 5, none⟩ v5).setCell ⟨b, 6, none⟩ v6).setCell ⟨b, 7, none⟩ v7).setCell ⟨b, 8, none⟩ v8).setCell ⟨b, 9, none⟩ v9) b [v0, v1, v2, v3, v4, v5, v6, v7, v8, v9] t :=
  (((((((((h.set (i := 0) v0 (by simp)).set (i := 1) v1 (by simp)).set (i := 2) v2 (by simp)).set (i := 3) v3 (by simp)).set (i := 4) v4 (by simp)).set (i := 5) v5 (by simp)).set (i := 6) v6 (by simp)).set (i := 7) v7 (by simp)).set (i := 8) v8 (by simp)).set (i := 9) v9 (by simp)
theorem ten_below {w W : World} {b : Nat} (hb : b = w.heap.size) (h : Below w.heap.size w W) (v0 v1 v2 v3 v4 v5 v6 v7 v8 v9 : Value) :
    Below w.heap.size w ((((((((((W.setCell ⟨b, 0, none⟩ v0).setCell ⟨b, 1, none⟩ v1).setCell ⟨b, 2, none⟩ v2).setCell ⟨b, 3, none⟩ v3).setCell ⟨b, 4, none⟩ v4).setCell ⟨b, 5, none⟩ v5).setCell ⟨b, 6, none⟩ v6).setCell ⟨b, 7, none⟩ v7).setCell ⟨b, 8, none⟩ v8).setCell ⟨b, 9, none⟩ v9) := by
  subst hb
  exact (((((((((h.setCell (Nat.le_refl _) _).setCell (Nat.le_refl _) _).setCell (Nat.le_refl _) _).setCell (Nat.le_refl _) _).setCell (Nat.le_refl _) _).setCell (Nat.le_refl _) _).setCell (Nat.le_refl _) _).setCell (Nat.le_refl _) _).setCell (Nat.le_refl _) _).setCell (Nat.le_refl _) _
/-- What look leaves. -/
def LookPost (w : World) (s : Sg) (e : Ending) (w' : World) : Prop := e = .returned (sgV s) ∧ Below w.heap.size w w'
theorem look_results (tmps : Array Value) (B : Nat) (s : Sg) (W : World) (h2 : tmps[4]?.getD undef = .pointer (some ⟨B, 0, none⟩)) (h : LkS W B (.bool s.marked) (.bool s.blank) (.bool s.counted) (.int .i64 s.count) (.bool s.mapped) (.int .i64 s.leb) (.int .u64 s.seq) (.int .i64 s.pages) (.int .i64 s.used) (.bool s.closed)) :
    (results Tryz.f81 tmps).run Tryz.prog W = .ok (sgV s) W := by
  obtain ⟨c0, c1, c2, c3, c4, c5, c6, c7, c8, c9, _, _⟩ := h
  simp [results, Tryz.f81, go_sem, h2, c0, c1, c2, c3, c4, c5, c6, c7, c8, c9, sgV]

set_option maxHeartbeats 16000000 in
theorem look_any {base : Nat} {w : World} {c : CS} (h : Lies base w c) (p : Nat) (hp : c.p = p) (n : Int) (hg : Hd.Glb w) :
    Calls Tryz.prog 81 #[.pointer (some ⟨p, 0, none⟩), .int .i64 n] w (LookPost w (sightV c.vw n)) := by
  have HV : Hid (sightV c.vw n = ⟨c.vw.bd n, c.vw.nx n == 1, (Hd.parseC (c.vw.rd n 0).1).isSome, (((Hd.parseC (c.vw.rd n 0).1).getD 0 : Nat) : Int), (Hd.parseM (c.vw.rd n 1).1).isSome && decide ((((Hd.parseM (c.vw.rd n 1).1).getD (0, 0, 0)).1 : Int) < c.vw.lebs), (((Hd.parseM (c.vw.rd n 1).1).getD (0, 0, 0)).1 : Nat), (((Hd.parseM (c.vw.rd n 1).1).getD (0, 0, 0)).2.1 : Nat), (((Hd.parseM (c.vw.rd n 1).1).getD (0, 0, 0)).2.2 : Nat), if (Hd.parseM (c.vw.rd n 1).1).isSome && decide ((((Hd.parseM (c.vw.rd n 1).1).getD (0, 0, 0)).1 : Int) < c.vw.lebs) then (writtenV c.vw n).1 else 0, if (Hd.parseM (c.vw.rd n 1).1).isSome && decide ((((Hd.parseM (c.vw.rd n 1).1).getD (0, 0, 0)).1 : Int) < c.vw.lebs) then (writtenV c.vw n).2 else false⟩) := rfl
  have hg0 := read_lt h.good n 0
  have hg1 := read_lt h.good n 1
  obtain ⟨hx0, hx1⟩ := nx_le h.good n
  have cR := fun W (hW : Lies base W c) k => vread_any hW p hp n k
  have cB := fun W (hW : Lies base W c) => vbad_any hW p hp n
  have cN := fun W (hW : Lies base W c) => vnext_any hW p hp n
  have cG := fun W (hW : Lies base W c) => vgeo_any hW p hp
  have cL := fun W => lebs_any c.gb c.gp c.gz c.gr W
  have cW := fun W (hW : Lies base W c) => written_any hW p hp n
  have HLB : Hid (c.vw.lebs = lebsI c.gb c.gp c.gz c.gr) := rfl
  have HG0 : Hid (∀ x ∈ (c.vw.rd n 0).1, x < 256) := hg0
  have HG1 : Hid (∀ x ∈ (c.vw.rd n 1).1, x < 256) := hg1
  have cR0 := fun W hW => cR W hW 0
  have cR1 := fun W hW => cR W hW 1
  obtain ⟨v, hv⟩ : ∃ v, v = c.vw := ⟨_, rfl⟩
  rw [← hv] at HV HLB HG0 HG1 hx0 hx1 ⊢
  simp only [← hv] at cR0 cR1 cB cN cW
  obtain ⟨l1, e1⟩ : ∃ l, l = (v.rd n 0).1 := ⟨_, rfl⟩
  obtain ⟨l2, e2⟩ : ∃ l, l = (v.rd n 1).1 := ⟨_, rfl⟩
  obtain ⟨f1, e3⟩ : ∃ l, l = (v.rd n 0).2 := ⟨_, rfl⟩
  obtain ⟨f2, e4⟩ : ∃ l, l = (v.rd n 1).2 := ⟨_, rfl⟩
  rw [← e1] at HV HG0
  rw [← e2] at HV HG1
  simp only [← e1, ← e3] at cR0
  simp only [← e2, ← e4] at cR1
  obtain ⟨bd, e5⟩ : ∃ l, l = v.bd n := ⟨_, rfl⟩
  obtain ⟨nx, e6⟩ : ∃ l, l = v.nx n := ⟨_, rfl⟩
  rw [← e5, ← e6] at HV
  simp only [← e5] at cB
  simp only [← e6] at cN
  rw [← e6] at hx0 hx1
  obtain ⟨wr, e7⟩ : ∃ l, l = writtenV v n := ⟨_, rfl⟩
  rw [← e7] at HV
  simp only [← e7] at cW
  have cC := fun W (a : Option Addr) (m cap : Nat) (hG : Hd.Glb W) (hl : Hd.Lies W a m cap l1) => pc_any hG hl
  have cM := fun W (a : Option Addr) (m cap : Nat) (hG : Hd.Glb W) (hl : Hd.Lies W a m cap l2) => pm_any hG hl
  obtain ⟨pc, e8⟩ : ∃ l, l = Hd.parseC l1 := ⟨_, rfl⟩
  obtain ⟨pm, e9⟩ : ∃ l, l = Hd.parseM l2 := ⟨_, rfl⟩
  rw [← e8, ← e9] at HV
  simp only [← e8] at cC
  simp only [← e9] at cM
  obtain ⟨z, ez⟩ : ∃ z, z = pc.getD 0 := ⟨_, rfl⟩
  obtain ⟨zb, ezb⟩ : ∃ z, z = pc.isSome := ⟨_, rfl⟩
  have cC' : ∀ W (a : Option Addr) (m cap : Nat), Hd.Glb W → Hd.Lies W a m cap l1 → Calls Tryz.prog 64 #[.slice a m cap] W fun e w' => e = .returned (.tuple #[.int .i64 (z : Int), .bool zb]) ∧ Below W.heap.size W w' := fun W a m cap hG hl => by rw [ez, ezb]; exact cC W a m cap hG hl
  rw [← ez, ← ezb] at HV
  obtain ⟨y1, ey1⟩ : ∃ z, z = (pm.getD (0, 0, 0)).1 := ⟨_, rfl⟩
  obtain ⟨y2, ey2⟩ : ∃ z, z = (pm.getD (0, 0, 0)).2.1 := ⟨_, rfl⟩
  obtain ⟨y3, ey3⟩ : ∃ z, z = (pm.getD (0, 0, 0)).2.2 := ⟨_, rfl⟩
  obtain ⟨yb, eyb⟩ : ∃ z, z = pm.isSome := ⟨_, rfl⟩
  have cM' : ∀ W (a : Option Addr) (m cap : Nat), Hd.Glb W → Hd.Lies W a m cap l2 → Calls Tryz.prog 116 #[.slice a m cap] W fun e w' => e = .returned (.tuple #[.agg #[.int .i64 (y1 : Int), .int .u64 (y2 : Int), .int .i64 (y3 : Int)], .bool yb]) ∧ Below W.heap.size W w' := fun W a m cap hG hl => by rw [ey1, ey2, ey3, eyb]; exact cM W a m cap hG hl
  rw [← ey1, ← ey2, ← ey3, ← eyb] at HV
  obtain ⟨lb, elb⟩ : ∃ z, z = v.lebs := ⟨_, rfl⟩
  rw [← elb] at HV HLB
  have cL' : ∀ W, Calls Tryz.prog 32 #[.agg #[.int .i64 c.gb, .int .i64 c.gp, .int .i64 c.gz, .int .i64 c.gr]] W fun e w' => e = .returned (.int .i64 lb) ∧ Below W.heap.size W w' := fun W => by rw [HLB.out]; exact cL W
  obtain ⟨u1, eu1⟩ : ∃ z, z = wr.1 := ⟨_, rfl⟩
  obtain ⟨u2, eu2⟩ : ∃ z, z = wr.2 := ⟨_, rfl⟩
  rw [← eu1, ← eu2] at HV
  simp only [← eu1, ← eu2] at cW
  obtain ⟨S, eS⟩ : ∃ S, S = sightV v n := ⟨_, rfl⟩
  rw [← eS] at HV ⊢
  obtain ⟨W0, hW0⟩ : ∃ W, W = w.alloc (.cells zeroS.toArray 93) := ⟨_, rfl⟩
  have HR0 : Hid (Row W0 w.heap.size zeroS 93) := by rw [hW0]; exact Row.new w zeroS _
  have HB0 : Hid (Below w.heap.size w W0) := by rw [hW0]; exact below_new w _
  have HL0 : Hid (Lies base W0 c) := h.later HB0.out
  have HGl : Hid (Hd.Glb W0) := hg.later HB0.out
  clear e1 e2 e3 e4 e5 e6 e7 e8 e9 ez ezb ey1 ey2 ey3 eyb elb eu1 eu2 eS hv cC cM cL cR hg0 hg1 h hg HLB
  unfold zeroS at hW0
  have M1 : Hid True := trivial
  cases yb with
  | false =>
    have HV' : Hid (S = ⟨bd, nx == 1, zb, z, false, y1, y2, y3, 0, false⟩) := by show _ = _; rw [HV.out]; simp
    clear HV
    go_enter Tryz.func81, Tryz.ntmps81
    go_wp2_with fail
    rw [← hW0]
    clear hW0
    go_wp2_with (first
      | (go_at_call 42; clear M1; refine (cR0 _ HL0.out).mono ?_; rintro e W1 ⟨a1, m1, k1, rfl, hg1⟩; have HL1 : Hid (Lies base W1 c) := HL0.out.later hg1.below; have HB1 : Hid (Below w.heap.size w W1) := Below.after HB0.out hg1.below; have HR1 : Hid (Row W1 w.heap.size zeroS 93) := HR0.out.later hg1.below; have HG1' : Hid (Hd.Glb W1) := HGl.out.later hg1.below; have HS1 : Hid (Hd.Lies W1 a1 m1 k1 l1) := got_lies hg1 HG0.out; clear hg1)
      | (go_at_call 42; refine (cR1 _ HL1.out).mono ?_; rintro e W2 ⟨a2, m2, k2, rfl, hg2⟩; have HL2 : Hid (Lies base W2 c) := HL1.out.later hg2.below; have HB2 : Hid (Below w.heap.size w W2) := Below.after HB1.out hg2.below; have HR2 : Hid (Row W2 w.heap.size zeroS 93) := HR1.out.later hg2.below; have HG2' : Hid (Hd.Glb W2) := HG1'.out.later hg2.below; have HS2 : Hid (Hd.Lies W2 a1 m1 k1 l1) := HS1.out.later hg2.below; have HT2 : Hid (Hd.Lies W2 a2 m2 k2 l2) := got_lies hg2 HG1.out; clear hg2)
      | (go_at_call 93; refine (cB _ HL2.out).mono ?_; rintro e w' ⟨rfl, rfl⟩)
      | (go_at_call 115; refine (cN _ HL2.out).mono ?_; rintro e w' ⟨rfl, rfl⟩)
      | (go_at_call 64; refine (cC' _ _ _ _ (HG2'.out.later (below_new _ _)) (HS2.out.later (below_new _ _))).mono ?_; rintro e W3 ⟨rfl, hb3⟩; have HK3 : Hid (Lk base w W3 W2.heap.size c [.bool bd, .bool (nx == 1), .bool false, .int .i64 0, .bool false, .int .i64 0, .int .u64 0, .int .i64 0, .int .i64 0, .bool false] a2 m2 k2 l2) := (lk_start _ _ _ _ _ _ _ _ _ _ HR2.out HL2.out HG2'.out HT2.out HB2.out).later hb3; obtain ⟨c0, c1, c2, c3, c4, c5, c6, c7, c8, c9, fz, ltB⟩ := LkS.of HK3.out.box; have neB := HK3.out.ne; clear hb3)
      | (go_at_call 116; clear c0 c1 c2 c3 c4 c5 c6 c7 c8 c9 fz ltB; refine (cM' _ _ _ _ ((HK3.out.set (i := 3) (.int .i64 (z : Int)) (by simp)).set (i := 2) (.bool zb) (by simp)).glb ((HK3.out.set (i := 3) (.int .i64 (z : Int)) (by simp)).set (i := 2) (.bool zb) (by simp)).sec).mono ?_; rintro e W4 ⟨rfl, hb4⟩; have HK4 : Hid (Lk base w W4 W2.heap.size c [.bool bd, .bool (nx == 1), .bool zb, .int .i64 (z : Int), .bool false, .int .i64 0, .int .u64 0, .int .i64 0, .int .i64 0, .bool false] a2 m2 k2 l2) := ((HK3.out.set (i := 3) (.int .i64 (z : Int)) (by simp)).set (i := 2) (.bool zb) (by simp)).later hb4; obtain ⟨c0, c1, c2, c3, c4, c5, c6, c7, c8, c9, fz, ltB⟩ := LkS.of HK4.out.box; clear hb4))
    clear c0 c1 c2 c3 c4 c5 c6 c7 c8 c9 fz ltB
    obtain ⟨B, hB⟩ : ∃ B, B = W2.heap.size := ⟨_, rfl⟩
    rw [← hB] at HK4 neB ⊢
    obtain ⟨W5, hW5⟩ : ∃ W5, W5 = (((W4.setCell ⟨B, 5, none⟩ (.int .i64 (y1 : Int))).setCell ⟨B, 6, none⟩ (.int .u64 (y2 : Int))).setCell ⟨B, 7, none⟩ (.int .i64 (y3 : Int))).setCell ⟨B, 4, none⟩ (.bool false) := ⟨_, rfl⟩
    have HK5 : Hid (Lk base w W5 B c [.bool bd, .bool (nx == 1), .bool zb, .int .i64 (z : Int), .bool false, .int .i64 (y1 : Int), .int .u64 (y2 : Int), .int .i64 (y3 : Int), .int .i64 0, .bool false] a2 m2 k2 l2) := by rw [hW5]; exact (((HK4.out.set (i := 5) (.int .i64 (y1 : Int)) (by simp)).set (i := 6) (.int .u64 (y2 : Int)) (by simp)).set (i := 7) (.int .i64 (y3 : Int)) (by simp)).set (i := 4) (.bool false) (by simp)
    rw [← hW5]
    clear hW5 hB HK4 HK3 HT2 HS2 HG2' HR2 HB2 HL2 HS1 HG1' HR1 HB1 HL1 HL0 HB0 HR0 HGl cR0 cR1 cB cN cC' cM'
    obtain ⟨c0, c1, c2, c3, c4, c5, c6, c7, c8, c9, fz, ltB⟩ := LkS.of HK5.out.box
    obtain ⟨r0, r1, r2, r3, r4, r5, r6, r7, r8, r9, gz, ltR⟩ := LkS.of HK5.out.res
    have neR : ¬ w.heap.size = B := by omega
    have neR2 : ¬ B = w.heap.size := by omega
    go_region
    go_wp2
    refine bodyPost_ret (v := sgV S) ?_ rfl ⟨rfl, ?_⟩
    · rw [HV'.out]
      exact look_results _ w.heap.size _ _ rfl (LkS.of (ten_row (HK5.out.set (i := 4) (.bool false) (by simp)).res _ _ _ _ _ _ _ _ _ _).drew)
    · exact (ten_below rfl (HK5.out.set (i := 4) (.bool false) (by simp)).bel _ _ _ _ _ _ _ _ _ _).drew
  | true =>
    go_enter Tryz.func81, Tryz.ntmps81
    go_wp2_with fail
    rw [← hW0]
    clear hW0
    go_wp2_with (first
      | (go_at_call 42; clear M1; refine (cR0 _ HL0.out).mono ?_; rintro e W1 ⟨a1, m1, k1, rfl, hg1⟩; have HL1 : Hid (Lies base W1 c) := HL0.out.later hg1.below; have HB1 : Hid (Below w.heap.size w W1) := Below.after HB0.out hg1.below; have HR1 : Hid (Row W1 w.heap.size zeroS 93) := HR0.out.later hg1.below; have HG1' : Hid (Hd.Glb W1) := HGl.out.later hg1.below; have HS1 : Hid (Hd.Lies W1 a1 m1 k1 l1) := got_lies hg1 HG0.out; clear hg1)
      | (go_at_call 42; refine (cR1 _ HL1.out).mono ?_; rintro e W2 ⟨a2, m2, k2, rfl, hg2⟩; have HL2 : Hid (Lies base W2 c) := HL1.out.later hg2.below; have HB2 : Hid (Below w.heap.size w W2) := Below.after HB1.out hg2.below; have HR2 : Hid (Row W2 w.heap.size zeroS 93) := HR1.out.later hg2.below; have HG2' : Hid (Hd.Glb W2) := HG1'.out.later hg2.below; have HS2 : Hid (Hd.Lies W2 a1 m1 k1 l1) := HS1.out.later hg2.below; have HT2 : Hid (Hd.Lies W2 a2 m2 k2 l2) := got_lies hg2 HG1.out; clear hg2)
      | (go_at_call 93; refine (cB _ HL2.out).mono ?_; rintro e w' ⟨rfl, rfl⟩)
      | (go_at_call 115; refine (cN _ HL2.out).mono ?_; rintro e w' ⟨rfl, rfl⟩)
      | (go_at_call 64; refine (cC' _ _ _ _ (HG2'.out.later (below_new _ _)) (HS2.out.later (below_new _ _))).mono ?_; rintro e W3 ⟨rfl, hb3⟩; have HK3 : Hid (Lk base w W3 W2.heap.size c [.bool bd, .bool (nx == 1), .bool false, .int .i64 0, .bool false, .int .i64 0, .int .u64 0, .int .i64 0, .int .i64 0, .bool false] a2 m2 k2 l2) := (lk_start _ _ _ _ _ _ _ _ _ _ HR2.out HL2.out HG2'.out HT2.out HB2.out).later hb3; obtain ⟨c0, c1, c2, c3, c4, c5, c6, c7, c8, c9, fz, ltB⟩ := LkS.of HK3.out.box; have neB := HK3.out.ne; clear hb3)
      | (go_at_call 116; clear c0 c1 c2 c3 c4 c5 c6 c7 c8 c9 fz ltB; refine (cM' _ _ _ _ ((HK3.out.set (i := 3) (.int .i64 (z : Int)) (by simp)).set (i := 2) (.bool zb) (by simp)).glb ((HK3.out.set (i := 3) (.int .i64 (z : Int)) (by simp)).set (i := 2) (.bool zb) (by simp)).sec).mono ?_; rintro e W4 ⟨rfl, hb4⟩; have HK4 : Hid (Lk base w W4 W2.heap.size c [.bool bd, .bool (nx == 1), .bool zb, .int .i64 (z : Int), .bool false, .int .i64 0, .int .u64 0, .int .i64 0, .int .i64 0, .bool false] a2 m2 k2 l2) := ((HK3.out.set (i := 3) (.int .i64 (z : Int)) (by simp)).set (i := 2) (.bool zb) (by simp)).later hb4; obtain ⟨c0, c1, c2, c3, c4, c5, c6, c7, c8, c9, fz, ltB⟩ := LkS.of HK4.out.box; clear hb4))
    clear c0 c1 c2 c3 c4 c5 c6 c7 c8 c9 fz ltB
    obtain ⟨B, hB⟩ : ∃ B, B = W2.heap.size := ⟨_, rfl⟩
    rw [← hB] at HK4 neB ⊢
    obtain ⟨W5, hW5⟩ : ∃ W5, W5 = (((W4.setCell ⟨B, 5, none⟩ (.int .i64 (y1 : Int))).setCell ⟨B, 6, none⟩ (.int .u64 (y2 : Int))).setCell ⟨B, 7, none⟩ (.int .i64 (y3 : Int))).setCell ⟨B, 4, none⟩ (.bool true) := ⟨_, rfl⟩
    have HK5 : Hid (Lk base w W5 B c [.bool bd, .bool (nx == 1), .bool zb, .int .i64 (z : Int), .bool true, .int .i64 (y1 : Int), .int .u64 (y2 : Int), .int .i64 (y3 : Int), .int .i64 0, .bool false] a2 m2 k2 l2) := by rw [hW5]; exact (((HK4.out.set (i := 5) (.int .i64 (y1 : Int)) (by simp)).set (i := 6) (.int .u64 (y2 : Int)) (by simp)).set (i := 7) (.int .i64 (y3 : Int)) (by simp)).set (i := 4) (.bool true) (by simp)
    rw [← hW5]
    clear hW5 hB HK4 HK3 HT2 HS2 HG2' HR2 HB2 HL2 HS1 HG1' HR1 HB1 HL1 HL0 HB0 HR0 HGl cR0 cR1 cB cN cC' cM'
    obtain ⟨c0, c1, c2, c3, c4, c5, c6, c7, c8, c9, fz, ltB⟩ := LkS.of HK5.out.box
    obtain ⟨r0, r1, r2, r3, r4, r5, r6, r7, r8, r9, gz, ltR⟩ := LkS.of HK5.out.res
    have neR : ¬ w.heap.size = B := by omega
    have neR2 : ¬ B = w.heap.size := by omega
    clear r0 r1 r2 r3 r4 r5 r6 r7 r8 r9 gz ltR
    by_cases hlb : (y1 : Int) < lb
    · have HV' : Hid (S = ⟨bd, nx == 1, zb, z, true, y1, y2, y3, u1, u2⟩) := by show _ = _; rw [HV.out]; simp [hlb]
      clear HV
      go_region_with (first
        | (go_at_call 31; clear c0 c1 c2 c3 c4 c5 c6 c7 c8 c9 fz ltB; (first | refine (cG _ HK5.out.chip).mono ?_ | refine (cG _ HK5.out.drew.chip).mono ?_); rintro e W6 ⟨rfl, hb6⟩; have HK6 : Hid (Lk base w W6 B c [.bool bd, .bool (nx == 1), .bool zb, .int .i64 (z : Int), .bool true, .int .i64 (y1 : Int), .int .u64 (y2 : Int), .int .i64 (y3 : Int), .int .i64 0, .bool false] a2 m2 k2 l2) := (by first | exact HK5.out.later hb6 | exact HK5.out.drew.later hb6); obtain ⟨c0, c1, c2, c3, c4, c5, c6, c7, c8, c9, fz, ltB⟩ := LkS.of HK6.out.box; clear hb6)
        | (go_at_call 32; clear c0 c1 c2 c3 c4 c5 c6 c7 c8 c9 fz ltB; refine (cL' _).mono ?_; rintro e W7 ⟨rfl, hb7⟩; have HK7 : Hid (Lk base w W7 B c [.bool bd, .bool (nx == 1), .bool zb, .int .i64 (z : Int), .bool true, .int .i64 (y1 : Int), .int .u64 (y2 : Int), .int .i64 (y3 : Int), .int .i64 0, .bool false] a2 m2 k2 l2) := HK6.out.later hb7; obtain ⟨c0, c1, c2, c3, c4, c5, c6, c7, c8, c9, fz, ltB⟩ := LkS.of HK7.out.box; obtain ⟨r0, r1, r2, r3, r4, r5, r6, r7, r8, r9, gz, ltR⟩ := LkS.of HK7.out.res; clear hb7))
      all_goals go_wp2_with (go_at_call 117; clear c0 c1 c2 c3 c4 c5 c6 c7 c8 c9 fz ltB r0 r1 r2 r3 r4 r5 r6 r7 r8 r9 gz ltR; refine (cW _ (HK7.out.set (i := 4) (.bool true) (by simp)).chip).mono ?_; rintro e W8 ⟨rfl, hb8⟩; have HK8 : Hid (Lk base w W8 B c [.bool bd, .bool (nx == 1), .bool zb, .int .i64 (z : Int), .bool true, .int .i64 (y1 : Int), .int .u64 (y2 : Int), .int .i64 (y3 : Int), .int .i64 0, .bool false] a2 m2 k2 l2) := (HK7.out.set (i := 4) (.bool true) (by simp)).later hb8; obtain ⟨c0, c1, c2, c3, c4, c5, c6, c7, c8, c9, fz, ltB⟩ := LkS.of HK8.out.box; obtain ⟨r0, r1, r2, r3, r4, r5, r6, r7, r8, r9, gz, ltR⟩ := LkS.of HK8.out.res; clear hb8)
      all_goals
        refine bodyPost_ret (v := sgV S) ?_ rfl ⟨rfl, ?_⟩
        · rw [HV'.out]
          exact look_results _ w.heap.size _ _ rfl (LkS.of (ten_row ((HK8.out.set (i := 8) (.int .i64 u1) (by simp)).set (i := 9) (.bool u2) (by simp)).res _ _ _ _ _ _ _ _ _ _))
        · exact ten_below rfl ((HK8.out.set (i := 8) (.int .i64 u1) (by simp)).set (i := 9) (.bool u2) (by simp)).bel _ _ _ _ _ _ _ _ _ _
    · have HV' : Hid (S = ⟨bd, nx == 1, zb, z, decide ((y1 : Int) < lb), y1, y2, y3, 0, false⟩) := by show _ = _; rw [HV.out]; simp [hlb]
      clear HV
      go_region_with (first
        | (go_at_call 31; clear c0 c1 c2 c3 c4 c5 c6 c7 c8 c9 fz ltB; (first | refine (cG _ HK5.out.chip).mono ?_ | refine (cG _ HK5.out.drew.chip).mono ?_); rintro e W6 ⟨rfl, hb6⟩; have HK6 : Hid (Lk base w W6 B c [.bool bd, .bool (nx == 1), .bool zb, .int .i64 (z : Int), .bool true, .int .i64 (y1 : Int), .int .u64 (y2 : Int), .int .i64 (y3 : Int), .int .i64 0, .bool false] a2 m2 k2 l2) := (by first | exact HK5.out.later hb6 | exact HK5.out.drew.later hb6); obtain ⟨c0, c1, c2, c3, c4, c5, c6, c7, c8, c9, fz, ltB⟩ := LkS.of HK6.out.box; clear hb6)
        | (go_at_call 32; clear c0 c1 c2 c3 c4 c5 c6 c7 c8 c9 fz ltB; refine (cL' _).mono ?_; rintro e W7 ⟨rfl, hb7⟩; have HK7 : Hid (Lk base w W7 B c [.bool bd, .bool (nx == 1), .bool zb, .int .i64 (z : Int), .bool true, .int .i64 (y1 : Int), .int .u64 (y2 : Int), .int .i64 (y3 : Int), .int .i64 0, .bool false] a2 m2 k2 l2) := HK6.out.later hb7; obtain ⟨c0, c1, c2, c3, c4, c5, c6, c7, c8, c9, fz, ltB⟩ := LkS.of HK7.out.box; obtain ⟨r0, r1, r2, r3, r4, r5, r6, r7, r8, r9, gz, ltR⟩ := LkS.of HK7.out.res; clear hb7))
      all_goals go_wp2
      all_goals
        refine bodyPost_ret (v := sgV S) ?_ rfl ⟨rfl, ?_⟩
        · rw [HV'.out]
          exact look_results _ w.heap.size _ _ rfl (LkS.of (ten_row (HK7.out.set (i := 4) (.bool (decide ((y1 : Int) < lb))) (by simp)).res _ _ _ _ _ _ _ _ _ _))
        · exact ten_below rfl (HK7.out.set (i := 4) (.bool (decide ((y1 : Int) < lb))) (by simp)).bel _ _ _ _ _ _ _ _ _ _
end Go.Proofs.YtccfalafphjkpaaGreatDoor
