/-
  What look of package scan answers: a block's sight.
  The sights of a chip's blocks, told by a range over a function and collected.
-/
import Derived.Test.YtkfecngkdlajgaaGreatDoorGOA
import Derived.Test.YtkfecngkdlajgaaGreatDoorGE
import Derived.Deep.RegionWith
namespace Go.Proofs.YtkfecngkdlajgaaGreatDoor
open Go.RowKit
set_option maxRecDepth 10000

/-- A block's sight. -/
noncomputable def sightV (v : Vw) (n : Int) : Sg :=
  let pc := Hd.parseC (v.rd n 0).1
  let pm := Hd.parseM (v.rd n 1).1
  let mp := pm.isSome && decide (((pm.getD (0, 0, 0)).1 : Int) < v.lebs)
  ⟨v.bd n, v.nx n == 1, pc.isSome, ((pc.getD 0 : Nat) : Int), mp, ((pm.getD (0, 0, 0)).1 : Nat), ((pm.getD (0, 0, 0)).2.1 : Nat), ((pm.getD (0, 0, 0)).2.2 : Nat), if mp then (writtenV v n).1 else 0, if mp then (writtenV v n).2 else false⟩
def zeroS : List Value := [.bool false, .bool false, .bool false, .int .i64 0, .bool false, .int .i64 0, .int .u64 0, .int .i64 0, .int .i64 0, .bool false]
/-- What lies on while a block is looked at. -/
structure Lk (base : Nat) (w W : World) (B : Nat) (c : CS) (cs : List Value) (a2 : Option Addr) (n2 cap2 : Nat) (l2 : List Nat) : Prop where
  res : Row W w.heap.size zeroS 200
  box : Row W B cs 200
  ne : w.heap.size < B
  up : 0 < B
  chip : Lies base W c
  foot : ∀ k, c.foot k → k < B
  glb : Hd.Glb W
  sec : Hd.Lies W a2 n2 cap2 l2
  low : l2 = [] ∨ ∀ b o, a2 = some ⟨b, o, none⟩ → b < B
  bel : Below w.heap.size w W
theorem Lk.later {base : Nat} {w W W' : World} {B : Nat} {c : CS} {cs : List Value} {a2 : Option Addr} {n2 cap2 : Nat} {l2 : List Nat} (h : Lk base w W B c cs a2 n2 cap2 l2) (hb : Below W.heap.size W W') : Lk base w W' B c cs a2 n2 cap2 l2 :=
  ⟨h.res.later hb, h.box.later hb, h.ne, h.up, h.chip.later hb, h.foot, h.glb.later hb, h.sec.later hb, h.low, Below.after h.bel hb⟩
theorem Lk.set {base : Nat} {w W : World} {B i : Nat} {c : CS} {cs : List Value} {a2 : Option Addr} {n2 cap2 : Nat} {l2 : List Nat} (h : Lk base w W B c cs a2 n2 cap2 l2) (v : Value) (hi : i < cs.length) : Lk base w (W.setCell ⟨B, i, none⟩ v) B c (cs.set i v) a2 n2 cap2 l2 := by
  have hk : Kept (fun k => k = B) W (W.setCell ⟨B, i, none⟩ v) := (Kept.refl (fun k => k = B) W).setCell (p := ⟨B, i, none⟩) rfl v
  have hne := h.ne
  refine ⟨h.res.kept hk (by omega), h.box.set v hi, h.ne, h.up, h.chip.kept hk ?_ ?_, h.foot, ?_, ⟨h.sec.len, h.sec.le, h.sec.max, h.sec.lt, ?_⟩, h.low, h.bel.setCell (by show _ ≤ B; omega) v⟩
  · intro k hkf e
    have := h.foot k hkf
    omega
  · intro b ds hr e
    subst e
    exact hr.ne h.box (by decide) rfl
  · obtain ⟨x, hx⟩ := h.glb
    refine ⟨x, ?_⟩
    rw [World.cell?_of_block (a := ⟨0, 0, none⟩) (hk.block 0 (World.block_lt_of_cell? W _ hx) (by have := h.up; omega))]
    exact hx
  · rcases h.low with e | h2
    · exact .inl e
    · rcases h.sec.row with e | ⟨b, off, e, hc⟩
      · exact .inl e
      · refine .inr ⟨b, off, e, fun j hj => ?_⟩
        have h1 := hc j hj
        rw [World.cell?_of_block (a := ⟨b, off + j, none⟩) (hk.block b (World.block_lt_of_cell? W _ h1) (by have := h2 b off e; omega))]
        exact h1
theorem Lk.drew {base : Nat} {w W : World} {B : Nat} {c : CS} {cs : List Value} {a2 : Option Addr} {n2 cap2 : Nat} {l2 : List Nat} (h : Lk base w W B c cs a2 n2 cap2 l2) : Lk base w W.drew B c cs a2 n2 cap2 l2 := h.later (Below.refl _ _).drew
/-- The cells that the walk reads and writes. -/
structure LkS (W : World) (B : Nat) (x0 x1 x2 x3 x4 x5 x6 x7 x8 x9 : Value) : Prop where
  c0 : W.cell? ⟨B, 0, none⟩ = some x0
  c1 : W.cell? ⟨B, 1, none⟩ = some x1
  c2 : W.cell? ⟨B, 2, none⟩ = some x2
  c3 : W.cell? ⟨B, 3, none⟩ = some x3
  c4 : W.cell? ⟨B, 4, none⟩ = some x4
  c5 : W.cell? ⟨B, 5, none⟩ = some x5
  c6 : W.cell? ⟨B, 6, none⟩ = some x6
  c7 : W.cell? ⟨B, 7, none⟩ = some x7
  c8 : W.cell? ⟨B, 8, none⟩ = some x8
  c9 : W.cell? ⟨B, 9, none⟩ = some x9
  fz : ∀ i, W.frozen? ⟨B, i, none⟩ = false
  lt : B < W.heap.size
theorem LkS.of {W : World} {B : Nat} {x0 x1 x2 x3 x4 x5 x6 x7 x8 x9 : Value} {t : TypeId} (h : Row W B [x0, x1, x2, x3, x4, x5, x6, x7, x8, x9] t) : LkS W B x0 x1 x2 x3 x4 x5 x6 x7 x8 x9 :=
  ⟨h.cell (i := 0) rfl, h.cell (i := 1) rfl, h.cell (i := 2) rfl, h.cell (i := 3) rfl, h.cell (i := 4) rfl, h.cell (i := 5) rfl, h.cell (i := 6) rfl, h.cell (i := 7) rfl, h.cell (i := 8) rfl, h.cell (i := 9) rfl, h.frozen, h.lt⟩
theorem got_lies {w w' : World} {l : List Nat} {a : Option Addr} {m cap : Nat} (hg : Got w w' l a m cap) (hl : ∀ x ∈ l, x < 256) : Hd.Lies w' a m cap l :=
  ⟨hg.len, hg.fits, by have := hg.most; unfold maxLen; omega, hl, hg.row⟩
theorem lk_start {base : Nat} {w W2 : World} {c : CS} {a2 : Option Addr} {n2 cap2 : Nat} {l2 : List Nat} (x0 x1 x2 x3 x4 x5 x6 x7 x8 x9 : Value) (h1 : Row W2 w.heap.size zeroS 200) (h2 : Lies base W2 c) (h3 : Hd.Glb W2) (h4 : Hd.Lies W2 a2 n2 cap2 l2) (h5 : Below w.heap.size w W2) :
    Lk base w (W2.alloc (.cells #[x0, x1, x2, x3, x4, x5, x6, x7, x8, x9] 200)) W2.heap.size c [x0, x1, x2, x3, x4, x5, x6, x7, x8, x9] a2 n2 cap2 l2 := by
  have hb := below_new W2 (.cells #[x0, x1, x2, x3, x4, x5, x6, x7, x8, x9] 200)
  refine ⟨h1.later hb, Row.new W2 [x0, x1, x2, x3, x4, x5, x6, x7, x8, x9] _, h1.lt, h3.lt, h2.later hb, fun k hk => h2.foot_lt hk, h3.later hb, h4.later hb, ?_, Below.after h5 hb⟩
  rcases h4.row with e | ⟨b, off, e, hc⟩
  · exact .inl e
  · cases l2 with
    | nil => exact .inl rfl
    | cons y r =>
      refine .inr fun b' o' e' => ?_
      rw [e] at e'
      cases e'
      exact World.block_lt_of_cell? W2 _ (hc 0 (by simp))
theorem pc_any {w : World} {a : Option Addr} {n cap : Nat} {l : List Nat} (hg : Hd.Glb w) (h : Hd.Lies w a n cap l) : Calls Tryz.prog 86 #[.slice a n cap] w (Hd.CPost w (Hd.parseC l)) :=
  Hd.parseCount_any a n cap l w hg h.len h.le h.max h.lt h.row
theorem pm_any {w : World} {a : Option Addr} {n cap : Nat} {l : List Nat} (hg : Hd.Glb w) (h : Hd.Lies w a n cap l) : Calls Tryz.prog 194 #[.slice a n cap] w (Hd.MPost w (Hd.parseM l)) :=
  Hd.parseMapping_any a n cap l w hg h.len h.le h.max h.lt h.row
theorem cpost_elim {w : World} {r : Option Nat} {e : Ending} {w' : World} (h : Hd.CPost w r e w') : e = .returned (.tuple #[.int .i64 ((r.getD 0 : Nat) : Int), .bool r.isSome]) ∧ Below w.heap.size w w' := h
theorem ten_row {W : World} {b : Nat} {t : TypeId} {z0 z1 z2 z3 z4 z5 z6 z7 z8 z9 : Value} (h : Row W b [z0, z1, z2, z3, z4, z5, z6, z7, z8, z9] t) (v0 v1 v2 v3 v4 v5 v6 v7 v8 v9 : Value) :
    Row ((((((((((W.setCell ⟨b, 0, none⟩ v0).setCell ⟨b, 1, none⟩ v1).setCell ⟨b, 2, none⟩ v2).setCell ⟨b, 3, none⟩ v3).setCell ⟨b, 4, none⟩ v4).setCell ⟨b, 5, none⟩ v5).setCell ⟨b, 6, none⟩ v6).setCell ⟨b, 7, none⟩ v7).setCell ⟨b, 8, none⟩ v8).setCell ⟨b, 9, none⟩ v9) b [v0, v1, v2, v3, v4, v5, v6, v7, v8, v9] t :=
  (((((((((h.set (i := 0) v0 (by simp)).set (i := 1) v1 (by simp)).set (i := 2) v2 (by simp)).set (i := 3) v3 (by simp)).set (i := 4) v4 (by simp)).set (i := 5) v5 (by simp)).set (i := 6) v6 (by simp)).set (i := 7) v7 (by simp)).set (i := 8) v8 (by simp)).set (i := 9) v9 (by simp)
theorem ten_below {w W : World} {b : Nat} (hb : b = w.heap.size) (h : Below w.heap.size w W) (v0 v1 v2 v3 v4 v5 v6 v7 v8 v9 : Value) :
    Below w.heap.size w ((((((((((W.setCell ⟨b, 0, none⟩ v0).setCell ⟨b, 1, none⟩ v1).setCell ⟨b, 2, none⟩ v2).setCell ⟨b, 3, none⟩ v3).setCell ⟨b, 4, none⟩ v4).setCell ⟨b, 5, none⟩ v5).setCell ⟨b, 6, none⟩ v6).setCell ⟨b, 7, none⟩ v7).setCell ⟨b, 8, none⟩ v8).setCell ⟨b, 9, none⟩ v9) := by
  subst hb
  exact (((((((((h.setCell (Nat.le_refl _) _).setCell (Nat.le_refl _) _).setCell (Nat.le_refl _) _).setCell (Nat.le_refl _) _).setCell (Nat.le_refl _) _).setCell (Nat.le_refl _) _).setCell (Nat.le_refl _) _).setCell (Nat.le_refl _) _).setCell (Nat.le_refl _) _).setCell (Nat.le_refl _) _
/-- What look leaves. -/
def LookPost (w : World) (s : Sg) (e : Ending) (w' : World) : Prop := e = .returned (sgV s) ∧ Below w.heap.size w w'
theorem look_results (tmps : Array Value) (B : Nat) (s : Sg) (W : World) (h2 : tmps[4]?.getD undef = .pointer (some ⟨B, 0, none⟩)) (h : LkS W B (.bool s.marked) (.bool s.blank) (.bool s.counted) (.int .i64 s.count) (.bool s.mapped) (.int .i64 s.leb) (.int .u64 s.seq) (.int .i64 s.pages) (.int .i64 s.used) (.bool s.closed)) :
    (results Tryz.f159 tmps).run Tryz.prog W = .ok (sgV s) W := by
  obtain ⟨c0, c1, c2, c3, c4, c5, c6, c7, c8, c9, _, _⟩ := h
  simp [results, Tryz.f159, go_sem, h2, c0, c1, c2, c3, c4, c5, c6, c7, c8, c9, sgV]

set_option maxHeartbeats 16000000 in
theorem look_any {base : Nat} {w : World} {c : CS} (h : Lies base w c) (p : Nat) (hp : c.p = p) (n : Int) (hg : Hd.Glb w) :
    Calls Tryz.prog 159 #[.pointer (some ⟨p, 0, none⟩), .int .i64 n] w (LookPost w (sightV c.vw n)) := by
  have HV : Hid (sightV c.vw n = ⟨c.vw.bd n, c.vw.nx n == 1, (Hd.parseC (c.vw.rd n 0).1).isSome, (((Hd.parseC (c.vw.rd n 0).1).getD 0 : Nat) : Int), (Hd.parseM (c.vw.rd n 1).1).isSome && decide ((((Hd.parseM (c.vw.rd n 1).1).getD (0, 0, 0)).1 : Int) < c.vw.lebs), (((Hd.parseM (c.vw.rd n 1).1).getD (0, 0, 0)).1 : Nat), (((Hd.parseM (c.vw.rd n 1).1).getD (0, 0, 0)).2.1 : Nat), (((Hd.parseM (c.vw.rd n 1).1).getD (0, 0, 0)).2.2 : Nat), if (Hd.parseM (c.vw.rd n 1).1).isSome && decide ((((Hd.parseM (c.vw.rd n 1).1).getD (0, 0, 0)).1 : Int) < c.vw.lebs) then (writtenV c.vw n).1 else 0, if (Hd.parseM (c.vw.rd n 1).1).isSome && decide ((((Hd.parseM (c.vw.rd n 1).1).getD (0, 0, 0)).1 : Int) < c.vw.lebs) then (writtenV c.vw n).2 else false⟩) := rfl
  have hg0 := read_lt h.good n 0
  have hg1 := read_lt h.good n 1
  obtain ⟨hx0, hx1⟩ := nx_le h.good n
  have cR := fun W (hW : Lies base W c) k => vread_any hW p hp n k
  have cB := fun W (hW : Lies base W c) => vbad_any hW p hp n
  have cN := fun W (hW : Lies base W c) => vnext_any hW p hp n
  have cG := fun W (hW : Lies base W c) => vgeo_any hW p hp
  have cL := fun W => lebs_any c.gb c.gp c.gz c.gr W
  have cW := fun W (hW : Lies base W c) => written_any hW p hp n
  have HLB : Hid (c.vw.lebs = lebsI c.gb c.gp c.gz c.gr) := rfl
  have HG0 : Hid (∀ x ∈ (c.vw.rd n 0).1, x < 256) := hg0
  have HG1 : Hid (∀ x ∈ (c.vw.rd n 1).1, x < 256) := hg1
  have cR0 := fun W hW => cR W hW 0
  have cR1 := fun W hW => cR W hW 1
  obtain ⟨v, hv⟩ : ∃ v, v = c.vw := ⟨_, rfl⟩
  rw [← hv] at HV HLB HG0 HG1 hx0 hx1 ⊢
  simp only [← hv] at cR0 cR1 cB cN cW
  obtain ⟨l1, e1⟩ : ∃ l, l = (v.rd n 0).1 := ⟨_, rfl⟩
  obtain ⟨l2, e2⟩ : ∃ l, l = (v.rd n 1).1 := ⟨_, rfl⟩
  obtain ⟨f1, e3⟩ : ∃ l, l = (v.rd n 0).2 := ⟨_, rfl⟩
  obtain ⟨f2, e4⟩ : ∃ l, l = (v.rd n 1).2 := ⟨_, rfl⟩
  rw [← e1] at HV HG0
  rw [← e2] at HV HG1
  simp only [← e1, ← e3] at cR0
  simp only [← e2, ← e4] at cR1
  obtain ⟨bd, e5⟩ : ∃ l, l = v.bd n := ⟨_, rfl⟩
  obtain ⟨nx, e6⟩ : ∃ l, l = v.nx n := ⟨_, rfl⟩
  rw [← e5, ← e6] at HV
  simp only [← e5] at cB
  simp only [← e6] at cN
  rw [← e6] at hx0 hx1
  obtain ⟨wr, e7⟩ : ∃ l, l = writtenV v n := ⟨_, rfl⟩
  rw [← e7] at HV
  simp only [← e7] at cW
  have cC := fun W (a : Option Addr) (m cap : Nat) (hG : Hd.Glb W) (hl : Hd.Lies W a m cap l1) => pc_any hG hl
  have cM := fun W (a : Option Addr) (m cap : Nat) (hG : Hd.Glb W) (hl : Hd.Lies W a m cap l2) => pm_any hG hl
  obtain ⟨pc, e8⟩ : ∃ l, l = Hd.parseC l1 := ⟨_, rfl⟩
  obtain ⟨pm, e9⟩ : ∃ l, l = Hd.parseM l2 := ⟨_, rfl⟩
  rw [← e8, ← e9] at HV
  simp only [← e8] at cC
  simp only [← e9] at cM
  obtain ⟨z, ez⟩ : ∃ z, z = pc.getD 0 := ⟨_, rfl⟩
  obtain ⟨zb, ezb⟩ : ∃ z, z = pc.isSome := ⟨_, rfl⟩
  have cC' : ∀ W (a : Option Addr) (m cap : Nat), Hd.Glb W → Hd.Lies W a m cap l1 → Calls Tryz.prog 86 #[.slice a m cap] W fun e w' => e = .returned (.tuple #[.int .i64 (z : Int), .bool zb]) ∧ Below W.heap.size W w' := fun W a m cap hG hl => by rw [ez, ezb]; exact cC W a m cap hG hl
  rw [← ez, ← ezb] at HV
  obtain ⟨y1, ey1⟩ : ∃ z, z = (pm.getD (0, 0, 0)).1 := ⟨_, rfl⟩
  obtain ⟨y2, ey2⟩ : ∃ z, z = (pm.getD (0, 0, 0)).2.1 := ⟨_, rfl⟩
  obtain ⟨y3, ey3⟩ : ∃ z, z = (pm.getD (0, 0, 0)).2.2 := ⟨_, rfl⟩
  obtain ⟨yb, eyb⟩ : ∃ z, z = pm.isSome := ⟨_, rfl⟩
  have cM' : ∀ W (a : Option Addr) (m cap : Nat), Hd.Glb W → Hd.Lies W a m cap l2 → Calls Tryz.prog 194 #[.slice a m cap] W fun e w' => e = .returned (.tuple #[.agg #[.int .i64 (y1 : Int), .int .u64 (y2 : Int), .int .i64 (y3 : Int)], .bool yb]) ∧ Below W.heap.size W w' := fun W a m cap hG hl => by rw [ey1, ey2, ey3, eyb]; exact cM W a m cap hG hl
  rw [← ey1, ← ey2, ← ey3, ← eyb] at HV
  obtain ⟨lb, elb⟩ : ∃ z, z = v.lebs := ⟨_, rfl⟩
  rw [← elb] at HV HLB
  have cL' : ∀ W, Calls Tryz.prog 110 #[.agg #[.int .i64 c.gb, .int .i64 c.gp, .int .i64 c.gz, .int .i64 c.gr]] W fun e w' => e = .returned (.int .i64 lb) ∧ Below W.heap.size W w' := fun W => by rw [HLB.out]; exact cL W
  obtain ⟨u1, eu1⟩ : ∃ z, z = wr.1 := ⟨_, rfl⟩
  obtain ⟨u2, eu2⟩ : ∃ z, z = wr.2 := ⟨_, rfl⟩
  rw [← eu1, ← eu2] at HV
  simp only [← eu1, ← eu2] at cW
  obtain ⟨S, eS⟩ : ∃ S, S = sightV v n := ⟨_, rfl⟩
  rw [← eS] at HV ⊢
  obtain ⟨W0, hW0⟩ : ∃ W, W = w.alloc (.cells zeroS.toArray 200) := ⟨_, rfl⟩
  have HR0 : Hid (Row W0 w.heap.size zeroS 200) := by rw [hW0]; exact Row.new w zeroS _
  have HB0 : Hid (Below w.heap.size w W0) := by rw [hW0]; exact below_new w _
  have HL0 : Hid (Lies base W0 c) := h.later HB0.out
  have HGl : Hid (Hd.Glb W0) := hg.later HB0.out
  clear e1 e2 e3 e4 e5 e6 e7 e8 e9 ez ezb ey1 ey2 ey3 eyb elb eu1 eu2 eS hv cC cM cL cR hg0 hg1 h hg HLB
  unfold zeroS at hW0
  have M1 : Hid True := trivial
  cases yb with
  | false =>
    have HV' : Hid (S = ⟨bd, nx == 1, zb, z, false, y1, y2, y3, 0, false⟩) := by show _ = _; rw [HV.out]; simp
    clear HV
    go_enter Tryz.func159, Tryz.ntmps159
    go_wp2_with fail
    rw [← hW0]
    clear hW0
    go_wp2_with (first
      | (go_at_call 85; clear M1; refine (cR0 _ HL0.out).mono ?_; rintro e W1 ⟨a1, m1, k1, rfl, hg1⟩; have HL1 : Hid (Lies base W1 c) := HL0.out.later hg1.below; have HB1 : Hid (Below w.heap.size w W1) := Below.after HB0.out hg1.below; have HR1 : Hid (Row W1 w.heap.size zeroS 200) := HR0.out.later hg1.below; have HG1' : Hid (Hd.Glb W1) := HGl.out.later hg1.below; have HS1 : Hid (Hd.Lies W1 a1 m1 k1 l1) := got_lies hg1 HG0.out; clear hg1)
      | (go_at_call 85; refine (cR1 _ HL1.out).mono ?_; rintro e W2 ⟨a2, m2, k2, rfl, hg2⟩; have HL2 : Hid (Lies base W2 c) := HL1.out.later hg2.below; have HB2 : Hid (Below w.heap.size w W2) := Below.after HB1.out hg2.below; have HR2 : Hid (Row W2 w.heap.size zeroS 200) := HR1.out.later hg2.below; have HG2' : Hid (Hd.Glb W2) := HG1'.out.later hg2.below; have HS2 : Hid (Hd.Lies W2 a1 m1 k1 l1) := HS1.out.later hg2.below; have HT2 : Hid (Hd.Lies W2 a2 m2 k2 l2) := got_lies hg2 HG1.out; clear hg2)
      | (go_at_call 121; refine (cB _ HL2.out).mono ?_; rintro e w' ⟨rfl, rfl⟩)
      | (go_at_call 193; refine (cN _ HL2.out).mono ?_; rintro e w' ⟨rfl, rfl⟩)
      | (go_at_call 86; refine (cC' _ _ _ _ (HG2'.out.later (below_new _ _)) (HS2.out.later (below_new _ _))).mono ?_; rintro e W3 ⟨rfl, hb3⟩; have HK3 : Hid (Lk base w W3 W2.heap.size c [.bool bd, .bool (nx == 1), .bool false, .int .i64 0, .bool false, .int .i64 0, .int .u64 0, .int .i64 0, .int .i64 0, .bool false] a2 m2 k2 l2) := (lk_start _ _ _ _ _ _ _ _ _ _ HR2.out HL2.out HG2'.out HT2.out HB2.out).later hb3; obtain ⟨c0, c1, c2, c3, c4, c5, c6, c7, c8, c9, fz, ltB⟩ := LkS.of HK3.out.box; have neB := HK3.out.ne; clear hb3)
      | (go_at_call 194; clear c0 c1 c2 c3 c4 c5 c6 c7 c8 c9 fz ltB; refine (cM' _ _ _ _ ((HK3.out.set (i := 3) (.int .i64 (z : Int)) (by simp)).set (i := 2) (.bool zb) (by simp)).glb ((HK3.out.set (i := 3) (.int .i64 (z : Int)) (by simp)).set (i := 2) (.bool zb) (by simp)).sec).mono ?_; rintro e W4 ⟨rfl, hb4⟩; have HK4 : Hid (Lk base w W4 W2.heap.size c [.bool bd, .bool (nx == 1), .bool zb, .int .i64 (z : Int), .bool false, .int .i64 0, .int .u64 0, .int .i64 0, .int .i64 0, .bool false] a2 m2 k2 l2) := ((HK3.out.set (i := 3) (.int .i64 (z : Int)) (by simp)).set (i := 2) (.bool zb) (by simp)).later hb4; obtain ⟨c0, c1, c2, c3, c4, c5, c6, c7, c8, c9, fz, ltB⟩ := LkS.of HK4.out.box; clear hb4))
    clear c0 c1 c2 c3 c4 c5 c6 c7 c8 c9 fz ltB
    obtain ⟨B, hB⟩ : ∃ B, B = W2.heap.size := ⟨_, rfl⟩
    rw [← hB] at HK4 neB ⊢
    obtain ⟨W5, hW5⟩ : ∃ W5, W5 = (((W4.setCell ⟨B, 5, none⟩ (.int .i64 (y1 : Int))).setCell ⟨B, 6, none⟩ (.int .u64 (y2 : Int))).setCell ⟨B, 7, none⟩ (.int .i64 (y3 : Int))).setCell ⟨B, 4, none⟩ (.bool false) := ⟨_, rfl⟩
    have HK5 : Hid (Lk base w W5 B c [.bool bd, .bool (nx == 1), .bool zb, .int .i64 (z : Int), .bool false, .int .i64 (y1 : Int), .int .u64 (y2 : Int), .int .i64 (y3 : Int), .int .i64 0, .bool false] a2 m2 k2 l2) := by rw [hW5]; exact (((HK4.out.set (i := 5) (.int .i64 (y1 : Int)) (by simp)).set (i := 6) (.int .u64 (y2 : Int)) (by simp)).set (i := 7) (.int .i64 (y3 : Int)) (by simp)).set (i := 4) (.bool false) (by simp)
    rw [← hW5]
    clear hW5 hB HK4 HK3 HT2 HS2 HG2' HR2 HB2 HL2 HS1 HG1' HR1 HB1 HL1 HL0 HB0 HR0 HGl cR0 cR1 cB cN cC' cM'
    obtain ⟨c0, c1, c2, c3, c4, c5, c6, c7, c8, c9, fz, ltB⟩ := LkS.of HK5.out.box
    obtain ⟨r0, r1, r2, r3, r4, r5, r6, r7, r8, r9, gz, ltR⟩ := LkS.of HK5.out.res
    have neR : ¬ w.heap.size = B := by omega
    have neR2 : ¬ B = w.heap.size := by omega
    go_region
    go_wp2
    refine bodyPost_ret (v := sgV S) ?_ rfl ⟨rfl, ?_⟩
    · rw [HV'.out]
      exact look_results _ w.heap.size _ _ rfl (LkS.of (ten_row (HK5.out.set (i := 4) (.bool false) (by simp)).res _ _ _ _ _ _ _ _ _ _).drew)
    · exact (ten_below rfl (HK5.out.set (i := 4) (.bool false) (by simp)).bel _ _ _ _ _ _ _ _ _ _).drew
  | true =>
    go_enter Tryz.func159, Tryz.ntmps159
    go_wp2_with fail
    rw [← hW0]
    clear hW0
    go_wp2_with (first
      | (go_at_call 85; clear M1; refine (cR0 _ HL0.out).mono ?_; rintro e W1 ⟨a1, m1, k1, rfl, hg1⟩; have HL1 : Hid (Lies base W1 c) := HL0.out.later hg1.below; have HB1 : Hid (Below w.heap.size w W1) := Below.after HB0.out hg1.below; have HR1 : Hid (Row W1 w.heap.size zeroS 200) := HR0.out.later hg1.below; have HG1' : Hid (Hd.Glb W1) := HGl.out.later hg1.below; have HS1 : Hid (Hd.Lies W1 a1 m1 k1 l1) := got_lies hg1 HG0.out; clear hg1)
      | (go_at_call 85; refine (cR1 _ HL1.out).mono ?_; rintro e W2 ⟨a2, m2, k2, rfl, hg2⟩; have HL2 : Hid (Lies base W2 c) := HL1.out.later hg2.below; have HB2 : Hid (Below w.heap.size w W2) := Below.after HB1.out hg2.below; have HR2 : Hid (Row W2 w.heap.size zeroS 200) := HR1.out.later hg2.below; have HG2' : Hid (Hd.Glb W2) := HG1'.out.later hg2.below; have HS2 : Hid (Hd.Lies W2 a1 m1 k1 l1) := HS1.out.later hg2.below; have HT2 : Hid (Hd.Lies W2 a2 m2 k2 l2) := got_lies hg2 HG1.out; clear hg2)
      | (go_at_call 121; refine (cB _ HL2.out).mono ?_; rintro e w' ⟨rfl, rfl⟩)
      | (go_at_call 193; refine (cN _ HL2.out).mono ?_; rintro e w' ⟨rfl, rfl⟩)
      | (go_at_call 86; refine (cC' _ _ _ _ (HG2'.out.later (below_new _ _)) (HS2.out.later (below_new _ _))).mono ?_; rintro e W3 ⟨rfl, hb3⟩; have HK3 : Hid (Lk base w W3 W2.heap.size c [.bool bd, .bool (nx == 1), .bool false, .int .i64 0, .bool false, .int .i64 0, .int .u64 0, .int .i64 0, .int .i64 0, .bool false] a2 m2 k2 l2) := (lk_start _ _ _ _ _ _ _ _ _ _ HR2.out HL2.out HG2'.out HT2.out HB2.out).later hb3; obtain ⟨c0, c1, c2, c3, c4, c5, c6, c7, c8, c9, fz, ltB⟩ := LkS.of HK3.out.box; have neB := HK3.out.ne; clear hb3)
      | (go_at_call 194; clear c0 c1 c2 c3 c4 c5 c6 c7 c8 c9 fz ltB; refine (cM' _ _ _ _ ((HK3.out.set (i := 3) (.int .i64 (z : Int)) (by simp)).set (i := 2) (.bool zb) (by simp)).glb ((HK3.out.set (i := 3) (.int .i64 (z : Int)) (by simp)).set (i := 2) (.bool zb) (by simp)).sec).mono ?_; rintro e W4 ⟨rfl, hb4⟩; have HK4 : Hid (Lk base w W4 W2.heap.size c [.bool bd, .bool (nx == 1), .bool zb, .int .i64 (z : Int), .bool false, .int .i64 0, .int .u64 0, .int .i64 0, .int .i64 0, .bool false] a2 m2 k2 l2) := ((HK3.out.set (i := 3) (.int .i64 (z : Int)) (by simp)).set (i := 2) (.bool zb) (by simp)).later hb4; obtain ⟨c0, c1, c2, c3, c4, c5, c6, c7, c8, c9, fz, ltB⟩ := LkS.of HK4.out.box; clear hb4))
    clear c0 c1 c2 c3 c4 c5 c6 c7 c8 c9 fz ltB
    obtain ⟨B, hB⟩ : ∃ B, B = W2.heap.size := ⟨_, rfl⟩
    rw [← hB] at HK4 neB ⊢
    obtain ⟨W5, hW5⟩ : ∃ W5, W5 = (((W4.setCell ⟨B, 5, none⟩ (.int .i64 (y1 : Int))).setCell ⟨B, 6, none⟩ (.int .u64 (y2 : Int))).setCell ⟨B, 7, none⟩ (.int .i64 (y3 : Int))).setCell ⟨B, 4, none⟩ (.bool true) := ⟨_, rfl⟩
    have HK5 : Hid (Lk base w W5 B c [.bool bd, .bool (nx == 1), .bool zb, .int .i64 (z : Int), .bool true, .int .i64 (y1 : Int), .int .u64 (y2 : Int), .int .i64 (y3 : Int), .int .i64 0, .bool false] a2 m2 k2 l2) := by rw [hW5]; exact (((HK4.out.set (i := 5) (.int .i64 (y1 : Int)) (by simp)).set (i := 6) (.int .u64 (y2 : Int)) (by simp)).set (i := 7) (.int .i64 (y3 : Int)) (by simp)).set (i := 4) (.bool true) (by simp)
    rw [← hW5]
    clear hW5 hB HK4 HK3 HT2 HS2 HG2' HR2 HB2 HL2 HS1 HG1' HR1 HB1 HL1 HL0 HB0 HR0 HGl cR0 cR1 cB cN cC' cM'
    obtain ⟨c0, c1, c2, c3, c4, c5, c6, c7, c8, c9, fz, ltB⟩ := LkS.of HK5.out.box
    obtain ⟨r0, r1, r2, r3, r4, r5, r6, r7, r8, r9, gz, ltR⟩ := LkS.of HK5.out.res
    have neR : ¬ w.heap.size = B := by omega
    have neR2 : ¬ B = w.heap.size := by omega
    clear r0 r1 r2 r3 r4 r5 r6 r7 r8 r9 gz ltR
    by_cases hlb : (y1 : Int) < lb
    · have HV' : Hid (S = ⟨bd, nx == 1, zb, z, true, y1, y2, y3, u1, u2⟩) := by show _ = _; rw [HV.out]; simp [hlb]
      clear HV
      go_region_with (first
        | (go_at_call 59; clear c0 c1 c2 c3 c4 c5 c6 c7 c8 c9 fz ltB; (first | refine (cG _ HK5.out.chip).mono ?_ | refine (cG _ HK5.out.drew.chip).mono ?_); rintro e W6 ⟨rfl, hb6⟩; have HK6 : Hid (Lk base w W6 B c [.bool bd, .bool (nx == 1), .bool zb, .int .i64 (z : Int), .bool true, .int .i64 (y1 : Int), .int .u64 (y2 : Int), .int .i64 (y3 : Int), .int .i64 0, .bool false] a2 m2 k2 l2) := (by first | exact HK5.out.later hb6 | exact HK5.out.drew.later hb6); obtain ⟨c0, c1, c2, c3, c4, c5, c6, c7, c8, c9, fz, ltB⟩ := LkS.of HK6.out.box; clear hb6)
        | (go_at_call 110; clear c0 c1 c2 c3 c4 c5 c6 c7 c8 c9 fz ltB; refine (cL' _).mono ?_; rintro e W7 ⟨rfl, hb7⟩; have HK7 : Hid (Lk base w W7 B c [.bool bd, .bool (nx == 1), .bool zb, .int .i64 (z : Int), .bool true, .int .i64 (y1 : Int), .int .u64 (y2 : Int), .int .i64 (y3 : Int), .int .i64 0, .bool false] a2 m2 k2 l2) := HK6.out.later hb7; obtain ⟨c0, c1, c2, c3, c4, c5, c6, c7, c8, c9, fz, ltB⟩ := LkS.of HK7.out.box; obtain ⟨r0, r1, r2, r3, r4, r5, r6, r7, r8, r9, gz, ltR⟩ := LkS.of HK7.out.res; clear hb7))
      all_goals go_wp2_with (go_at_call 195; clear c0 c1 c2 c3 c4 c5 c6 c7 c8 c9 fz ltB r0 r1 r2 r3 r4 r5 r6 r7 r8 r9 gz ltR; refine (cW _ (HK7.out.set (i := 4) (.bool true) (by simp)).chip).mono ?_; rintro e W8 ⟨rfl, hb8⟩; have HK8 : Hid (Lk base w W8 B c [.bool bd, .bool (nx == 1), .bool zb, .int .i64 (z : Int), .bool true, .int .i64 (y1 : Int), .int .u64 (y2 : Int), .int .i64 (y3 : Int), .int .i64 0, .bool false] a2 m2 k2 l2) := (HK7.out.set (i := 4) (.bool true) (by simp)).later hb8; obtain ⟨c0, c1, c2, c3, c4, c5, c6, c7, c8, c9, fz, ltB⟩ := LkS.of HK8.out.box; obtain ⟨r0, r1, r2, r3, r4, r5, r6, r7, r8, r9, gz, ltR⟩ := LkS.of HK8.out.res; clear hb8)
      all_goals
        refine bodyPost_ret (v := sgV S) ?_ rfl ⟨rfl, ?_⟩
        · rw [HV'.out]
          exact look_results _ w.heap.size _ _ rfl (LkS.of (ten_row ((HK8.out.set (i := 8) (.int .i64 u1) (by simp)).set (i := 9) (.bool u2) (by simp)).res _ _ _ _ _ _ _ _ _ _))
        · exact ten_below rfl ((HK8.out.set (i := 8) (.int .i64 u1) (by simp)).set (i := 9) (.bool u2) (by simp)).bel _ _ _ _ _ _ _ _ _ _
    · have HV' : Hid (S = ⟨bd, nx == 1, zb, z, decide ((y1 : Int) < lb), y1, y2, y3, 0, false⟩) := by show _ = _; rw [HV.out]; simp [hlb]
      clear HV
      go_region_with (first
        | (go_at_call 59; clear c0 c1 c2 c3 c4 c5 c6 c7 c8 c9 fz ltB; (first | refine (cG _ HK5.out.chip).mono ?_ | refine (cG _ HK5.out.drew.chip).mono ?_); rintro e W6 ⟨rfl, hb6⟩; have HK6 : Hid (Lk base w W6 B c [.bool bd, .bool (nx == 1), .bool zb, .int .i64 (z : Int), .bool true, .int .i64 (y1 : Int), .int .u64 (y2 : Int), .int .i64 (y3 : Int), .int .i64 0, .bool false] a2 m2 k2 l2) := (by first | exact HK5.out.later hb6 | exact HK5.out.drew.later hb6); obtain ⟨c0, c1, c2, c3, c4, c5, c6, c7, c8, c9, fz, ltB⟩ := LkS.of HK6.out.box; clear hb6)
        | (go_at_call 110; clear c0 c1 c2 c3 c4 c5 c6 c7 c8 c9 fz ltB; refine (cL' _).mono ?_; rintro e W7 ⟨rfl, hb7⟩; have HK7 : Hid (Lk base w W7 B c [.bool bd, .bool (nx == 1), .bool zb, .int .i64 (z : Int), .bool true, .int .i64 (y1 : Int), .int .u64 (y2 : Int), .int .i64 (y3 : Int), .int .i64 0, .bool false] a2 m2 k2 l2) := HK6.out.later hb7; obtain ⟨c0, c1, c2, c3, c4, c5, c6, c7, c8, c9, fz, ltB⟩ := LkS.of HK7.out.box; obtain ⟨r0, r1, r2, r3, r4, r5, r6, r7, r8, r9, gz, ltR⟩ := LkS.of HK7.out.res; clear hb7))
      all_goals go_wp2
      all_goals
        refine bodyPost_ret (v := sgV S) ?_ rfl ⟨rfl, ?_⟩
        · rw [HV'.out]
          exact look_results _ w.heap.size _ _ rfl (LkS.of (ten_row (HK7.out.set (i := 4) (.bool (decide ((y1 : Int) < lb))) (by simp)).res _ _ _ _ _ _ _ _ _ _))
        · exact ten_below rfl (HK7.out.set (i := 4) (.bool (decide ((y1 : Int) < lb))) (by simp)).bel _ _ _ _ _ _ _ _ _ _
end Go.Proofs.YtkfecngkdlajgaaGreatDoor
namespace Go.Proofs.YtkfecngkdlajgaaGreatDoor
open Go.RowKit Go.Shelf
set_option maxRecDepth 10000
attribute [local go_sem] Oper.semAt_some

/-- The sights of all blocks. -/
noncomputable def sightsV (v : Vw) : List Sg := (List.range v.gb).map (fun k => sightV v (k : Nat))
theorem sightsV_length (v : Vw) : (sightsV v).length = v.gb := by simp [sightsV]
theorem sightsV_take {v : Vw} {k : Nat} (hk : k < v.gb) : (sightsV v).take (k + 1) = (sightsV v).take k ++ [sightV v (k : Nat)] := by
  have h : (sightsV v)[k]? = some (sightV v (k : Nat)) := by simp [sightsV, hk]
  exact take_snoc h
theorem below_grown {W W' : World} (h : Below W.heap.size W W') : W.grownBy W' none := ⟨h.os, h.tape, h.output, h.size, fun k hk _ => h.block k hk⟩

theorem field_blocks (a b c d : Value) (W : World) : (Instr.field 23 (.agg #[a, b, c, d]) 0).run Tryz.prog W = .ok a W := by kernel_rfl
set_option maxRecDepth 100000 in
set_option maxHeartbeats 4000000 in
theorem sights1_in (n : Nat) (hn : 1 ≤ n) (L Bc base p : Nat) (c : CS) (hp : c.p = p) (w0 : World) (hc : Lies base w0 c) (hg : Hd.Glb w0) (hBc : w0.cell? ⟨Bc, 0, none⟩ = some (.pointer (some ⟨p, 0, none⟩))) (J Jx : List Sg → World → Prop) (hJd : ∀ pre W W', J pre W → W.grownBy W' none → J pre W')
    (hY : ∀ pre x W, J pre W → pre.length < 256 → YieldAt Fence.wide (n - 1) Tryz.prog L #[sgV x] W fun e W' =>
      (e = .returned (.bool true) ∧ J (pre ++ [x]) W' ∧ Below w0.heap.size W W') ∨ (e = .returned (.bool false) ∧ Jx (pre ++ [x]) W'))
    (W : World) (hW : Below w0.heap.size w0 W) (h0 : J [] W) :
    CallsIn Fence.wide n Tryz.prog 158 #[.func (.yield L) #[] #[], .pointer (some ⟨Bc, 0, none⟩)] W fun e W' => (∃ v, e = .returned v) ∧
      ((∃ ys, ys = sightsV c.vw ∧ J ys W') ∨ (∃ pre, pre <+: sightsV c.vw ∧ Jx pre W')) := by
  have hBl := World.block_lt_of_cell? w0 _ hBc
  have hcell : ∀ X, Below w0.heap.size w0 X → X.cell? ⟨Bc, 0, none⟩ = some (.pointer (some ⟨p, 0, none⟩)) := fun X hX => by rw [hX.cell (p := ⟨Bc, 0, none⟩) hBl]; exact hBc
  have cG := fun X (hX : Below w0.heap.size w0 X) => vgeo_any (hc.later hX) p hp
  have cL := fun X (hX : Below w0.heap.size w0 X) (k : Int) => look_any (hc.later hX) p hp k (hg.later hX)
  have hgb := hc.good.gs
  have HT : Hid (∀ k, k < c.gb → (sightsV c.vw).take (k + 1) = (sightsV c.vw).take k ++ [sightV c.vw (k : Nat)]) := fun k hk => sightsV_take (v := c.vw) hk
  have HLn : Hid ((sightsV c.vw).length = c.gb) := sightsV_length c.vw
  obtain ⟨sv, hsv⟩ : ∃ sv, sv = sightsV c.vw := ⟨_, rfl⟩
  rw [← hsv] at HT HLn
  obtain ⟨gb, hgb2⟩ : ∃ g, g = c.gb := ⟨_, rfl⟩
  simp only [← hgb2] at cG hgb HT HLn
  rw [← hsv]
  clear hsv
  have d0 := hcell W hW
  have fB := field_blocks
  refine callsIn_of_wp Tryz.func158 rfl trivial ?_ rfl
  simp only [Tryz.ntmps158, List.size_toArray, List.length_cons, List.length_nil, Nat.reduceAdd, Nat.reduceSub, Array.replicate_succ, Array.replicate_zero, List.push_toArray, List.append_toArray, List.nil_append, List.cons_append]
  gi_wp2_with (refine ⟨trivial, ?_⟩; gi_at_call 59; refine (callsIn_wide.2 (cG W hW)).mono ?_; rintro e W1 ⟨rfl, hb1⟩)
  have hW1 : Below w0.heap.size w0 W1 := Below.after hW hb1
  have hJ1 := hJd _ _ _ h0 (below_grown hb1)
  clear hb1 d0
  gi_loopw [7] (fun i wr => ∃ k : Nat, i = .int .i64 k ∧ k ≤ gb ∧ J (sv.take k) wr ∧ Hid (Below w0.heap.size w0 wr)) (fun i _ => gb - (intOf i).toNat)
  case atStart => exact ⟨0, rfl, by omega, by simpa using hJ1, hW1⟩
  case round =>
    obtain ⟨k, rfl, hk, hJs, HB⟩ := hrel
    by_cases hlt : k < gb
    · have d1 := hcell wr HB.out
      have cL1 := cL wr HB.out k
      have HTk : Hid (sv.take (k + 1) = sv.take k ++ [sightV c.vw (k : Nat)]) := HT.out k hlt
      obtain ⟨x, hx⟩ : ∃ x, x = sightV c.vw (k : Nat) := ⟨_, rfl⟩
      rw [← hx] at HTk cL1
      have HL1 : Hid (sv.take (k + 1) <+: sv) := List.take_prefix _ _
      have hpl : (sv.take k).length < 256 := by rw [List.length_take]; omega
      clear hx
      gi_wp2_with (refine ⟨trivial, ?_⟩; gi_at_call 159; refine (callsIn_wide.2 cL1).mono ?_; rintro e W2 ⟨rfl, hb2⟩; obtain ⟨fn, tmps, assign, body, hy, hR⟩ := hY (sv.take k) x W2 (hJd _ _ _ hJs (below_grown hb2)) hpl; have HB2 : Hid (Below w0.heap.size w0 W2) := Below.after HB.out hb2; clear hb2)
      refine hR.mono ?_
      rintro e W3 (⟨rfl, hJ3, hk3⟩ | ⟨rfl, hJx3⟩)
      · gi_wp2
        refine ⟨⟨k + 1, by simp, by omega, by rw [HTk.out]; exact hJ3, HB2.out.trans hk3⟩, ?_⟩
        simp [intOf]; omega
      · gi_wp2
        refine bodyPost_ret (results_none rfl _ _ _) rfl ?_
        have hp2 := HL1.out
        rw [HTk.out] at hp2
        exact ⟨⟨_, rfl⟩, .inr ⟨_, hp2, hJx3⟩⟩
    · gi_wp2
      go_end0
      have e : sv.take k = sv := List.take_of_length_le (by rw [HLn.out]; omega)
      rw [e] at hJs
      exact ⟨⟨_, rfl⟩, .inl ⟨_, rfl, hJs⟩⟩
theorem sights_stops (n : Nat) (hn : 1 ≤ n) (Bc base p : Nat) (c : CS) (hp : c.p = p) (w0 : World) (hc : Lies base w0 c) (hg : Hd.Glb w0) (hBc : w0.cell? ⟨Bc, 0, none⟩ = some (.pointer (some ⟨p, 0, none⟩))) (w : World) (hw : Below w0.heap.size w0 w) :
    SeqStopsK Fence.wide n Tryz.prog 158 #[.pointer (some ⟨Bc, 0, none⟩)] (fun s : Sg => #[sgV s]) (Below w0.heap.size) (fun ys => ys = sightsV c.vw) (fun pre => pre <+: sightsV c.vw) 256 w := fun L J Jx W hW hJ _ hY h0 =>
  sights1_in n hn L Bc base p c hp w0 hc hg hBc J Jx (fun pre W W' h hg => hJ pre W W' none h hg (fun r e => by cases e)) hY W (hw.trans (hW.mono hw.size)) h0
set_option maxHeartbeats 1000000 in
/-- The function value that tells them. -/
theorem sights_any (p : Nat) (w : World) :
    Calls Tryz.prog 117 #[.pointer (some ⟨p, 0, none⟩)] w fun e w' => e = .returned (.func (.func 158) #[] #[.pointer (some ⟨w.heap.size, 0, none⟩)]) ∧ w' = w.alloc (.cells #[.pointer (some ⟨p, 0, none⟩)] 31) := by
  go_enter Tryz.func117, Tryz.ntmps117
  go_wp2
  go_ret
  exact ⟨rfl, rfl⟩
theorem infoSg : (Tryz.prog.info? 200).map (fun i => (i.zero, i.size, i.bytes)) = some (some (.agg #[.bool false, .bool false, .bool false, .int .i64 0, .bool false, .int .i64 0, .int .u64 0, .int .i64 0, .int .i64 0, .bool false]), 10, 64) := by kernel_rfl
theorem sg_one (l : List Sg) : ∀ u ∈ l.flatMap sgCells, u.oneCell' = true := by
  intro u hu
  obtain ⟨f, _, h⟩ := List.mem_flatMap.1 hu
  simp [sgCells] at h
  rcases h with rfl | rfl | rfl | rfl | rfl | rfl | rfl | rfl | rfl | rfl <;> rfl
theorem sg_new (w : World) (s : Sg) (t : TypeId) : ∀ j u, (sgCells s)[j]? = some u → (w.alloc (.cells #[.bool s.marked, .bool s.blank, .bool s.counted, .int .i64 s.count, .bool s.mapped, .int .i64 s.leb, .int .u64 s.seq, .int .i64 s.pages, .int .i64 s.used, .bool s.closed] t)).cell? ((⟨w.heap.size, 0, none⟩ : Addr).add j) = some u := by
  intro j u hj
  have e : (⟨w.heap.size, 0, none⟩ : Addr).add j = ⟨w.heap.size, j, none⟩ := by unfold Addr.add; split <;> simp_all
  rw [e]
  exact (Row.new w (sgCells s) t).cell hj
/-- What a round's own variable is. -/
def AxS (w : World) (Bc : Nat) (x : Sg) (a : Act) (W : World) : Prop :=
  ∃ B, w.heap.size + 1 ≤ B ∧ B < W.heap.size ∧ Blk W B #[.bool x.marked, .bool x.blank, .bool x.counted, .int .i64 x.count, .bool x.mapped, .int .i64 x.leb, .int .u64 x.seq, .int .i64 x.pages, .int .i64 x.used, .bool x.closed] 200 ∧
    a = { tmps := #[.slice none 0 0, .func (.func 158) #[] #[.pointer (some ⟨Bc, 0, none⟩)], .pointer (some ⟨w.heap.size, 0, none⟩), undef, .slice none 0 0, .pointer (some ⟨B, 0, none⟩), .func (.func 158) #[] #[.pointer (some ⟨Bc, 0, none⟩)], sgV x, undef, undef, undef, undef, undef], defers := [] }

set_option maxRecDepth 100000 in
set_option maxHeartbeats 4000000 in
theorem appendSights_in (n : Nat) (hn : 3 ≤ n) (Bc base p : Nat) (c : CS) (hp : c.p = p) (w : World) (hc : Lies base w c) (hg : Hd.Glb w) (hBc : w.cell? ⟨Bc, 0, none⟩ = some (.pointer (some ⟨p, 0, none⟩))) :
    CallsIn Fence.wide n Tryz.prog 157 #[.slice none 0 0, .func (.func 158) #[] #[.pointer (some ⟨Bc, 0, none⟩)]] w fun e w' => ∃ v, e = .returned v ∧ w'.ownsRow w.heap.size 200 10 v (sightsV c.vw).length ((sightsV c.vw).flatMap sgCells) ∧ Below w.heap.size w w' := by
  have hn1 : 1 ≤ n := by omega
  obtain ⟨i0, hi, hz0, hz1, hz2⟩ := info_parts infoSg
  refine callsIn_of_wp_marks Tryz.func157 rfl trivial ?_ rfl
  simp only [Tryz.ntmps157, List.size_toArray, List.length_cons, List.length_nil, Nat.reduceAdd, Nat.reduceSub, Array.replicate_succ, Array.replicate_zero, List.push_toArray, List.append_toArray, List.nil_append, List.cons_append]
  gi_wp2
  have bX := Boxed.new w 195 (.slice none 0 0)
  have hB1 : Below w.heap.size w (w.alloc (Obj.cells #[Value.slice none 0 0] 195)) := below_new w _
  have hrow1 : (w.alloc (Obj.cells #[Value.slice none 0 0] 195)).ownsRow w.heap.size 200 10 (.slice none 0 0) 0 [] := World.ownsRow_nil _ _ _ _
  refine wpIn_rangeFunc_ownH rfl hn1 (gf := 158) (lb := #[.pointer (some ⟨Bc, 0, none⟩)]) rfl trivial (enters_of Tryz.func158 (by kernel_rfl) rfl)
    (sights_stops (n - 1) (by omega) Bc base p c hp w hc hg hBc _ hB1) belowK_t (belowK_b (by rw [World.size_alloc]; omega)) (Below.refl _ _) (fun _ => rfl)
    (fun pre W => (∃ v, Boxed W w.heap.size 195 v ∧ W.ownsRow w.heap.size 200 10 v pre.length (pre.flatMap sgCells) ∧ True) ∧ Below w.heap.size w W)
    (fun c pre W => False)
    (OwnFrom.and (Own.from (holdsRow_own w.heap.size w.heap.size 195 200 10 (fun pre : List Sg => pre.length) (fun pre => pre.flatMap sgCells) (fun _ _ => True)) _) (ownFrom_below (Nat.le_refl _) (by rw [World.size_alloc]; omega)))
    (fun c _ _ _ _ h _ _ => h)
    ⟨⟨_, bX, by simpa using hrow1, trivial⟩, hB1⟩ (AxS w Bc) ?ax ?assign ?body ?done ?stop
  case ax =>
    intro x a' s W W' row h hg hrow
    obtain ⟨B, h1, h2, h3, h4⟩ := h
    exact ⟨B, h1, Nat.lt_of_lt_of_le h2 hg.size, (blk_own (β := Unit) B _ _) () W W' row h3 hg (fun r e => (hrow r e).2), h4⟩
  case assign =>
    rintro L pre x W K ⟨⟨v, hv, hrow, _⟩, hB⟩ hK
    have hbs := hB.size
    simp only [sgV]
    gi_wp2
    refine hK _ _ ((KeepsOthers.alloc W _).from _) ((Below.refl _ W).alloc hbs _) ⟨⟨v, hv.alloc _, hrow.alloc _, trivial⟩, hB.alloc hbs _⟩ ⟨W.heap.size, ?_, by simp, World.alloc_heap_new W _, by unfold sgV; rfl⟩
    have := (Array.getElem?_eq_some_iff.1 (show W.heap[w.heap.size]? = _ from hv)).1
    omega
  case body =>
    rintro L pre x a' W hL hLL ⟨⟨v, hv, hrow, _⟩, hB⟩ ⟨B, hB1', hB2', hB3', rfl⟩ hlt
    obtain ⟨ao, cp, rfl⟩ := own_form hrow
    have hc := hv.cell
    have hf := hv.frozen
    have g0 : W.cell? ⟨B, 0, none⟩ = some (.bool x.marked) := hB3'.cell (i := 0) rfl
    have g1 : W.cell? ⟨B, 1, none⟩ = some (.bool x.blank) := hB3'.cell (i := 1) rfl
    have g2 : W.cell? ⟨B, 2, none⟩ = some (.bool x.counted) := hB3'.cell (i := 2) rfl
    have g3 : W.cell? ⟨B, 3, none⟩ = some (.int .i64 x.count) := hB3'.cell (i := 3) rfl
    have g4 : W.cell? ⟨B, 4, none⟩ = some (.bool x.mapped) := hB3'.cell (i := 4) rfl
    have g5 : W.cell? ⟨B, 5, none⟩ = some (.int .i64 x.leb) := hB3'.cell (i := 5) rfl
    have g6 : W.cell? ⟨B, 6, none⟩ = some (.int .u64 x.seq) := hB3'.cell (i := 6) rfl
    have g7 : W.cell? ⟨B, 7, none⟩ = some (.int .i64 x.pages) := hB3'.cell (i := 7) rfl
    have g8 : W.cell? ⟨B, 8, none⟩ = some (.int .i64 x.used) := hB3'.cell (i := 8) rfl
    have g9 : W.cell? ⟨B, 9, none⟩ = some (.bool x.closed) := hB3'.cell (i := 9) rfl
    have hbs := hB.size
    obtain ⟨k, hk⟩ : ∃ k, k = pre.length := ⟨_, rfl⟩
    have HK : Hid (k = pre.length) := hk
    have hk2 : k < 256 := by omega
    rw [← hk] at hrow hc
    have HV : Hid (Boxed W w.heap.size 195 (.slice ao pre.length cp)) := hv
    have HB : Hid (Below w.heap.size w W) := hB
    clear hk hv hB hlt hLL hB3'
    unfold sgV
    gi_wp2_with (gi_at_builtin; refine wpListIn_append_own _ rfl _ _ 195 rfl w.heap.size 200 i0 (.agg #[.bool false, .bool false, .bool false, .int .i64 0, .bool false, .int .i64 0, .int .u64 0, .int .i64 0, .int .i64 0, .bool false]) 10 64 Tryz.underlying195 hi hz0 hz1 hz2 rfl (by decide) _ _ _ rfl (hrow.alloc _) ⟨W.heap.size, 0, none⟩ 1 1 (sgCells x) rfl rfl (sg_new _ _ _) (by have := sg_one [x]; simpa using this) (by unfold maxLen; omega) (by omega) (by simp; omega) ?_; intro v' w5 hown' hgrow _; obtain ⟨a5, cap5, rfl⟩ := own_form hown'; obtain ⟨hv1, hv2, hr2, hk2, hb2⟩ := (show Boxed W w.heap.size 195 (.slice ao k cp) by rw [HK.out]; exact HV.out).appended (by decide) hrow hbs (Nat.le_refl _) hown' hgrow; have hc1 := hv1.cell; have hf1 := hv1.frozen)
    refine ⟨hk2.from _, hb2, ⟨_, hv2, ?_, trivial⟩, HB.out.trans hb2⟩
    simpa [← HK.out] using hr2
  case done =>
    rintro D ys W hD rfl ⟨⟨v, hv, hrow, _⟩, hB⟩ hK
    obtain ⟨ao, cp, rfl⟩ := own_form hrow
    have hc := hv.cell
    gi_wp2
    refine ⟨by simp, .inl ⟨_, _, rfl, run_takeDeferred hK, ?_⟩⟩
    exact ⟨_, results_tmp rfl _ _ _, _, rfl, ownsRow_putObj hrow _ hK rfl, hB.trans (belowK_b (w := w) (Nat.le_refl _) W D _ _ (by rw [World.size_alloc] at hD; omega) hK rfl rfl)⟩
  case stop =>
    rintro D c pre W hD hpre h hK
    exact h.elim
/-- What Collect leaves: the sights, in new memory. -/
def CollPost (w : World) (l : List Sg) (e : Ending) (w' : World) : Prop := ∃ a cap, e = .returned (.slice a l.length cap) ∧ SRow w' a l ∧ (∀ b o, a = some ⟨b, o, none⟩ → w.heap.size ≤ b) ∧ l.length ≤ cap ∧ cap ≤ maxLen ∧ Below w.heap.size w w'
theorem srow_own {w w' : World} {v : Value} {l : List Sg} (h : w'.ownsRow w.heap.size 200 10 v l.length (l.flatMap sgCells)) (hb : Below w.heap.size w w') : CollPost w l (.returned v) w' := by
  rcases h.2 with ⟨rfl, hn⟩ | ⟨g, cap, cur, rfl, hbg, hgg, hnc, hcm, hcs, htake⟩
  · have : l = [] := List.eq_nil_of_length_eq_zero hn
    subst this
    exact ⟨none, 0, rfl, .inl rfl, (fun b o e => by cases e), by simp, by decide, hb⟩
  · have hr : Row w' g (l.flatMap sgCells) 200 := ⟨cur.toList.drop (l.length * 10), by rw [hgg, ← htake, List.take_append_drop]⟩
    refine ⟨_, cap, rfl, .inr ⟨g, 0, rfl, hr.lt, fun i x hx => ?_⟩, (fun b o e => by cases e; exact hbg), hnc, hcm, hb⟩
    have key : ∀ k v, k < 10 → (sgCells x)[k]? = some v → w'.cell? ⟨g, 0 + i * 10 + k, none⟩ = some v := fun k v hk e => hr.cell (by rw [Nat.zero_add, flat_get sgCells 10 sg_len k hk l i x hx]; exact e)
    exact ⟨key 0 _ (by omega) rfl, key 1 _ (by omega) rfl, key 2 _ (by omega) rfl, key 3 _ (by omega) rfl, key 4 _ (by omega) rfl, key 5 _ (by omega) rfl, key 6 _ (by omega) rfl, key 7 _ (by omega) rfl, key 8 _ (by omega) rfl, key 9 _ (by omega) rfl⟩
set_option maxHeartbeats 1000000 in
theorem collectS_any (Bc base p : Nat) (c : CS) (hp : c.p = p) (w : World) (hc : Lies base w c) (hg : Hd.Glb w) (hBc : w.cell? ⟨Bc, 0, none⟩ = some (.pointer (some ⟨p, 0, none⟩))) :
    Calls Tryz.prog 116 #[.func (.func 158) #[] #[.pointer (some ⟨Bc, 0, none⟩)]] w (CollPost w (sightsV c.vw)) := by
  have h1 := callsIn_wide.1 (appendSights_in 3 (by omega) Bc base p c hp w hc hg hBc)
  generalize sightsV c.vw = l at h1 ⊢
  clear hc hg hBc
  go_enter Tryz.func116, Tryz.ntmps116
  go_wp2_with (go_at_call 157; refine h1.mono ?_; rintro e w1 ⟨v, rfl, ho, hb⟩; have HP : Hid (CollPost w l (.returned v) w1) := srow_own ho hb; obtain ⟨a, cap, rfl⟩ := own_form ho; clear ho hb)
  go_ret
  exact HP.out
end Go.Proofs.YtkfecngkdlajgaaGreatDoor
