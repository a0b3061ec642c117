/-
  Chips that were programmed, as lists: what their blocks' sights are.
  The example that each statement of scan asks for.
  The example's walk.
-/
import Derived.Test.YteoakhfofnocfaaGreatDoorGQ
import Derived.Test.YteoakhfofnocfaaGreatDoorGN
import Derived.Test.YteoakhfofnocfaaGreatDoorGF
import Derived.Test.YteoakhfofnocfaaGreatDoorGR
import Derived.Test.YteoakhfofnocfaaGreatDoorGG
import Derived.Deep.RegionHeld3
import Derived.BigQuiet
namespace Go.Proofs.YteoakhfofnocfaaGreatDoor
open Go.RowKit
set_option maxRecDepth 10000

/-- A small chip that is on, with no faults to come. -/
structure OnC (c : CS) (p : Nat) (bks : List Bk) : Prop where
  p : c.p = p
  gb : c.gb = 16
  gp : c.gp = 16
  gz : c.gz = 128
  gr : c.gr = 2
  bks : c.bks = bks
  on : c.on = true
  fs : c.fs = []
/-- A block with one page more. -/
def Bk.more (b : Bk) (j : Nat) (d : List Nat) : Bk := { b with pgs := b.pgs.set j ⟨1, d⟩, next := (j : Int) + 1 }
theorem OnC.prog {c : CS} {p : Nat} {bks : List Bk} (h : OnC c p bks) {k j : Nat} {b : Bk} {d : List Nat} (hb : bks[k]? = some b) (hbad : b.bad = false) (hn : b.next = j) (hj : j < 16) (hd : d.length ≤ 128) :
    ∃ c', c.program k j d = (0, c') ∧ OnC c' p (bks.set k (b.more j d)) := by
  have hf : c.fault = ⟨0, 0, 0⟩ := by unfold CS.fault; rw [h.fs]; rfl
  have ht : c.told = 0 := by unfold CS.told; rw [hf]; rfl
  have he : c.extent = 2 := by unfold CS.extent; rw [hf]; rfl
  have hpr : b.programmed d 2 = b.more j d := by
    unfold Bk.programmed Bk.more
    rw [if_neg (by decide), if_neg (by decide), hn]
    simp
  refine ⟨{ c.operated with bks := c.bks.set k (b.more j d) }, ?_, ?_⟩
  · unfold CS.program
    rw [if_neg (by rw [h.on]; decide), if_neg (by omega), Int.toNat_natCast, h.bks, hb]
    simp only
    rw [if_neg (by rw [h.gp, h.gz]; omega), if_neg (by rw [hbad, hn]; simp), ht, he, hpr]
  · refine ⟨h.p, h.gb, h.gp, h.gz, h.gr, by rw [h.bks], ?_, ?_⟩
    · show (if c.fault.kind = 1 then false else c.on) = true
      rw [hf, h.on]; rfl
    · show (stepF (wrap64 (c.steps + 1)) c.fs).2 = []
      rw [h.fs]; rfl
theorem OnC.at {c : CS} {p : Nat} {bks : List Bk} (h : OnC c p bks) {i : Nat} {b : Bk} (hb : bks[i]? = some b) : c.at i = some b := by
  unfold CS.at
  rw [if_neg (by omega), Int.toNat_natCast, h.bks]
  exact hb
theorem OnC.rd {c : CS} {p : Nat} {bks : List Bk} (h : OnC c p bks) {i k : Nat} {b : Bk} {g : Pg} (hb : bks[i]? = some b) (hg : b.pgs[k]? = some g) : c.vw.rd i k = (g.bytes 128, g.err) := by
  show c.read i k = _
  rw [read_at _ _ h.on (h.at hb), if_neg (by omega), Int.toNat_natCast, hg, h.gz]
theorem OnC.nx {c : CS} {p : Nat} {bks : List Bk} (h : OnC c p bks) {i : Nat} {b : Bk} (hb : bks[i]? = some b) : c.vw.nx i = b.next := by
  show (match c.at i with | none => 0 | some b => b.next) = _
  rw [h.at hb]
theorem OnC.bd {c : CS} {p : Nat} {bks : List Bk} (h : OnC c p bks) {i : Nat} {b : Bk} (hb : bks[i]? = some b) : c.vw.bd i = b.bad := by
  show (match c.at i with | none => false | some b => b.bad) = _
  rw [h.at hb]
theorem OnC.lebs {c : CS} {p : Nat} {bks : List Bk} (h : OnC c p bks) : c.vw.lebs = 12 := by
  show lebsI c.gb c.gp c.gz c.gr = 12
  rw [h.gb, h.gp, h.gz, h.gr]
  decide +kernel
theorem open_ff (m : Nat) : Hd.openL m (List.replicate 128 255) = none := by
  refine Hd.openL_no fun h => ?_
  have h2 : Hd.sizeL (List.replicate 128 255) = 65535 := by decide +kernel
  have := h.2.1.2.2.1
  rw [h2] at this
  omega
theorem parseC_ff : Hd.parseC (List.replicate 128 255) = none := by
  unfold Hd.parseC
  rw [open_ff]
  exact if_neg (fun h => by cases h.1)
theorem parseM_ff : Hd.parseM (List.replicate 128 255) = none := by
  unfold Hd.parseM Hd.mS
  rw [open_ff]
  exact if_neg (fun h => by cases h.1)
theorem bytes_blank : (⟨0, []⟩ : Pg).bytes 128 = List.replicate 128 255 := rfl
theorem bytes_full {d : List Nat} (h : d.length = 128) : (⟨1, d⟩ : Pg).bytes 128 = d := by
  unfold Pg.bytes
  simp [h]
/-- A count's image, a mapping's. -/
def cImg (n : Nat) : List Nat := Hd.imgL (Hd.countL n) 128
def mImg (a b c : Nat) : List Nat := Hd.imgL (Hd.mapL a b c) 128
theorem cImg_length (n : Nat) : (cImg n).length = 128 := Hd.imgL_length _ _
theorem mImg_length (a b c : Nat) : (mImg a b c).length = 128 := Hd.imgL_length _ _
theorem sight_new {c : CS} {p : Nat} {bks : List Bk} (h : OnC c p bks) {i : Nat} {b : Bk} (hb : bks[i]? = some b) (h0 : b.pgs[0]? = some ⟨0, []⟩) (h1 : b.pgs[1]? = some ⟨0, []⟩) (hn : b.next = 0) (hbad : b.bad = false) :
    sightV c.vw i = ⟨false, false, false, 0, false, 0, 0, 0, 0, false⟩ := by
  have r0 := h.rd (k := 0) hb h0
  have r1 := h.rd (k := 1) hb h1
  rw [bytes_blank] at r0 r1
  unfold sightV
  simp only [Int.natCast_zero, Int.natCast_one] at r0 r1
  rw [r0, r1, h.nx hb, h.bd hb, hn, hbad]
  simp only [parseC_ff, parseM_ff]
  rfl
theorem sight_free {c : CS} {p : Nat} {bks : List Bk} (h : OnC c p bks) {i n : Nat} {b : Bk} (hb : bks[i]? = some b) (hle : n ≤ 2147483647) (h0 : b.pgs[0]? = some ⟨1, cImg n⟩) (h1 : b.pgs[1]? = some ⟨0, []⟩) (hn : b.next = 1) (hbad : b.bad = false) :
    sightV c.vw i = ⟨false, true, true, n, false, 0, 0, 0, 0, false⟩ := by
  have r0 := h.rd (k := 0) hb h0
  have r1 := h.rd (k := 1) hb h1
  rw [bytes_blank] at r1
  rw [bytes_full (cImg_length n)] at r0
  unfold sightV
  simp only [Int.natCast_zero, Int.natCast_one] at r0 r1
  rw [r0, r1, h.nx hb, h.bd hb, hn, hbad]
  have hc : Hd.parseC (cImg n) = some n := Hd.back_c n 128 hle (by decide) (by decide)
  simp only [hc, parseM_ff]
  rfl
theorem writtenF_all {v : Vw} {n : Int} : ∀ (f : Nat) (p : Nat), (∀ k : Nat, p ≤ k → k < p + f → (v.rd n k).2 = 0) → writtenF v n f p = (v.nx n - 2, false)
  | 0, p, _ => rfl
  | f + 1, p, h => by
    unfold writtenF
    rw [if_pos (h p (Nat.le_refl _) (by omega))]
    have := writtenF_all f (p + 1) (fun k h1 h2 => h k (by omega) (by omega))
    exact this
theorem sight_map {c : CS} {p : Nat} {bks : List Bk} (h : OnC c p bks) {i n a s g t : Nat} {b : Bk} (hb : bks[i]? = some b) (hle : n ≤ 2147483647) (ha : a < 12) (hs : s < 18446744073709551616) (hg : g ≤ 64) (h0 : b.pgs[0]? = some ⟨1, cImg n⟩) (h1 : b.pgs[1]? = some ⟨1, mImg a s g⟩) (ht : ∀ k : Nat, 2 ≤ k → k < 2 + t → ∃ d, b.pgs[k]? = some ⟨1, d⟩) (hn : b.next = 2 + t) (hbad : b.bad = false) :
    sightV c.vw i = ⟨false, false, true, n, true, a, s, g, t, false⟩ := by
  have r0 := h.rd (k := 0) hb h0
  have r1 := h.rd (k := 1) hb h1
  rw [bytes_full (mImg_length a s g)] at r1
  rw [bytes_full (cImg_length n)] at r0
  have hw : writtenV c.vw i = ((t : Int), false) := by
    unfold writtenV
    have e : (c.vw.nx i - 2).toNat = t := by rw [h.nx hb, hn]; omega
    rw [e, show (2 : Int) = ((2 : Nat) : Int) from rfl, writtenF_all t 2 (fun k h1 h2 => by
      obtain ⟨d, hd⟩ := ht k h1 h2
      rw [h.rd hb hd]
      rfl), h.nx hb, hn]
    congr 1
    omega
  unfold sightV
  simp only [Int.natCast_zero, Int.natCast_one] at r0 r1
  rw [r0, r1, h.nx hb, h.bd hb, hn, hbad, h.lebs, hw]
  have hc : Hd.parseC (cImg n) = some n := Hd.back_c n 128 hle (by decide) (by decide)
  have hm : Hd.parseM (mImg a s g) = some (a, s, g) := Hd.back_m a s g 128 (by omega) hs hg (by decide) (by decide)
  have hx : ((2 : Int) + t == 1) = false := by simp; omega
  have hl : decide ((a : Int) < 12) = true := by simp; omega
  simp only [hc, hm, hx, Option.getD_some, Option.isSome_some, Bool.true_and, hl, if_true]
theorem len16 {α : Type} {rs : List α} (h : rs.length = 16) : ∃ r0 r1 r2 r3 r4 r5 r6 r7 r8 r9 r10 r11 r12 r13 r14 r15, rs = [r0, r1, r2, r3, r4, r5, r6, r7, r8, r9, r10, r11, r12, r13, r14, r15] := by
  rcases rs with _ | ⟨r0, _ | ⟨r1, _ | ⟨r2, _ | ⟨r3, _ | ⟨r4, _ | ⟨r5, _ | ⟨r6, _ | ⟨r7, _ | ⟨r8, _ | ⟨r9, _ | ⟨r10, _ | ⟨r11, _ | ⟨r12, _ | ⟨r13, _ | ⟨r14, _ | ⟨r15, _ | ⟨r16, rs⟩⟩⟩⟩⟩⟩⟩⟩⟩⟩⟩⟩⟩⟩⟩⟩⟩ <;> simp at h
  exact ⟨r0, r1, r2, r3, r4, r5, r6, r7, r8, r9, r10, r11, r12, r13, r14, r15, rfl⟩
theorem sights16 {v : Vw} (h : v.gb = 16) : sightsV v = [sightV v (0 : Nat), sightV v (1 : Nat), sightV v (2 : Nat), sightV v (3 : Nat), sightV v (4 : Nat), sightV v (5 : Nat), sightV v (6 : Nat), sightV v (7 : Nat), sightV v (8 : Nat), sightV v (9 : Nat), sightV v (10 : Nat), sightV v (11 : Nat), sightV v (12 : Nat), sightV v (13 : Nat), sightV v (14 : Nat), sightV v (15 : Nat)] := by
  unfold sightsV
  rw [h]
  rfl
end Go.Proofs.YteoakhfofnocfaaGreatDoor
namespace Go.Proofs.YteoakhfofnocfaaGreatDoor
open Go.RowKit
set_option maxRecDepth 10000

/-- A new small chip. -/
theorem onC_small (p q : Nat) (rs : List Nat) : OnC (smallC p q rs) p (rs.map (freshB 16)) := ⟨rfl, rfl, rfl, rfl, rfl, rfl, rfl, rfl⟩
/-- What the example's scan tells. -/
def exL : List Bl := [⟨3, 5, 0, 0, 0, false⟩, ⟨2, 5, 0, 0, 0, false⟩, ⟨3, 5, 0, 0, 0, false⟩, ⟨3, 5, 0, 0, 0, false⟩, ⟨4, 5, 2, 1, 7, false⟩, ⟨3, 5, 0, 0, 0, false⟩, ⟨3, 5, 0, 0, 0, false⟩, ⟨3, 5, 0, 0, 0, false⟩, ⟨3, 5, 0, 0, 0, false⟩, ⟨3, 5, 0, 0, 0, false⟩, ⟨3, 5, 0, 0, 0, false⟩, ⟨3, 5, 0, 0, 0, false⟩, ⟨3, 5, 0, 0, 0, false⟩, ⟨3, 5, 0, 0, 0, false⟩, ⟨3, 5, 0, 0, 0, false⟩, ⟨3, 5, 0, 0, 0, false⟩]
def newS : Sg := ⟨false, false, false, 0, false, 0, 0, 0, 0, false⟩
/-- The chip behind the example's calls. -/
structure ExA (p : Nat) (c0 c1 c2 c3 c4 : CS) : Prop where
  one : c0.program 1 0 (cImg 5) = (0, c1)
  two : c1.program 4 0 (cImg 5) = (0, c2)
  three : c2.program 4 1 (mImg 2 7 0) = (0, c3)
  four : c3.program 4 2 [120] = (0, c4)
  p0 : c0.p = p
  p1 : c1.p = p
  p2 : c2.p = p
  p3 : c3.p = p
  p4 : c4.p = p
  on : c4.on = true
  gb : c4.gb = 16
  scan : scanV c4.vw = exL
def exS : List Sg := [newS, ⟨false, true, true, 5, false, 0, 0, 0, 0, false⟩, newS, newS, ⟨false, false, true, 5, true, 2, 7, 0, 1, false⟩, newS, newS, newS, newS, newS, newS, newS, newS, newS, newS, newS]
theorem exL_scan : blocksS exS (meanS exS) = exL := by kernel_rfl
theorem exA_small (p q : Nat) (rs : List Nat) (h : rs.length = 16) : ∃ c1 c2 c3 c4, ExA p (smallC p q rs) c1 c2 c3 c4 := by
  obtain ⟨r0, r1, r2, r3, r4, r5, r6, r7, r8, r9, r10, r11, r12, r13, r14, r15, rfl⟩ := len16 h
  have o0 := onC_small p q [r0, r1, r2, r3, r4, r5, r6, r7, r8, r9, r10, r11, r12, r13, r14, r15]
  obtain ⟨c1, h1, o1⟩ := o0.prog (k := 1) (j := 0) (b := freshB 16 r1) (d := cImg 5) rfl rfl rfl (by decide) (by rw [cImg_length]; decide)
  obtain ⟨c2, h2, o2⟩ := o1.prog (k := 4) (j := 0) (b := freshB 16 r4) (d := cImg 5) rfl rfl rfl (by decide) (by rw [cImg_length]; decide)
  obtain ⟨c3, h3, o3⟩ := o2.prog (k := 4) (j := 1) (b := (freshB 16 r4).more 0 (cImg 5)) (d := mImg 2 7 0) rfl rfl rfl (by decide) (by rw [mImg_length]; decide)
  obtain ⟨c4, h4, o4⟩ := o3.prog (k := 4) (j := 2) (b := ((freshB 16 r4).more 0 (cImg 5)).more 1 (mImg 2 7 0)) (d := [120]) rfl rfl rfl (by decide) (by decide)
  refine ⟨c1, c2, c3, c4, h1, h2, h3, h4, rfl, o1.p, o2.p, o3.p, o4.p, o4.on, o4.gb, ?_⟩
  have nw : ∀ i r, (i = 0 ∧ r = r0 ∨ i = 2 ∧ r = r2 ∨ i = 3 ∧ r = r3 ∨ i = 5 ∧ r = r5 ∨ i = 6 ∧ r = r6 ∨ i = 7 ∧ r = r7 ∨ i = 8 ∧ r = r8 ∨ i = 9 ∧ r = r9 ∨ i = 10 ∧ r = r10 ∨ i = 11 ∧ r = r11 ∨ i = 12 ∧ r = r12 ∨ i = 13 ∧ r = r13 ∨ i = 14 ∧ r = r14 ∨ i = 15 ∧ r = r15) → sightV c4.vw (i : Nat) = newS := by
    intro i r hh
    refine sight_new o4 (b := freshB 16 r) ?_ rfl rfl rfl rfl
    rcases hh with ⟨rfl, rfl⟩ | ⟨rfl, rfl⟩ | ⟨rfl, rfl⟩ | ⟨rfl, rfl⟩ | ⟨rfl, rfl⟩ | ⟨rfl, rfl⟩ | ⟨rfl, rfl⟩ | ⟨rfl, rfl⟩ | ⟨rfl, rfl⟩ | ⟨rfl, rfl⟩ | ⟨rfl, rfl⟩ | ⟨rfl, rfl⟩ | ⟨rfl, rfl⟩ | ⟨rfl, rfl⟩ <;> rfl
  have s1 := sight_free o4 (i := 1) (n := 5) (b := (freshB 16 r1).more 0 (cImg 5)) rfl (by decide) rfl rfl rfl rfl
  have s4 := sight_map o4 (i := 4) (n := 5) (a := 2) (s := 7) (g := 0) (t := 1) (b := (((freshB 16 r4).more 0 (cImg 5)).more 1 (mImg 2 7 0)).more 2 [120]) rfl (by decide) (by decide) (by decide) (by decide) rfl rfl (fun k h1 h2 => by
    obtain rfl : k = 2 := by omega
    exact ⟨_, rfl⟩) rfl rfl
  have hs : sightsV c4.vw = exS := by
    rw [sights16 o4.gb, nw 0 r0 (by simp), s1, nw 2 r2 (by simp), nw 3 r3 (by simp), s4, nw 5 r5 (by simp), nw 6 r6 (by simp), nw 7 r7 (by simp), nw 8 r8 (by simp), nw 9 r9 (by simp), nw 10 r10 (by simp), nw 11 r11 (by simp), nw 12 r12 (by simp), nw 13 r13 (by simp), nw 14 r14 (by simp), nw 15 r15 (by simp)]
    rfl
  unfold scanV
  rw [hs]
  exact exL_scan
theorem exL_find : findI exL 2 = 4 := by kernel_rfl
theorem exL_least : leastI exL = 1 := by kernel_rfl
theorem exL_good : goodI exL = 16 := by kernel_rfl
theorem mixed : Tryz.prog.follows .mixedOrders = true := by kernel_rfl
theorem count5 (w : World) (n : Nat) (hn : n ≤ 2147483647) : Calls Tryz.prog 30 #[.int .i64 (n : Int), .int .i64 128] w (Hd.RcF w (cImg n) 128) := Hd.rcount_fresh n 128 w hn (by decide) (by decide)
theorem map5 (w : World) (a s g : Nat) (ha : a ≤ 255) (hs : s < 18446744073709551616) (hg : g ≤ 64) : Calls Tryz.prog 31 #[.agg #[.int .i64 (a : Int), .int .u64 (s : Int), .int .i64 (g : Int)], .int .i64 128] w (Hd.RcF w (mImg a s g) 128) := Hd.rmapping_fresh a s g 128 w ha hg hs (by decide) (by decide)
/-- Bytes that lie apart from a chip. -/
structure Apt (w : World) (c : CS) (a : Option Addr) (l : List Nat) : Prop where
  row : BRow w a l
  lt : ∀ x ∈ l, x < 256
  apart : ∀ b o, a = some ⟨b, o, none⟩ → ¬ c.foot b
theorem Apt.later {w w' : World} {c : CS} {a : Option Addr} {l : List Nat} (h : Apt w c a l) (hb : Below w.heap.size w w') : Apt w' c a l := ⟨h.row.later hb, h.lt, h.apart⟩
theorem Apt.step {w w' : World} {c c' : CS} {a : Option Addr} {l : List Nat} (h : Apt w c a l) (hk : Kept c.foot w w') (hf : c'.foot = c.foot) : Apt w' c' a l := by
  refine ⟨?_, h.lt, by rw [hf]; exact h.apart⟩
  rcases h.row with e | ⟨b, off, e, hc⟩
  · exact .inl e
  · refine .inr ⟨b, off, e, fun j hj => ?_⟩
    have h1 := hc j hj
    rw [World.cell?_of_block (a := ⟨b, off + j, none⟩) (hk.block b (World.block_lt_of_cell? w _ h1) (h.apart b off e))]
    exact h1
theorem apt_fresh {base : Nat} {w w' : World} {c : CS} {a : Option Addr} {l : List Nat} (hl : Lies base w c) (hr : Hd.BRow w' a l) (hlt : ∀ x ∈ l, x < 256) (hf : Hd.Fr w a) : Apt w' c a l :=
  ⟨hr, hlt, fun b o e hk => by have := hl.foot_lt hk; have := hf b o e; omega⟩
theorem cImg_lt (n : Nat) : ∀ x ∈ cImg n, x < 256 := Hd.imgL_lt (Hd.countL_lt n) 128
theorem mImg_lt (a b c : Nat) : ∀ x ∈ mImg a b c, x < 256 := Hd.imgL_lt (Hd.mapL_lt a b c) 128
/-- A chip that lies in memory behind w, with what there was. -/
structure Hs (w W : World) (c : CS) : Prop where
  lies : Lies w.heap.size W c
  bel : Below w.heap.size w W
theorem Hs.later {w W W' : World} {c : CS} (h : Hs w W c) (hb : Below W.heap.size W W') : Hs w W' c := ⟨h.lies.later hb, Below.after h.bel hb⟩
theorem Hs.step {w W W' : World} {c c' : CS} (h : Hs w W c) (hl : Lies w.heap.size W' c') (hk : Kept c.foot W W') : Hs w W' c' := ⟨hl, h.bel.trans (hk.low h.lies h.bel.size)⟩
end Go.Proofs.YteoakhfofnocfaaGreatDoor
namespace Go.Proofs.YteoakhfofnocfaaGreatDoor
open Go.RowKit
set_option maxRecDepth 10000

theorem scan_ex {w W : World} {p : Nat} {c0 c1 c2 c3 c4 : CS} (hex : ExA p c0 c1 c2 c3 c4) (h : Hs w W c4) (hg : Hd.Glb w) : Calls Tryz.prog 14 #[.pointer (some ⟨p, 0, none⟩)] W (ScanPost W 16 exL) := by
  have := scan_on h.lies p hex.p4 hex.on (hg.later h.bel)
  rw [hex.gb, hex.scan] at this
  exact this
theorem bl_at {base : Nat} {w : World} {g n cap i : Nat} {l : List Bl} {x : Bl} (h : OwnL base w g n cap l) (hx : l[i]? = some x) : BlAt w g (i * 6) x := by
  rcases h.row with e | ⟨b, off, e, hc⟩
  · rw [e] at hx; simp at hx
  · cases e
    have := hc i x hx
    rwa [Nat.zero_add] at this

set_option maxHeartbeats 8000000 in
theorem alive_any (w : World) (hg : Hd.Glb w) : Calls Tryz.prog 11 #[] w fun e w' => e = .returned (.bool true) ∧ Below w.heap.size w w' := by
  have M1 : Hid True := trivial
  have M2 : Hid True := trivial
  have M3 : Hid True := trivial
  have HG : Hid (Hd.Glb w) := hg
  clear hg
  have hc120 : ∀ W : World, (convert 35 35 (.slice (some ⟨W.heap.size, 0, none⟩) 1 1)).run Tryz.prog (W.alloc (.cells #[.int .u8 120] 5)) = .ok (.slice (some ⟨W.heap.size, 0, none⟩) 1 1) (W.alloc (.cells #[.int .u8 120] 5 (1, 2))) := fun W => Lib.run_convert_bytes_const W 35 5 #[.int .u8 120] 1 1 Tryz.underlying35 Tryz.underlying5
  go_enter Tryz.func11, Tryz.ntmps11
  go_wp2_with (first
    | (go_at_call 29; refine (small_any _).mono ?_; rintro e w1 ⟨rfl, hb1⟩)
    | (go_at_call 7; refine (new_small' w w1 hb1).mono ?_; rintro e w2 ⟨p, q, rs, rfl, hrs, hl2, hb2⟩; obtain ⟨c1, c2, c3, c4, hex⟩ := exA_small p q rs hrs.out; generalize smallC p q rs = c0 at *; have HX : Hid (ExA p c0 c1 c2 c3 c4) := hex; have HS2 : Hid (Hs w w2 c0) := ⟨hl2, hb2⟩; clear hb1 hl2 hb2 hex hrs)
    | (go_at_call 30; refine (count5 _ 5 (by decide)).mono ?_; rintro e w3 ⟨a1, k1, rfl, hr1, hk1, hm1, hb3, hf1⟩; have HS3 : Hid (Hs w w3 c0) := HS2.out.later hb3; have HA3 : Hid (Apt w3 c0 a1 (cImg 5)) := apt_fresh HS2.out.lies hr1 (cImg_lt 5) hf1; clear hr1 hf1 hb3)
    | (go_at_call 31; refine (map5 _ 2 7 0 (by decide) (by decide) (by decide)).mono ?_; rintro e w4 ⟨a2, k2, rfl, hr2, hk2, hm2, hb4, hf2⟩; have HS4 : Hid (Hs w w4 c0) := HS3.out.later hb4; have HA4 : Hid (Apt w4 c0 a1 (cImg 5)) := HA3.out.later hb4; have HM4 : Hid (Apt w4 c0 a2 (mImg 2 7 0)) := apt_fresh HS3.out.lies hr2 (mImg_lt 2 7 0) hf2; clear hr2 hf2 hb4)
    | (go_at_call 32; clear M1; go_must (refine (program_at HS4.out.lies p HX.out.p0 1 0 0 a1 128 k1 (cImg 5) (cImg_length 5).symm HA4.out.row HA4.out.lt (.inr HA4.out.apart) HX.out.one).mono ?_); rintro e w5 ⟨rfl, hl5, hk5, hf5⟩; have HS5 : Hid (Hs w w5 c1) := HS4.out.step hl5 hk5; have HA5 : Hid (Apt w5 c1 a1 (cImg 5)) := HA4.out.step hk5 hf5.out; have HM5 : Hid (Apt w5 c1 a2 (mImg 2 7 0)) := HM4.out.step hk5 hf5.out; clear hl5 hk5 hf5)
    | (go_at_call 32; clear M2; go_must (refine (program_at HS5.out.lies p HX.out.p1 4 0 0 a1 128 k1 (cImg 5) (cImg_length 5).symm HA5.out.row HA5.out.lt (.inr HA5.out.apart) HX.out.two).mono ?_); rintro e w6 ⟨rfl, hl6, hk6, hf6⟩; have HS6 : Hid (Hs w w6 c2) := HS5.out.step hl6 hk6; have HM6 : Hid (Apt w6 c2 a2 (mImg 2 7 0)) := HM5.out.step hk6 hf6.out; clear hl6 hk6 hf6)
    | (go_at_call 32; clear M3; go_must (refine (program_at HS6.out.lies p HX.out.p2 4 1 0 a2 128 k2 (mImg 2 7 0) (mImg_length 2 7 0).symm HM6.out.row HM6.out.lt (.inr HM6.out.apart) HX.out.three).mono ?_); rintro e w7 ⟨rfl, hl7, hk7, hf7⟩; have HS7 : Hid (Hs w w7 c3) := HS6.out.step hl7 hk7; clear hl7 hk7 hf7)
    | (go_at_call 32; go_must (refine (program_at (HS7.out.lies.later (below_new w7 (.cells #[.int .u8 120] 5 (1, 2)))) p HX.out.p3 4 2 0 (some ⟨w7.heap.size, 0, none⟩) 1 1 [120] rfl (new_bytes w7 120) (by simp) (new_apart HS7.out.lies _) HX.out.four).mono ?_); rintro e w8 ⟨rfl, hl8, hk8, _⟩; have HS8 : Hid (Hs w w8 c4) := (HS7.out.later (below_new w7 (.cells #[.int .u8 120] 5 (1, 2)))).step hl8 hk8; clear hl8 hk8)
    | (go_at_call 14; refine (scan_ex HX.out HS8.out HG.out).mono ?_; rintro e w9 ⟨g, cap, rfl, ho9, hb9⟩; have HO9 : Hid (OwnL w8.heap.size w9 g 16 cap exL) := ho9; have HB9 : Hid (Below w.heap.size w w9) := Below.after HS8.out.bel hb9; have z0 : w9.cell? ⟨g, 0, none⟩ = some (.int .i64 3) := (bl_at ho9 (i := 0) rfl).c0; have z1 : w9.cell? ⟨g, 1, none⟩ = some (.int .i64 5) := (bl_at ho9 (i := 0) rfl).c1; have z6 : w9.cell? ⟨g, 6, none⟩ = some (.int .i64 2) := (bl_at ho9 (i := 1) rfl).c0; have z24 : w9.cell? ⟨g, 24, none⟩ = some (.int .i64 4) := (bl_at ho9 (i := 4) rfl).c0; have z26 : w9.cell? ⟨g, 26, none⟩ = some (.int .i64 2) := (bl_at ho9 (i := 4) rfl).c2; have z27 : w9.cell? ⟨g, 27, none⟩ = some (.int .i64 1) := (bl_at ho9 (i := 4) rfl).c3; clear ho9 hb9)
    | (go_at_call 19; have cF := find_any 16 cap exL (some ⟨g, 0, none⟩) 2 rfl (by decide) w9 HO9.out.row; rw [exL_find] at cF; refine cF.mono ?_; rintro e w10 ⟨rfl, hb10⟩; have HO10 : Hid (OwnL w8.heap.size w10 g 16 cap exL) := HO9.out.later hb10; have HB10 : Hid (Below w.heap.size w w10) := Below.after HB9.out hb10; clear hb10 cF)
    | (go_at_call 21; have cF := least_any 16 cap exL (some ⟨g, 0, none⟩) rfl (by decide) w10 HO10.out.row; rw [exL_least] at cF; refine cF.mono ?_; rintro e w11 ⟨rfl, hb11⟩; have HO11 : Hid (OwnL w8.heap.size w11 g 16 cap exL) := HO10.out.later hb11; have HB11 : Hid (Below w.heap.size w w11) := Below.after HB10.out hb11; clear hb11 cF)
    | (go_at_call 23; have cF := good_any 16 cap exL (some ⟨g, 0, none⟩) rfl (by decide) w11 HO11.out.row; rw [exL_good] at cF; refine cF.mono ?_; rintro e w12 ⟨rfl, hb12⟩; have HB12 : Hid (Below w.heap.size w w12) := Below.after HB11.out hb12; clear hb12 cF))
  go_ret
  exact ⟨rfl, HB12.out⟩
end Go.Proofs.YteoakhfofnocfaaGreatDoor
