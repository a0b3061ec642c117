/-
  What a chip under no plan makes of a step, as far as pages are read.
  What Arm does: a plan takes the place of the one that the chip had.
  What comes in, as the walks are told of it.
  Plans and scripts that come in, as the walks are told of them.
-/
import Derived.Test.YteoakhfofnocfaaGreatDoorGN
import Derived.Test.YteoakhfofnocfaaGreatDoorGI
import Derived.ProofKit
import Derived.OpenShut
import Derived.ShutString
import Derived.ChangeOld
import Derived.SizedLaws
import Derived.Deep.Slices
import Derived.Deep.SlicePairs
namespace Go.Proofs.YteoakhfofnocfaaGreatDoor
open Go.RowKit
set_option maxRecDepth 10000

/-- The page of two numbers. -/
def CS.page? (c : CS) (bl pg : Int) : Option Pg := if bl < 0 then none else (c.bks[bl.toNat]?).bind fun b => if pg < 0 then none else b.pgs[pg.toNat]?
theorem read_page (c : CS) (bl pg : Int) : c.read bl pg = if c.on = false then ([], 6) else match c.page? bl pg with | none => ([], 22) | some p => (p.bytes c.gz, p.err) := by
  unfold CS.read CS.page?
  split
  · rfl
  · split
    · rfl
    · cases c.bks[bl.toNat]? with
      | none => rfl
      | some b =>
        simp only [Option.bind_some]
        split
        · rfl
        · rfl
theorem read_same {c c' : CS} {bl pg : Int} (h1 : c'.on = c.on) (h2 : c'.gz = c.gz) (h3 : c'.page? bl pg = c.page? bl pg) : c'.read bl pg = c.read bl pg := by
  rw [read_page, read_page, h1, h2, h3]
/-- No fault comes: the plan is empty. -/
structure Calm (c : CS) : Prop where
  on : c.on = true
  fs : c.fs = []
theorem Calm.fault {c : CS} (h : Calm c) : c.fault = ⟨0, 0, 0⟩ := by unfold CS.fault; rw [h.fs]; rfl
theorem Calm.extent {c : CS} (h : Calm c) : c.extent = 2 := by unfold CS.extent; rw [h.fault]; rfl
theorem Calm.told {c : CS} (h : Calm c) : c.told = 0 := by unfold CS.told; rw [h.fault]; rfl
theorem Calm.operated {c : CS} (h : Calm c) : Calm c.operated := by
  refine ⟨?_, ?_⟩
  · unfold CS.operated; rw [h.fault]; exact h.on
  · unfold CS.operated; rw [h.fs]; rfl
/-- A block that is set, looked for. -/
theorem at_set {c : CS} {n k : Int} {b b' : Bk} (hb : c.at n = some b) : ({ c with bks := c.bks.set n.toNat b' } : CS).at k = if k = n then some b' else c.at k := by
  obtain ⟨h1, h2⟩ := at_some hb
  have hlt := (List.getElem?_eq_some_iff.1 h1).1
  unfold CS.at
  by_cases hk : k = n
  · subst hk
    rw [if_pos rfl, if_neg (by omega)]
    exact List.getElem?_set_self hlt
  · rw [if_neg hk]
    by_cases hn : k < 0
    · rw [if_pos hn, if_pos hn]
    · rw [if_neg hn, if_neg hn]
      exact List.getElem?_set_ne (by omega)
theorem page_at (c : CS) (bl pg : Int) : c.page? bl pg = (c.at bl).bind fun b => if pg < 0 then none else b.pgs[pg.toNat]? := by
  unfold CS.page? CS.at
  split
  · rfl
  · rfl
/-- What Program does where no fault comes. -/
theorem prog_calm {c : CS} (h : Calm c) (block page : Int) (data : List Nat) : ∃ x c', c.program block page data = (x, c') ∧ Calm c' ∧ c'.p = c.p ∧
    ((x ≠ 0 ∧ ∀ bl pg, c'.read bl pg = c.read bl pg) ∨
     (x = 0 ∧ (c'.at block).map Bk.next = some (page + 1) ∧ (c.at block).map Bk.next = some page ∧ ∀ bl pg, ¬ (bl = block ∧ pg = page) → c'.read bl pg = c.read bl pg)) := by
  cases hb : c.at block with
  | none =>
    refine ⟨22, c, (prog_err (.inr ⟨h.on, hb, rfl⟩)).1, h, rfl, .inl ⟨by decide, fun _ _ => rfl⟩⟩
  | some b =>
    rw [(prog_at h.on hb).1]
    split
    · exact ⟨22, c, rfl, h, rfl, .inl ⟨by decide, fun _ _ => rfl⟩⟩
    · split
      · exact ⟨1, _, rfl, ⟨h.on, h.fs⟩, rfl, .inl ⟨by decide, fun _ _ => rfl⟩⟩
      · rename_i hp hq
        have hpage : page = b.next := Classical.byContradiction fun q => hq (.inr q)
        have hp2 : 0 ≤ page := (Classical.byContradiction fun q => hp (.inl fun r => q r.1))
        refine ⟨_, _, rfl, ⟨h.operated.on, h.operated.fs⟩, rfl, .inr ⟨h.told, ?_, ?_, ?_⟩⟩
        · have := at_set (c := c.operated) (k := block) (b' := b.programmed data c.extent) (show c.operated.at block = some b from hb)
          rw [if_pos rfl] at this
          rw [show ({ c.operated with bks := c.bks.set block.toNat (b.programmed data c.extent) } : CS).at block = some (b.programmed data c.extent) from this, h.extent]
          show some (b.programmed data 2).next = _
          rw [show (b.programmed data 2).next = b.next + 1 from rfl, hpage]
        · rw [Option.map_some, hpage]
        · intro bl pg hne
          refine read_same (c' := { c.operated with bks := c.bks.set block.toNat (b.programmed data c.extent) }) (h.operated.on.trans h.on.symm) rfl ?_
          rw [page_at, page_at]
          have := at_set (c := c.operated) (k := bl) (b' := b.programmed data c.extent) (show c.operated.at block = some b from hb)
          rw [show ({ c.operated with bks := c.bks.set block.toNat (b.programmed data c.extent) } : CS).at bl = _ from this, h.extent]
          by_cases e : bl = block
          · rw [if_pos e, e, hb]
            show (if pg < 0 then none else (b.pgs.set b.next.toNat ⟨1, data⟩)[pg.toNat]?) = (if pg < 0 then none else b.pgs[pg.toNat]?)
            split
            · rfl
            · have hpg : pg ≠ page := fun q => hne ⟨e, q⟩
              exact List.getElem?_set_ne (by omega)
          · rw [if_neg e]; rfl
/-- What Erase does where no fault comes. -/
theorem erase_calm {c : CS} (h : Calm c) (block : Int) : ∃ x c', c.erase block = (x, c') ∧ Calm c' ∧ c'.p = c.p ∧
    ((x ≠ 0 ∧ ∀ bl pg, c'.read bl pg = c.read bl pg) ∨
     (x = 0 ∧ (c'.at block).map Bk.next = some 0 ∧ ∀ bl pg, ¬ bl = block → c'.read bl pg = c.read bl pg)) := by
  cases hb : c.at block with
  | none =>
    refine ⟨22, c, (prog_err (page := 0) (data := []) (.inr ⟨h.on, hb, rfl⟩)).2, h, rfl, .inl ⟨by decide, fun _ _ => rfl⟩⟩
  | some b =>
    rw [(prog_at (page := 0) (data := []) h.on hb).2]
    split
    · exact ⟨1, _, rfl, ⟨h.on, h.fs⟩, rfl, .inl ⟨by decide, fun _ _ => rfl⟩⟩
    · refine ⟨_, _, rfl, ⟨h.operated.on, h.operated.fs⟩, rfl, .inr ⟨h.told, ?_, ?_⟩⟩
      · have := at_set (c := c.operated) (k := block) (b' := ({ b with erases := wrap64 (b.erases + 1) } : Bk).erased c.extent) (show c.operated.at block = some b from hb)
        rw [if_pos rfl] at this
        rw [show ({ c.operated with bks := c.bks.set block.toNat (({ b with erases := wrap64 (b.erases + 1) } : Bk).erased c.extent) } : CS).at block = _ from this, h.extent]
        rfl
      · intro bl pg hne
        refine read_same (c' := { c.operated with bks := c.bks.set block.toNat (({ b with erases := wrap64 (b.erases + 1) } : Bk).erased c.extent) }) (h.operated.on.trans h.on.symm) rfl ?_
        rw [page_at, page_at]
        have := at_set (c := c.operated) (k := bl) (b' := ({ b with erases := wrap64 (b.erases + 1) } : Bk).erased c.extent) (show c.operated.at block = some b from hb)
        rw [show ({ c.operated with bks := c.bks.set block.toNat (({ b with erases := wrap64 (b.erases + 1) } : Bk).erased c.extent) } : CS).at bl = _ from this, if_neg hne]
        rfl
/-- What Mark does where no fault comes. -/
theorem mark_calm {c : CS} (h : Calm c) (block : Int) : ∃ x c', c.mark block = (x, c') ∧ Calm c' ∧ c'.p = c.p ∧ ∀ bl pg, c'.read bl pg = c.read bl pg := by
  cases hb : c.at block with
  | none =>
    refine ⟨22, c, ?_, h, rfl, fun _ _ => rfl⟩
    unfold CS.mark
    rcases at_none hb with e | ⟨e, e2⟩
    · rw [if_neg (by rw [h.on]; decide), if_pos e]
    · rw [if_neg (by rw [h.on]; decide), if_neg e, e2]
  | some b =>
    obtain ⟨h1, h2⟩ := at_some hb
    refine ⟨0, { c with bks := c.bks.set block.toNat { b with bad := true } }, ?_, ⟨h.on, h.fs⟩, rfl, ?_⟩
    · unfold CS.mark
      rw [if_neg (by rw [h.on]; decide), if_neg (by omega), h1]
    · intro bl pg
      refine read_same rfl rfl ?_
      rw [page_at, page_at, at_set hb]
      split
      · rename_i e
        rw [e, hb]; rfl
      · rfl
theorem next_map {c : CS} {n x : Int} (h : (c.at n).map Bk.next = some x) : x = match c.at n with | none => 0 | some b => b.next := by
  cases hb : c.at n with
  | none => rw [hb] at h; cases h
  | some b => rw [hb] at h; simpa using h.symm
/-- What is read has bytes. -/
theorem Good.read_lt {c : CS} (h : Good c) (bl pg : Int) : ∀ x ∈ (c.read bl pg).1, x < 256 := by
  rw [read_page]
  split
  · simp
  · split
    · simp
    · rename_i p hp
      intro x hx
      have hmem : ∃ b ∈ c.bks, p ∈ b.pgs := by
        rw [page_at] at hp
        cases hb : c.at bl with
        | none => rw [hb] at hp; cases hp
        | some b =>
          rw [hb] at hp
          simp at hp
          exact ⟨b, List.mem_of_getElem? (at_some hb).1, List.mem_of_getElem? hp.2⟩
      obtain ⟨b, hb, hpb⟩ := hmem
      have hd := (h.dat b hb p hpb).2
      have hx' : x ∈ p.bytes c.gz := hx
      unfold Pg.bytes at hx'
      split at hx'
      · rw [(List.mem_replicate.1 hx').2]; decide
      · split at hx'
        · rcases List.mem_append.1 hx' with h1 | h1
          · exact hd x h1
          · rw [(List.mem_replicate.1 h1).2]; decide
        · cases hx'
theorem mark_at {base : Nat} {w : World} {c c' : CS} (h : Lies base w c) (p : Nat) (hp : c.p = p) (block x : Int) (he : c.mark block = (x, c')) :
    Calls Tryz.prog 40 #[.pointer (some ⟨p, 0, none⟩), .int .i64 block] w fun e w' => e = .returned (.int .i64 x) ∧ Lies base w' c' ∧ Kept c.foot w w' ∧ Hid (c'.foot = c.foot) := by
  subst hp
  refine (mark_any h block).mono ?_
  rw [he]
  exact fun e w' q => q
theorem erase_at {base : Nat} {w : World} {c c' : CS} (h : Lies base w c) (p : Nat) (hp : c.p = p) (block x : Int) (he : c.erase block = (x, c')) :
    Calls Tryz.prog 38 #[.pointer (some ⟨p, 0, none⟩), .int .i64 block] w fun e w' => e = .returned (.int .i64 x) ∧ Lies base w' c' ∧ Kept c.foot w w' ∧ Hid (c'.foot = c.foot) := by
  subst hp
  refine (erase_all h block).mono ?_
  rw [he]
  exact fun e w' q => q
theorem same_at {a b : Option Addr} {m1 m2 c1 c2 : Nat} {l : List Nat} (w : World) (h1 : m1 = l.length) (h2 : m2 = l.length) (hl : ∀ x ∈ l, x < 256) (ha : BRow w a l) (hb : BRow w b l) :
    Calls Tryz.prog 56 #[.slice a m1 c1, .slice b m2 c2] w fun e w' => e = .returned (.bool true) ∧ w = w' := by
  subst h1 h2
  have := same_any a c1 l b c2 l w hl hl ha hb
  rw [decide_eq_true rfl] at this
  exact this
end Go.Proofs.YteoakhfofnocfaaGreatDoor
namespace Go.Proofs.YteoakhfofnocfaaGreatDoor
open Go.RowKit
set_option maxRecDepth 10000

theorem arm_no {base : Nat} {w : World} {c : CS} (h : Lies base w c) (p : Nat) (hp : c.p = p) (a : Option Addr) (m cap : Nat) (l : List Flt) (hm : m = l.length) (hr : FRow w a l) (hn : ¬ (m ≤ 256 ∧ planOk l)) :
    Calls Tryz.prog 43 #[.pointer (some ⟨p, 0, none⟩), .slice a m cap] w fun e w' => e = .returned (.int .i64 22) ∧ Lies base w' c ∧ Below w.heap.size w w' := by
  have hs := sched_no a m cap l w hm hr hn
  subst hp
  clear hm hr hn
  go_enter Tryz.func43, Tryz.ntmps43
  go_wp2_with (go_at_call 33; refine hs.mono ?_; rintro e w1 ⟨rfl, hb1⟩)
  go_ret
  have hb := Below.after hb1 (below_new w1 (.cells #[.slice none 0 0, .int .i64 0] 69))
  exact ⟨rfl, h.later hb, hb⟩
set_option maxHeartbeats 1000000 in
theorem arm_yes {base : Nat} {w : World} {c : CS} (h : Lies base w c) (p : Nat) (hp : c.p = p) (a : Option Addr) (m cap : Nat) (l : List Flt) (hm : m = l.length) (hr : FRow w a l) (hy : m ≤ 256 ∧ planOk l) :
    Calls Tryz.prog 43 #[.pointer (some ⟨p, 0, none⟩), .slice a m cap] w fun e w' => e = .returned (.int .i64 0) ∧ ∃ s : List Flt, s.Perm l ∧ s.Pairwise (fun x y => x.num < y.num) ∧ Lies base w' { c with fs := s, steps := 0 } ∧ Kept c.foot w w' := by
  have hs := sched_yes a m cap l w hm hr hy
  subst hp
  have fin : ∀ W s fa fc, s.Perm l → Flts W fa fc s → Below w.heap.size w W → W.cell? ⟨c.p, 8, none⟩ ≠ none ∧ (∃ v8, W.cell? ⟨c.p, 8, none⟩ = some v8) ∧ (∃ v9, W.cell? ⟨c.p, 9, none⟩ = some v9) ∧ W.frozen? ⟨c.p, 8, none⟩ = false ∧ W.frozen? ⟨c.p, 9, none⟩ = false ∧ c.p < W.heap.size ∧
      (Lies base (((W.setCell ⟨c.p, 8, none⟩ (.slice fa m fc)).setCell ⟨c.p, 9, none⟩ (.int .i64 0)).alloc (.cells #[.slice fa m fc, .int .i64 0] 69)) { c with fs := s, steps := 0 } ∧ Kept c.foot w (((W.setCell ⟨c.p, 8, none⟩ (.slice fa m fc)).setCell ⟨c.p, 9, none⟩ (.int .i64 0)).alloc (.cells #[.slice fa m fc, .int .i64 0] 69))) := by
    intro W s fa fc hperm hfl hb
    have hW := h.later hb
    obtain ⟨fa0, fc0, h1, h2⟩ := hW.chip
    have hk : Kept (fun k => k = c.p) W (((W.setCell ⟨c.p, 8, none⟩ (.slice fa m fc)).setCell ⟨c.p, 9, none⟩ (.int .i64 0)).alloc (.cells #[.slice fa m fc, .int .i64 0] 69)) := (((Kept.refl (fun k => k = c.p) W).setCell (p := ⟨c.p, 8, none⟩) rfl _).setCell (p := ⟨c.p, 9, none⟩) rfl _).alloc _
    have c8 : W.cell? ⟨c.p, 8, none⟩ = some (.slice fa0 c.fs.length fc0) := h1.cell (by rfl)
    have c9 : W.cell? ⟨c.p, 9, none⟩ = some (.int .i64 c.steps) := h1.cell (by rfl)
    have hsl : s.length = m := by rw [hm]; exact hperm.length_eq
    have hrow : Row (((W.setCell ⟨c.p, 8, none⟩ (.slice fa m fc)).setCell ⟨c.p, 9, none⟩ (.int .i64 0)).alloc (.cells #[.slice fa m fc, .int .i64 0] 69)) c.p (csCells { c with fs := s, steps := 0 } fa fc) 75 := by
      have := ((h1.set (i := 8) (.slice fa m fc) (by simp [csCells])).set (i := 9) (.int .i64 0) (by simp [csCells])).alloc (.cells #[.slice fa m fc, .int .i64 0] 69)
      rw [← hsl] at this ⊢
      exact this
    have hgood : Good { c with fs := s, steps := 0 } := ⟨hW.good.len, hW.good.plen, hW.good.qc, hW.good.gs, hW.good.dat, fun f hf => hy.2.1 f (hperm.mem_iff.1 hf)⟩
    obtain ⟨r1, r2, _⟩ := hW.step0 (c' := { c with fs := s, steps := 0 }) rfl rfl rfl hgood hk ⟨fa, fc, hrow, hfl.kept hk (fault_block h1 hk)⟩
    exact ⟨by rw [c8]; simp, ⟨_, c8⟩, ⟨_, c9⟩, h1.frozen 8, h1.frozen 9, h1.lt, r1, (Kept.of_below hb).trans r2⟩
  have HF : Hid _ := fin
  clear hm hr hy fin
  go_enter Tryz.func43, Tryz.ntmps43
  go_wp2_with (go_at_call 33; refine hs.mono ?_; rintro e w1 ⟨s, fa, fc, p1, p2, rfl, p3, hb1⟩; obtain ⟨_, ⟨v8, q8⟩, ⟨v9, q9⟩, q3, q4, q5, q6, q7⟩ := HF.out w1 s fa fc p1 p3 hb1; have hq6 : Hid _ := q6; have hq7 : Hid _ := q7; clear q6 q7)
  go_ret
  exact ⟨rfl, s, p1, p2, hq6.out, hq7.out⟩
end Go.Proofs.YteoakhfofnocfaaGreatDoor
namespace Go.Proofs.YteoakhfofnocfaaGreatDoor
open Go.ChangeShapes Go.WideShapes Go.ChangeAt Go.RowKit

theorem own : ownKnob Tryz.prog.godebug = none := by kernel_rfl
theorem laidOut : laidOutB Tryz.prog = true := by kernel_rfl
theorem bytes8 : Tryz.prog.bytesOf 5 = 1 := by kernel_rfl
/-- The slice's elements are the bytes l; a nil one has none. -/
structure BArg (w : World) (a : Option Addr) (len cap : Nat) (l : List Nat) : Prop where
  len_eq : len = l.length
  le : len ≤ cap
  max : cap ≤ maxLen
  lt : ∀ x ∈ l, x < 256
  row : BRow w a l
  nil : a = none → len = 0 ∧ cap = 0

theorem toNats (zs : List Int) (hwz : ∀ n ∈ zs, (Lit.int .u8 n).wf = true) (i : Nat) (hi : i < zs.length) : (((zs.map Int.toNat).getD i 0 : Nat) : Int) = zs.getD i 0 := by
  have hb := bounds_u8 (hwz zs[i] (List.getElem_mem hi))
  simp [List.getD, hi]
  omega

theorem barg_mk {w : World} {x : Addr} {len cap : Nat} {zs : List Int} (hl : len ≤ cap) (hm : cap ≤ maxLen) (hz : zs.length = cap)
    (hcell : ∀ i, i < zs.length → w.cell? (x.add i) = some (.int .u8 (zs.getD i 0))) (hwz : ∀ n ∈ zs, (Lit.int .u8 n).wf = true) :
    BArg w (some x) len cap ((zs.take len).map Int.toNat) where
  len_eq := by simp; omega
  le := hl
  max := hm
  lt := by
    intro y hy
    simp only [List.mem_map] at hy
    obtain ⟨z, hz1, rfl⟩ := hy
    have := bounds_u8 (hwz z (List.mem_of_mem_take hz1))
    omega
  row := by
    by_cases h0 : len = 0
    · exact .inl (by simp [h0])
    · obtain ⟨b, off, spot⟩ := x
      have hc := hcell 0 (by omega)
      have hspot : spot = none := by simpa [Addr.add] using World.cell?_spot hc
      subst hspot
      refine .inr ⟨b, off, rfl, fun i hi => ?_⟩
      have hil : i < len := by simp at hi; omega
      have h1 := hcell i (by omega)
      have e : (⟨b, off, none⟩ : Addr).add i = ⟨b, off + i, none⟩ := by unfold Addr.add; split <;> simp_all
      rw [e] at h1
      rw [h1, toNats (zs.take len) (fun n hn => hwz n (List.mem_of_mem_take hn)) i (by simp; omega)]
      simp [List.getD, hil]
  nil := by intro h; cases h

theorem barg_open_sized {H : Type} {enc : TypeId × Value → H} {w : World} {a : Option Addr} {len cap fuel : Nat} {d : DataW H} {p : List MemPlace}
    (hf : DataW.trod enc Tryz.prog w 0 (fun _ => true) true fuel 35 (Value.slice a len cap).cells.toList = some (d, p)) :
    ∃ l, BArg w a len cap l ∧ (cap = 0 ∨ ∃ elems spare, d = .slice elems spare ∧ elems.length + spare.length = cap) := by
  rcases open_ints Tryz.underlying35 Tryz.underlying5 (by kernel_rfl) hf with ⟨hcs, _⟩ | ⟨x, l, c, zs, hcs, _, hl, hm, hz, hx, hcell, hwz⟩
  · simp [Value.cells] at hcs
    obtain ⟨rfl, rfl, rfl⟩ := hcs
    exact ⟨[], ⟨rfl, Nat.le_refl _, by decide, by simp, .inl rfl, fun _ => ⟨rfl, rfl⟩⟩, .inl rfl⟩
  · simp [Value.cells] at hcs
    obtain ⟨rfl, rfl, rfl⟩ := hcs
    have hz' : zs.length = cap := by simpa using hz
    refine ⟨_, barg_mk hl hm hz' hcell hwz, .inr ⟨_, _, (Prod.mk.inj hx).1, ?_⟩⟩
    simp [lits]
    omega
theorem barg_open {H : Type} {enc : TypeId × Value → H} {w : World} {a : Option Addr} {len cap fuel : Nat} {d : DataW H} {p : List MemPlace}
    (hf : DataW.trod enc Tryz.prog w 0 (fun _ => true) true fuel 35 (Value.slice a len cap).cells.toList = some (d, p)) :
    ∃ l, BArg w a len cap l := by
  obtain ⟨l, h, _⟩ := barg_open_sized hf
  exact ⟨l, h⟩
end Go.Proofs.YteoakhfofnocfaaGreatDoor
namespace Go.Proofs.YteoakhfofnocfaaGreatDoor
open Go.ChangeShapes Go.WideShapes Go.ChangeAt Go.RowKit Go.Deep

/-- A step of a script. -/
structure OpD where
  kind : Int
  block : Int
  page : Int
  da : Option Addr
  dl : Nat
  dc : Nat
  data : List Nat
  pa : Option Addr
  pl : Nat
  pc : Nat
  plan : List Flt
theorem add_plain' (b off i : Nat) : (⟨b, off, none⟩ : Addr).add i = ⟨b, off + i, none⟩ := by unfold Addr.add; split <;> simp_all
/-- The slice's elements are the faults l. -/
structure FArg (w : World) (a : Option Addr) (len cap : Nat) (l : List Flt) : Prop where
  len_eq : len = l.length
  le : len ≤ cap
  max : cap ≤ maxLen
  row : FRow w a l
  nil : a = none → len = 0 ∧ cap = 0

set_option maxRecDepth 100000 in
theorem farg_open {H : Type} {enc : TypeId × Value → H} {w : World} {a : Option Addr} {len cap fuel : Nat} {x : DataW H × List MemPlace}
    (hf : DataW.trod enc Tryz.prog w 0 (fun _ => true) true fuel 36 [.slice a len cap] = some x) : ∃ l, FArg w a len cap l := by
  rcases open_slice Tryz.underlying36 hf with ⟨hcs, _⟩ | ⟨ad, len', cap', m, n, D, Pl, hcs, _, hl, hm, hmm, _, hx⟩
  · simp at hcs
    obtain ⟨rfl, rfl, rfl⟩ := hcs
    exact ⟨[], rfl, Nat.le_refl _, by decide, .inl rfl, fun _ => ⟨rfl, rfl⟩⟩
  · simp at hcs
    obtain ⟨rfl, rfl, rfl⟩ := hcs
    have hmm' : m = cap := by simpa using hmm
    subst hmm'
    have each : ∀ i, ∃ f : Flt, i < len → w.cell? (ad.add (i * 3)) = some (.int .i64 f.num) ∧ w.cell? (ad.add (i * 3 + 1)) = some (.int .i64 f.kind) ∧ w.cell? (ad.add (i * 3 + 2)) = some (.int .i64 f.torn) := by
      intro i
      by_cases hi : i < len
      · obtain ⟨cs', h1, h2⟩ := hx i (by omega)
        rw [show Tryz.prog.cellsOf 121 = 3 by kernel_rfl] at h1
        obtain ⟨_, hlen, hcell⟩ := World.cells?_some h1
        obtain ⟨xs, k, hk, hxy, _, hxl, hff⟩ := DataW.trod_struct Tryz.underlying121 h2
        match xs, hxl, cs', hlen with
        | [y0, y1, y2], _, [v0, v1, v2], _ =>
          have g0 := hff 0 _ rfl
          have g1 := hff 1 _ rfl
          have g2 := hff 2 _ rfl
          have ci : Tryz.prog.cellsOf 3 = 1 := by kernel_rfl
          simp [ci] at g0 g1 g2
          obtain ⟨z0, e0, _, _⟩ := DataW.trod_int Tryz.underlying3 g0
          obtain ⟨z1, e1, _, _⟩ := DataW.trod_int Tryz.underlying3 g1
          obtain ⟨z2, e2, _, _⟩ := DataW.trod_int Tryz.underlying3 g2
          have c0 := hcell 0 (by omega)
          have c1 := hcell 1 (by omega)
          have c2 := hcell 2 (by omega)
          rw [add_add] at c0 c1 c2
          simp at e0 e1 e2
          subst e0 e1 e2
          exact ⟨⟨z0, z1, z2⟩, fun _ => ⟨by simpa using c0, by simpa using c1, by simpa using c2⟩⟩
      · exact ⟨⟨0, 0, 0⟩, fun h => absurd h hi⟩
    obtain ⟨F, hF⟩ := Classical.axiomOfChoice each
    refine ⟨(List.range len).map F, by simp, hl, hm, ?_, fun h => by cases h⟩
    by_cases h0 : len = 0
    · exact .inl (by simp [h0])
    · obtain ⟨b, off, spot⟩ := ad
      have hspot : spot = none := by
        have := World.cell?_spot (hF 0 (by omega)).1
        simpa [Addr.add] using this
      subst hspot
      refine .inr ⟨b, off, rfl, fun i f hf => ?_⟩
      have hil : i < len := by
        have := (List.getElem?_eq_some_iff.1 hf).1
        simpa using this
      have hfi : F i = f := by simpa [hil] using hf
      have := hF i hil
      rw [hfi, add_plain', add_plain', add_plain'] at this
      exact this
/-- The slice's elements are the steps l. -/
structure OArg (w : World) (a : Option Addr) (len cap : Nat) (l : List OpD) : Prop where
  len_eq : len = l.length
  le : len ≤ cap
  max : cap ≤ maxLen
  row : l = [] ∨ ∃ b off, a = some ⟨b, off, none⟩ ∧ ∀ i o, l[i]? = some o → w.cell? ⟨b, off + i * 5, none⟩ = some (.int .i64 o.kind) ∧ w.cell? ⟨b, off + i * 5 + 1, none⟩ = some (.int .i64 o.block) ∧ w.cell? ⟨b, off + i * 5 + 2, none⟩ = some (.int .i64 o.page) ∧ w.cell? ⟨b, off + i * 5 + 3, none⟩ = some (.slice o.da o.dl o.dc) ∧ w.cell? ⟨b, off + i * 5 + 4, none⟩ = some (.slice o.pa o.pl o.pc)
  each : ∀ o ∈ l, BArg w o.da o.dl o.dc o.data ∧ FArg w o.pa o.pl o.pc o.plan
theorem slice_of {H : Type} {enc : TypeId × Value → H} {w : World} {t e : TypeId} {v : Value} {fuel : Nat} {x : DataW H × List MemPlace} (ht : Tryz.prog.underlying t = some (.slice e))
    (hf : DataW.trod enc Tryz.prog w 0 (fun _ => true) true fuel t [v] = some x) : ∃ a l c, v = .slice a l c := by
  rcases open_slice ht hf with ⟨hcs, _⟩ | ⟨ad, len', cap', m, n, D, Pl, hcs, _⟩
  · simp at hcs; exact ⟨_, _, _, hcs⟩
  · simp at hcs; exact ⟨_, _, _, hcs⟩
set_option maxRecDepth 100000 in
theorem oarg_open {H : Type} {enc : TypeId × Value → H} {w : World} {a : Option Addr} {len cap fuel : Nat} {x : DataW H × List MemPlace}
    (hf : DataW.trod enc Tryz.prog w 0 (fun _ => true) true fuel 24 [.slice a len cap] = some x) : ∃ l, OArg w a len cap l := by
  rcases open_slice Tryz.underlying24 hf with ⟨hcs, _⟩ | ⟨ad, len', cap', m, n, D, Pl, hcs, _, hl, hm, hmm, _, hx⟩
  · simp at hcs
    obtain ⟨rfl, rfl, rfl⟩ := hcs
    exact ⟨[], rfl, Nat.le_refl _, by decide, .inl rfl, by simp⟩
  · simp at hcs
    obtain ⟨rfl, rfl, rfl⟩ := hcs
    have hmm' : m = cap := by simpa using hmm
    subst hmm'
    have each : ∀ i, ∃ o : OpD, i < len → (w.cell? (ad.add (i * 5)) = some (.int .i64 o.kind) ∧ w.cell? (ad.add (i * 5 + 1)) = some (.int .i64 o.block) ∧ w.cell? (ad.add (i * 5 + 2)) = some (.int .i64 o.page) ∧ w.cell? (ad.add (i * 5 + 3)) = some (.slice o.da o.dl o.dc) ∧ w.cell? (ad.add (i * 5 + 4)) = some (.slice o.pa o.pl o.pc)) ∧ BArg w o.da o.dl o.dc o.data ∧ FArg w o.pa o.pl o.pc o.plan := by
      intro i
      by_cases hi : i < len
      · obtain ⟨cs', h1, h2⟩ := hx i (by omega)
        rw [show Tryz.prog.cellsOf 38 = 5 by kernel_rfl] at h1
        obtain ⟨_, hlen, hcell⟩ := World.cells?_some h1
        obtain ⟨xs, k, hk, hxy, _, hxl, hff⟩ := DataW.trod_struct Tryz.underlying38 h2
        match xs, hxl, cs', hlen with
        | [y0, y1, y2, y3, y4], _, [v0, v1, v2, v3, v4], _ =>
          have g0 := hff 0 _ rfl
          have g1 := hff 1 _ rfl
          have g2 := hff 2 _ rfl
          have g3 := hff 3 _ rfl
          have g4 := hff 4 _ rfl
          have ci : Tryz.prog.cellsOf 3 = 1 := by kernel_rfl
          have cj : Tryz.prog.cellsOf 35 = 1 := by kernel_rfl
          have ck : Tryz.prog.cellsOf 36 = 1 := by kernel_rfl
          simp [ci, cj, ck] at g0 g1 g2 g3 g4
          obtain ⟨z0, e0, _, _⟩ := DataW.trod_int Tryz.underlying3 g0
          obtain ⟨z1, e1, _, _⟩ := DataW.trod_int Tryz.underlying3 g1
          obtain ⟨z2, e2, _, _⟩ := DataW.trod_int Tryz.underlying3 g2
          obtain ⟨da, dl, dc, rfl⟩ := slice_of Tryz.underlying35 g3
          obtain ⟨pa, pl, pc, rfl⟩ := slice_of Tryz.underlying36 g4
          obtain ⟨data, hdata⟩ := barg_open (d := y3.1) (p := y3.2) (show DataW.trod enc Tryz.prog w 0 (fun _ => true) true k 35 (Value.slice da dl dc).cells.toList = some (y3.1, y3.2) from g3)
          obtain ⟨plan, hplan⟩ := farg_open g4
          have c0 := hcell 0 (by omega)
          have c1 := hcell 1 (by omega)
          have c2 := hcell 2 (by omega)
          have c3 := hcell 3 (by omega)
          have c4 := hcell 4 (by omega)
          rw [add_add] at c0 c1 c2 c3 c4
          simp at e0 e1 e2
          subst e0 e1 e2
          exact ⟨⟨z0, z1, z2, da, dl, dc, data, pa, pl, pc, plan⟩, fun _ => ⟨⟨by simpa using c0, by simpa using c1, by simpa using c2, by simpa using c3, by simpa using c4⟩, hdata, hplan⟩⟩
      · exact ⟨⟨0, 0, 0, none, 0, 0, [], none, 0, 0, []⟩, fun h => absurd h hi⟩
    obtain ⟨F, hF⟩ := Classical.axiomOfChoice each
    refine ⟨(List.range len).map F, by simp, hl, hm, ?_, ?_⟩
    · by_cases h0 : len = 0
      · exact .inl (by simp [h0])
      · obtain ⟨b, off, spot⟩ := ad
        have hspot : spot = none := by
          have := World.cell?_spot (hF 0 (by omega)).1.1
          simpa [Addr.add] using this
        subst hspot
        refine .inr ⟨b, off, rfl, fun i f hf => ?_⟩
        have hil : i < len := by
          have := (List.getElem?_eq_some_iff.1 hf).1
          simpa using this
        have hfi : F i = f := by simpa [hil] using hf
        have := (hF i hil).1
        rw [hfi, add_plain', add_plain', add_plain', add_plain', add_plain'] at this
        exact this
    · intro o ho
      obtain ⟨i, hi, rfl⟩ := List.mem_map.1 ho
      exact (hF i (by simpa using hi)).2
end Go.Proofs.YteoakhfofnocfaaGreatDoor
