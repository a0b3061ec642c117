/-
  A list of bytes that came in: what the walks are told of it.
  What the laid variable gives, a world that holds it, and a Map as an argument.
  Count and Mapping at whatever numbers, as one answer each; the laws' Same.
  Two Maps are one if their three numbers are.
  What the document's Count and Mapping answer: the same images, or EINVAL.
  The document's Count and Mapping once more: that their images lie in new memory.
-/
import Derived.Test.YteoakhfofnocfaaGreatDoorGB
import Derived.Test.YteoakhfofnocfaaGreatDoorGF
import Derived.Test.YteoakhfofnocfaaGreatDoorCards
import Derived.Test.YteoakhfofnocfaaGreatDoorTie
import Derived.ProofKit
import Derived.OpenShut
import Derived.ShutString
import Derived.ChangeOld
import Derived.SizedLaws
import Derived.LaidHandle
import Derived.LaidLaws
import Derived.Lay
import Derived.Deep.DeepHandedRow
import Derived.Laws.StructEq
import Derived.Deep.QuietTactic
import Derived.BigQuiet
namespace Go.Proofs.YteoakhfofnocfaaGreatDoor.Hd
open Go.ChangeShapes Go.WideShapes Go.ChangeAt Go.RowKit M

theorem own : ownKnob Tryz.prog.godebug = none := by kernel_rfl
theorem laidOut : laidOutB Tryz.prog = true := by kernel_rfl
theorem bytes8 : Tryz.prog.bytesOf 5 = 1 := by kernel_rfl

/-- The slice's elements are the bytes l; a nil one has none. -/
structure BArg (w : World) (a : Option Addr) (len cap : Nat) (l : List Nat) : Prop where
  len_eq : len = l.length
  le : len ≤ cap
  max : cap ≤ maxLen
  lt : ∀ x ∈ l, x < 256
  row : BRow w a l
  nil : a = none → len = 0 ∧ cap = 0

theorem toNats (zs : List Int) (hwz : ∀ n ∈ zs, (Lit.int .u8 n).wf = true) (i : Nat) (hi : i < zs.length) : (((zs.map Int.toNat).getD i 0 : Nat) : Int) = zs.getD i 0 := by
  have hb := bounds_u8 (hwz zs[i] (List.getElem_mem hi))
  simp [List.getD, hi]
  omega

theorem barg_mk {w : World} {x : Addr} {len cap : Nat} {zs : List Int} (hl : len ≤ cap) (hm : cap ≤ maxLen) (hz : zs.length = cap)
    (hcell : ∀ i, i < zs.length → w.cell? (x.add i) = some (.int .u8 (zs.getD i 0))) (hwz : ∀ n ∈ zs, (Lit.int .u8 n).wf = true) :
    BArg w (some x) len cap ((zs.take len).map Int.toNat) where
  len_eq := by simp; omega
  le := hl
  max := hm
  lt := by
    intro y hy
    simp only [List.mem_map] at hy
    obtain ⟨z, hz1, rfl⟩ := hy
    have := bounds_u8 (hwz z (List.mem_of_mem_take hz1))
    omega
  row := by
    by_cases h0 : len = 0
    · exact .inl (by simp [h0])
    · obtain ⟨b, off, spot⟩ := x
      have hc := hcell 0 (by omega)
      have hspot : spot = none := by simpa [Addr.add] using World.cell?_spot hc
      subst hspot
      refine .inr ⟨b, off, rfl, fun i hi => ?_⟩
      have hil : i < len := by simp at hi; omega
      have h1 := hcell i (by omega)
      have e : (⟨b, off, none⟩ : Addr).add i = ⟨b, off + i, none⟩ := by unfold Addr.add; split <;> simp_all
      rw [e] at h1
      rw [h1, toNats (zs.take len) (fun n hn => hwz n (List.mem_of_mem_take hn)) i (by simp; omega)]
      simp [List.getD, hil]
  nil := by intro h; cases h

theorem barg_open_sized {H : Type} {enc : TypeId × Value → H} {w : World} {a : Option Addr} {len cap fuel : Nat} {d : DataW H} {p : List MemPlace}
    (hf : DataW.trod enc Tryz.prog w 0 (fun _ => true) true fuel 35 (Value.slice a len cap).cells.toList = some (d, p)) :
    ∃ l, BArg w a len cap l ∧ (cap = 0 ∨ ∃ elems spare, d = .slice elems spare ∧ elems.length + spare.length = cap) := by
  rcases open_ints Tryz.underlying35 Tryz.underlying5 (by kernel_rfl) hf with ⟨hcs, _⟩ | ⟨x, l, c, zs, hcs, _, hl, hm, hz, hx, hcell, hwz⟩
  · simp [Value.cells] at hcs
    obtain ⟨rfl, rfl, rfl⟩ := hcs
    exact ⟨[], ⟨rfl, Nat.le_refl _, by decide, by simp, .inl rfl, fun _ => ⟨rfl, rfl⟩⟩, .inl rfl⟩
  · simp [Value.cells] at hcs
    obtain ⟨rfl, rfl, rfl⟩ := hcs
    have hz' : zs.length = cap := by simpa using hz
    refine ⟨_, barg_mk hl hm hz' hcell hwz, .inr ⟨_, _, (Prod.mk.inj hx).1, ?_⟩⟩
    simp [lits]
    omega
theorem barg_open {H : Type} {enc : TypeId × Value → H} {w : World} {a : Option Addr} {len cap fuel : Nat} {d : DataW H} {p : List MemPlace}
    (hf : DataW.trod enc Tryz.prog w 0 (fun _ => true) true fuel 35 (Value.slice a len cap).cells.toList = some (d, p)) :
    ∃ l, BArg w a len cap l := by
  obtain ⟨l, h, _⟩ := barg_open_sized hf
  exact ⟨l, h⟩
end Go.Proofs.YteoakhfofnocfaaGreatDoor.Hd
namespace Go.Proofs.YteoakhfofnocfaaGreatDoor.Hd
open Go.ChangeShapes Go.WideShapes Go.ChangeAt Go.RowKit

def laid : List (String × DataW Unit) := [("pumice/header.errNoImage", Rows.laid_pumice_header_errNoImage)]
theorem en : Tryz.prog.globalNamed "pumice/header.errNoImage" = some 0 := by kernel_rfl
theorem enType : (Tryz.prog.globals[0]?).map (·.type) = some 171 := by kernel_rfl
theorem star : "*" ++ "errors.errorString" = "*errors.errorString" := by decide
theorem rowES (u : TypeId) (h : Tryz.prog.typeName? 3 u = some "*errors.errorString") : u = 215 :=
  typeName_ptr_named (nm := "errors.errorString") (by rw [star]; kernel_rfl) (by kernel_rfl) (by decide) u (by rw [star]; exact h)
theorem laid_plain {W : World} (h : laidMetH Tryz.prog laid W) : laidMet Tryz.prog laid W := h
theorem glb_of {W : World} (h : laidMetH Tryz.prog laid W) : Glb W := by
  obtain ⟨ps, ⟨g0, t0, cs0, f0, p0, q0, hg0, ht0, hv0, hd0, _, _⟩, _, _⟩ := laid_plain h
  obtain rfl := Option.some.inj (en.symm.trans hg0)
  obtain rfl := Option.some.inj (enType.symm.trans ht0)
  obtain ⟨l0⟩ := cs0
  obtain ⟨f1, u, v, rfl, hn, _⟩ := iface_of_trod Tryz.underlying171 hd0
  obtain rfl := rowES u hn
  exact ⟨v, by simpa using World.var?_cell hg0 hv0 0⟩
/-- A world for the witness: the variable holds what its initialiser lays. -/
noncomputable def laidWorld (os : Os) : World := World.laidAll Tryz.prog os laid
theorem laid_met (os : Os) (args : Array Value) : laidMetH Tryz.prog laid ((laidWorld os).forCall (fun _ _ => 0) ⟨#[], args, []⟩).memory :=
  show laidMet Tryz.prog laid _ from laidMet_laidAll args (by kernel_rfl) (by kernel_rfl)
theorem laid_os (os : Os) : (laidWorld os).os = os := World.laidAll_os _ _ _

set_option maxRecDepth 100000 in
theorem marg_open {H : Type} {enc : TypeId × Value → H} {w : World} {cs : Array Value} {fuel : Nat} {x : DataW H × List MemPlace} (hsz : cs.size = Tryz.prog.cellsOf 65)
    (hf : DataW.trod enc Tryz.prog w 0 (fun _ => true) true fuel 65 (Value.agg cs).cells.toList = some x) :
    ∃ a b c, cs = #[.int .i64 a, .int .u64 b, .int .i64 c] ∧ (-9223372036854775808 ≤ a ∧ a ≤ 9223372036854775807) ∧ (0 ≤ b ∧ b ≤ 18446744073709551615) ∧ (-9223372036854775808 ≤ c ∧ c ≤ 9223372036854775807) := by
  rw [show Tryz.prog.cellsOf 65 = 3 by kernel_rfl] at hsz
  obtain ⟨xs, k, hk, hxy, _, hxl, hff⟩ := DataW.trod_struct Tryz.underlying65 hf
  obtain ⟨v0, v1, v2, rfl⟩ : ∃ v0 v1 v2, cs = #[v0, v1, v2] := by
    obtain ⟨l⟩ := cs
    match l, hsz with
    | [v0, v1, v2], _ => exact ⟨v0, v1, v2, rfl⟩
  match xs, hxl with
  | [y0, y1, y2], _ =>
    have g0 := hff 0 _ rfl
    have g1 := hff 1 _ rfl
    have g2 := hff 2 _ rfl
    have ci : Tryz.prog.cellsOf 3 = 1 := by kernel_rfl
    have cu : Tryz.prog.cellsOf 55 = 1 := by kernel_rfl
    simp [ci, cu, Value.cells] at g0 g1 g2
    obtain ⟨z0, e0, _, b0⟩ := DataW.trod_int Tryz.underlying3 g0
    obtain ⟨z1, e1, _, b1⟩ := DataW.trod_int Tryz.underlying55 g1
    obtain ⟨z2, e2, _, b2⟩ := DataW.trod_int Tryz.underlying3 g2
    simp at e0 e1 e2
    exact ⟨z0, z1, z2, by rw [e0, e1, e2], bounds_i64 b0, bounds_u64 b1, bounds_i64 b2⟩
end Go.Proofs.YteoakhfofnocfaaGreatDoor.Hd
namespace Go.Proofs.YteoakhfofnocfaaGreatDoor.Hd
open Go.RowKit Go.Extern.Stop Go.Stop Go.Extern M

open Classical in
noncomputable def cE (n page : Int) : Int := if countOk n ∧ pageOk page then 0 else 22
open Classical in
noncomputable def cL (n page : Int) : List Nat := if countOk n ∧ pageOk page then imgL (countL n.toNat) page.toNat else []
open Classical in
noncomputable def mE (a c page : Int) : Int := if (lebOk a ∧ pagesOk c) ∧ pageOk page then 0 else 22
open Classical in
noncomputable def mL (a b c page : Int) : List Nat := if (lebOk a ∧ pagesOk c) ∧ pageOk page then imgL (mapL a.toNat b.toNat c.toNat) page.toNat else []
theorem cE_ok {n page : Int} (h : countOk n ∧ pageOk page) : cE n page = 0 ∧ cL n page = imgL (countL n.toNat) page.toNat := ⟨if_pos h, if_pos h⟩
theorem cE_no {n page : Int} (h : ¬ (countOk n ∧ pageOk page)) : cE n page = 22 ∧ cL n page = [] := ⟨if_neg h, if_neg h⟩
theorem mE_ok {a b c page : Int} (h : (lebOk a ∧ pagesOk c) ∧ pageOk page) : mE a c page = 0 ∧ mL a b c page = imgL (mapL a.toNat b.toNat c.toNat) page.toNat := ⟨if_pos h, if_pos h⟩
theorem mE_no {a b c page : Int} (h : ¬ ((lebOk a ∧ pagesOk c) ∧ pageOk page)) : mE a c page = 22 ∧ mL a b c page = [] := ⟨if_neg h, if_neg h⟩
theorem cE_cases (n page : Int) : cE n page = 0 ∨ cE n page = 22 := by
  by_cases h : countOk n ∧ pageOk page
  · exact .inl (cE_ok h).1
  · exact .inr (cE_no h).1
theorem mE_cases (a c page : Int) : mE a c page = 0 ∨ mE a c page = 22 := by
  by_cases h : (lebOk a ∧ pagesOk c) ∧ pageOk page
  · exact .inl (if_pos h)
  · exact .inr (if_neg h)
theorem cE_zero {n page : Int} (h : cE n page = 0) : countOk n ∧ pageOk page := by
  by_cases hh : countOk n ∧ pageOk page
  · exact hh
  · rw [(cE_no hh).1] at h; cases h
theorem mE_zero {a c page : Int} (h : mE a c page = 0) : (lebOk a ∧ pagesOk c) ∧ pageOk page := by
  by_cases hh : (lebOk a ∧ pagesOk c) ∧ pageOk page
  · exact hh
  · have : mE a c page = 22 := if_neg hh
    rw [this] at h; cases h

/-- A list and an errno. -/
def ResPost (w : World) (l : List Nat) (n : Nat) (er : Int) (e : Ending) (w' : World) : Prop :=
  ∃ a c, e = .returned (.tuple #[.slice a n c, .int .i64 er]) ∧ Lies w' a n c l ∧ Below w.heap.size w w' ∧ (er = 0 → ∃ g, a = some ⟨g, 0, none⟩ ∧ c = n ∧ Own w w' (.slice (some ⟨g, 0, none⟩) n n) l)
theorem res_none {w w' : World} (hb : Below w.heap.size w w') : ResPost w [] 0 22 (.returned (.tuple #[.slice none 0 0, .int .i64 22])) w' :=
  ⟨none, 0, rfl, ⟨rfl, Nat.le_refl _, by decide, by simp, .inl rfl⟩, hb, fun h => by cases h⟩
theorem same_res {w : World} {a b : Option Addr} {n m c d : Nat} {l k : List Nat} (R : Bool) (h1 : Lies w a n c l) (h2 : Lies w b m d k) (hR : R = decide (l = k)) :
    Calls Tryz.prog 56 #[.slice a n c, .slice b m d] w fun e w' => e = .returned (.bool R) ∧ w = w' := by
  subst hR
  have e1 := h1.len
  have e2 := h2.len
  subst e1 e2
  exact same_any a c l b d k w h1.lt h2.lt h1.row h2.row

/-- Unlike payloads have unlike images. -/
theorem img_inj {p q : List Nat} {page : Nat} (h1 : p.length = q.length) (h2 : p.length + 6 ≤ page) (h : imgL p page = imgL q page) : p = q := by
  rw [img_eq p page h2, img_eq q page (by omega)] at h
  have := (List.append_inj h (by rw [frameL_length, frameL_length, h1])).1
  have e : (frameL p ++ []).drop 6 = (frameL q ++ []).drop 6 := by rw [this]
  rw [drop6, drop6] at e
  simpa using e
theorem putL_inj {k a b : Nat} (ha : a < 256 ^ k) (hb : b < 256 ^ k) (h : putL k a = putL k b) : a = b := by
  have e := congrArg getL h
  rw [getL_putL, getL_putL, Nat.mod_eq_of_lt ha, Nat.mod_eq_of_lt hb] at e
  exact e
theorem unlike_c {n k page : Int} (h1 : cE n page = 0) (h2 : cE k page = 0) : decide (cL n page = cL k page) = (n == k) := by
  have g1 := cE_zero h1
  have g2 := cE_zero h2
  rw [(cE_ok g1).2, (cE_ok g2).2]
  obtain ⟨⟨a1, a2⟩, a3, a4⟩ := g1
  obtain ⟨⟨b1, b2⟩, _, _⟩ := g2
  by_cases e : n = k
  · subst e
    simp
  · have : ¬ imgL (countL n.toNat) page.toNat = imgL (countL k.toNat) page.toNat := fun h => by
      have := img_inj (by rw [countL_length, countL_length]) (by rw [countL_length]; omega) h
      simp only [countL, List.cons.injEq, true_and] at this
      have := putL_inj (by omega) (by omega) this
      omega
    simp [this, e]
theorem unlike_m {a b c a' b' c' page : Int} (hb : 0 ≤ b ∧ b ≤ 18446744073709551615) (hb' : 0 ≤ b' ∧ b' ≤ 18446744073709551615) (h1 : mE a c page = 0) (h2 : mE a' c' page = 0) :
    decide (mL a b c page = mL a' b' c' page) = (a == a' && b == b' && c == c') := by
  have g1 := mE_zero h1
  have g2 := mE_zero h2
  rw [(mE_ok g1).2, (mE_ok g2).2]
  obtain ⟨⟨⟨a1, a2⟩, a3, a4⟩, a5, a6⟩ := g1
  obtain ⟨⟨⟨b1, b2⟩, b3, b4⟩, _, _⟩ := g2
  by_cases e : a = a' ∧ b = b' ∧ c = c'
  · obtain ⟨rfl, rfl, rfl⟩ := e
    simp
  · have : ¬ imgL (mapL a.toNat b.toNat c.toNat) page.toNat = imgL (mapL a'.toNat b'.toNat c'.toNat) page.toNat := fun h => by
      have := img_inj (by rw [mapL_length, mapL_length]) (by rw [mapL_length]; omega) h
      simp only [mapL, List.cons.injEq, true_and] at this
      obtain ⟨j1, j2⟩ := List.append_inj this (by rw [putL_length, putL_length])
      obtain ⟨j2, j3⟩ := List.append_inj j2 (by rw [putL_length, putL_length])
      have k1 := putL_inj (by omega) (by omega) j1
      have k2 := putL_inj (by omega) (by omega) j2
      have k3 := putL_inj (by omega) (by omega) j3
      exact e ⟨by omega, by omega, by omega⟩
    have e2 : (a == a' && b == b' && c == c') = false := by
      rw [Bool.eq_false_iff]
      intro h
      simp at h
      exact e ⟨h.1.1, h.1.2, h.2⟩
    rw [e2]
    simp [this]
end Go.Proofs.YteoakhfofnocfaaGreatDoor.Hd
namespace Go.Proofs.YteoakhfofnocfaaGreatDoor.Hd
open Go.RowKit Go.Extern.Stop Go.Stop Go.Extern M

theorem eql_map (w : World) (a1 a2 a3 b1 b2 b3 : Int) :
    (binOp .eql 65 (.agg #[.int .i64 a1, .int .u64 a2, .int .i64 a3]) (.agg #[.int .i64 b1, .int .u64 b2, .int .i64 b3])).run Tryz.prog w = .ok (.bool (a1 == b1 && a2 == b2 && a3 == b3)) w := by
  have hu := Tryz.underlying65
  have hi := Tryz.underlying3
  have hv := Tryz.underlying55
  have hp : Tryz.prog.stoodInHeld 65 = false := by kernel_rfl
  rw [run_eql_struct, run_equalIn_struct w 9999 _ _ _ (by rw [Program.fieldsOf, hu]) hp]
  by_cases e1 : a1 = b1
  · by_cases e2 : a2 = b2
    · by_cases e3 : a3 = b3 <;> simp [go_sem, hu, hi, hv, e1, e2, e3]
    · simp [go_sem, hu, hi, hv, e1, e2]
  · simp [go_sem, hu, hi, hv, e1]

theorem mixed : Tryz.prog.follows .mixedOrders = true := by kernel_rfl
/-- A world in which all that was is as it was. -/
structure Wd (w : World) where
  v : World
  h : Below w.heap.size w v
/-- A region that draws its order, whose operations answer the same in every such world. -/
theorem quiet_below {id : Nat} {Q : Exit → Act → World → Prop} {a : Act} {w : World} {l : List Oper} (hB : Region.lexB .any l.toArray = true)
    (h : wpQuiet Tryz.prog l.toArray (fun w' => ∃ p : Wd w, w' = p.v) (fun a' => ∀ w', (∃ p : Wd w, w' = p.v) → Q .normal a' w') l a) : (Code.region id l.toArray true).wp Tryz.prog Q a w :=
  wp_region_quiet (C := fun w' => ∃ p : Wd w, w' = p.v) mixed hB ⟨⟨w.drew, below_drew w⟩, rfl⟩ (by simpa using h)
end Go.Proofs.YteoakhfofnocfaaGreatDoor.Hd
namespace Go.Proofs.YteoakhfofnocfaaGreatDoor.Hd
open Go.RowKit Go.Extern.Stop Go.Stop Go.Extern M

/-- Bytes in new memory. -/
def SlPost (w : World) (l : List Nat) (n : Nat) (e : Ending) (w' : World) : Prop := ∃ a c, e = .returned (.slice a n c) ∧ BRow w' a l ∧ n ≤ c ∧ c ≤ maxLen ∧ (a = none → n = 0 ∧ c = 0) ∧ Below w.heap.size w w'
theorem sl_of_own {w w' : World} {v : Value} {l : List Nat} {n : Nat} (hn : n = l.length) (h : Own w w' v l) : SlPost w l n (.returned v) w' := by
  obtain ⟨a, c, rfl, hr, hnil, h1, h2⟩ := own_shape hn h.1
  exact ⟨a, c, rfl, hr, h1, h2, hnil, h.2⟩
theorem rput_sl (n : Nat) (hn : n < 18446744073709551616) (k : Nat) (hk : k ≤ 8) (w : World) : Calls Tryz.prog 71 #[.int .u64 n, .int .i64 k] w (SlPost w (putL k n) k) := by
  refine (ref_put n hn k k (by unfold putN; omega) w).mono ?_
  rintro e w' ⟨v, rfl, ho⟩
  exact sl_of_own (putL_length _ _).symm ho
def RfPost (w : World) (l : List Nat) (n : Nat) (e : Ending) (w' : World) : Prop := ∃ a c, e = .returned (.tuple #[.slice a n c, .int .i64 0]) ∧ BRow w' a l ∧ n ≤ c ∧ c ≤ maxLen ∧ Below w.heap.size w w'
theorem rframe_sl (a : Option Addr) (cap n : Nat) (l : List Nat) (w : World) (hn : n = l.length) (h1 : 1 ≤ n) (h2 : n ≤ 1024) (hb : ∀ x ∈ l, x < 256) (hr : BRow w a l) (hnil : a = none → n = 0 ∧ cap = 0) :
    Calls Tryz.prog 95 #[.slice a n cap] w (RfPost w (frameL l) (6 + n)) := by
  refine (rframe_yes a cap n l w hn h1 h2 hb hr hnil).mono ?_
  rintro e w' ⟨v, rfl, ho⟩
  obtain ⟨a', c', rfl, hr', _, g1, g2⟩ := own_shape (n := 6 + n) (by rw [frameL_length, hn]; omega) ho.1
  exact ⟨a', c', rfl, hr', g1, g2, ho.2⟩
theorem rfill_sl (a : Option Addr) (cap n page : Nat) (l : List Nat) (w : World) (hn : n = l.length) (hp : page ≤ 1048576) (hl : l.length ≤ maxLen) (hr : BRow w a l) :
    Calls Tryz.prog 96 #[.slice a n cap, .int .i64 page] w (SlPost w (fillL l page) page) := by
  subst hn
  refine (ref_fill a cap l page hp w hl hr).mono ?_
  rintro e w' ⟨v, rfl, ho⟩
  exact sl_of_own (fillL_length _ _).symm ho

set_option maxRecDepth 10000 in
set_option maxHeartbeats 4000000 in
theorem rimage_any (a : Option Addr) (cap n page : Nat) (p : List Nat) (w : World) (hn : n = p.length) (h1 : 1 ≤ n) (h2 : n ≤ 1024) (hb : ∀ x ∈ p, x < 256) (hp : page ≤ 1048576) (hr : BRow w a p) (hnil : a = none → n = 0 ∧ cap = 0) :
    Calls Tryz.prog 70 #[.slice a n cap, .int .i64 page] w (SlPost w (imgL p page) page) := by
  have hf := rframe_sl a cap n p w hn h1 h2 hb hr hnil
  have HFL : Hid (6 + n = (frameL p).length) := by show _ = _; rw [frameL_length, hn]; omega
  have HFM : Hid ((frameL p).length ≤ maxLen) := by show _ ≤ _; rw [frameL_length]; unfold maxLen; omega
  have HP : Hid (page ≤ 1048576) := hp
  clear hn hb hr hp hnil
  go_enter Tryz.func70, Tryz.ntmps70
  go_wp2_with (first
    | (go_at_call 95; refine hf.mono ?_; rintro e w1 ⟨a1, c1, rfl, hr1, _, _, hb1⟩; have HR1 : Hid (BRow _ _ _) := hr1; have HB1 : Hid (Below _ _ _) := hb1; clear hr1 hb1 hf)
    | (go_at_call 96; refine (rfill_sl _ _ _ page (frameL p) w1 HFL.out HP.out HFM.out HR1.out).mono ?_; rintro e w2 ⟨a2, c2, rfl, hr2, g1, g2, g3, hb2⟩; have HR2 : Hid (BRow w2 _ _ ∧ page ≤ c2 ∧ c2 ≤ maxLen ∧ (a2 = none → page = 0 ∧ c2 = 0)) := ⟨hr2, g1, g2, g3⟩; have HB2 : Hid (Below w.heap.size w w2) := Below.after HB1.out hb2; clear hr2 g1 g2 g3 hb2))
  go_ret
  exact ⟨a2, c2, rfl, HR2.out.1, HR2.out.2.1, HR2.out.2.2.1, HR2.out.2.2.2, HB2.out⟩

/-- A page's image, and OK. -/
def RcPost (w : World) (l : List Nat) (n : Nat) (e : Ending) (w' : World) : Prop := ∃ a c, e = .returned (.tuple #[.slice a n c, .int .i64 0]) ∧ BRow w' a l ∧ n ≤ c ∧ c ≤ maxLen ∧ Below w.heap.size w w'
set_option maxRecDepth 10000 in
set_option maxHeartbeats 4000000 in
theorem rcount_yes (n page : Nat) (w : World) (h1 : n ≤ 2147483647) (h2 : 64 ≤ page) (h3 : page ≤ 512) :
    Calls Tryz.prog 30 #[.int .i64 n, .int .i64 page] w (RcPost w (imgL (countL n) page) page) := by
  have HN : Hid (n < 18446744073709551616) := by show _ < _; omega
  have HP : Hid (page ≤ 1048576) := by show _ ≤ _; omega
  have HBN : Hid (1 + 4 ≤ maxLen ∧ (1 + 4) * 1 ≤ 140737488355328) := ⟨by decide, by decide⟩
  have HBB : Hid (Below w.heap.size w (w.alloc (.cells #[.int .u8 69] 5))) := below_new _ _
  have HOWN : Hid ((w.alloc (.cells #[.int .u8 69] 5)).ownsRow w.heap.size 5 1 (.slice (some ⟨w.heap.size, 0, none⟩) 1 1) 1 [.int .u8 69]) := own_one w w 69 (Nat.le_refl _)
  have i1 : ¬ (page : Int) < 64 := by omega
  have i2 : ¬ (512 : Int) < (page : Int) := by omega
  have i3 : ¬ (n : Int) < 0 := by omega
  have i4 : ¬ (2147483647 : Int) < (n : Int) := by omega
  go_enter Tryz.func30, Tryz.ntmps30
  go_wp2_with (first
    | (go_at_call 71; refine (rput_sl n HN.out 4 (by decide) _).mono ?_; rintro e w1 ⟨a1, c1, rfl, hr1, _, _, hn1, hb1⟩; have hown1 := owns_later HOWN.out hb1; have hb01 := Below.after HBB.out hb1; clear hb1)
    | (at_builtin; go_must (refine wpList_append_bytes rfl _ _ rfl w.heap.size _ 1 _ rfl hown1 _ 4 _ (putL 4 n) rfl (putL_length _ _).symm hr1 hn1 HBN.out.1 HBN.out.2 hb01.size ?_); intro v2 w2 hown2 hgrow; have hb2 := grown_own hb01 hgrow hb01.size hown1; obtain ⟨a2, c2, rfl, hr2, hn2, _⟩ := own_shape (countL_length n).symm (count_row hown2); clear hgrow hown1 hr1 hn1 hb01 hown2)
    | (go_at_call 70; go_must (refine (rimage_any a2 c2 5 page (countL n) w2 (countL_length n).symm (by decide) (by decide) (countL_lt n) HP.out hr2 hn2).mono ?_); rintro e w3 ⟨a3, c3, rfl, hr3, g1, g2, _, hb3⟩; have HR3 : Hid (BRow w3 _ _ ∧ page ≤ c3 ∧ c3 ≤ maxLen) := ⟨hr3, g1, g2⟩; have HB3 : Hid (Below w.heap.size w w3) := Below.after hb2 hb3; clear hr3 g1 g2 hb3))
  go_ret2
  exact ⟨a3, c3, rfl, HR3.out.1, HR3.out.2.1, HR3.out.2.2, HB3.out⟩
set_option maxRecDepth 10000 in
set_option maxHeartbeats 4000000 in
theorem rcount_no1 (n page : Int) (w : World) (i1 : page < 64) : Calls Tryz.prog 30 #[.int .i64 n, .int .i64 page] w fun e w' => e = .returned (.tuple #[.slice none 0 0, .int .i64 22]) ∧ w = w' := by
  go_enter Tryz.func30, Tryz.ntmps30
  go_wp2
  go_ret2
  exact ⟨rfl, rfl⟩
set_option maxRecDepth 10000 in
set_option maxHeartbeats 4000000 in
theorem rcount_no2 (n page : Int) (w : World) (i1 : ¬ page < 64) (i2 : 512 < page) : Calls Tryz.prog 30 #[.int .i64 n, .int .i64 page] w fun e w' => e = .returned (.tuple #[.slice none 0 0, .int .i64 22]) ∧ w = w' := by
  go_enter Tryz.func30, Tryz.ntmps30
  go_wp2
  go_ret2
  exact ⟨rfl, rfl⟩
set_option maxRecDepth 10000 in
set_option maxHeartbeats 4000000 in
theorem rcount_no3 (n page : Int) (w : World) (i1 : ¬ page < 64) (i2 : ¬ 512 < page) (i3 : n < 0) : Calls Tryz.prog 30 #[.int .i64 n, .int .i64 page] w fun e w' => e = .returned (.tuple #[.slice none 0 0, .int .i64 22]) ∧ w = w' := by
  go_enter Tryz.func30, Tryz.ntmps30
  go_wp2
  go_ret2
  exact ⟨rfl, rfl⟩
set_option maxRecDepth 10000 in
set_option maxHeartbeats 4000000 in
theorem rcount_no4 (n page : Int) (w : World) (i1 : ¬ page < 64) (i2 : ¬ 512 < page) (i3 : ¬ n < 0) (i4 : 2147483647 < n) : Calls Tryz.prog 30 #[.int .i64 n, .int .i64 page] w fun e w' => e = .returned (.tuple #[.slice none 0 0, .int .i64 22]) ∧ w = w' := by
  go_enter Tryz.func30, Tryz.ntmps30
  go_wp2
  go_ret2
  exact ⟨rfl, rfl⟩
theorem rcount_no (n page : Int) (w : World) (h : ¬ (countOk n ∧ pageOk page)) : Calls Tryz.prog 30 #[.int .i64 n, .int .i64 page] w (NoPost w) := by
  have hx : ∀ {e : Ending} {w' : World}, (e = .returned (.tuple #[.slice none 0 0, .int .i64 22]) ∧ w = w') → NoPost w e w' := fun ⟨h1, h2⟩ => ⟨h1, h2 ▸ Below.refl _ _⟩
  unfold countOk pageOk at h
  by_cases i1 : page < 64
  · exact (rcount_no1 n page w i1).mono fun _ _ h => hx h
  · by_cases i2 : 512 < page
    · exact (rcount_no2 n page w i1 i2).mono fun _ _ h => hx h
    · by_cases i3 : n < 0
      · exact (rcount_no3 n page w i1 i2 i3).mono fun _ _ h => hx h
      · exact (rcount_no4 n page w i1 i2 i3 (by omega)).mono fun _ _ h => hx h
theorem rmap_row {w : World} {base leb seq pages : Nat} {v : Value} (h : w.ownsRow base 5 1 v (1 + 2 + 8 + 1) ([.int .u8 77] ++ (putL 2 leb).map u8v ++ (putL 8 seq).map u8v ++ [pages].map u8v)) (hp : pages < 256) : w.ownsRow base 5 1 v (mapL leb seq pages).length ((mapL leb seq pages).map u8v) := by
  refine map_row ?_
  have : putL 1 pages = [pages] := by simp [putL, Nat.mod_eq_of_lt hp]
  rw [this]
  exact h

/-- What lies on through the document's Mapping. -/
structure Rm (w1 w : World) (b leb seq pages : Nat) : Prop where
  bel : Below w1.heap.size w1 w
  row : Row w b [.int .i64 leb, .int .u64 seq, .int .i64 pages] 65
theorem Rm.later {w1 w w' : World} {b leb seq pages : Nat} (h : Rm w1 w b leb seq pages) (hb : Below w.heap.size w w') : Rm w1 w' b leb seq pages := ⟨Below.after h.bel hb, h.row.later hb⟩
theorem Rm.grown {w1 w w' : World} {b leb seq pages n : Nat} {v : Value} {xs : List Value} (h : Rm w1 w b leb seq pages) (hg : w.grownBy w' v.ownBlock) (ho : w.ownsRow w1.heap.size 5 1 v n xs) (hlt : b < w1.heap.size) : Rm w1 w' b leb seq pages := by
  have hb := grown_own h.bel hg h.bel.size ho
  refine ⟨hb, h.row.same (hg.block b h.row.lt fun e => ?_)⟩
  have := (ho.lt b e.symm).1
  omega

set_option maxRecDepth 10000 in
set_option maxHeartbeats 4000000 in
theorem rmapping_yes (leb seq pages page : Nat) (w : World) (h1 : leb ≤ 255) (h2 : pages ≤ 64) (hs : seq < 18446744073709551616) (h3 : 64 ≤ page) (h4 : page ≤ 512) :
    Calls Tryz.prog 31 #[.agg #[.int .i64 leb, .int .u64 seq, .int .i64 pages], .int .i64 page] w (RcPost w (imgL (mapL leb seq pages) page) page) := by
  have HP : Hid (page ≤ 1048576) := by show _ ≤ _; omega
  have HN1 : Hid (leb < 18446744073709551616) := by show _ < _; omega
  have HN3 : Hid (pages < 256) := by show _ < _; omega
  have HN2 : Hid (seq < 18446744073709551616) := hs
  obtain ⟨W, hW⟩ : ∃ W, W = w.alloc (.cells #[.int .i64 leb, .int .u64 seq, .int .i64 pages] 65) := ⟨_, rfl⟩
  have hr : Row W w.heap.size [.int .i64 leb, .int .u64 seq, .int .i64 pages] 65 := by rw [hW]; exact Row.new w [_, _, _] _
  have c0 : W.cell? ⟨w.heap.size, 0, none⟩ = some (.int .i64 leb) := hr.cell (i := 0) rfl
  have c2 : W.cell? ⟨w.heap.size, 2, none⟩ = some (.int .i64 pages) := hr.cell (i := 2) rfl
  have hl1 := hr.lt
  have HB : Hid (Below w.heap.size w W) := by rw [hW]; exact below_new _ _
  have HM1 : Hid (Rm W (W.alloc (.cells #[.int .u8 77] 5)) w.heap.size leb seq pages) := Rm.later ⟨Below.refl _ _, hr⟩ (below_new _ _)
  have HO1 : Hid ((W.alloc (.cells #[.int .u8 77] 5)).ownsRow W.heap.size 5 1 (.slice (some ⟨w.heap.size + 1, 0, none⟩) 1 1) 1 [.int .u8 77]) := by
    have := own_one W W 77 (Nat.le_refl _)
    rw [show W.heap.size = w.heap.size + 1 by rw [hW, size_new]] at this ⊢
    exact this
  clear hr
  have HA2 : Hid (1 + 2 ≤ maxLen ∧ (1 + 2) * 1 ≤ 140737488355328) := ⟨by decide, by decide⟩
  have HA8 : Hid (1 + 2 + 8 ≤ maxLen ∧ (1 + 2 + 8) * 1 ≤ 140737488355328) := ⟨by decide, by decide⟩
  have HA1 : Hid (1 + 2 + 8 + 1 ≤ maxLen ∧ (1 + 2 + 8 + 1) * 1 ≤ 140737488355328) := ⟨by decide, by decide⟩
  have M1 : Hid True := trivial
  have M2 : Hid True := trivial
  have M3 : Hid True := trivial
  have i1 : ¬ (page : Int) < 64 := by omega
  have i2 : ¬ (512 : Int) < (page : Int) := by omega
  have i3 : ¬ (leb : Int) < 0 := by omega
  have i4 : ¬ (256 : Int) ≤ (leb : Int) := by omega
  have i5 : ¬ (pages : Int) < 0 := by omega
  have i6 : ¬ (64 : Int) < (pages : Int) := by omega
  go_enter Tryz.func31, Tryz.ntmps31
  go_wp2_with fail
  rw [← hW]
  clear hW
  go_wp2_with (first
    | (go_at_call 71; clear M1; refine (rput_sl leb HN1.out 2 (by decide) _).mono ?_; rintro e w3 ⟨a3, y3, rfl, hr3, _, _, hn3, hb3⟩; have HO3 : Hid (World.ownsRow _ _ _ _ _ _ _) := owns_later HO1.out hb3; have HM3 : Hid (Rm _ _ _ _ _ _) := HM1.out.later hb3; have HR3 : Hid (BRow w3 _ _ ∧ (a3 = none → 2 = 0 ∧ y3 = 0)) := ⟨hr3, hn3⟩; clear hb3 hr3 hn3 HO1 HM1 c0 c2)
    | (at_builtin; clear M2; go_must (refine wpList_append_bytes rfl _ _ rfl W.heap.size _ 1 _ rfl HO3.out _ 2 _ (putL 2 leb) rfl (putL_length _ _).symm HR3.out.1 HR3.out.2 HA2.out.1 HA2.out.2 HM3.out.bel.size ?_); intro v4 w4 hown4 hg4; have hm4 := HM3.out.grown hg4 HO3.out hl1; have d1 : w4.cell? ⟨w.heap.size, 1, none⟩ = some (.int .u64 seq) := hm4.row.cell (i := 1) rfl; have HM4 : Hid (Rm _ _ _ _ _ _) := hm4; have HO4 : Hid (World.ownsRow _ _ _ _ _ _ _) := hown4; clear hown4 hg4 hm4 HM3 HO3 HR3)
    | (go_at_call 71; refine (rput_sl seq HN2.out 8 (by decide) _).mono ?_; rintro e w5 ⟨a5, y5, rfl, hr5, _, _, hn5, hb5⟩; have HO5 : Hid (World.ownsRow _ _ _ _ _ _ _) := owns_later HO4.out hb5; have HM5 : Hid (Rm _ _ _ _ _ _) := HM4.out.later hb5; have HR5 : Hid (BRow w5 _ _ ∧ (a5 = none → 8 = 0 ∧ y5 = 0)) := ⟨hr5, hn5⟩; clear hb5 hr5 hn5 HO4 HM4 d1)
    | (at_builtin; clear M3; go_must (refine wpList_append_bytes rfl _ _ rfl W.heap.size _ (1 + 2) _ rfl HO5.out _ 8 _ (putL 8 seq) rfl (putL_length _ _).symm HR5.out.1 HR5.out.2 HA8.out.1 HA8.out.2 HM5.out.bel.size ?_); intro v6 w6 hown6 hg6; have hm6 := HM5.out.grown hg6 HO5.out hl1; have d2 : w6.cell? ⟨w.heap.size, 2, none⟩ = some (.int .i64 pages) := hm6.row.cell (i := 2) rfl; have HM6 : Hid (Rm _ _ _ _ _ _) := hm6; have HO6 : Hid (World.ownsRow _ _ _ _ _ _ _) := hown6; clear hown6 hg6 hm6 HM5 HO5 HR5)
    | (at_builtin; go_must (refine wpList_append_bytes rfl _ _ rfl W.heap.size _ (1 + 2 + 8) _ rfl (owns_later HO6.out (below_new w6 (.cells #[.int .u8 pages] 5))) _ 1 1 [pages] rfl rfl (brow_new w6 [pages] (0, 0)) (fun h => by cases h) HA1.out.1 HA1.out.2 (Nat.le_trans HM6.out.bel.size (by simp)) ?_); intro v8 w8 hown8 hg8; have hm8 := (HM6.out.later (below_new w6 (.cells #[.int .u8 pages] 5))).grown hg8 (owns_later HO6.out (below_new w6 (.cells #[.int .u8 pages] 5))) hl1; have HM8 : Hid (Rm _ _ _ _ _ _) := hm8; obtain ⟨a8, c8, rfl, hr8, hn8, _⟩ := own_shape (mapL_length leb seq pages).symm (rmap_row hown8 HN3.out); have HR8 : Hid (BRow w8 _ _ ∧ (a8 = none → 12 = 0 ∧ c8 = 0)) := ⟨hr8, hn8⟩; clear hown8 hg8 hm8 hr8 hn8 HM6 HO6)
    | (go_at_call 70; go_must (refine (rimage_any a8 c8 12 page (mapL leb seq pages) w8 (mapL_length _ _ _).symm (by decide) (by decide) (mapL_lt _ _ _) HP.out HR8.out.1 HR8.out.2).mono ?_); rintro e w9 ⟨a9, c9, rfl, hr9, g1, g2, _, hb9⟩; have HR9 : Hid (BRow w9 _ _ ∧ page ≤ c9 ∧ c9 ≤ maxLen) := ⟨hr9, g1, g2⟩; have HB9 : Hid (Below w.heap.size w w9) := Below.after (Below.after HB.out HM8.out.bel) hb9; clear hr9 g1 g2 hb9))
  go_ret2
  exact ⟨a9, c9, rfl, HR9.out.1, HR9.out.2.1, HR9.out.2.2, HB9.out⟩
set_option maxRecDepth 10000 in
set_option maxHeartbeats 4000000 in
theorem rmap_no1 (leb seq pages page : Int) (w : World)  (i1 : page < 64) : Calls Tryz.prog 31 #[.agg #[.int .i64 leb, .int .u64 seq, .int .i64 pages], .int .i64 page] w (NoPost w) := by
  go_enter Tryz.func31, Tryz.ntmps31
  go_wp2
  go_ret2
  exact ⟨rfl, below_new _ _⟩
set_option maxRecDepth 10000 in
set_option maxHeartbeats 4000000 in
theorem rmap_no2 (leb seq pages page : Int) (w : World) (i1 : ¬ page < 64) (i2 : 512 < page) : Calls Tryz.prog 31 #[.agg #[.int .i64 leb, .int .u64 seq, .int .i64 pages], .int .i64 page] w (NoPost w) := by
  go_enter Tryz.func31, Tryz.ntmps31
  go_wp2
  go_ret2
  exact ⟨rfl, below_new _ _⟩
set_option maxRecDepth 10000 in
set_option maxHeartbeats 4000000 in
theorem rmap_no3 (leb seq pages page : Int) (w : World) (i1 : ¬ page < 64) (i2 : ¬ 512 < page) (i3 : leb < 0) : Calls Tryz.prog 31 #[.agg #[.int .i64 leb, .int .u64 seq, .int .i64 pages], .int .i64 page] w (NoPost w) := by
  go_enter Tryz.func31, Tryz.ntmps31
  go_wp2
  go_ret2
  exact ⟨rfl, below_new _ _⟩
set_option maxRecDepth 10000 in
set_option maxHeartbeats 4000000 in
theorem rmap_no4 (leb seq pages page : Int) (w : World) (i1 : ¬ page < 64) (i2 : ¬ 512 < page) (i3 : ¬ leb < 0) (i4 : 256 ≤ leb) : Calls Tryz.prog 31 #[.agg #[.int .i64 leb, .int .u64 seq, .int .i64 pages], .int .i64 page] w (NoPost w) := by
  go_enter Tryz.func31, Tryz.ntmps31
  go_wp2
  go_ret2
  exact ⟨rfl, below_new _ _⟩
set_option maxRecDepth 10000 in
set_option maxHeartbeats 4000000 in
theorem rmap_no5 (leb seq pages page : Int) (w : World) (i1 : ¬ page < 64) (i2 : ¬ 512 < page) (i3 : ¬ leb < 0) (i4 : ¬ 256 ≤ leb) (i5 : pages < 0) : Calls Tryz.prog 31 #[.agg #[.int .i64 leb, .int .u64 seq, .int .i64 pages], .int .i64 page] w (NoPost w) := by
  go_enter Tryz.func31, Tryz.ntmps31
  go_wp2
  go_ret2
  exact ⟨rfl, below_new _ _⟩
set_option maxRecDepth 10000 in
set_option maxHeartbeats 4000000 in
theorem rmap_no6 (leb seq pages page : Int) (w : World) (i1 : ¬ page < 64) (i2 : ¬ 512 < page) (i3 : ¬ leb < 0) (i4 : ¬ 256 ≤ leb) (i5 : ¬ pages < 0) (i6 : 64 < pages) : Calls Tryz.prog 31 #[.agg #[.int .i64 leb, .int .u64 seq, .int .i64 pages], .int .i64 page] w (NoPost w) := by
  go_enter Tryz.func31, Tryz.ntmps31
  go_wp2
  go_ret2
  exact ⟨rfl, below_new _ _⟩
theorem rmapping_no (leb seq pages page : Int) (w : World) (h : ¬ ((lebOk leb ∧ pagesOk pages) ∧ pageOk page)) : Calls Tryz.prog 31 #[.agg #[.int .i64 leb, .int .u64 seq, .int .i64 pages], .int .i64 page] w (NoPost w) := by
  unfold lebOk pagesOk pageOk at h
  by_cases i1 : page < 64
  · exact rmap_no1 leb seq pages page w i1
  by_cases i2 : 512 < page
  · exact rmap_no2 leb seq pages page w i1 i2
  by_cases i3 : leb < 0
  · exact rmap_no3 leb seq pages page w i1 i2 i3
  by_cases i4 : 256 ≤ leb
  · exact rmap_no4 leb seq pages page w i1 i2 i3 i4
  by_cases i5 : pages < 0
  · exact rmap_no5 leb seq pages page w i1 i2 i3 i4 i5
  · exact rmap_no6 leb seq pages page w i1 i2 i3 i4 i5 (by omega)
/-- The document's Count and Mapping, one answer each. -/
def RResPost (w : World) (l : List Nat) (n : Nat) (er : Int) (e : Ending) (w' : World) : Prop := ∃ a c, e = .returned (.tuple #[.slice a n c, .int .i64 er]) ∧ Lies w' a n c l ∧ Below w.heap.size w w'
theorem rcount_res (n page : Int) (w : World) : Calls Tryz.prog 30 #[.int .i64 n, .int .i64 page] w (RResPost w (cL n page) (cL n page).length (cE n page)) := by
  by_cases h : countOk n ∧ pageOk page
  · obtain ⟨e1, e2⟩ := cE_ok h
    rw [e1, e2, imgL_length]
    obtain ⟨⟨h1, h2⟩, h3, h4⟩ := h
    obtain ⟨n', rfl⟩ : ∃ n' : Nat, n = n' := ⟨n.toNat, by omega⟩
    obtain ⟨p', rfl⟩ : ∃ p' : Nat, page = p' := ⟨page.toNat, by omega⟩
    refine (rcount_yes n' p' w (by omega) (by omega) (by omega)).mono ?_
    rintro e w' ⟨a, c, rfl, hr, g1, g2, hb⟩
    exact ⟨a, c, rfl, ⟨(imgL_length _ _).symm, g1, g2, imgL_lt (countL_lt _) _, hr⟩, hb⟩
  · obtain ⟨e1, e2⟩ := cE_no h
    rw [e1, e2]
    refine (rcount_no n page w h).mono ?_
    rintro e w' ⟨rfl, hb⟩
    exact ⟨none, 0, rfl, ⟨rfl, Nat.le_refl _, by decide, by simp, .inl rfl⟩, hb⟩
theorem rmap_res (a b c page : Int) (w : World) (hb0 : 0 ≤ b ∧ b ≤ 18446744073709551615) : Calls Tryz.prog 31 #[.agg #[.int .i64 a, .int .u64 b, .int .i64 c], .int .i64 page] w (RResPost w (mL a b c page) (mL a b c page).length (mE a c page)) := by
  by_cases h : (lebOk a ∧ pagesOk c) ∧ pageOk page
  · obtain ⟨e1, e2⟩ := mE_ok (b := b) h
    rw [e1, e2, imgL_length]
    obtain ⟨⟨⟨h1, h2⟩, h3, h4⟩, h5, h6⟩ := h
    obtain ⟨a', rfl⟩ : ∃ n' : Nat, a = n' := ⟨a.toNat, by omega⟩
    obtain ⟨b', rfl⟩ : ∃ n' : Nat, b = n' := ⟨b.toNat, by omega⟩
    obtain ⟨c', rfl⟩ : ∃ n' : Nat, c = n' := ⟨c.toNat, by omega⟩
    obtain ⟨p', rfl⟩ : ∃ p' : Nat, page = p' := ⟨page.toNat, by omega⟩
    refine (rmapping_yes a' b' c' p' w (by omega) (by omega) (by omega) (by omega) (by omega)).mono ?_
    rintro e w' ⟨x, y, rfl, hr, g1, g2, hb⟩
    exact ⟨x, y, rfl, ⟨(imgL_length _ _).symm, g1, g2, imgL_lt (mapL_lt _ _ _) _, hr⟩, hb⟩
  · obtain ⟨e1, e2⟩ := mE_no (b := b) h
    rw [e1, e2]
    refine (rmapping_no a b c page w h).mono ?_
    rintro e w' ⟨rfl, hb⟩
    exact ⟨none, 0, rfl, ⟨rfl, Nat.le_refl _, by decide, by simp, .inl rfl⟩, hb⟩
end Go.Proofs.YteoakhfofnocfaaGreatDoor.Hd
namespace Go.Proofs.YteoakhfofnocfaaGreatDoor.Hd
open Go.RowKit Go.Extern.Stop Go.Stop Go.Extern M

/-- In new memory. -/
def Fr (w : World) (a : Option Addr) : Prop := ∀ b o, a = some ⟨b, o, none⟩ → w.heap.size ≤ b
theorem own_fr {w w' : World} {a : Option Addr} {n c m : Nat} {xs : List Value} (h : w'.ownsRow w.heap.size 5 1 (.slice a n c) m xs) : Fr w a := by
  intro b o e
  rcases h.2 with ⟨h, _⟩ | ⟨g, cap, cur, h, hbg, _⟩
  · cases h; cases e
  · simp only [Value.slice.injEq] at h
    rw [h.1] at e
    cases e
    exact hbg
def SlF (w : World) (l : List Nat) (n : Nat) (e : Ending) (w' : World) : Prop := ∃ a c, e = .returned (.slice a n c) ∧ BRow w' a l ∧ n ≤ c ∧ c ≤ maxLen ∧ (a = none → n = 0 ∧ c = 0) ∧ Below w.heap.size w w' ∧ Fr w a
theorem rfill_fresh (a : Option Addr) (cap n page : Nat) (l : List Nat) (w : World) (hn : n = l.length) (hp : page ≤ 1048576) (hl : l.length ≤ maxLen) (hr : BRow w a l) :
    Calls Tryz.prog 96 #[.slice a n cap, .int .i64 page] w (SlF w (fillL l page) page) := by
  subst hn
  refine (ref_fill a cap l page hp w hl hr).mono ?_
  rintro e w' ⟨v, rfl, ho⟩
  obtain ⟨a, c, rfl, hr, hnil, h1, h2⟩ := own_shape (fillL_length l page).symm ho.1
  exact ⟨a, c, rfl, hr, h1, h2, hnil, ho.2, own_fr ho.1⟩
set_option maxRecDepth 10000 in
set_option maxHeartbeats 4000000 in
theorem rimage_fresh (a : Option Addr) (cap n page : Nat) (p : List Nat) (w : World) (hn : n = p.length) (h1 : 1 ≤ n) (h2 : n ≤ 1024) (hb : ∀ x ∈ p, x < 256) (hp : page ≤ 1048576) (hr : BRow w a p) (hnil : a = none → n = 0 ∧ cap = 0) :
    Calls Tryz.prog 70 #[.slice a n cap, .int .i64 page] w (SlF w (imgL p page) page) := by
  have hf := rframe_sl a cap n p w hn h1 h2 hb hr hnil
  have HFL : Hid (6 + n = (frameL p).length) := by show _ = _; rw [frameL_length, hn]; omega
  have HFM : Hid ((frameL p).length ≤ maxLen) := by show _ ≤ _; rw [frameL_length]; unfold maxLen; omega
  have HP : Hid (page ≤ 1048576) := hp
  clear hn hb hr hp hnil
  go_enter Tryz.func70, Tryz.ntmps70
  go_wp2_with (first
    | (go_at_call 95; refine hf.mono ?_; rintro e w1 ⟨a1, c1, rfl, hr1, _, _, hb1⟩; have HR1 : Hid (BRow _ _ _) := hr1; have HB1 : Hid (Below _ _ _) := hb1; clear hr1 hb1 hf)
    | (go_at_call 96; refine (rfill_fresh _ _ _ page (frameL p) w1 HFL.out HP.out HFM.out HR1.out).mono ?_; rintro e w2 ⟨a2, c2, rfl, hr2, g1, g2, g3, hb2, hf2⟩; have HR2 : Hid (BRow w2 _ _ ∧ page ≤ c2 ∧ c2 ≤ maxLen ∧ (a2 = none → page = 0 ∧ c2 = 0)) := ⟨hr2, g1, g2, g3⟩; have HB2 : Hid (Below w.heap.size w w2) := Below.after HB1.out hb2; have HF2 : Hid (Fr w a2) := (fun b o e => Nat.le_trans HB1.out.size (hf2 b o e)); clear hr2 g1 g2 g3 hb2 hf2))
  go_ret
  exact ⟨a2, c2, rfl, HR2.out.1, HR2.out.2.1, HR2.out.2.2.1, HR2.out.2.2.2, HB2.out, HF2.out⟩

/-- A page's image, and OK. -/
def RcF (w : World) (l : List Nat) (n : Nat) (e : Ending) (w' : World) : Prop := ∃ a c, e = .returned (.tuple #[.slice a n c, .int .i64 0]) ∧ BRow w' a l ∧ n ≤ c ∧ c ≤ maxLen ∧ Below w.heap.size w w' ∧ Fr w a
set_option maxRecDepth 10000 in
set_option maxHeartbeats 4000000 in
theorem rcount_fresh (n page : Nat) (w : World) (h1 : n ≤ 2147483647) (h2 : 64 ≤ page) (h3 : page ≤ 512) :
    Calls Tryz.prog 30 #[.int .i64 n, .int .i64 page] w (RcF w (imgL (countL n) page) page) := by
  have HN : Hid (n < 18446744073709551616) := by show _ < _; omega
  have HP : Hid (page ≤ 1048576) := by show _ ≤ _; omega
  have HBN : Hid (1 + 4 ≤ maxLen ∧ (1 + 4) * 1 ≤ 140737488355328) := ⟨by decide, by decide⟩
  have HBB : Hid (Below w.heap.size w (w.alloc (.cells #[.int .u8 69] 5))) := below_new _ _
  have HOWN : Hid ((w.alloc (.cells #[.int .u8 69] 5)).ownsRow w.heap.size 5 1 (.slice (some ⟨w.heap.size, 0, none⟩) 1 1) 1 [.int .u8 69]) := own_one w w 69 (Nat.le_refl _)
  have i1 : ¬ (page : Int) < 64 := by omega
  have i2 : ¬ (512 : Int) < (page : Int) := by omega
  have i3 : ¬ (n : Int) < 0 := by omega
  have i4 : ¬ (2147483647 : Int) < (n : Int) := by omega
  go_enter Tryz.func30, Tryz.ntmps30
  go_wp2_with (first
    | (go_at_call 71; refine (rput_sl n HN.out 4 (by decide) _).mono ?_; rintro e w1 ⟨a1, c1, rfl, hr1, _, _, hn1, hb1⟩; have hown1 := owns_later HOWN.out hb1; have hb01 := Below.after HBB.out hb1; clear hb1)
    | (at_builtin; go_must (refine wpList_append_bytes rfl _ _ rfl w.heap.size _ 1 _ rfl hown1 _ 4 _ (putL 4 n) rfl (putL_length _ _).symm hr1 hn1 HBN.out.1 HBN.out.2 hb01.size ?_); intro v2 w2 hown2 hgrow; have hb2 := grown_own hb01 hgrow hb01.size hown1; obtain ⟨a2, c2, rfl, hr2, hn2, _⟩ := own_shape (countL_length n).symm (count_row hown2); clear hgrow hown1 hr1 hn1 hb01 hown2)
    | (go_at_call 70; go_must (refine (rimage_fresh a2 c2 5 page (countL n) w2 (countL_length n).symm (by decide) (by decide) (countL_lt n) HP.out hr2 hn2).mono ?_); rintro e w3 ⟨a3, c3, rfl, hr3, g1, g2, _, hb3, hf3⟩; have HR3 : Hid (BRow w3 _ _ ∧ page ≤ c3 ∧ c3 ≤ maxLen) := ⟨hr3, g1, g2⟩; have HB3 : Hid (Below w.heap.size w w3) := Below.after hb2 hb3; have HF3 : Hid (Fr w a3) := (fun b o e => Nat.le_trans hb2.size (hf3 b o e)); clear hr3 g1 g2 hb3 hf3))
  go_ret2
  exact ⟨a3, c3, rfl, HR3.out.1, HR3.out.2.1, HR3.out.2.2, HB3.out, HF3.out⟩
set_option maxRecDepth 10000 in
set_option maxHeartbeats 4000000 in
theorem rmapping_fresh (leb seq pages page : Nat) (w : World) (h1 : leb ≤ 255) (h2 : pages ≤ 64) (hs : seq < 18446744073709551616) (h3 : 64 ≤ page) (h4 : page ≤ 512) :
    Calls Tryz.prog 31 #[.agg #[.int .i64 leb, .int .u64 seq, .int .i64 pages], .int .i64 page] w (RcF w (imgL (mapL leb seq pages) page) page) := by
  have HP : Hid (page ≤ 1048576) := by show _ ≤ _; omega
  have HN1 : Hid (leb < 18446744073709551616) := by show _ < _; omega
  have HN3 : Hid (pages < 256) := by show _ < _; omega
  have HN2 : Hid (seq < 18446744073709551616) := hs
  obtain ⟨W, hW⟩ : ∃ W, W = w.alloc (.cells #[.int .i64 leb, .int .u64 seq, .int .i64 pages] 65) := ⟨_, rfl⟩
  have hr : Row W w.heap.size [.int .i64 leb, .int .u64 seq, .int .i64 pages] 65 := by rw [hW]; exact Row.new w [_, _, _] _
  have c0 : W.cell? ⟨w.heap.size, 0, none⟩ = some (.int .i64 leb) := hr.cell (i := 0) rfl
  have c2 : W.cell? ⟨w.heap.size, 2, none⟩ = some (.int .i64 pages) := hr.cell (i := 2) rfl
  have hl1 := hr.lt
  have HB : Hid (Below w.heap.size w W) := by rw [hW]; exact below_new _ _
  have HM1 : Hid (Rm W (W.alloc (.cells #[.int .u8 77] 5)) w.heap.size leb seq pages) := Rm.later ⟨Below.refl _ _, hr⟩ (below_new _ _)
  have HO1 : Hid ((W.alloc (.cells #[.int .u8 77] 5)).ownsRow W.heap.size 5 1 (.slice (some ⟨w.heap.size + 1, 0, none⟩) 1 1) 1 [.int .u8 77]) := by
    have := own_one W W 77 (Nat.le_refl _)
    rw [show W.heap.size = w.heap.size + 1 by rw [hW, size_new]] at this ⊢
    exact this
  clear hr
  have HA2 : Hid (1 + 2 ≤ maxLen ∧ (1 + 2) * 1 ≤ 140737488355328) := ⟨by decide, by decide⟩
  have HA8 : Hid (1 + 2 + 8 ≤ maxLen ∧ (1 + 2 + 8) * 1 ≤ 140737488355328) := ⟨by decide, by decide⟩
  have HA1 : Hid (1 + 2 + 8 + 1 ≤ maxLen ∧ (1 + 2 + 8 + 1) * 1 ≤ 140737488355328) := ⟨by decide, by decide⟩
  have M1 : Hid True := trivial
  have M2 : Hid True := trivial
  have M3 : Hid True := trivial
  have i1 : ¬ (page : Int) < 64 := by omega
  have i2 : ¬ (512 : Int) < (page : Int) := by omega
  have i3 : ¬ (leb : Int) < 0 := by omega
  have i4 : ¬ (256 : Int) ≤ (leb : Int) := by omega
  have i5 : ¬ (pages : Int) < 0 := by omega
  have i6 : ¬ (64 : Int) < (pages : Int) := by omega
  go_enter Tryz.func31, Tryz.ntmps31
  go_wp2_with fail
  rw [← hW]
  clear hW
  go_wp2_with (first
    | (go_at_call 71; clear M1; refine (rput_sl leb HN1.out 2 (by decide) _).mono ?_; rintro e w3 ⟨a3, y3, rfl, hr3, _, _, hn3, hb3⟩; have HO3 : Hid (World.ownsRow _ _ _ _ _ _ _) := owns_later HO1.out hb3; have HM3 : Hid (Rm _ _ _ _ _ _) := HM1.out.later hb3; have HR3 : Hid (BRow w3 _ _ ∧ (a3 = none → 2 = 0 ∧ y3 = 0)) := ⟨hr3, hn3⟩; clear hb3 hr3 hn3 HO1 HM1 c0 c2)
    | (at_builtin; clear M2; go_must (refine wpList_append_bytes rfl _ _ rfl W.heap.size _ 1 _ rfl HO3.out _ 2 _ (putL 2 leb) rfl (putL_length _ _).symm HR3.out.1 HR3.out.2 HA2.out.1 HA2.out.2 HM3.out.bel.size ?_); intro v4 w4 hown4 hg4; have hm4 := HM3.out.grown hg4 HO3.out hl1; have d1 : w4.cell? ⟨w.heap.size, 1, none⟩ = some (.int .u64 seq) := hm4.row.cell (i := 1) rfl; have HM4 : Hid (Rm _ _ _ _ _ _) := hm4; have HO4 : Hid (World.ownsRow _ _ _ _ _ _ _) := hown4; clear hown4 hg4 hm4 HM3 HO3 HR3)
    | (go_at_call 71; refine (rput_sl seq HN2.out 8 (by decide) _).mono ?_; rintro e w5 ⟨a5, y5, rfl, hr5, _, _, hn5, hb5⟩; have HO5 : Hid (World.ownsRow _ _ _ _ _ _ _) := owns_later HO4.out hb5; have HM5 : Hid (Rm _ _ _ _ _ _) := HM4.out.later hb5; have HR5 : Hid (BRow w5 _ _ ∧ (a5 = none → 8 = 0 ∧ y5 = 0)) := ⟨hr5, hn5⟩; clear hb5 hr5 hn5 HO4 HM4 d1)
    | (at_builtin; clear M3; go_must (refine wpList_append_bytes rfl _ _ rfl W.heap.size _ (1 + 2) _ rfl HO5.out _ 8 _ (putL 8 seq) rfl (putL_length _ _).symm HR5.out.1 HR5.out.2 HA8.out.1 HA8.out.2 HM5.out.bel.size ?_); intro v6 w6 hown6 hg6; have hm6 := HM5.out.grown hg6 HO5.out hl1; have d2 : w6.cell? ⟨w.heap.size, 2, none⟩ = some (.int .i64 pages) := hm6.row.cell (i := 2) rfl; have HM6 : Hid (Rm _ _ _ _ _ _) := hm6; have HO6 : Hid (World.ownsRow _ _ _ _ _ _ _) := hown6; clear hown6 hg6 hm6 HM5 HO5 HR5)
    | (at_builtin; go_must (refine wpList_append_bytes rfl _ _ rfl W.heap.size _ (1 + 2 + 8) _ rfl (owns_later HO6.out (below_new w6 (.cells #[.int .u8 pages] 5))) _ 1 1 [pages] rfl rfl (brow_new w6 [pages] (0, 0)) (fun h => by cases h) HA1.out.1 HA1.out.2 (Nat.le_trans HM6.out.bel.size (by simp)) ?_); intro v8 w8 hown8 hg8; have hm8 := (HM6.out.later (below_new w6 (.cells #[.int .u8 pages] 5))).grown hg8 (owns_later HO6.out (below_new w6 (.cells #[.int .u8 pages] 5))) hl1; have HM8 : Hid (Rm _ _ _ _ _ _) := hm8; obtain ⟨a8, c8, rfl, hr8, hn8, _⟩ := own_shape (mapL_length leb seq pages).symm (rmap_row hown8 HN3.out); have HR8 : Hid (BRow w8 _ _ ∧ (a8 = none → 12 = 0 ∧ c8 = 0)) := ⟨hr8, hn8⟩; clear hown8 hg8 hm8 hr8 hn8 HM6 HO6)
    | (go_at_call 70; go_must (refine (rimage_fresh a8 c8 12 page (mapL leb seq pages) w8 (mapL_length _ _ _).symm (by decide) (by decide) (mapL_lt _ _ _) HP.out HR8.out.1 HR8.out.2).mono ?_); rintro e w9 ⟨a9, c9, rfl, hr9, g1, g2, _, hb9, hf9⟩; have HR9 : Hid (BRow w9 _ _ ∧ page ≤ c9 ∧ c9 ≤ maxLen) := ⟨hr9, g1, g2⟩; have HB9 : Hid (Below w.heap.size w w9) := Below.after (Below.after HB.out HM8.out.bel) hb9; have HF9 : Hid (Fr w a9) := (fun b o e => Nat.le_trans (Below.after HB.out HM8.out.bel).size (hf9 b o e)); clear hr9 g1 g2 hb9 hf9))
  go_ret2
  exact ⟨a9, c9, rfl, HR9.out.1, HR9.out.2.1, HR9.out.2.2, HB9.out, HF9.out⟩
end Go.Proofs.YteoakhfofnocfaaGreatDoor.Hd
