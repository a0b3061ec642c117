/-
  Package ebm: calls that are refused: no such logical block, pages that don't fit.
  Scripts of ebm's statements that come in, as the walks are told of them.
-/
import Derived.Test.YtfcmkkkdccnhgaaGreatDoorKMA
import Derived.Test.YtfcmkkkdccnhgaaGreatDoorKL
import Derived.Test.YtfcmkkkdccnhgaaGreatDoorKH
import Derived.Test.YtfcmkkkdccnhgaaGreatDoorKS
import Derived.Deep.Slices
import Derived.Deep.SlicePairs
namespace Go.Proofs.YtfcmkkkdccnhgaaGreatDoor
open Go.RowKit
set_option maxRecDepth 10000

set_option maxHeartbeats 1000000 in
theorem munmap_no {base : Nat} {w : World} {m : Mg} {c : CS} (h : MLies base w m c) (leb : Int) (hh : hasB c leb = false) :
    Calls Tryz.prog 24 #[.pointer (some ⟨m.p, 0, none⟩), .int .i64 leb] w fun e w' => e = .returned (.int .i64 22) ∧ Below w.heap.size w w' := by
  obtain ⟨W3, hW3, hb3, r0, r1⟩ := box2 w (.pointer (some ⟨m.p, 0, none⟩)) (.int .i64 leb) 33 3
  have HB3 : Hid (Below w.heap.size w W3) := hb3
  have p0 : W3.cell? ⟨w.heap.size, 0, none⟩ = some (.pointer (some ⟨m.p, 0, none⟩)) := r0.cell (i := 0) rfl
  have p1 : W3.cell? ⟨w.heap.size + 1, 0, none⟩ = some (.int .i64 leb) := r1.cell (i := 0) rfl
  have kH := mhas_any (h.later hb3) leb
  rw [hh] at kH
  clear h hh hb3 r0 r1
  go_enter Tryz.func24, Tryz.ntmps24
  go_wp2_with fail
  rw [← hW3]
  clear hW3
  go_wp2_with (go_at_call 44; refine kH.mono ?_; rintro e w3 ⟨rfl, hb⟩; have HB4 : Hid (Below w.heap.size w w3) := Below.after HB3.out hb; clear hb)
  go_ret
  exact ⟨rfl, HB4.out⟩
set_option maxHeartbeats 1000000 in
theorem mwrite_long {base : Nat} {w : World} {m : Mg} {c : CS} (h : MLies base w m c) (leb : Int) (a : Option Addr) (n dc : Nat) (hh : hasB c leb = true) (hn : c.gz < n) :
    Calls Tryz.prog 19 #[.pointer (some ⟨m.p, 0, none⟩), .int .i64 leb, .slice a n dc] w fun e w' => e = .returned (.int .i64 22) ∧ Below w.heap.size w w' := by
  obtain ⟨W3, hW3, hb3, r0, r1, r2⟩ := box3 w (.pointer (some ⟨m.p, 0, none⟩)) (.int .i64 leb) (.slice a n dc) 33 3 36
  have HM : Hid (∀ X, Below w.heap.size w X → MLies base X m c) := fun X hb => h.later hb
  have HB3 : Hid (Below w.heap.size w W3 ∧ Row W3 w.heap.size [.pointer (some ⟨m.p, 0, none⟩)] 33 ∧ Row W3 (w.heap.size + 1) [.int .i64 leb] 3 ∧ Row W3 (w.heap.size + 1 + 1) [.slice a n dc] 36) := ⟨hb3, r0, r1, r2⟩
  have p0 : W3.cell? ⟨w.heap.size, 0, none⟩ = some (.pointer (some ⟨m.p, 0, none⟩)) := r0.cell (i := 0) rfl
  have ne := Wd.non W3
  have z0 : ∀ p : Wd W3, p.v.cell? ⟨w.heap.size, 0, none⟩ = some (.pointer (some ⟨m.p, 0, none⟩)) := fun p => (HB3.out.2.1.later p.h).cell (i := 0) rfl
  have z1 : ∀ p : Wd W3, p.v.cell? ⟨w.heap.size + 1, 0, none⟩ = some (.int .i64 leb) := fun p => (HB3.out.2.2.1.later p.h).cell (i := 0) rfl
  have z2 : ∀ p : Wd W3, p.v.cell? ⟨w.heap.size + 1 + 1, 0, none⟩ = some (.slice a n dc) := fun p => (HB3.out.2.2.2.later p.h).cell (i := 0) rfl
  have cH := fun p : Wd W3 => quiet_call p (by have := mhas_any (HM.out p.v (Below.after hb3 p.h)) leb; rw [hh] at this; exact this)
  have cP := fun p : Wd W3 => quiet_call p (mpage_any (HM.out p.v (Below.after hb3 p.h)))
  have g1 : (c.gz : Int) < (n : Int) := by omega
  clear hn h hh hb3 r0 r1 r2
  go_enter Tryz.func19, Tryz.ntmps19
  go_wp2_with fail
  rw [← hW3]
  clear hW3
  refine quiet_below (by kernel_rfl) ?_
  repeat (first | go_big_quiet_skip | go_big_quiet_step (first
    | (go_at_call 44; exact cH _)
    | (go_at_call 40; exact cP _)))
  refine wpQuiet_nil ?_
  rintro _ ⟨p4, rfl⟩
  obtain ⟨w4, hw4⟩ : ∃ W, W = p4.v := ⟨_, rfl⟩
  have HB4 : Hid (Below w.heap.size w w4) := by rw [hw4]; exact Below.after HB3.out.1 p4.h
  rw [← hw4]
  clear hw4
  clear p4
  go_wp2
  go_ret
  exact ⟨rfl, HB4.out⟩
set_option maxHeartbeats 1000000 in
theorem mchange_no {base : Nat} {w : World} {m : Mg} {c : CS} (h : MLies base w m c) (leb : Int) (a : Option Addr) (n dc : Nat) (hh : hasB c leb = false) :
    Calls Tryz.prog 22 #[.pointer (some ⟨m.p, 0, none⟩), .int .i64 leb, .slice a n dc] w fun e w' => e = .returned (.int .i64 22) ∧ Below w.heap.size w w' := by
  obtain ⟨W3, hW3, hb3, r0, r1, r2⟩ := box3 w (.pointer (some ⟨m.p, 0, none⟩)) (.int .i64 leb) (.slice a n dc) 33 3 37
  have HB3 : Hid (Below w.heap.size w W3) := hb3
  have p0 : W3.cell? ⟨w.heap.size, 0, none⟩ = some (.pointer (some ⟨m.p, 0, none⟩)) := r0.cell (i := 0) rfl
  have p1 : W3.cell? ⟨w.heap.size + 1, 0, none⟩ = some (.int .i64 leb) := r1.cell (i := 0) rfl
  have kH := mhas_any (h.later hb3) leb
  rw [hh] at kH
  clear h hh hb3 r0 r1 r2
  go_enter Tryz.func22, Tryz.ntmps22
  go_wp2_with fail
  rw [← hW3]
  clear hW3
  go_wp2_with (go_at_call 44; refine kH.mono ?_; rintro e w3 ⟨rfl, hb⟩; have HB4 : Hid (Below w.heap.size w w3) := Below.after HB3.out hb; clear hb)
  go_ret
  exact ⟨rfl, HB4.out⟩
set_option maxHeartbeats 1000000 in
theorem mchange_unfit {base : Nat} {w : World} {m : Mg} {c : CS} (h : MLies base w m c) (leb : Int) (a : Option Addr) (n dc : Nat) (hh : hasB c leb = true) (hfit : ∀ X, Below w.heap.size w X → Calls Tryz.prog 53 #[.pointer (some ⟨m.p, 0, none⟩), .slice a n dc] X fun e w' => e = .returned (.bool false) ∧ Below X.heap.size X w') :
    Calls Tryz.prog 22 #[.pointer (some ⟨m.p, 0, none⟩), .int .i64 leb, .slice a n dc] w fun e w' => e = .returned (.int .i64 22) ∧ Below w.heap.size w w' := by
  obtain ⟨W3, hW3, hb3, r0, r1, r2⟩ := box3 w (.pointer (some ⟨m.p, 0, none⟩)) (.int .i64 leb) (.slice a n dc) 33 3 37
  have HB3 : Hid (Below w.heap.size w W3 ∧ Row W3 w.heap.size [.pointer (some ⟨m.p, 0, none⟩)] 33 ∧ Row W3 (w.heap.size + 1 + 1) [.slice a n dc] 37) := ⟨hb3, r0, r2⟩
  have p0 : W3.cell? ⟨w.heap.size, 0, none⟩ = some (.pointer (some ⟨m.p, 0, none⟩)) := r0.cell (i := 0) rfl
  have p1 : W3.cell? ⟨w.heap.size + 1, 0, none⟩ = some (.int .i64 leb) := r1.cell (i := 0) rfl
  have kH := mhas_any (h.later hb3) leb
  rw [hh] at kH
  have HF : Hid (∀ X, Below w.heap.size w X → Calls Tryz.prog 53 #[.pointer (some ⟨m.p, 0, none⟩), .slice a n dc] X fun e w' => e = .returned (.bool false) ∧ Below X.heap.size X w') := hfit
  clear h hh hb3 r0 r1 r2 hfit
  go_enter Tryz.func22, Tryz.ntmps22
  go_wp2_with fail
  rw [← hW3]
  clear hW3
  go_wp2_with (first
    | (go_at_call 44; refine kH.mono ?_; rintro e w3 ⟨rfl, hb⟩; have HB : Hid (Below w.heap.size w w3) := Below.after HB3.out.1 hb; have y0 : w3.cell? ⟨w.heap.size, 0, none⟩ = some (.pointer (some ⟨m.p, 0, none⟩)) := (HB3.out.2.1.later hb).cell (i := 0) rfl; have y2 : w3.cell? ⟨w.heap.size + 1 + 1, 0, none⟩ = some (.slice a n dc) := (HB3.out.2.2.later hb).cell (i := 0) rfl; have kF := HF.out w3 (Below.after HB3.out.1 hb); clear hb)
    | (go_at_call 53; refine kF.mono ?_; rintro e w4 ⟨rfl, hb⟩; have HB4 : Hid (Below w.heap.size w w4) := Below.after HB.out hb; clear hb))
  go_ret
  exact ⟨rfl, HB4.out⟩
set_option maxHeartbeats 2000000 in
theorem mfit_no {base : Nat} {w : World} {m : Mg} {c : CS} (h : MLies base w m c) (a : Option Addr) (cap : Nat) (L : List (List Nat)) (hd : PDt (MFoot m c) w a L) (hl0 : L.length ≤ 9223372036854775807) (h2 : 2 ≤ c.gp) (hN : ¬ (L.length + 2 ≤ c.gp ∧ ∀ d ∈ L, d.length ≤ c.gz)) :
    Calls Tryz.prog 53 #[.pointer (some ⟨m.p, 0, none⟩), .slice a L.length cap] w fun e w' => e = .returned (.bool false) ∧ Below w.heap.size w w' := by
  have hgs := h.chip.good.gs
  have HP : Hid (∀ X, Below w.heap.size w X → Calls Tryz.prog 40 #[.pointer (some ⟨m.p, 0, none⟩)] X fun e w' => e = .returned (.int .i64 c.gz) ∧ Below X.heap.size X w') := fun X hb => mpage_any (h.later hb)
  have HPs : Hid (2 ≤ c.gp → ∀ X, Below w.heap.size w X → Calls Tryz.prog 38 #[.pointer (some ⟨m.p, 0, none⟩)] X fun e w' => e = .returned (.int .i64 ((c.gp : Int) - 2)) ∧ Below X.heap.size X w') := fun h2 X hb => mpages_any (h.later hb) h2
  have HD : Hid (∀ X, Below w.heap.size w X → PDt (MFoot m c) X a L) := fun X hb => hd.kept (.of_below hb)
  have HZ : Hid (¬ (L.length + 2 ≤ c.gp ∧ ∀ d ∈ L, d.length ≤ c.gz)) := hN
  have HG2 : Hid (c.gp ≤ 64) := hgs.2.2.2.1
  clear h hd hN hgs
  have H2 : Hid (2 ≤ c.gp) := h2
  clear h2
  go_enter Tryz.func53, Tryz.ntmps53
  go_wp2
  go_loopg [9] L.length (fun kx s9 wr => ∃ k : Nat, k + kx = L.length ∧ s9 = .int .i64 (k : Nat) ∧ Hid (Below w.heap.size w wr ∧ ∀ d ∈ L.take k, d.length ≤ c.gz))
  case atStart => exact ⟨0, by omega, rfl, Below.refl _ _, by simp⟩
  case round =>
    obtain ⟨k, hk, rfl, HB⟩ := hrel
    by_cases hlt : k < L.length
    · obtain ⟨d, hd⟩ : ∃ d, L[k]? = some d := ⟨_, List.getElem?_eq_getElem hlt⟩
      rcases HD.out wr HB.out.1 with e | ⟨b, off, e, _, hc⟩
      · rw [e] at hlt; simp at hlt
      · obtain ⟨ai, ki, q1, _⟩ := hc k d hd
        have kP := HP.out wr HB.out.1
        have n0 : ¬ (k : Int) < 0 := by omega
        have n1 : (k : Int) < (L.length : Int) := by omega
        subst e
        by_cases hdz : c.gz < d.length
        · have g3 : (c.gz : Int) < (d.length : Int) := by omega
          clear hc hd hdz
          go_wp2_with (go_at_call 40; refine kP.mono ?_; rintro e w2 ⟨rfl, hb⟩; have HB2 : Hid (Below w.heap.size w w2) := Below.after HB.out.1 hb; clear hb)
          go_ret
          exact ⟨rfl, HB2.out⟩
        · have g3 : ¬ (c.gz : Int) < (d.length : Int) := by omega
          have HT : Hid (∀ d ∈ L.take (k + 1), d.length ≤ c.gz) := fun x hx => by
            rw [List.take_add_one, hd] at hx
            rcases List.mem_append.1 hx with hx | hx
            · exact HB.out.2 x hx
            · simp at hx; subst hx; omega
          clear hc hd hdz
          go_wp2_with (go_at_call 40; refine kP.mono ?_; rintro e w2 ⟨rfl, hb⟩; have HB2 : Hid (Below w.heap.size w w2) := Below.after HB.out.1 hb; clear hb)
          go_roundg (L.length - (k + 1))
          case measure => omega
          case rel => exact ⟨k + 1, by omega, by go_num, HB2.out, HT.out⟩
    · have hkk : k = L.length := by omega
      have kP := HPs.out H2.out wr HB.out.1
      have n1 : ¬ (k : Int) < (L.length : Int) := by omega
      have hall := HB.out.2
      rw [hkk, List.take_length] at hall
      have g1 : (c.gp : Int) - 2 < (L.length : Int) := by
        rcases Nat.lt_or_ge c.gp (L.length + 2) with h | h
        · omega
        · exact absurd ⟨h, hall⟩ HZ.out
      clear hkk hlt hk hall
      go_wp2_with (go_at_call 38; refine kP.mono ?_; rintro e w2 ⟨rfl, hb⟩; have HB2 : Hid (Below w.heap.size w w2) := Below.after HB.out.1 hb; clear hb)
      go_ret
      exact ⟨by simp; omega, HB2.out⟩
end Go.Proofs.YtfcmkkkdccnhgaaGreatDoor
namespace Go.Proofs.YtfcmkkkdccnhgaaGreatDoor
open Go.ChangeShapes Go.WideShapes Go.ChangeAt Go.RowKit Go.Deep

/-- A page that comes in. -/
structure PgD where
  a : Option Addr
  l : Nat
  c : Nat
  d : List Nat
/-- The slice's elements are the pages l. -/
structure PArg (w : World) (a : Option Addr) (len cap : Nat) (l : List PgD) : Prop where
  len_eq : len = l.length
  le : len ≤ cap
  max : cap ≤ maxLen
  row : l = [] ∨ ∃ b off, a = some ⟨b, off, none⟩ ∧ ∀ i o, l[i]? = some o → w.cell? ⟨b, off + i, none⟩ = some (.slice o.a o.l o.c)
  each : ∀ o ∈ l, BArg w o.a o.l o.c o.d
/-- A step of a script. -/
structure EOp where
  kind : Int
  leb : Int
  da : Option Addr
  dl : Nat
  dc : Nat
  data : List Nat
  pa : Option Addr
  pl : Nat
  pc : Nat
  pages : List PgD
theorem eadd_plain (b off i : Nat) : (⟨b, off, none⟩ : Addr).add i = ⟨b, off + i, none⟩ := by unfold Addr.add; split <;> simp_all
theorem eslice_of {H : Type} {enc : TypeId × Value → H} {w : World} {t e : TypeId} {v : Value} {fuel : Nat} {x : DataW H × List MemPlace} (ht : Tryz.prog.underlying t = some (.slice e))
    (hf : DataW.trod enc Tryz.prog w 0 (fun _ => true) true fuel t [v] = some x) : ∃ a l c, v = .slice a l c := by
  rcases open_slice ht hf with ⟨hcs, _⟩ | ⟨ad, len', cap', m, n, D, Pl, hcs, _⟩
  · simp at hcs; exact ⟨_, _, _, hcs⟩
  · simp at hcs; exact ⟨_, _, _, hcs⟩
set_option maxRecDepth 100000 in
theorem parg_open {H : Type} {enc : TypeId × Value → H} {w : World} {a : Option Addr} {len cap fuel : Nat} {x : DataW H × List MemPlace}
    (hf : DataW.trod enc Tryz.prog w 0 (fun _ => true) true fuel 37 [.slice a len cap] = some x) : ∃ l, PArg w a len cap l := by
  rcases open_slice Tryz.underlying37 hf with ⟨hcs, _⟩ | ⟨ad, len', cap', m, n, D, Pl, hcs, _, hl, hm, hmm, _, hx⟩
  · simp at hcs
    obtain ⟨rfl, rfl, rfl⟩ := hcs
    exact ⟨[], rfl, Nat.le_refl _, by decide, .inl rfl, by simp⟩
  · simp at hcs
    obtain ⟨rfl, rfl, rfl⟩ := hcs
    have hmm' : m = cap := by simpa using hmm
    subst hmm'
    have each : ∀ i, ∃ o : PgD, i < len → w.cell? (ad.add i) = some (.slice o.a o.l o.c) ∧ BArg w o.a o.l o.c o.d := by
      intro i
      by_cases hi : i < len
      · obtain ⟨cs', h1, h2⟩ := hx i (by omega)
        rw [show Tryz.prog.cellsOf 36 = 1 by kernel_rfl] at h1
        obtain ⟨_, hlen, hcell⟩ := World.cells?_some h1
        match cs', hlen with
        | [v0], _ =>
          obtain ⟨da, dl, dc, rfl⟩ := eslice_of Tryz.underlying36 h2
          obtain ⟨data, hdata⟩ := barg_open (show DataW.trod enc Tryz.prog w 0 (fun _ => true) true _ 36 (Value.slice da dl dc).cells.toList = some (_, _) from h2)
          have c0 := hcell 0 (by omega)
          rw [add_add] at c0
          exact ⟨⟨da, dl, dc, data⟩, fun _ => ⟨by simpa using c0, hdata⟩⟩
      · exact ⟨⟨none, 0, 0, []⟩, fun h => absurd h hi⟩
    obtain ⟨F, hF⟩ := Classical.axiomOfChoice each
    refine ⟨(List.range len).map F, by simp, hl, hm, ?_, ?_⟩
    · by_cases h0 : len = 0
      · exact .inl (by simp [h0])
      · obtain ⟨b, off, spot⟩ := ad
        have hspot : spot = none := by
          have := World.cell?_spot (hF 0 (by omega)).1
          simpa [Addr.add] using this
        subst hspot
        refine .inr ⟨b, off, rfl, fun i f hf => ?_⟩
        have hil : i < len := by
          have := (List.getElem?_eq_some_iff.1 hf).1
          simpa using this
        have hfi : F i = f := by simpa [hil] using hf
        have := (hF i hil).1
        rw [hfi, eadd_plain] at this
        exact this
    · intro o ho
      obtain ⟨i, hi, rfl⟩ := List.mem_map.1 ho
      exact (hF i (by simpa using hi)).2
/-- The slice's elements are the steps l. -/
structure EArg (w : World) (a : Option Addr) (len cap : Nat) (l : List EOp) : Prop where
  len_eq : len = l.length
  le : len ≤ cap
  max : cap ≤ maxLen
  row : l = [] ∨ ∃ b off, a = some ⟨b, off, none⟩ ∧ ∀ i o, l[i]? = some o → w.cell? ⟨b, off + i * 4, none⟩ = some (.int .i64 o.kind) ∧ w.cell? ⟨b, off + i * 4 + 1, none⟩ = some (.int .i64 o.leb) ∧ w.cell? ⟨b, off + i * 4 + 2, none⟩ = some (.slice o.da o.dl o.dc) ∧ w.cell? ⟨b, off + i * 4 + 3, none⟩ = some (.slice o.pa o.pl o.pc)
  each : ∀ o ∈ l, BArg w o.da o.dl o.dc o.data ∧ PArg w o.pa o.pl o.pc o.pages
set_option maxRecDepth 100000 in
theorem earg_open {H : Type} {enc : TypeId × Value → H} {w : World} {a : Option Addr} {len cap fuel : Nat} {x : DataW H × List MemPlace}
    (hf : DataW.trod enc Tryz.prog w 0 (fun _ => true) true fuel 24 [.slice a len cap] = some x) : ∃ l, EArg w a len cap l := by
  rcases open_slice Tryz.underlying24 hf with ⟨hcs, _⟩ | ⟨ad, len', cap', m, n, D, Pl, hcs, _, hl, hm, hmm, _, hx⟩
  · simp at hcs
    obtain ⟨rfl, rfl, rfl⟩ := hcs
    exact ⟨[], rfl, Nat.le_refl _, by decide, .inl rfl, by simp⟩
  · simp at hcs
    obtain ⟨rfl, rfl, rfl⟩ := hcs
    have hmm' : m = cap := by simpa using hmm
    subst hmm'
    have each : ∀ i, ∃ o : EOp, i < len → (w.cell? (ad.add (i * 4)) = some (.int .i64 o.kind) ∧ w.cell? (ad.add (i * 4 + 1)) = some (.int .i64 o.leb) ∧ w.cell? (ad.add (i * 4 + 2)) = some (.slice o.da o.dl o.dc) ∧ w.cell? (ad.add (i * 4 + 3)) = some (.slice o.pa o.pl o.pc)) ∧ BArg w o.da o.dl o.dc o.data ∧ PArg w o.pa o.pl o.pc o.pages := by
      intro i
      by_cases hi : i < len
      · obtain ⟨cs', h1, h2⟩ := hx i (by omega)
        rw [show Tryz.prog.cellsOf 39 = 4 by kernel_rfl] at h1
        obtain ⟨_, hlen, hcell⟩ := World.cells?_some h1
        obtain ⟨xs, k, hk, hxy, _, hxl, hff⟩ := DataW.trod_struct Tryz.underlying39 h2
        match xs, hxl, cs', hlen with
        | [y0, y1, y3, y4], _, [v0, v1, v3, v4], _ =>
          have g0 := hff 0 _ rfl
          have g1 := hff 1 _ rfl
          have g3 := hff 2 _ rfl
          have g4 := hff 3 _ rfl
          have ci : Tryz.prog.cellsOf 3 = 1 := by kernel_rfl
          have cj : Tryz.prog.cellsOf 36 = 1 := by kernel_rfl
          have ck : Tryz.prog.cellsOf 37 = 1 := by kernel_rfl
          simp [ci, cj, ck] at g0 g1 g3 g4
          obtain ⟨z0, e0, _, _⟩ := DataW.trod_int Tryz.underlying3 g0
          obtain ⟨z1, e1, _, _⟩ := DataW.trod_int Tryz.underlying3 g1
          obtain ⟨da, dl, dc, rfl⟩ := eslice_of Tryz.underlying36 g3
          obtain ⟨pa, pl, pc, rfl⟩ := eslice_of Tryz.underlying37 g4
          obtain ⟨data, hdata⟩ := barg_open (d := y3.1) (p := y3.2) (show DataW.trod enc Tryz.prog w 0 (fun _ => true) true k 36 (Value.slice da dl dc).cells.toList = some (y3.1, y3.2) from g3)
          obtain ⟨pages, hpages⟩ := parg_open g4
          have c0 := hcell 0 (by omega)
          have c1 := hcell 1 (by omega)
          have c3 := hcell 2 (by omega)
          have c4 := hcell 3 (by omega)
          rw [add_add] at c0 c1 c3 c4
          simp at e0 e1
          subst e0 e1
          exact ⟨⟨z0, z1, da, dl, dc, data, pa, pl, pc, pages⟩, fun _ => ⟨⟨by simpa using c0, by simpa using c1, by simpa using c3, by simpa using c4⟩, hdata, hpages⟩⟩
      · exact ⟨⟨0, 0, none, 0, 0, [], none, 0, 0, []⟩, fun h => absurd h hi⟩
    obtain ⟨F, hF⟩ := Classical.axiomOfChoice each
    refine ⟨(List.range len).map F, by simp, hl, hm, ?_, ?_⟩
    · by_cases h0 : len = 0
      · exact .inl (by simp [h0])
      · obtain ⟨b, off, spot⟩ := ad
        have hspot : spot = none := by
          have := World.cell?_spot (hF 0 (by omega)).1.1
          simpa [Addr.add] using this
        subst hspot
        refine .inr ⟨b, off, rfl, fun i f hf => ?_⟩
        have hil : i < len := by
          have := (List.getElem?_eq_some_iff.1 hf).1
          simpa using this
        have hfi : F i = f := by simpa [hil] using hf
        have := (hF i hil).1
        rw [hfi, eadd_plain, eadd_plain, eadd_plain, eadd_plain] at this
        exact this
    · intro o ho
      obtain ⟨i, hi, rfl⟩ := List.mem_map.1 ho
      exact (hF i (by simpa using hi)).2
theorem PArg.later {w w' : World} {a : Option Addr} {len cap : Nat} {l : List PgD} (h : PArg w a len cap l) (hb : Below w.heap.size w w') : PArg w' a len cap l := by
  refine ⟨h.len_eq, h.le, h.max, ?_, fun o ho => ?_⟩
  · rcases h.row with e | ⟨b, off, e, hc⟩
    · exact .inl e
    · exact .inr ⟨b, off, e, fun i o hi => (hb.cell (p := ⟨b, off + i, none⟩) (World.block_lt_of_cell? w _ (hc i o hi))).trans (hc i o hi)⟩
  · have := h.each o ho
    exact ⟨this.len_eq, this.le, this.max, this.lt, this.row.later hb, this.nil⟩
theorem EArg.later {w w' : World} {a : Option Addr} {len cap : Nat} {l : List EOp} (h : EArg w a len cap l) (hb : Below w.heap.size w w') : EArg w' a len cap l := by
  refine ⟨h.len_eq, h.le, h.max, ?_, fun o ho => ?_⟩
  · rcases h.row with e | ⟨b, off, e, hc⟩
    · exact .inl e
    · refine .inr ⟨b, off, e, fun i o hi => ?_⟩
      obtain ⟨q0, q1, q2, q3⟩ := hc i o hi
      exact ⟨(hb.cell (p := ⟨b, off + i * 4, none⟩) (World.block_lt_of_cell? w _ q0)).trans q0, (hb.cell (p := ⟨b, off + i * 4 + 1, none⟩) (World.block_lt_of_cell? w _ q1)).trans q1, (hb.cell (p := ⟨b, off + i * 4 + 2, none⟩) (World.block_lt_of_cell? w _ q2)).trans q2, (hb.cell (p := ⟨b, off + i * 4 + 3, none⟩) (World.block_lt_of_cell? w _ q3)).trans q3⟩
  · obtain ⟨h1, h2⟩ := h.each o ho
    exact ⟨⟨h1.len_eq, h1.le, h1.max, h1.lt, h1.row.later hb, h1.nil⟩, h2.later hb⟩
end Go.Proofs.YtfcmkkkdccnhgaaGreatDoor
