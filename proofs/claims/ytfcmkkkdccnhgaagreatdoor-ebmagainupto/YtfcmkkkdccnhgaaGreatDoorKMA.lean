/-
  Unmap of a manager; may a logical block have these pages?
  Read of a manager.
  Read of a manager.
-/
import Derived.Test.YtfcmkkkdccnhgaaGreatDoorKL
namespace Go.Proofs.YtfcmkkkdccnhgaaGreatDoor
open Go.RowKit Go.Extern.Stop Go.Stop Go.Extern
set_option maxRecDepth 10000

@[local go_sem] theorem run_store_func5 (P : Program) (w : World) (a : Addr) (m : Mode) (f : Fn) (x y : Array Value) : (store a (.func f x y) m).run P w = stored P w a (.func f x y) m := run_store P w a _ m rfl
theorem box2 (w : World) (v1 v2 : Value) (t1 t2 : TypeId) : ∃ W, W = (w.alloc (.cells #[v1] t1)).alloc (.cells #[v2] t2) ∧ Below w.heap.size w W ∧ Row W w.heap.size [v1] t1 ∧ Row W (w.heap.size + 1) [v2] t2 := by
  refine ⟨_, rfl, Below.after (below_new w _) (below_new _ _), (Row.new w [_] _).later (below_new _ _), ?_⟩
  have := Row.new (w.alloc (.cells #[v1] t1)) [v2] t2
  rw [show (w.alloc (.cells #[v1] t1)).heap.size = w.heap.size + 1 by simp] at this
  exact this
set_option maxHeartbeats 1000000 in
theorem munmap_may {base : Nat} {w : World} {m : Mg} {c : CS} (h : MLies base w m c) (leb : Int) (hh : hasB c leb = true) (R : Int × Mg × CS)
    (hD : ∀ X Bm Bl, Below w.heap.size w X → X.cell? ⟨Bm, 0, none⟩ = some (.pointer (some ⟨m.p, 0, none⟩)) → X.cell? ⟨Bl, 0, none⟩ = some (.int .i64 leb) → w.heap.size ≤ Bm → w.heap.size ≤ Bl → Calls Tryz.prog 45 #[.pointer (some ⟨m.p, 0, none⟩), .func (.func 56) #[] #[.pointer (some ⟨Bm, 0, none⟩), .pointer (some ⟨Bl, 0, none⟩)]] X (DPostM base X m c R)) :
    Calls Tryz.prog 24 #[.pointer (some ⟨m.p, 0, none⟩), .int .i64 leb] w (DPostM base w m c R) := by
  obtain ⟨W3, hW3, hb3, r0, r1⟩ := box2 w (.pointer (some ⟨m.p, 0, none⟩)) (.int .i64 leb) 33 3
  have HB3 : Hid (Below w.heap.size w W3 ∧ Row W3 w.heap.size [.pointer (some ⟨m.p, 0, none⟩)] 33 ∧ Row W3 (w.heap.size + 1) [.int .i64 leb] 3) := ⟨hb3, r0, r1⟩
  have HD : Hid (∀ X Bm Bl, Below w.heap.size w X → X.cell? ⟨Bm, 0, none⟩ = some (.pointer (some ⟨m.p, 0, none⟩)) → X.cell? ⟨Bl, 0, none⟩ = some (.int .i64 leb) → w.heap.size ≤ Bm → w.heap.size ≤ Bl → Calls Tryz.prog 45 #[.pointer (some ⟨m.p, 0, none⟩), .func (.func 56) #[] #[.pointer (some ⟨Bm, 0, none⟩), .pointer (some ⟨Bl, 0, none⟩)]] X (DPostM base X m c R)) := hD
  have p0 : W3.cell? ⟨w.heap.size, 0, none⟩ = some (.pointer (some ⟨m.p, 0, none⟩)) := r0.cell (i := 0) rfl
  have p1 : W3.cell? ⟨w.heap.size + 1, 0, none⟩ = some (.int .i64 leb) := r1.cell (i := 0) rfl
  have kH := mhas_any (h.later hb3) leb
  rw [hh] at kH
  clear h hh hD hb3 r0 r1
  go_enter Tryz.func24, Tryz.ntmps24
  go_wp2_with fail
  rw [← hW3]
  clear hW3
  go_wp2_with (first
    | (go_at_call 44; refine kH.mono ?_; rintro e w3 ⟨rfl, hb⟩; have y0 : w3.cell? ⟨w.heap.size, 0, none⟩ = some (.pointer (some ⟨m.p, 0, none⟩)) := (HB3.out.2.1.later hb).cell (i := 0) rfl; have y1 : w3.cell? ⟨w.heap.size + 1, 0, none⟩ = some (.int .i64 leb) := (HB3.out.2.2.later hb).cell (i := 0) rfl; have HB4 : Hid (Below w.heap.size w w3) := Below.after HB3.out.1 hb; have kD := HD.out w3 w.heap.size (w.heap.size + 1) HB4.out y0 y1 (Nat.le_refl _) (by omega); clear hb)
    | (go_at_call 45; refine kD.mono ?_; rintro e w5 ⟨rfl, hx⟩; have HX : Hid (Ex base w3 m c w5 (R.2.1.ans R.1) R.2.2) := hx; clear hx))
  go_ret
  exact ⟨rfl, HX.out.back (.of_below HB4.out)⟩
set_option maxHeartbeats 2000000 in
theorem mfit_any {base : Nat} {w : World} {m : Mg} {c : CS} (h : MLies base w m c) (a : Option Addr) (cap : Nat) (L : List (List Nat)) (hd : PDt (MFoot m c) w a L) (hL : L.length + 2 ≤ c.gp) (hz : ∀ d ∈ L, d.length ≤ c.gz) :
    Calls Tryz.prog 53 #[.pointer (some ⟨m.p, 0, none⟩), .slice a L.length cap] w fun e w' => e = .returned (.bool true) ∧ Below w.heap.size w w' := by
  have hgs := h.chip.good.gs
  have HP : Hid (∀ X, Below w.heap.size w X → Calls Tryz.prog 40 #[.pointer (some ⟨m.p, 0, none⟩)] X fun e w' => e = .returned (.int .i64 c.gz) ∧ Below X.heap.size X w') := fun X hb => mpage_any (h.later hb)
  have HPs : Hid (∀ X, Below w.heap.size w X → Calls Tryz.prog 38 #[.pointer (some ⟨m.p, 0, none⟩)] X fun e w' => e = .returned (.int .i64 ((c.gp : Int) - 2)) ∧ Below X.heap.size X w') := fun X hb => mpages_any (h.later hb) (by omega)
  have HD : Hid (∀ X, Below w.heap.size w X → PDt (MFoot m c) X a L) := fun X hb => hd.kept (.of_below hb)
  have HZ : Hid (∀ d ∈ L, d.length ≤ c.gz) := hz
  have hl0 : L.length ≤ 64 := by omega
  have g1 : ¬ (c.gp : Int) - 2 < (L.length : Int) := by omega

  clear h hd hL hz hgs
  go_enter Tryz.func53, Tryz.ntmps53
  go_wp2
  go_loopg [9] L.length (fun kx s9 wr => ∃ k : Nat, k + kx = L.length ∧ s9 = .int .i64 (k : Nat) ∧ Hid (Below w.heap.size w wr))
  case atStart => exact ⟨0, by omega, rfl, Below.refl _ _⟩
  case round =>
    obtain ⟨k, hk, rfl, HB⟩ := hrel
    by_cases hlt : k < L.length
    · obtain ⟨d, hd⟩ : ∃ d, L[k]? = some d := ⟨_, List.getElem?_eq_getElem hlt⟩
      have hdz := HZ.out d (List.mem_of_getElem? hd)
      rcases HD.out wr HB.out with e | ⟨b, off, e, _, hc⟩
      · rw [e] at hlt; simp at hlt
      · obtain ⟨ai, ki, q1, _⟩ := hc k d hd
        have kP := HP.out wr HB.out
        have n0 : ¬ (k : Int) < 0 := by omega
        have n1 : (k : Int) < (L.length : Int) := by omega
        have g3 : ¬ (c.gz : Int) < (d.length : Int) := by omega
        subst e
        clear hc hd hdz
        go_wp2_with (go_at_call 40; refine kP.mono ?_; rintro e w2 ⟨rfl, hb⟩; have HB2 : Hid (Below w.heap.size w w2) := Below.after HB.out hb; clear hb)
        go_roundg (L.length - (k + 1))
        case measure => omega
        case rel => exact ⟨k + 1, by omega, by go_num, HB2⟩
    · have hkk : k = L.length := by omega
      have kP := HPs.out wr HB.out
      have n1 : ¬ (k : Int) < (L.length : Int) := by omega
      clear hkk hlt hk
      go_wp2_with (go_at_call 38; refine kP.mono ?_; rintro e w2 ⟨rfl, hb⟩; have HB2 : Hid (Below w.heap.size w w2) := Below.after HB.out hb; clear hb)
      go_ret
      exact ⟨by simp, HB2.out⟩
end Go.Proofs.YtfcmkkkdccnhgaaGreatDoor
namespace Go.Proofs.YtfcmkkkdccnhgaaGreatDoor
open Go.RowKit Go.Extern.Stop Go.Stop Go.Extern
set_option maxRecDepth 10000

/-- A page that a call of the manager tells; the manager as it was. -/
structure RdP (base : Nat) (w : World) (m : Mg) (c : CS) (l : List Nat) (a : Option Addr) (k cap : Nat) (w' : World) : Prop where
  len : k = l.length
  fits : k ≤ cap
  row : BRow w' a l
  fresh : l = [] ∨ ∀ b o, a = some ⟨b, o, none⟩ → w.heap.size ≤ b
  ml : MLies base w' m c
  kp : Kept (fun q => q = m.p) w w'
set_option maxHeartbeats 2000000 in
theorem mread_page {base : Nat} {w : World} {m : Mg} {c : CS} (h : MLies base w m c) (hl : m.lost = false) (hon : c.on = true) (hgp : 2 ≤ c.gp) (leb : Int) (page i : Nat) (hh : hasB c leb = true) (hp : page + 2 < c.gp) (hf : findI m.bl leb = i) (hu : (page : Int) < (homeB m.bl leb).used) (l : List Nat) (hrd : c.read i (2 + (page : Int)) = (l, 0)) :
    Calls Tryz.prog 20 #[.pointer (some ⟨m.p, 0, none⟩), .int .i64 leb, .int .i64 (page : Nat)] w fun e w' => ∃ a k cap, e = .returned (.tuple #[.slice a k cap, .int .i64 0]) ∧ RdP base w m c l a k cap w' := by
  have hgs := h.chip.good.gs
  have hlen := h.len
  have kH := mhas_any h leb
  rw [hh] at kH
  have HP : Hid (∀ X, Below w.heap.size w X → Calls Tryz.prog 38 #[.pointer (some ⟨m.p, 0, none⟩)] X fun e w' => e = .returned (.int .i64 ((c.gp : Int) - 2)) ∧ Below X.heap.size X w') := fun X hb => mpages_any (h.later hb) hgp
  have HOf : Hid (∀ X, Below w.heap.size w X → Calls Tryz.prog 48 #[.pointer (some ⟨m.p, 0, none⟩)] X fun e w' => e = .returned (.bool false) ∧ MLies base w' m c ∧ Kept (fun k => k = m.p) X w') := fun X hb => by
    have := off_any (h.later hb)
    rw [hl, hon, off_same hl hon] at this
    exact this
  have HU : Hid (∀ X, MLies base X m c → Calls Tryz.prog 21 #[.pointer (some ⟨m.p, 0, none⟩), .int .i64 leb] X fun e w' => e = .returned (.int .i64 (homeB m.bl leb).used) ∧ Below X.heap.size X w') := fun X hX => mused_any hX leb
  have HFi : Hid (∀ X, MLies base X m c → Calls Tryz.prog 51 #[.slice (some ⟨m.bb, 0, none⟩) m.bl.length m.bcap, .int .i64 leb] X fun e w' => e = .returned (.int .i64 (i : Nat)) ∧ Below X.heap.size X w') := fun X hX => by
    have := find_any m.bl.length m.bcap m.bl (some ⟨m.bb, 0, none⟩) leb rfl (by omega) X hX.lrow
    rw [hf] at this
    exact this
  have HR : Hid (∀ X, MLies base X m c → Calls Tryz.prog 50 #[.pointer (some ⟨c.p, 0, none⟩), .int .i64 (i : Nat), .int .i64 (2 + (page : Int))] X fun e w' => ∃ a k cap, e = .returned (.tuple #[.slice a k cap, .int .i64 0]) ∧ Got X w' l a k cap) := fun X hX => by
    have := read_any hX.chip (i : Nat) (2 + (page : Int))
    rw [hrd] at this
    exact this
  obtain ⟨us, hus⟩ : ∃ us, us = (homeB m.bl leb).used := ⟨_, rfl⟩
  rw [← hus] at hu HU
  have p0 : (0 : Int) ≤ (page : Int) := by omega
  have p1 : ¬ (c.gp : Int) - 2 ≤ (page : Int) := by omega
  have p2 : ¬ us ≤ (page : Int) := by omega
  have p3 : (page : Int) ≤ 64 := by omega
  have p4 : ¬ (page : Int) < 0 := by omega
  clear h hl hon hgp hh hp hf hu hrd hgs hlen hus
  go_enter Tryz.func20, Tryz.ntmps20
  go_wp2_with (first
    | (go_at_call 44; refine kH.mono ?_; rintro e w1 ⟨rfl, hb1⟩; have HB1 : Hid (Below w.heap.size w w1) := hb1; clear hb1)
    | (go_at_call 38; refine (HP.out _ HB1.out).mono ?_; rintro e w2 ⟨rfl, hb2⟩; have HB2 : Hid (Below w.heap.size w w2) := Below.after HB1.out hb2; clear hb2)
    | (go_at_call 48; refine (HOf.out _ HB2.out).mono ?_; rintro e w3 ⟨rfl, hl3, hk3⟩; have HL3 : Hid (MLies base w3 m c ∧ Kept (fun k => k = m.p) w w3) := ⟨hl3, (Kept.of_below HB2.out).trans hk3⟩; clear hl3 hk3)
    | (go_at_call 21; refine (HU.out _ HL3.out.1).mono ?_; rintro e w4 ⟨rfl, hb4⟩; have hl4 := HL3.out.1.later hb4; have HL4 : Hid (MLies base w4 m c ∧ Kept (fun k => k = m.p) w w4) := ⟨hl4, HL3.out.2.trans (.of_below hb4)⟩; have d0 := hl4.cells.1; have d1 := hl4.cells.2.1; have hp4 := hl4.box.lt; clear hb4 hl4))
  have hw : IntKind.i64.wrap (2 + (page : Int)) = 2 + (page : Int) := by rw [IntKind.wrap_i64]; omega
  have kF : Calls Tryz.prog 51 #[.slice (some ⟨m.bb, 0, none⟩) m.bl.length m.bcap, .int .i64 leb] w4.drew fun e w' => e = .returned (.int .i64 (i : Nat)) ∧ Below w4.drew.heap.size w4.drew w' := HFi.out _ (HL4.out.1.later (below_drew' w4))
  go_region_held3 (fun w' => w'.cell? ⟨m.p, 0, none⟩ = some (.pointer (some ⟨c.p, 0, none⟩)) ∧ w'.cell? ⟨m.p, 1, none⟩ = some (.slice (some ⟨m.bb, 0, none⟩) m.bl.length m.bcap)) (first | assumption | go_keep) (first
    | (go_at_call 51; refine kF.mono ?_; rintro e w5 ⟨rfl, hb5⟩; have hb5' := Below.after (below_drew' w4) hb5; have hl5 := HL4.out.1.later hb5'; have e0 := hl5.cells.1; have e1 := hl5.cells.2.1; have HL5 : Hid (MLies base w5 m c ∧ Kept (fun k => k = m.p) w w5) := ⟨hl5, HL4.out.2.trans (.of_below hb5')⟩; have kR := HR.out w5 hl5; clear hb5 hb5' hl5)
    | (go_at_call 50; refine kR.mono ?_; rintro e w6 ⟨a, k, cap, rfl, hg6⟩; have hl6 := HL5.out.1.later hg6.below; have f0 := hl6.cells.1; have f1 := hl6.cells.2.1; have HL6 : Hid (MLies base w6 m c ∧ Kept (fun k => k = m.p) w w6 ∧ Got w5 w6 l a k cap) := ⟨hl6, HL5.out.2.trans (.of_below hg6.below), hg6⟩; clear hl6 hg6))
  go_wp2
  refine bodyPost_ret (v := .tuple #[.slice a k cap, .int .i64 0]) ?_ rfl ⟨a, k, cap, rfl, HL6.out.2.2.len, HL6.out.2.2.fits, HL6.out.2.2.row, ?_, HL6.out.1, HL6.out.2.1⟩
  · simp [results, Tryz.f20, go_sem]
  · rcases HL6.out.2.2.fresh with e | e
    · exact .inl e
    · exact .inr fun b o hb => Nat.le_trans HL5.out.2.size (e b o hb)
end Go.Proofs.YtfcmkkkdccnhgaaGreatDoor
namespace Go.Proofs.YtfcmkkkdccnhgaaGreatDoor
open Go.RowKit Go.Extern.Stop Go.Stop Go.Extern
set_option maxRecDepth 10000

set_option maxHeartbeats 2000000 in
theorem mread_blank {base : Nat} {w : World} {m : Mg} {c : CS} (h : MLies base w m c) (hl : m.lost = false) (hon : c.on = true) (hgp : 2 ≤ c.gp) (leb : Int) (page : Nat) (hh : hasB c leb = true) (hp : page + 2 < c.gp) (hu : (homeB m.bl leb).used ≤ (page : Int)) :
    Calls Tryz.prog 20 #[.pointer (some ⟨m.p, 0, none⟩), .int .i64 leb, .int .i64 (page : Nat)] w fun e w' => ∃ a k cap, e = .returned (.tuple #[.slice a k cap, .int .i64 0]) ∧ RdP base w m c (List.replicate c.gz 255) a k cap w' := by
  have hgs := h.chip.good.gs
  have hlen := h.len
  have kH := mhas_any h leb
  rw [hh] at kH
  have HP : Hid (∀ X, Below w.heap.size w X → Calls Tryz.prog 38 #[.pointer (some ⟨m.p, 0, none⟩)] X fun e w' => e = .returned (.int .i64 ((c.gp : Int) - 2)) ∧ Below X.heap.size X w') := fun X hb => mpages_any (h.later hb) hgp
  have HOf : Hid (∀ X, Below w.heap.size w X → Calls Tryz.prog 48 #[.pointer (some ⟨m.p, 0, none⟩)] X fun e w' => e = .returned (.bool false) ∧ MLies base w' m c ∧ Kept (fun k => k = m.p) X w') := fun X hb => by
    have := off_any (h.later hb)
    rw [hl, hon, off_same hl hon] at this
    exact this
  have HU : Hid (∀ X, MLies base X m c → Calls Tryz.prog 21 #[.pointer (some ⟨m.p, 0, none⟩), .int .i64 leb] X fun e w' => e = .returned (.int .i64 (homeB m.bl leb).used) ∧ Below X.heap.size X w') := fun X hX => mused_any hX leb
  have HPg : Hid (∀ X, MLies base X m c → Calls Tryz.prog 40 #[.pointer (some ⟨m.p, 0, none⟩)] X fun e w' => e = .returned (.int .i64 c.gz) ∧ Below X.heap.size X w') := fun X hX => mpage_any hX
  have HRp : Hid (∀ (b cc : Nat) X, X.cell? ⟨b, 0, none⟩ = some (.int .u8 255) → Calls Tryz.prog 49 #[.slice (some ⟨b, 0, none⟩) 1 cc, .int .i64 (c.gz : Nat)] X fun e w' => e = .returned (.slice (some ⟨X.heap.size, 0, none⟩) c.gz c.gz) ∧ Row w' X.heap.size (List.replicate c.gz (Value.int .u8 255)) 5 ∧ Below X.heap.size X w') := fun b cc X hX => repeat_any b 0 cc c.gz X (by omega) (by omega) hX
  obtain ⟨us, hus⟩ : ∃ us, us = (homeB m.bl leb).used := ⟨_, rfl⟩
  rw [← hus] at hu HU
  have p0 : (0 : Int) ≤ (page : Int) := by omega
  have p1 : ¬ (c.gp : Int) - 2 ≤ (page : Int) := by omega
  have p2 : us ≤ (page : Int) := by omega
  have p3 : (page : Int) ≤ 64 := by omega
  have p4 : ¬ (page : Int) < 0 := by omega
  clear h hl hon hgp hh hp hu hgs hlen hus
  go_enter Tryz.func20, Tryz.ntmps20
  go_wp2_with (first
    | (go_at_call 44; refine kH.mono ?_; rintro e w1 ⟨rfl, hb1⟩; have HB1 : Hid (Below w.heap.size w w1) := hb1; clear hb1)
    | (go_at_call 38; refine (HP.out _ HB1.out).mono ?_; rintro e w2 ⟨rfl, hb2⟩; have HB2 : Hid (Below w.heap.size w w2) := Below.after HB1.out hb2; clear hb2)
    | (go_at_call 48; refine (HOf.out _ HB2.out).mono ?_; rintro e w3 ⟨rfl, hl3, hk3⟩; have HL3 : Hid (MLies base w3 m c ∧ Kept (fun k => k = m.p) w w3) := ⟨hl3, (Kept.of_below HB2.out).trans hk3⟩; clear hl3 hk3)
    | (go_at_call 21; refine (HU.out _ HL3.out.1).mono ?_; rintro e w4 ⟨rfl, hb4⟩; have hl4 := HL3.out.1.later hb4; have HL4 : Hid (MLies base w4 m c ∧ Kept (fun k => k = m.p) w w4) := ⟨hl4, HL3.out.2.trans (.of_below hb4)⟩; clear hb4 hl4)
    | (go_at_call 40; have hn4 := below_new w4 (.cells #[.int .u8 255] 5); have hl5 := HL4.out.1.later hn4; refine (HPg.out _ hl5).mono ?_; rintro e w5 ⟨rfl, hb5⟩; have HL5 : Hid (MLies base w5 m c ∧ Kept (fun k => k = m.p) w w5) := ⟨hl5.later hb5, (HL4.out.2.trans (.of_below hn4)).trans (.of_below hb5)⟩; have c5 : w5.cell? ⟨w4.heap.size, 0, none⟩ = some (.int .u8 255) := ((Row.new w4 [.int .u8 255] 5).later hb5).cell (i := 0) rfl; clear hb5 hl5 hn4)
    | (go_at_call 49; refine (HRp.out w4.heap.size 1 w5 c5).mono ?_; rintro e w6 ⟨rfl, hr6, hb6⟩; have HL6 : Hid (MLies base w6 m c ∧ Kept (fun k => k = m.p) w w6 ∧ Row w6 w5.heap.size (List.replicate c.gz (Value.int .u8 255)) 5) := ⟨HL5.out.1.later hb6, HL5.out.2.trans (.of_below hb6), hr6⟩; clear hb6 hr6))
  refine bodyPost_ret (v := .tuple #[.slice (some ⟨w5.heap.size, 0, none⟩) c.gz c.gz, .int .i64 0]) ?_ rfl ⟨_, _, _, rfl, by simp, Nat.le_refl _, .inr ⟨w5.heap.size, 0, rfl, fun i hi => ?_⟩, .inr (fun b o e => by cases e; exact HL5.out.2.size), HL6.out.1, HL6.out.2.1⟩
  · simp [results, Tryz.f20, go_sem]
  · have hi' : i < c.gz := by simpa using hi
    rw [Nat.zero_add, HL6.out.2.2.cell (v := .int .u8 255) (by rw [List.getElem?_replicate, if_pos hi'])]
    simp [List.getD_eq_getElem?_getD, hi']
end Go.Proofs.YtfcmkkkdccnhgaaGreatDoor
