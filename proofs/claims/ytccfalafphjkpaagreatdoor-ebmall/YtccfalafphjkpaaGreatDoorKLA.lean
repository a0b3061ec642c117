/-
  Write, Unmap, Change of a manager: what they ask ahead of all.
-/
import Derived.Test.YtccfalafphjkpaaGreatDoorKL
namespace Go.Proofs.YtccfalafphjkpaaGreatDoor
open Go.RowKit Go.Extern.Stop Go.Stop Go.Extern
set_option maxRecDepth 10000

@[local go_sem] theorem run_store_func4 (P : Program) (w : World) (a : Addr) (m : Mode) (f : Fn) (x y : Array Value) : (store a (.func f x y) m).run P w = stored P w a (.func f x y) m := run_store P w a _ m rfl
theorem box3 (w : World) (v1 v2 v3 : Value) (t1 t2 t3 : TypeId) : ∃ W, W = ((w.alloc (.cells #[v1] t1)).alloc (.cells #[v2] t2)).alloc (.cells #[v3] t3) ∧ Below w.heap.size w W ∧ Row W w.heap.size [v1] t1 ∧ Row W (w.heap.size + 1) [v2] t2 ∧ Row W (w.heap.size + 1 + 1) [v3] t3 := by
  refine ⟨_, rfl, Below.after (Below.after (below_new w _) (below_new _ _)) (below_new _ _), ((Row.new w [_] _).later (below_new _ _)).later (below_new _ _), ?_, ?_⟩
  · have := (Row.new (w.alloc (.cells #[v1] t1)) [v2] t2).later (below_new _ (.cells #[v3] t3))
    rw [show (w.alloc (.cells #[v1] t1)).heap.size = w.heap.size + 1 by simp] at this
    exact this
  · have := Row.new ((w.alloc (.cells #[v1] t1)).alloc (.cells #[v2] t2)) [v3] t3
    rw [show ((w.alloc (.cells #[v1] t1)).alloc (.cells #[v2] t2)).heap.size = w.heap.size + 1 + 1 by simp] at this
    exact this
set_option maxHeartbeats 1000000 in
theorem mwrite_may {base : Nat} {w : World} {m : Mg} {c : CS} (h : MLies base w m c) (leb : Int) (a : Option Addr) (n dc : Nat) (hh : hasB c leb = true) (hn : n ≤ c.gz) (R : Int × Mg × CS)
    (hD : ∀ X Bm Bl Bd, Below w.heap.size w X → X.cell? ⟨Bm, 0, none⟩ = some (.pointer (some ⟨m.p, 0, none⟩)) → X.cell? ⟨Bl, 0, none⟩ = some (.int .i64 leb) → X.cell? ⟨Bd, 0, none⟩ = some (.slice a n dc) → w.heap.size ≤ Bm → w.heap.size ≤ Bl → w.heap.size ≤ Bd → Calls Tryz.prog 35 #[.pointer (some ⟨m.p, 0, none⟩), .func (.func 59) #[] #[.pointer (some ⟨Bm, 0, none⟩), .pointer (some ⟨Bl, 0, none⟩), .pointer (some ⟨Bd, 0, none⟩)]] X (DPostM base X m c R)) :
    Calls Tryz.prog 23 #[.pointer (some ⟨m.p, 0, none⟩), .int .i64 leb, .slice a n dc] w (DPostM base w m c R) := by
  obtain ⟨W3, hW3, hb3, r0, r1, r2⟩ := box3 w (.pointer (some ⟨m.p, 0, none⟩)) (.int .i64 leb) (.slice a n dc) 30 3 24
  have HM : Hid (∀ X, Below w.heap.size w X → MLies base X m c) := fun X hb => h.later hb
  have HB3 : Hid (Below w.heap.size w W3 ∧ Row W3 w.heap.size [.pointer (some ⟨m.p, 0, none⟩)] 30 ∧ Row W3 (w.heap.size + 1) [.int .i64 leb] 3 ∧ Row W3 (w.heap.size + 1 + 1) [.slice a n dc] 24) := ⟨hb3, r0, r1, r2⟩
  have HD : Hid (∀ X Bm Bl Bd, Below w.heap.size w X → X.cell? ⟨Bm, 0, none⟩ = some (.pointer (some ⟨m.p, 0, none⟩)) → X.cell? ⟨Bl, 0, none⟩ = some (.int .i64 leb) → X.cell? ⟨Bd, 0, none⟩ = some (.slice a n dc) → w.heap.size ≤ Bm → w.heap.size ≤ Bl → w.heap.size ≤ Bd → Calls Tryz.prog 35 #[.pointer (some ⟨m.p, 0, none⟩), .func (.func 59) #[] #[.pointer (some ⟨Bm, 0, none⟩), .pointer (some ⟨Bl, 0, none⟩), .pointer (some ⟨Bd, 0, none⟩)]] X (DPostM base X m c R)) := hD
  have p0 : W3.cell? ⟨w.heap.size, 0, none⟩ = some (.pointer (some ⟨m.p, 0, none⟩)) := r0.cell (i := 0) rfl
  have ne := Wd.non W3
  have z0 : ∀ p : Wd W3, p.v.cell? ⟨w.heap.size, 0, none⟩ = some (.pointer (some ⟨m.p, 0, none⟩)) := fun p => (HB3.out.2.1.later p.h).cell (i := 0) rfl
  have z1 : ∀ p : Wd W3, p.v.cell? ⟨w.heap.size + 1, 0, none⟩ = some (.int .i64 leb) := fun p => (HB3.out.2.2.1.later p.h).cell (i := 0) rfl
  have z2 : ∀ p : Wd W3, p.v.cell? ⟨w.heap.size + 1 + 1, 0, none⟩ = some (.slice a n dc) := fun p => (HB3.out.2.2.2.later p.h).cell (i := 0) rfl
  have cH := fun p : Wd W3 => quiet_call p (by have := mhas_any (HM.out p.v (Below.after hb3 p.h)) leb; rw [hh] at this; exact this)
  have cP := fun p : Wd W3 => quiet_call p (mpage_any (HM.out p.v (Below.after hb3 p.h)))
  have g1 : ¬ (c.gz : Int) < (n : Int) := by omega
  clear hn h hh hD hb3 r0 r1 r2
  go_enter Tryz.func23, Tryz.ntmps23
  go_wp2_with fail
  rw [← hW3]
  clear hW3
  refine quiet_below (by kernel_rfl) ?_
  repeat (first | go_big_quiet_skip | go_big_quiet_step (first
    | (go_at_call 33; exact cH _)
    | (go_at_call 41; exact cP _)))
  refine wpQuiet_nil ?_
  rintro _ ⟨p4, rfl⟩
  obtain ⟨w4, hw4⟩ : ∃ W, W = p4.v := ⟨_, rfl⟩
  have HB4 : Hid (Below w.heap.size w w4) := by rw [hw4]; exact Below.after HB3.out.1 p4.h
  have y0 : w4.cell? ⟨w.heap.size, 0, none⟩ = some (.pointer (some ⟨m.p, 0, none⟩)) := by rw [hw4]; exact z0 p4
  have y1 : w4.cell? ⟨w.heap.size + 1, 0, none⟩ = some (.int .i64 leb) := by rw [hw4]; exact z1 p4
  have y2 : w4.cell? ⟨w.heap.size + 1 + 1, 0, none⟩ = some (.slice a n dc) := by rw [hw4]; exact z2 p4
  rw [← hw4]
  clear hw4
  clear p4
  clear z0 z1 z2 cH ne p0 HB3
  have kD := HD.out w4 w.heap.size (w.heap.size + 1) (w.heap.size + 1 + 1) HB4.out y0 y1 y2 (Nat.le_refl _) (by omega) (by omega)
  go_wp2_with (go_at_call 35; refine kD.mono ?_; rintro e w5 ⟨rfl, hx⟩; have HX : Hid (Ex base w4 m c w5 (R.2.1.ans R.1) R.2.2) := hx; clear hx)
  go_ret
  exact ⟨rfl, HX.out.back (.of_below HB4.out)⟩
set_option maxHeartbeats 1000000 in
theorem mchange_may {base : Nat} {w : World} {m : Mg} {c : CS} (h : MLies base w m c) (leb : Int) (a : Option Addr) (n dc : Nat) (hh : hasB c leb = true) (hfit : ∀ X, Below w.heap.size w X → Calls Tryz.prog 34 #[.pointer (some ⟨m.p, 0, none⟩), .slice a n dc] X fun e w' => e = .returned (.bool true) ∧ Below X.heap.size X w') (R : Int × Mg × CS)
    (hD : ∀ X Bm Bl Bd, Below w.heap.size w X → X.cell? ⟨Bm, 0, none⟩ = some (.pointer (some ⟨m.p, 0, none⟩)) → X.cell? ⟨Bl, 0, none⟩ = some (.int .i64 leb) → X.cell? ⟨Bd, 0, none⟩ = some (.slice a n dc) → w.heap.size ≤ Bm → w.heap.size ≤ Bl → w.heap.size ≤ Bd → Calls Tryz.prog 35 #[.pointer (some ⟨m.p, 0, none⟩), .func (.func 36) #[] #[.pointer (some ⟨Bm, 0, none⟩), .pointer (some ⟨Bl, 0, none⟩), .pointer (some ⟨Bd, 0, none⟩)]] X (DPostM base X m c R)) :
    Calls Tryz.prog 10 #[.pointer (some ⟨m.p, 0, none⟩), .int .i64 leb, .slice a n dc] w (DPostM base w m c R) := by
  obtain ⟨W3, hW3, hb3, r0, r1, r2⟩ := box3 w (.pointer (some ⟨m.p, 0, none⟩)) (.int .i64 leb) (.slice a n dc) 30 3 33
  have HM : Hid (∀ X, Below w.heap.size w X → MLies base X m c) := fun X hb => h.later hb
  have HB3 : Hid (Below w.heap.size w W3 ∧ Row W3 w.heap.size [.pointer (some ⟨m.p, 0, none⟩)] 30 ∧ Row W3 (w.heap.size + 1) [.int .i64 leb] 3 ∧ Row W3 (w.heap.size + 1 + 1) [.slice a n dc] 33) := ⟨hb3, r0, r1, r2⟩
  have HD : Hid (∀ X Bm Bl Bd, Below w.heap.size w X → X.cell? ⟨Bm, 0, none⟩ = some (.pointer (some ⟨m.p, 0, none⟩)) → X.cell? ⟨Bl, 0, none⟩ = some (.int .i64 leb) → X.cell? ⟨Bd, 0, none⟩ = some (.slice a n dc) → w.heap.size ≤ Bm → w.heap.size ≤ Bl → w.heap.size ≤ Bd → Calls Tryz.prog 35 #[.pointer (some ⟨m.p, 0, none⟩), .func (.func 36) #[] #[.pointer (some ⟨Bm, 0, none⟩), .pointer (some ⟨Bl, 0, none⟩), .pointer (some ⟨Bd, 0, none⟩)]] X (DPostM base X m c R)) := hD
  have p0 : W3.cell? ⟨w.heap.size, 0, none⟩ = some (.pointer (some ⟨m.p, 0, none⟩)) := r0.cell (i := 0) rfl
  have p1 : W3.cell? ⟨w.heap.size + 1, 0, none⟩ = some (.int .i64 leb) := r1.cell (i := 0) rfl
  have kH := mhas_any (HM.out W3 hb3) leb
  rw [hh] at kH
  have HF : Hid (∀ X, Below w.heap.size w X → Calls Tryz.prog 34 #[.pointer (some ⟨m.p, 0, none⟩), .slice a n dc] X fun e w' => e = .returned (.bool true) ∧ Below X.heap.size X w') := hfit
  clear hfit h hh hD hb3 r0 r1 r2
  go_enter Tryz.func10, Tryz.ntmps10
  go_wp2_with fail
  rw [← hW3]
  clear hW3
  go_wp2_with (first
    | (go_at_call 33; refine kH.mono ?_; rintro e w3 ⟨rfl, hb⟩; have HB : Hid (Below W3.heap.size W3 w3) := hb; have y0 : w3.cell? ⟨w.heap.size, 0, none⟩ = some (.pointer (some ⟨m.p, 0, none⟩)) := (HB3.out.2.1.later hb).cell (i := 0) rfl; have y1 : w3.cell? ⟨w.heap.size + 1, 0, none⟩ = some (.int .i64 leb) := (HB3.out.2.2.1.later hb).cell (i := 0) rfl; have y2 : w3.cell? ⟨w.heap.size + 1 + 1, 0, none⟩ = some (.slice a n dc) := (HB3.out.2.2.2.later hb).cell (i := 0) rfl; have kF := HF.out w3 (Below.after HB3.out.1 hb); clear hb)
    | (go_at_call 34; refine kF.mono ?_; rintro e w4 ⟨rfl, hb⟩; have hb4 := Below.after HB.out hb; clear y0 y1 y2; have y0 : w4.cell? ⟨w.heap.size, 0, none⟩ = some (.pointer (some ⟨m.p, 0, none⟩)) := (HB3.out.2.1.later hb4).cell (i := 0) rfl; have y1 : w4.cell? ⟨w.heap.size + 1, 0, none⟩ = some (.int .i64 leb) := (HB3.out.2.2.1.later hb4).cell (i := 0) rfl; have y2 : w4.cell? ⟨w.heap.size + 1 + 1, 0, none⟩ = some (.slice a n dc) := (HB3.out.2.2.2.later hb4).cell (i := 0) rfl; have HB4 : Hid (Below w.heap.size w w4) := Below.after HB3.out.1 hb4; have kD := HD.out w4 w.heap.size (w.heap.size + 1) (w.heap.size + 1 + 1) HB4.out y0 y1 y2 (Nat.le_refl _) (by omega) (by omega); clear hb hb4)
    | (go_at_call 35; refine kD.mono ?_; rintro e w5 ⟨rfl, hx⟩; have HX : Hid (Ex base w4 m c w5 (R.2.1.ans R.1) R.2.2) := hx; clear hx))
  go_ret
  exact ⟨rfl, HX.out.back (.of_below HB4.out)⟩
end Go.Proofs.YtccfalafphjkpaaGreatDoor
