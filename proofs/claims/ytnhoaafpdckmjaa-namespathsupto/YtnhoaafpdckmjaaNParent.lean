/-
  What Parent answers, and the document's answer.
-/
import Derived.Test.YtnhoaafpdckmjaaNRefF
import Derived.Test.YtnhoaafpdckmjaaNSort
import Derived.Deep.RegionWith
namespace Go.Proofs.Ytnhoaafpdckmjaa
open Go.RowKit Go.Shelf M

theorem parent_results (tmps : Array Value) (B : Nat) (a b : Value) (W : World) (h2 : tmps[2]?.getD undef = .pointer (some ⟨B, 0, none⟩))
    (ca : W.cell? ⟨B, 0, none⟩ = some a) (cb : W.cell? ⟨B, 1, none⟩ = some b) :
    (results Try.f15 tmps).run Try.prog W = .ok (.tuple #[.agg #[a, b], tmps[3]?.getD undef]) W := by
  simp [results, Try.f15, go_sem, h2, ca, cb]
theorem rparent_results (tmps : Array Value) (B : Nat) (a b : Value) (W : World) (h2 : tmps[2]?.getD undef = .pointer (some ⟨B, 0, none⟩))
    (ca : W.cell? ⟨B, 0, none⟩ = some a) (cb : W.cell? ⟨B, 1, none⟩ = some b) :
    (results Try.f16 tmps).run Try.prog W = .ok (.tuple #[.agg #[a, b], tmps[3]?.getD undef]) W := by
  simp [results, Try.f16, go_sem, h2, ca, cb]

set_option maxHeartbeats 1000000 in
theorem parent_zero (a : Option Addr) (c : Nat) (f : Bool) (w : World) :
    Calls Try.prog 15 #[.agg #[.slice a 0 c, .bool f]] w fun e w' => e = .returned (.tuple #[.agg #[.slice none 0 0, .bool f], .string ⟨#[]⟩]) ∧ Below w.heap.size w w' := by
  go_enter Try.func15, Try.ntmps15
  go_wp2
  refine bodyPost_ret (v := .tuple #[.agg #[.slice none 0 0, .bool f], .string ⟨#[]⟩]) ?_ rfl ⟨rfl, ((Below.refl _ w).alloc (Nat.le_refl _) _).alloc (by simp) _⟩
  simp [results, Try.f15, go_sem]
set_option maxHeartbeats 1000000 in
theorem rparent_zero (a : Option Addr) (c : Nat) (f : Bool) (w : World) :
    Calls Try.prog 16 #[.agg #[.slice a 0 c, .bool f]] w fun e w' => e = .returned (.tuple #[.agg #[.slice a 0 c, .bool f], .string ⟨#[]⟩]) ∧ Below w.heap.size w w' := by
  go_enter Try.func16, Try.ntmps16
  go_wp2
  refine bodyPost_ret (v := .tuple #[.agg #[.slice a 0 c, .bool f], .string ⟨#[]⟩]) ?_ rfl ⟨rfl, ((Below.refl _ w).alloc (Nat.le_refl _) _).alloc (by simp) _⟩
  simp [results, Try.f16, go_sem]

set_option maxRecDepth 100000 in
set_option maxHeartbeats 4000000 in
theorem rparent_more (b off m c : Nat) (f : Bool) (x : ByteArray) (w : World) (hc : m + 1 ≤ c) (hbig : m ≤ 4194304) (gx : w.cell? ⟨b, off + m, none⟩ = some (.string x)) :
    Calls Try.prog 16 #[.agg #[.slice (some ⟨b, off, none⟩) (m + 1) c, .bool f]] w fun e w' => e = .returned (.tuple #[.agg #[.slice (some ⟨b, off, none⟩) m c, .bool false], .string x]) ∧ Below w.heap.size w w' := by
  have gx2 : ∀ o1 o2, ((w.alloc o1).alloc o2).cell? ⟨b, off + m, none⟩ = some (.string x) := fun o1 o2 =>
    ((((Below.refl _ w).alloc (Nat.le_refl _) o1).alloc (by simp) o2).cell (p := ⟨b, off + m, none⟩) (World.block_lt_of_cell? w _ gx)).trans gx
  have hm1 : ((m : Int) + 1 - 1) = (m : Int) := by omega
  have hm2 : ((m : Int)) ≤ (c : Int) := by omega
  have hm0 : ¬ (m : Int) + 1 = 0 := by omega
  have hm3 : ((m : Int) + 1 == 0) = false := by simp; omega
  clear gx
  go_enter Try.func16, Try.ntmps16
  go_wp2
  go_region
  all_goals go_wp2
  all_goals
    refine bodyPost_ret (v := .tuple #[.agg #[.slice (some ⟨b, off, none⟩) m c, .bool false], .string x]) ?_ rfl ⟨rfl, (((Below.refl _ w).alloc (Nat.le_refl _) _).alloc (by simp) _).drew⟩
    simp [results, Try.f16, go_sem]

theorem set_other {w : World} {B b o : Nat} {x : ByteArray} (hne : b ≠ B) (h : w.cell? ⟨b, o, none⟩ = some (.string x)) (u v : Value) : ((w.setCell ⟨B, 0, none⟩ u).setCell ⟨B, 1, none⟩ v).cell? ⟨b, o, none⟩ = some (.string x) := by
  have e : ((w.setCell ⟨B, 0, none⟩ u).setCell ⟨B, 1, none⟩ v).heap[b]? = w.heap[b]? := (Below.heap_setCell _ _ _ b hne).trans (Below.heap_setCell _ _ _ b hne)
  simp only [World.cell?] at h ⊢
  rw [e]
  exact h
/-- What lies behind the copy: the parameter's box, the result's box, the last part. -/
theorem parent_mid {w w1 : World} {p1 p2 q1 q2 : Value} {t : TypeId} {b o : Nat} {x : ByteArray} (hg : w.cell? ⟨b, o, none⟩ = some (.string x))
    (hb : Below ((w.alloc (Obj.cells #[p1, p2] t)).alloc (Obj.cells #[q1, q2] t)).drew.heap.size ((w.alloc (Obj.cells #[p1, p2] t)).alloc (Obj.cells #[q1, q2] t)).drew w1) :
    Blk w1 (w.heap.size + 1) #[q1, q2] t ∧ Blk w1 w.heap.size #[p1, p2] t ∧ w1.cell? ⟨b, o, none⟩ = some (.string x) ∧ Below w.heap.size w w1 := by
  have h2 : Blk ((w.alloc (Obj.cells #[p1, p2] t)).alloc (Obj.cells #[q1, q2] t)).drew (w.heap.size + 1) #[q1, q2] t := by
    have := World.alloc_heap_new (w.alloc (Obj.cells #[p1, p2] t)) (Obj.cells #[q1, q2] t)
    rw [World.size_alloc] at this
    exact this
  have h1 : Blk ((w.alloc (Obj.cells #[p1, p2] t)).alloc (Obj.cells #[q1, q2] t)).drew w.heap.size #[p1, p2] t :=
    (blk_own (β := Unit) w.heap.size #[p1, p2] t).alloc (s := ()) (Obj.cells #[q1, q2] t) (World.alloc_heap_new w _)
  have hB : Below w.heap.size w ((w.alloc (Obj.cells #[p1, p2] t)).alloc (Obj.cells #[q1, q2] t)).drew := (((Below.refl _ w).alloc (Nat.le_refl _) _).alloc (by simp) _).drew
  have hB2 := Below.after hB hb
  exact ⟨h2.later hb, h1.later hb, (hB2.cell (p := ⟨b, o, none⟩) (World.block_lt_of_cell? w _ hg)).trans hg, hB2⟩

set_option maxRecDepth 100000 in
set_option maxHeartbeats 4000000 in
theorem parent_more (b off m c : Nat) (f : Bool) (x : ByteArray) (l : List ByteArray) (w : World) (hc : m + 1 ≤ c) (hbig : m ≤ 4194304) (gx : w.cell? ⟨b, off + m, none⟩ = some (.string x)) (hl : m = l.length) (hr : SRow w (some ⟨b, off, none⟩) l) :
    Calls Try.prog 15 #[.agg #[.slice (some ⟨b, off, none⟩) (m + 1) c, .bool f]] w fun e w' => ∃ a' c', e = .returned (.tuple #[.agg #[.slice a' m c', .bool false], .string x]) ∧ SRow w' a' l ∧ Below w.heap.size w w' := by
  have HB2 : Hid (∀ o1 o2, Below w.heap.size w ((w.alloc o1).alloc o2)) := fun o1 o2 => ((Below.refl _ w).alloc (Nat.le_refl _) o1).alloc (by simp) o2
  have gx2 : ∀ o1 o2, ((w.alloc o1).alloc o2).cell? ⟨b, off + m, none⟩ = some (.string x) := fun o1 o2 =>
    ((HB2.out o1 o2).cell (p := ⟨b, off + m, none⟩) (World.block_lt_of_cell? w _ gx)).trans gx
  have HL : Hid (m = l.length) := hl
  have HR : Hid (SRow w (some ⟨b, off, none⟩) l) := hr
  have HG : Hid (w.cell? ⟨b, off + m, none⟩ = some (.string x)) := gx
  have HCL : Hid (∀ W, Below w.heap.size w W → Calls Try.prog 34 #[.slice (some ⟨b, off, none⟩) m c] W fun e w' => ∃ a' c', e = .returned (.slice a' m c') ∧ w'.ownsRow W.heap.size 9 1 (.slice a' m c') m (l.map Value.string) ∧ Below W.heap.size W w') := by
    intro W hB
    refine (clone_any (some ⟨b, off, none⟩) m c l W HL.out (by omega) (HR.out.later hB) (fun h => by cases h)).mono ?_
    rintro e w' ⟨v, rfl, h1, h2⟩
    obtain ⟨a', c', rfl, _⟩ := owns_row' HL.out h1
    exact ⟨a', c', rfl, h1, h2⟩
  have hm1 : ((m : Int) + 1 - 1) = (m : Int) := by omega
  have hm2 : ((m : Int)) ≤ (c : Int) := by omega
  have hm3 : ¬ (m : Int) < 0 := by omega
  have hbne : b ≠ w.heap.size + 1 := by have := World.block_lt_of_cell? w _ gx; simp at this; omega
  clear gx hl hr
  go_enter Try.func15, Try.ntmps15
  go_wp2
  go_region_with (go_at_call 34; refine (HCL.out _ ((HB2.out _ _).drew)).mono ?_; rintro e w1 ⟨a', c', rfl, ho1, hb1⟩; obtain ⟨hk1, hk0, gx1, hB1⟩ := parent_mid HG.out hb1; have c0 := hk1.cell0; have c1 := hk1.cell1; have f0 := hk1.frozen0; have f1 := hk1.frozen1; have d0 := hk0.cell0; have gx3 := set_other hbne gx1)
  all_goals go_wp2
  all_goals
    obtain ⟨q1, q2⟩ := stored2 hk1 (.slice a' m c') (.bool false)
    have q3 := stored2_row hk1 (by decide) (.slice a' m c') (.bool false) ho1
    obtain ⟨a2, c2, hv, hr2, _⟩ := owns_row' HL.out q3
    cases hv
    exact bodyPost_ret (parent_results _ (w.heap.size + 1) _ _ _ rfl q1.cell0 q1.cell1) rfl ⟨a', c', rfl, hr2, hB1.trans (q2.mono (Nat.le_succ _))⟩
end Go.Proofs.Ytnhoaafpdckmjaa
