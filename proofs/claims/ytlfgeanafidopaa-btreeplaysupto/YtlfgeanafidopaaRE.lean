/-
  A tree's Clone.
-/
import Derived.Test.YtlfgeanafidopaaRD
namespace Go.Proofs.Ytlfgeanafidopaa.Bt
open Go.RowKit
set_option maxRecDepth 10000

set_option maxHeartbeats 4000000 in
theorem cloneT_any {w : World} {p F : Nat} {x : Tre} {fs : List Nat} (h : Live w p F x fs) :
    Calls Try.prog 12 #[.pointer (some ⟨p, 0, none⟩)] w fun e w' => ∃ q, e = .returned (.pointer (some ⟨q, 0, none⟩)) ∧ Blt w q F x w' := by
  obtain ⟨t, h1, _⟩ := h.tr
  have hI := h.inv.of h1
  have kC : ∀ X, Below w.heap.size w X → Calls Try.prog 32 #[.pointer (some ⟨t.h.p, 0, none⟩)] X fun e w' => ∃ t' : En (x.n + 1), e = .returned (.pointer (some ⟨t'.h.p, 0, none⟩)) ∧ Twin X t t' w' := fun X hX =>
    clone_at h.lo h.hi x.n t X (h1.lies.later hX) hI.good.kids (by have := hI.le; rwa [abs_l, List.length_map] at this) (fun hn => by have := hI.two hn; rw [abs_l, List.length_map] at this; omega)
  have HK : Hid (Calls Try.prog 32 #[.pointer (some ⟨t.h.p, 0, none⟩)] w.drew fun e w' => ∃ q, e = .returned (.pointer (some ⟨q, 0, none⟩)) ∧ Below w.heap.size w w' ∧ Blt w w'.heap.size F x (w'.alloc (.cells #[.int .i64 (F : Nat), .int .i64 ((x.all.length : Nat) : Int), .pointer (some ⟨q, 0, none⟩)] 67))) := by
    refine (kC w.drew (below_drawn w 1)).mono ?_
    rintro e W1 ⟨t', rfl, hT⟩
    have hb := bafter (below_drawn w 1) hT.below
    have hn := below_new W1 (.cells #[.int .i64 (F : Nat), .int .i64 ((x.all.length : Nat) : Int), .pointer (some ⟨t'.h.p, 0, none⟩)] 67)
    refine ⟨_, rfl, hb, ⟨foot (x.n + 1) t', ⟨⟨t', ⟨?_, hT.lies.later hn, hT.nd, by rw [hT.abs]; exact h1.abs⟩, rfl⟩, h.inv, h.lo, h.hi⟩, fun b hb' => hT.new b hb'⟩, hb.size, bafter hb hn⟩
    exact Row.new W1 [.int .i64 (F : Nat), .int .i64 ((x.all.length : Nat) : Int), .pointer (some ⟨t'.h.p, 0, none⟩)] _
  have HR : Hid (∀ X, Below w.heap.size w X → X.cell? ⟨p, 0, none⟩ = some (.int .i64 (F : Nat)) ∧ X.cell? ⟨p, 1, none⟩ = some (.int .i64 ((x.all.length : Nat) : Int)) ∧ X.cell? ⟨p, 2, none⟩ = some (.pointer (some ⟨t.h.p, 0, none⟩))) := fun X hX => ⟨(h1.row.later hX).cell (i := 0) rfl, (h1.row.later hX).cell (i := 1) rfl, (h1.row.later hX).cell (i := 2) rfl⟩
  obtain ⟨r0, r1, r2⟩ := HR.out w (Below.refl _ _)
  clear h h1 hI kC
  generalize t.h.p = tp at *
  generalize ((x.all.length : Nat) : Int) = sz at *
  go_enter Try.func12, Try.ntmps12
  go_wp2
  refine cut_in (P := ∀ (W1 : World) (q : Nat), Hid (Blt w W1.heap.size F x (W1.alloc (.cells #[.int .i64 (F : Nat), .int .i64 sz, .pointer (some ⟨q, 0, none⟩)] 67))) → (?keyAll : World → Nat → Prop) W1 q) (fun key => ?main) ?rest
  case main =>
    go_region_with (go_at_call 32; refine HK.out.mono ?_; rintro e W1 ⟨q, rfl, hb1, h1⟩; have HT2 : Hid (Blt w W1.heap.size F x (W1.alloc (.cells #[.int .i64 (F : Nat), .int .i64 sz, .pointer (some ⟨q, 0, none⟩)] 67))) := h1; obtain ⟨s0, s1, s2⟩ := HR.out W1 hb1; clear h1 hb1)
    all_goals exact key W1 q HT2
  intro W1 q HT2
  go_wp2
  go_ret
  exact ⟨_, rfl, HT2.out⟩
set_option maxHeartbeats 400000 in
theorem cloneT_nil (w : World) : Calls Try.prog 12 #[.pointer none] w fun e w' => e = .returned (.pointer none) ∧ w = w' := by
  go_enter Try.func12, Try.ntmps12
  go_wp2
  go_ret
  exact ⟨rfl, rfl⟩
end Go.Proofs.Ytlfgeanafidopaa.Bt
