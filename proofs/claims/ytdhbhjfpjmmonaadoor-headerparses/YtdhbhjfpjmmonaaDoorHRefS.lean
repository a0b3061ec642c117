/-
  The document's ParseMapping, walked.
-/
import Derived.Test.YtdhbhjfpjmmonaaDoorHRefR
namespace Go.Proofs.YtdhbhjfpjmmonaaDoor
open Go.RowKit Go.Extern.Stop Go.Stop Go.Extern M

theorem lies_new {w : World} {a : Option Addr} {n cap : Nat} {l : List Nat} (h : Lies w a n cap l) (o : Obj) : Lies (w.alloc o) a n cap l := h.later (below_new _ _)
set_option maxRecDepth 10000 in
set_option maxHeartbeats 4000000 in
theorem rpm_no {w : World} {a : Option Addr} {n cap : Nat} {l : List Nat} (h : Lies w a n cap l) (hp : ¬ payOk 77 12 l) :
    Calls Tryd.prog 16 #[.slice a n cap] w (MPost w (parseM l)) := by
  obtain ⟨W, hW⟩ : ∃ W, W = w.alloc (.cells #[.int .i64 0, .int .u64 0, .int .i64 0] 24) := ⟨_, rfl⟩
  have HB : Hid (Below w.heap.size w W) := by rw [hW]; exact below_new _ _
  have HR : Hid (Row W w.heap.size [.int .i64 0, .int .u64 0, .int .i64 0] 24) := by rw [hW]; exact Row.new w [_, _, _] _
  have cP : Calls Tryd.prog 30 #[.slice a n cap, .int .u8 77, .int .i64 12] W (PnPost W) := pay_no (h.later HB.out) hp
  rw [parseM_nopay hp]
  clear h hp
  go_enter Tryd.func16, Tryd.ntmps16
  go_wp2_with fail
  rw [← hW]
  clear hW
  go_wp2_with (go_at_call 30; refine cP.mono ?_; rintro e w1 ⟨a1, z1, c1, rfl, hb1⟩; have HB1 : Hid (Below w.heap.size w w1) := Below.after HB.out hb1; have hr1 := HR.out.later hb1; have r0 : w1.cell? ⟨w.heap.size, 0, none⟩ = some (.int .i64 0) := hr1.cell (i := 0) rfl; have r1 : w1.cell? ⟨w.heap.size, 1, none⟩ = some (.int .u64 0) := hr1.cell (i := 1) rfl; have r2 : w1.cell? ⟨w.heap.size, 2, none⟩ = some (.int .i64 0) := hr1.cell (i := 2) rfl; have f0 := hr1.frozen 0; have f1 := hr1.frozen 1; have f2 := hr1.frozen 2; clear hb1 hr1)
  (try simp only [Exit.inBlock, Exit.then])
  refine bodyPost_ret (v := .tuple #[.agg #[.int .i64 0, .int .u64 0, .int .i64 0], .bool false]) ?_ rfl ⟨rfl, below_store HB1.out _ _ _⟩
  rw [results_cell_tmp rfl]
  go_simp


set_option maxRecDepth 10000 in
set_option maxHeartbeats 4000000 in
theorem rpm_A (a : Option Addr) (n cap G1 G2 x : Nat) (l : List Nat) (w : World) (hG1 : G1 < 65536) (_hG2 : G2 < 18446744073709551616) (hxl : x < 256) (i1 : ¬ (256 : Int) ≤ (G1 : Int)) (i2 : ¬ (64 : Int) < (x : Int))
    (cP : ∀ w1, Below w.heap.size w w1 → Calls Tryd.prog 30 #[.slice a n cap, .int .u8 77, .int .i64 12] w1 (PyPost w1 l 12))
    (cG1 : Hid (∀ (w1 : World) (pb poff c : Nat), BRow w1 (some ⟨pb, poff, none⟩) (bodyL l) → Calls Tryd.prog 31 #[.slice (some ⟨pb, poff + 1, none⟩) 2 c] w1 fun e w' => e = .returned (.int .u64 (G1 : Int)) ∧ w1 = w'))
    (cG2 : Hid (∀ (w1 : World) (pb poff c : Nat), BRow w1 (some ⟨pb, poff, none⟩) (bodyL l) → Calls Tryd.prog 31 #[.slice (some ⟨pb, poff + 3, none⟩) 8 c] w1 fun e w' => e = .returned (.int .u64 (G2 : Int)) ∧ w1 = w'))
    (HX : Hid (∀ (w1 : World) (pb poff : Nat), BRow w1 (some ⟨pb, poff, none⟩) (bodyL l) → w1.cell? ⟨pb, poff + 11, none⟩ = some (.int .u8 (x : Int)))) :
    Calls Tryd.prog 16 #[.slice a n cap] w (MPost w (some (G1, G2, x))) := by
  obtain ⟨W, hW⟩ : ∃ W, W = w.alloc (.cells #[.int .i64 0, .int .u64 0, .int .i64 0] 24) := ⟨_, rfl⟩
  have HB : Hid (Below w.heap.size w W) := by rw [hW]; exact below_new _ _
  have HR : Hid (Row W w.heap.size [.int .i64 0, .int .u64 0, .int .i64 0] 24) := by rw [hW]; exact Row.new w [_, _, _] _
  have cP1 := cP W HB.out
  clear cP
  have M1 : Hid True := trivial
  go_enter Tryd.func16, Tryd.ntmps16
  go_wp2_with fail
  rw [← hW]
  clear hW
  go_wp2_with (first
    | (go_at_call 30; refine cP1.mono ?_; rintro e w1 ⟨pb, poff, c1, rfl, hp1, g1, g2, hb1⟩; have HB1 : Hid (Below w.heap.size w w1) := Below.after HB.out hb1; have hr1 := HR.out.later hb1; have r0 : w1.cell? ⟨w.heap.size, 0, none⟩ = some (.int .i64 0) := hr1.cell (i := 0) rfl; have r1 : w1.cell? ⟨w.heap.size, 1, none⟩ = some (.int .u64 0) := hr1.cell (i := 1) rfl; have r2 : w1.cell? ⟨w.heap.size, 2, none⟩ = some (.int .i64 0) := hr1.cell (i := 2) rfl; have f0 := hr1.frozen 0; have f1 := hr1.frozen 1; have f2 := hr1.frozen 2; have HP1 : Hid (BRow _ _ _) := hp1; have hx1 := HX.out _ _ _ hp1; have hrl := hr1.lt; unfold maxLen at g2; have g3 : ¬ c1 = 1 := (by omega); have g4 : ¬ c1 = 3 := (by omega); clear hb1 hr1 hp1))
  have hpl : pb < w1.heap.size := World.block_lt_of_cell? w1 _ hx1
  have g5 : (3 : Int) ≤ (c1 : Int) := by omega
  have g6 : (11 : Int) ≤ (c1 : Int) := by omega
  have g7 : (12 : Int) ≤ (c1 : Int) := by omega
  go_region_held3 (fun w' => w'.cell? ⟨pb, poff + 11, none⟩ = some (.int .u8 (x : Int))) (first | assumption | go_keep)
    (first
    | (go_at_call 31; clear M1; refine (cG1.out _ _ _ _ (HP1.out.later (by first | exact below_drew _ | exact Below.after (below_new _ _) (below_drew _)))).mono ?_; rintro e w' ⟨rfl, rfl⟩)
    | (go_at_call 31; refine (cG2.out _ _ _ _ (HP1.out.later (by first | exact below_drew _ | exact Below.after (below_new _ _) (below_drew _)))).mono ?_; rintro e w' ⟨rfl, rfl⟩))
  all_goals go_wp2
  all_goals (try simp only [Exit.inBlock, Exit.then])
  all_goals refine bodyPost_ret (v := .tuple #[.agg #[.int .i64 G1, .int .u64 G2, .int .i64 x], .bool true]) ?_ rfl ⟨rfl, ?_⟩
  all_goals first
    | (rw [results_cell_tmp rfl]; go_simp)
    | (have hs := HB1.out.size; repeat' (first | exact HB1.out | exact below_store HB1.out _ _ _ | refine Below.drew ?_ | refine Below.alloc ?_ (by simp <;> omega) _ | refine Below.setCell ?_ (Nat.le_refl _) _))

set_option maxRecDepth 10000 in
set_option maxHeartbeats 4000000 in
theorem rpm_B (a : Option Addr) (n cap G1 G2 x : Nat) (l : List Nat) (w : World) (hG1 : G1 < 65536) (_hG2 : G2 < 18446744073709551616) (hxl : x < 256) (i1 : (256 : Int) ≤ (G1 : Int))
    (cP : ∀ w1, Below w.heap.size w w1 → Calls Tryd.prog 30 #[.slice a n cap, .int .u8 77, .int .i64 12] w1 (PyPost w1 l 12))
    (cG1 : Hid (∀ (w1 : World) (pb poff c : Nat), BRow w1 (some ⟨pb, poff, none⟩) (bodyL l) → Calls Tryd.prog 31 #[.slice (some ⟨pb, poff + 1, none⟩) 2 c] w1 fun e w' => e = .returned (.int .u64 (G1 : Int)) ∧ w1 = w'))
    (cG2 : Hid (∀ (w1 : World) (pb poff c : Nat), BRow w1 (some ⟨pb, poff, none⟩) (bodyL l) → Calls Tryd.prog 31 #[.slice (some ⟨pb, poff + 3, none⟩) 8 c] w1 fun e w' => e = .returned (.int .u64 (G2 : Int)) ∧ w1 = w'))
    (HX : Hid (∀ (w1 : World) (pb poff : Nat), BRow w1 (some ⟨pb, poff, none⟩) (bodyL l) → w1.cell? ⟨pb, poff + 11, none⟩ = some (.int .u8 (x : Int)))) :
    Calls Tryd.prog 16 #[.slice a n cap] w (MPost w (none)) := by
  obtain ⟨W, hW⟩ : ∃ W, W = w.alloc (.cells #[.int .i64 0, .int .u64 0, .int .i64 0] 24) := ⟨_, rfl⟩
  have HB : Hid (Below w.heap.size w W) := by rw [hW]; exact below_new _ _
  have HR : Hid (Row W w.heap.size [.int .i64 0, .int .u64 0, .int .i64 0] 24) := by rw [hW]; exact Row.new w [_, _, _] _
  have cP1 := cP W HB.out
  clear cP
  have M1 : Hid True := trivial
  go_enter Tryd.func16, Tryd.ntmps16
  go_wp2_with fail
  rw [← hW]
  clear hW
  go_wp2_with (first
    | (go_at_call 30; refine cP1.mono ?_; rintro e w1 ⟨pb, poff, c1, rfl, hp1, g1, g2, hb1⟩; have HB1 : Hid (Below w.heap.size w w1) := Below.after HB.out hb1; have hr1 := HR.out.later hb1; have r0 : w1.cell? ⟨w.heap.size, 0, none⟩ = some (.int .i64 0) := hr1.cell (i := 0) rfl; have r1 : w1.cell? ⟨w.heap.size, 1, none⟩ = some (.int .u64 0) := hr1.cell (i := 1) rfl; have r2 : w1.cell? ⟨w.heap.size, 2, none⟩ = some (.int .i64 0) := hr1.cell (i := 2) rfl; have f0 := hr1.frozen 0; have f1 := hr1.frozen 1; have f2 := hr1.frozen 2; have HP1 : Hid (BRow _ _ _) := hp1; have hx1 := HX.out _ _ _ hp1; have hrl := hr1.lt; unfold maxLen at g2; have g3 : ¬ c1 = 1 := (by omega); have g4 : ¬ c1 = 3 := (by omega); clear hb1 hr1 hp1))
  have hpl : pb < w1.heap.size := World.block_lt_of_cell? w1 _ hx1
  have g5 : (3 : Int) ≤ (c1 : Int) := by omega
  have g6 : (11 : Int) ≤ (c1 : Int) := by omega
  have g7 : (12 : Int) ≤ (c1 : Int) := by omega
  go_region_held3 (fun w' => w'.cell? ⟨pb, poff + 11, none⟩ = some (.int .u8 (x : Int))) (first | assumption | go_keep)
    (first
    | (go_at_call 31; clear M1; refine (cG1.out _ _ _ _ (HP1.out.later (by first | exact below_drew _ | exact Below.after (below_new _ _) (below_drew _)))).mono ?_; rintro e w' ⟨rfl, rfl⟩)
    | (go_at_call 31; refine (cG2.out _ _ _ _ (HP1.out.later (by first | exact below_drew _ | exact Below.after (below_new _ _) (below_drew _)))).mono ?_; rintro e w' ⟨rfl, rfl⟩))
  all_goals go_wp2
  all_goals (try simp only [Exit.inBlock, Exit.then])
  all_goals refine bodyPost_ret (v := .tuple #[.agg #[.int .i64 0, .int .u64 0, .int .i64 0], .bool false]) ?_ rfl ⟨rfl, ?_⟩
  all_goals first
    | (rw [results_cell_tmp rfl]; go_simp)
    | (have hs := HB1.out.size; repeat' (first | exact HB1.out | exact below_store HB1.out _ _ _ | refine Below.drew ?_ | refine Below.alloc ?_ (by simp <;> omega) _ | refine Below.setCell ?_ (Nat.le_refl _) _))

set_option maxRecDepth 10000 in
set_option maxHeartbeats 4000000 in
theorem rpm_C (a : Option Addr) (n cap G1 G2 x : Nat) (l : List Nat) (w : World) (hG1 : G1 < 65536) (_hG2 : G2 < 18446744073709551616) (hxl : x < 256) (i1 : ¬ (256 : Int) ≤ (G1 : Int)) (i2 : (64 : Int) < (x : Int))
    (cP : ∀ w1, Below w.heap.size w w1 → Calls Tryd.prog 30 #[.slice a n cap, .int .u8 77, .int .i64 12] w1 (PyPost w1 l 12))
    (cG1 : Hid (∀ (w1 : World) (pb poff c : Nat), BRow w1 (some ⟨pb, poff, none⟩) (bodyL l) → Calls Tryd.prog 31 #[.slice (some ⟨pb, poff + 1, none⟩) 2 c] w1 fun e w' => e = .returned (.int .u64 (G1 : Int)) ∧ w1 = w'))
    (cG2 : Hid (∀ (w1 : World) (pb poff c : Nat), BRow w1 (some ⟨pb, poff, none⟩) (bodyL l) → Calls Tryd.prog 31 #[.slice (some ⟨pb, poff + 3, none⟩) 8 c] w1 fun e w' => e = .returned (.int .u64 (G2 : Int)) ∧ w1 = w'))
    (HX : Hid (∀ (w1 : World) (pb poff : Nat), BRow w1 (some ⟨pb, poff, none⟩) (bodyL l) → w1.cell? ⟨pb, poff + 11, none⟩ = some (.int .u8 (x : Int)))) :
    Calls Tryd.prog 16 #[.slice a n cap] w (MPost w (none)) := by
  obtain ⟨W, hW⟩ : ∃ W, W = w.alloc (.cells #[.int .i64 0, .int .u64 0, .int .i64 0] 24) := ⟨_, rfl⟩
  have HB : Hid (Below w.heap.size w W) := by rw [hW]; exact below_new _ _
  have HR : Hid (Row W w.heap.size [.int .i64 0, .int .u64 0, .int .i64 0] 24) := by rw [hW]; exact Row.new w [_, _, _] _
  have cP1 := cP W HB.out
  clear cP
  have M1 : Hid True := trivial
  go_enter Tryd.func16, Tryd.ntmps16
  go_wp2_with fail
  rw [← hW]
  clear hW
  go_wp2_with (first
    | (go_at_call 30; refine cP1.mono ?_; rintro e w1 ⟨pb, poff, c1, rfl, hp1, g1, g2, hb1⟩; have HB1 : Hid (Below w.heap.size w w1) := Below.after HB.out hb1; have hr1 := HR.out.later hb1; have r0 : w1.cell? ⟨w.heap.size, 0, none⟩ = some (.int .i64 0) := hr1.cell (i := 0) rfl; have r1 : w1.cell? ⟨w.heap.size, 1, none⟩ = some (.int .u64 0) := hr1.cell (i := 1) rfl; have r2 : w1.cell? ⟨w.heap.size, 2, none⟩ = some (.int .i64 0) := hr1.cell (i := 2) rfl; have f0 := hr1.frozen 0; have f1 := hr1.frozen 1; have f2 := hr1.frozen 2; have HP1 : Hid (BRow _ _ _) := hp1; have hx1 := HX.out _ _ _ hp1; have hrl := hr1.lt; unfold maxLen at g2; have g3 : ¬ c1 = 1 := (by omega); have g4 : ¬ c1 = 3 := (by omega); clear hb1 hr1 hp1))
  have hpl : pb < w1.heap.size := World.block_lt_of_cell? w1 _ hx1
  have g5 : (3 : Int) ≤ (c1 : Int) := by omega
  have g6 : (11 : Int) ≤ (c1 : Int) := by omega
  have g7 : (12 : Int) ≤ (c1 : Int) := by omega
  go_region_held3 (fun w' => w'.cell? ⟨pb, poff + 11, none⟩ = some (.int .u8 (x : Int))) (first | assumption | go_keep)
    (first
    | (go_at_call 31; clear M1; refine (cG1.out _ _ _ _ (HP1.out.later (by first | exact below_drew _ | exact Below.after (below_new _ _) (below_drew _)))).mono ?_; rintro e w' ⟨rfl, rfl⟩)
    | (go_at_call 31; refine (cG2.out _ _ _ _ (HP1.out.later (by first | exact below_drew _ | exact Below.after (below_new _ _) (below_drew _)))).mono ?_; rintro e w' ⟨rfl, rfl⟩))
  all_goals go_wp2
  all_goals (try simp only [Exit.inBlock, Exit.then])
  all_goals refine bodyPost_ret (v := .tuple #[.agg #[.int .i64 0, .int .u64 0, .int .i64 0], .bool false]) ?_ rfl ⟨rfl, ?_⟩
  all_goals first
    | (rw [results_cell_tmp rfl]; go_simp)
    | (have hs := HB1.out.size; repeat' (first | exact HB1.out | exact below_store HB1.out _ _ _ | refine Below.drew ?_ | refine Below.alloc ?_ (by simp <;> omega) _ | refine Below.setCell ?_ (Nat.le_refl _) _))

theorem rparseMapping {w : World} {a : Option Addr} {n cap : Nat} {l : List Nat} (h : Lies w a n cap l) : Calls Tryd.prog 16 #[.slice a n cap] w (MPost w (parseM l)) := by
  by_cases hp : payOk 77 12 l
  · have cP : ∀ w1, Below w.heap.size w w1 → Calls Tryd.prog 30 #[.slice a n cap, .int .u8 77, .int .i64 12] w1 (PyPost w1 l 12) := fun w1 hb => pay_at (h.later hb) hp
    have hbl : (bodyL l).length = 12 := by rw [body_len hp.1, hp.2.2.1]
    have hlt : ∀ x ∈ bodyL l, x < 256 := lt_of_sub h.lt 6 _
    have hres := parseM_pay hp
    obtain ⟨G1, hG1⟩ : ∃ G, G = getL (((bodyL l).drop 1).take 2) := ⟨_, rfl⟩
    obtain ⟨G2, hG2⟩ : ∃ G, G = getL (((bodyL l).drop 3).take 8) := ⟨_, rfl⟩
    obtain ⟨x, hx⟩ : ∃ x, x = (bodyL l).getD 11 0 := ⟨_, rfl⟩
    rw [← hG1, ← hG2, ← hx] at hres
    have hG1l : G1 < 65536 := by
      rw [hG1]
      have := getL_lt (((bodyL l).drop 1).take 2) (lt_of_sub hlt 1 2)
      rw [List.length_take, List.length_drop, hbl] at this
      exact this
    have hG2l : G2 < 18446744073709551616 := by
      rw [hG2]
      have := getL_lt (((bodyL l).drop 3).take 8) (lt_of_sub hlt 3 8)
      rw [List.length_take, List.length_drop, hbl] at this
      exact this
    have hxl : x < 256 := by rw [hx]; exact hlt _ (by simp [List.getD, hbl])
    have cG1 : Hid (∀ (w1 : World) (pb poff c : Nat), BRow w1 (some ⟨pb, poff, none⟩) (bodyL l) → Calls Tryd.prog 31 #[.slice (some ⟨pb, poff + 1, none⟩) 2 c] w1 fun e w' => e = .returned (.int .u64 (G1 : Int)) ∧ w1 = w') := fun w1 pb poff c hr =>
      rget_at _ c (((bodyL l).drop 1).take 2) w1 2 G1 (by simp [hbl]) (by rw [hG1, List.take_take]; rfl) (by simp [hbl]; decide) (lt_of_sub hlt 1 2) hr.sub
    have cG2 : Hid (∀ (w1 : World) (pb poff c : Nat), BRow w1 (some ⟨pb, poff, none⟩) (bodyL l) → Calls Tryd.prog 31 #[.slice (some ⟨pb, poff + 3, none⟩) 8 c] w1 fun e w' => e = .returned (.int .u64 (G2 : Int)) ∧ w1 = w') := fun w1 pb poff c hr =>
      rget_at _ c (((bodyL l).drop 3).take 8) w1 8 G2 (by simp [hbl]) (by rw [hG2, List.take_take]; rfl) (by simp [hbl]; decide) (lt_of_sub hlt 3 8) hr.sub
    have HX : Hid (∀ (w1 : World) (pb poff : Nat), BRow w1 (some ⟨pb, poff, none⟩) (bodyL l) → w1.cell? ⟨pb, poff + 11, none⟩ = some (.int .u8 (x : Int))) := fun w1 pb poff hr => by
      obtain ⟨b', off', e, _, hc⟩ := row_at hr (k := 11) (by omega)
      cases e
      rw [hc, hx]
    rw [hres]
    by_cases h1 : G1 ≤ 255
    · by_cases h2 : x ≤ 64
      · rw [if_pos ⟨h1, h2⟩]
        exact rpm_A a n cap G1 G2 x l w hG1l hG2l hxl (by omega) (by omega) cP cG1 cG2 HX
      · rw [if_neg (fun hh => h2 hh.2)]
        exact rpm_C a n cap G1 G2 x l w hG1l hG2l hxl (by omega) (by omega) cP cG1 cG2 HX
    · rw [if_neg (fun hh => h1 hh.1)]
      exact rpm_B a n cap G1 G2 x l w hG1l hG2l hxl (by omega) cP cG1 cG2 HX
  · exact rpm_no h hp
end Go.Proofs.YtdhbhjfpjmmonaaDoor

