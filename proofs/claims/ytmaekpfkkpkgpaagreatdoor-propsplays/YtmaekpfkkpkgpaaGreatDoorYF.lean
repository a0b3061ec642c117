/-
  Calls on nil books.
  An operation on both books; on nil ones.
-/
import Derived.Test.YtmaekpfkkpkgpaaGreatDoorRV
import Derived.Test.YtmaekpfkkpkgpaaGreatDoorYA
import Derived.Test.YtmaekpfkkpkgpaaGreatDoorBOne
import Derived.Test.YtmaekpfkkpkgpaaGreatDoorYC
namespace Go.Proofs.YtmaekpfkkpkgpaaGreatDoor
open Go.RowKit Go.Shelf
set_option maxRecDepth 10000

theorem counted_nil (leb n : Int) (w : World) : Calls Tryz.prog 45 #[.pointer none, .int .i64 leb, .int .i64 n] w fun e w' => e = .returned (.tuple #[.pointer none, .int .i64 14]) ∧ w = w' := by
  have k := at_nil leb w
  go_enter Tryz.func45, Tryz.ntmps45
  go_wp2_with (go_at_call 44; refine k.mono ?_; rintro e w1 ⟨rfl, rfl⟩)
  go_ret2
  exact ⟨rfl, rfl⟩
theorem cTake_nil (leb n : Int) (w : World) : Calls Tryz.prog 13 #[.pointer none, .int .i64 leb, .int .i64 n] w fun e w' => e = .returned (.int .i64 14) ∧ w = w' := by
  have k := at_nil leb w
  go_enter Tryz.func13, Tryz.ntmps13
  go_wp2_with (go_at_call 44; refine k.mono ?_; rintro e w1 ⟨rfl, rfl⟩)
  go_ret
  exact ⟨rfl, rfl⟩
theorem cUse_nil (leb n : Int) (w : World) : Calls Tryz.prog 14 #[.pointer none, .int .i64 leb, .int .i64 n] w fun e w' => e = .returned (.int .i64 14) ∧ w = w' := by
  have k := counted_nil leb n w
  go_enter Tryz.func14, Tryz.ntmps14
  go_wp2_with (go_at_call 45; refine k.mono ?_; rintro e w1 ⟨rfl, rfl⟩)
  go_ret
  exact ⟨rfl, rfl⟩
theorem cKill_nil (leb n : Int) (w : World) : Calls Tryz.prog 15 #[.pointer none, .int .i64 leb, .int .i64 n] w fun e w' => e = .returned (.int .i64 14) ∧ w = w' := by
  have k := counted_nil leb n w
  go_enter Tryz.func15, Tryz.ntmps15
  go_wp2_with (go_at_call 45; refine k.mono ?_; rintro e w1 ⟨rfl, rfl⟩)
  go_ret
  exact ⟨rfl, rfl⟩
theorem cClose_nil (leb : Int) (w : World) : Calls Tryz.prog 16 #[.pointer none, .int .i64 leb] w fun e w' => e = .returned (.int .i64 14) ∧ w = w' := by
  have k := at_nil leb w
  go_enter Tryz.func16, Tryz.ntmps16
  go_wp2_with (go_at_call 44; refine k.mono ?_; rintro e w1 ⟨rfl, rfl⟩)
  go_ret
  exact ⟨rfl, rfl⟩
theorem cFree_nil (leb : Int) (w : World) : Calls Tryz.prog 18 #[.pointer none, .int .i64 leb] w fun e w' => e = .returned (.int .i64 14) ∧ w = w' := by
  have k := at_nil leb w
  go_enter Tryz.func18, Tryz.ntmps18
  go_wp2_with (go_at_call 44; refine k.mono ?_; rintro e w1 ⟨rfl, rfl⟩)
  go_ret
  exact ⟨rfl, rfl⟩
set_option maxHeartbeats 1000000 in
theorem block_nil (leb : Int) (w : World) : Calls Tryz.prog 26 #[.pointer none, .int .i64 leb] w fun e w' => e = .returned (.tuple #[.agg #[.int .i64 0, .int .i64 0, .int .i64 0, .bool false], .int .i64 14]) ∧ Below w.heap.size w w' := by
  have hb := below_new w (.cells #[.int .i64 0, .int .i64 0, .int .i64 0, .bool false] 54)
  have kA := at_nil leb (w.alloc (.cells #[.int .i64 0, .int .i64 0, .int .i64 0, .bool false] 54))
  have HB := hidW hb
  clear hb
  go_enter Tryz.func26, Tryz.ntmps26
  go_wp2_with (go_at_call 44; refine kA.mono ?_; rintro e w1 ⟨rfl, rfl⟩)
  refine bodyPost_ret (v := .tuple #[.agg #[.int .i64 0, .int .i64 0, .int .i64 0, .bool false], .int .i64 14]) ?_ rfl ⟨rfl, ?_⟩
  · simp [results, Tryz.f26, go_sem]
  · exact HB.out
set_option maxHeartbeats 1000000 in
theorem dblock_nil (leb : Int) (w : World) : Calls Tryz.prog 27 #[.pointer none, .int .i64 leb] w fun e w' => e = .returned (.tuple #[.agg #[.int .i64 0, .int .i64 0, .int .i64 0, .bool false], .int .i64 14]) ∧ Below w.heap.size w w' := by
  have hb := below_new w (.cells #[.int .i64 0, .int .i64 0, .int .i64 0, .bool false] 57)
  have kA := there_nil leb (w.alloc (.cells #[.int .i64 0, .int .i64 0, .int .i64 0, .bool false] 57))
  have HB := hidW hb
  clear hb
  go_enter Tryz.func27, Tryz.ntmps27
  go_wp2_with (go_at_call 53; refine kA.mono ?_; rintro e w1 ⟨rfl, rfl⟩)
  refine bodyPost_ret (v := .tuple #[.agg #[.int .i64 0, .int .i64 0, .int .i64 0, .bool false], .int .i64 14]) ?_ rfl ⟨rfl, ?_⟩
  · simp [results, Tryz.f27, go_sem]
  · exact HB.out
theorem those_nil (fv : Value) (w : World) : Calls Tryz.prog 47 #[.pointer none, fv] w fun e w' => e = .returned (.slice none 0 0) ∧ w = w' := by
  go_enter Tryz.func47, Tryz.ntmps47
  go_wp2
  go_ret
  exact ⟨rfl, rfl⟩
theorem frees_nil (w : World) : Calls Tryz.prog 32 #[.pointer none] w fun e w' => e = .returned (.slice none 0 0) ∧ w = w' := by
  go_enter Tryz.func32, Tryz.ntmps32
  go_wp2_with (go_at_call 47; refine (those_nil _ _).mono ?_; rintro e w1 ⟨rfl, rfl⟩)
  go_ret
  exact ⟨rfl, rfl⟩
theorem least_nil (w : World) : Calls Tryz.prog 28 #[.pointer none] w fun e w' => e = .returned (.tuple #[.int .i64 0, .bool false]) ∧ w = w' := by
  go_enter Tryz.func28, Tryz.ntmps28
  go_wp2_with (go_at_call 32; refine (frees_nil _).mono ?_; rintro e w1 ⟨rfl, rfl⟩)
  go_ret2
  exact ⟨rfl, rfl⟩
theorem dfrees_nil (w : World) : Calls Tryz.prog 33 #[.pointer none] w fun e w' => e = .returned (.slice none 0 0) ∧ w = w' := by
  go_enter Tryz.func33, Tryz.ntmps33
  go_wp2_with (go_at_call 31; refine (dof_nil _ _).mono ?_; rintro e w1 ⟨rfl, rfl⟩)
  go_ret
  exact ⟨rfl, rfl⟩
theorem dleast_nil (w : World) : Calls Tryz.prog 29 #[.pointer none] w fun e w' => e = .returned (.tuple #[.int .i64 0, .bool false]) ∧ w = w' := by
  go_enter Tryz.func29, Tryz.ntmps29
  go_wp2_with (go_at_call 33; refine (dfrees_nil _).mono ?_; rintro e w1 ⟨rfl, rfl⟩)
  go_ret2
  exact ⟨rfl, rfl⟩
theorem totals_nil (w : World) : Calls Tryz.prog 17 #[.pointer none] w fun e w' => e = .returned (.tuple #[.int .i64 0, .int .i64 0, .int .i64 0, .int .i64 0]) ∧ Below w.heap.size w w' := by
  go_enter Tryz.func17, Tryz.ntmps17
  go_wp2
  refine bodyPost_ret (v := .tuple #[.int .i64 0, .int .i64 0, .int .i64 0, .int .i64 0]) ?_ rfl ⟨rfl, ?_⟩
  · simp [results, Tryz.f17, go_sem]
  · exact Below.refl _ _
set_option maxHeartbeats 1000000 in
theorem dtotals_nil (w : World) : Calls Tryz.prog 30 #[.pointer none] w fun e w' => e = .returned (.tuple #[.int .i64 0, .int .i64 0, .int .i64 0, .int .i64 0]) ∧ w = w' := by
  go_enter Tryz.func30, Tryz.ntmps30
  go_wp2_with fail
  go_loopg [6, 7, 8, 9] 1 (fun kx s6 s7 s8 s9 wr => s6 = .int .i64 0 ∧ s7 = .int .i64 0 ∧ s8 = .int .i64 0 ∧ s9 = .int .i64 0 ∧ w = wr)
  case atStart => exact ⟨rfl, rfl, rfl, rfl, rfl⟩
  case round =>
    obtain ⟨rfl, rfl, rfl, rfl, rfl⟩ := hrel
    go_wp2
    refine bodyPost_ret (v := .tuple #[.int .i64 0, .int .i64 0, .int .i64 0, .int .i64 0]) ?_ rfl ⟨rfl, rfl⟩
    simp [results, Tryz.f30, go_sem]
theorem dtext_nil (w : World) : Calls Tryz.prog 36 #[.pointer none] w fun e w' => e = .returned (.string ⟨#[]⟩) ∧ w = w' := by
  go_enter Tryz.func36, Tryz.ntmps36
  go_wp2
  go_ret
  exact ⟨rfl, rfl⟩
theorem of_nil (use : Int) (w : World) : Calls Tryz.prog 34 #[.pointer none, .int .i64 use] w fun e w' => e = .returned (.slice none 0 0) ∧ Below w.heap.size w w' := by
  have hmf : ∀ (fn : Fn) (first cap : Array Value) (w : World), (Instr.makeFunc fn first cap).run Tryz.prog w = .ok (.func fn first cap) w := fun _ _ _ _ => rfl
  go_enter Tryz.func34, Tryz.ntmps34
  go_wp2_with (go_at_call 47; refine (those_nil _ _).mono ?_; rintro e w1 ⟨rfl, rfl⟩)
  go_ret
  exact ⟨rfl, below_new _ _⟩
set_option maxHeartbeats 1000000 in
theorem vict_nil (use : Int) (w : World) : Calls Tryz.prog 20 #[.pointer none, .int .i64 use] w fun e w' => e = .returned (.slice none 0 0) ∧ Below w.heap.size w w' := by
  have hmf : ∀ (fn : Fn) (first cap : Array Value) (w : World), (Instr.makeFunc fn first cap).run Tryz.prog w = .ok (.func fn first cap) w := fun _ _ _ _ => rfl
  obtain ⟨X, hX⟩ : ∃ X, X = (w.alloc (.cells #[.pointer none] 23)).alloc (.cells #[.int .i64 use] 3) := ⟨_, rfl⟩
  have hb : Below w.heap.size w X := by rw [hX]; exact Below.after (below_new _ _) (below_new _ _)
  have hp0 : ((w.alloc (.cells #[.pointer none] 23)).alloc (.cells #[.int .i64 use] 3)).cell? ⟨w.heap.size, 0, none⟩ = some (.pointer none) := ((Row.new w [.pointer none] 23).alloc _).cell (i := 0) rfl
  have HB := hidW hb
  clear hb
  go_enter Tryz.func20, Tryz.ntmps20
  go_wp2_with fail
  rw [← hX]
  clear hX hp0
  refine (those_nil _ _).mono ?_
  rintro e w1 ⟨rfl, rfl⟩
  go_wp2_with (go_at_call 50; refine (sort_one none 0 0 (by decide) _ X).mono ?_; rintro e w2 ⟨rfl, rfl⟩)
  go_ret
  exact ⟨rfl, HB.out⟩
theorem dvict_nil2 (use : Int) (w : World) : Calls Tryz.prog 35 #[.pointer none, .int .i64 use] w fun e w' => e = .returned (.slice none 0 0) ∧ w = w' := by
  by_cases h : use < 1 ∨ 3 < use
  · exact dvict_bad use h none w
  · exact dvict_nil use (by omega) (by omega) w
theorem ints_nil (w : World) : Calls Tryz.prog 19 #[.slice none 0 0, .slice none 0 0] w fun e w' => e = .returned (.bool true) ∧ Below w.heap.size w w' :=
  (ints_any none 0 [] none 0 [] w (.inl rfl) (.inl rfl) (by simp)).mono (by rintro e w' ⟨rfl, hb⟩; exact ⟨by simp, hb⟩)
set_option maxHeartbeats 8000000 in
theorem looks_nil (leb use : Int) (w : World) :
    Calls Tryz.prog 9 #[.pointer none, .pointer none, .int .i64 leb, .int .i64 use] w fun e w' => e = .returned (.bool true) ∧ Below w.heap.size w w' := by
  have H0 := hidW (Below.refl w.heap.size w)
  by_cases hu1 : use < 1
  · go_enter Tryz.func9, Tryz.ntmps9
    go_wp2_with (first
      | (go_at_call 26; refine (block_nil leb _).mono ?_; rintro e u1 ⟨rfl, hb1⟩; have H1 := hidW (Below.after H0.out (Below.after hb1 (below_new u1 (.cells #[.int .i64 0, .int .i64 0, .int .i64 0, .bool false] 54)))); have HR1 := hidW (Row.new u1 [.int .i64 0, .int .i64 0, .int .i64 0, .bool false] 54); clear hb1 H0)
      | (go_at_call 27; refine (dblock_nil leb _).mono ?_; rintro e u2 ⟨rfl, hb2⟩; have H2 := hidW (Below.after H1.out (Below.after hb2 (below_new u2 (.cells #[.int .i64 0, .int .i64 0, .int .i64 0, .bool false] 57)))); have r1 := (HR1.out.later hb2).alloc (.cells #[.int .i64 0, .int .i64 0, .int .i64 0, .bool false] 57); have c0 := r1.cell (i := 0) rfl; have c1 := r1.cell (i := 1) rfl; have c2 := r1.cell (i := 2) rfl; have c3 := r1.cell (i := 3) rfl; have r2 := Row.new u2 [.int .i64 0, .int .i64 0, .int .i64 0, .bool false] 57; have d0 := r2.cell (i := 0) rfl; have d1 := r2.cell (i := 1) rfl; have d2 := r2.cell (i := 2) rfl; have d3 := r2.cell (i := 3) rfl; clear hb2 r1 r2 HR1 H1)
      | (go_at_call 28; refine (least_nil _).mono ?_; rintro e u3 ⟨rfl, rfl⟩)
      | (go_at_call 29; refine (dleast_nil _).mono ?_; rintro e u4 ⟨rfl, rfl⟩)
      | (go_at_call 17; refine (totals_nil _).mono ?_; rintro e u5 ⟨rfl, hb5⟩; have H5 := hidW (Below.after H2.out hb5); clear hb5 H2)
      | (go_at_call 30; refine (dtotals_nil _).mono ?_; rintro e u6 ⟨rfl, rfl⟩)
      | (go_at_call 31; refine (dof_nil _ _).mono ?_; rintro e u7 ⟨rfl, rfl⟩)
      | (go_at_call 32; refine (frees_nil _).mono ?_; rintro e u8 ⟨rfl, rfl⟩)
      | (go_at_call 33; refine (dfrees_nil _).mono ?_; rintro e u9 ⟨rfl, rfl⟩)
      | (go_at_call 19; refine (ints_nil _).mono ?_; rintro e u10 ⟨rfl, hb10⟩; have H10 := hidW (Below.after H5.out hb10); clear hb10 H5)
      | (go_at_call 34; refine (of_nil use _).mono ?_; rintro e u11 ⟨rfl, hb11⟩; have H11 := hidW (Below.after H10.out hb11); clear hb11 H10)
      | (go_at_call 19; refine (ints_nil _).mono ?_; rintro e u12 ⟨rfl, hb12⟩; have H12 := hidW (Below.after H11.out hb12); clear hb12 H11)
      | (go_at_call 20; refine (vict_nil use _).mono ?_; rintro e u13 ⟨rfl, hb13⟩; have H13 := hidW (Below.after H12.out hb13); clear hb13 H12)
      | (go_at_call 35; refine (dvict_nil2 use _).mono ?_; rintro e u14 ⟨rfl, rfl⟩)
      | (go_at_call 19; refine (ints_nil _).mono ?_; rintro e u15 ⟨rfl, hb15⟩; have H15 := hidW (Below.after H13.out hb15); clear hb15 H13)
      | (go_at_call 12; refine (text_nil _).mono ?_; rintro e u16 ⟨rfl, rfl⟩)
      | (go_at_call 36; refine (dtext_nil _).mono ?_; rintro e u17 ⟨rfl, rfl⟩))
    go_ret
    exact ⟨rfl, H15.out⟩
  · by_cases hu3 : 3 < use
    · go_enter Tryz.func9, Tryz.ntmps9
      go_wp2_with (first
      | (go_at_call 26; refine (block_nil leb _).mono ?_; rintro e u1 ⟨rfl, hb1⟩; have H1 := hidW (Below.after H0.out (Below.after hb1 (below_new u1 (.cells #[.int .i64 0, .int .i64 0, .int .i64 0, .bool false] 54)))); have HR1 := hidW (Row.new u1 [.int .i64 0, .int .i64 0, .int .i64 0, .bool false] 54); clear hb1 H0)
      | (go_at_call 27; refine (dblock_nil leb _).mono ?_; rintro e u2 ⟨rfl, hb2⟩; have H2 := hidW (Below.after H1.out (Below.after hb2 (below_new u2 (.cells #[.int .i64 0, .int .i64 0, .int .i64 0, .bool false] 57)))); have r1 := (HR1.out.later hb2).alloc (.cells #[.int .i64 0, .int .i64 0, .int .i64 0, .bool false] 57); have c0 := r1.cell (i := 0) rfl; have c1 := r1.cell (i := 1) rfl; have c2 := r1.cell (i := 2) rfl; have c3 := r1.cell (i := 3) rfl; have r2 := Row.new u2 [.int .i64 0, .int .i64 0, .int .i64 0, .bool false] 57; have d0 := r2.cell (i := 0) rfl; have d1 := r2.cell (i := 1) rfl; have d2 := r2.cell (i := 2) rfl; have d3 := r2.cell (i := 3) rfl; clear hb2 r1 r2 HR1 H1)
      | (go_at_call 28; refine (least_nil _).mono ?_; rintro e u3 ⟨rfl, rfl⟩)
      | (go_at_call 29; refine (dleast_nil _).mono ?_; rintro e u4 ⟨rfl, rfl⟩)
      | (go_at_call 17; refine (totals_nil _).mono ?_; rintro e u5 ⟨rfl, hb5⟩; have H5 := hidW (Below.after H2.out hb5); clear hb5 H2)
      | (go_at_call 30; refine (dtotals_nil _).mono ?_; rintro e u6 ⟨rfl, rfl⟩)
      | (go_at_call 31; refine (dof_nil _ _).mono ?_; rintro e u7 ⟨rfl, rfl⟩)
      | (go_at_call 32; refine (frees_nil _).mono ?_; rintro e u8 ⟨rfl, rfl⟩)
      | (go_at_call 33; refine (dfrees_nil _).mono ?_; rintro e u9 ⟨rfl, rfl⟩)
      | (go_at_call 19; refine (ints_nil _).mono ?_; rintro e u10 ⟨rfl, hb10⟩; have H10 := hidW (Below.after H5.out hb10); clear hb10 H5)
      | (go_at_call 34; refine (of_nil use _).mono ?_; rintro e u11 ⟨rfl, hb11⟩; have H11 := hidW (Below.after H10.out hb11); clear hb11 H10)
      | (go_at_call 19; refine (ints_nil _).mono ?_; rintro e u12 ⟨rfl, hb12⟩; have H12 := hidW (Below.after H11.out hb12); clear hb12 H11)
      | (go_at_call 20; refine (vict_nil use _).mono ?_; rintro e u13 ⟨rfl, hb13⟩; have H13 := hidW (Below.after H12.out hb13); clear hb13 H12)
      | (go_at_call 35; refine (dvict_nil2 use _).mono ?_; rintro e u14 ⟨rfl, rfl⟩)
      | (go_at_call 19; refine (ints_nil _).mono ?_; rintro e u15 ⟨rfl, hb15⟩; have H15 := hidW (Below.after H13.out hb15); clear hb15 H13)
      | (go_at_call 12; refine (text_nil _).mono ?_; rintro e u16 ⟨rfl, rfl⟩)
      | (go_at_call 36; refine (dtext_nil _).mono ?_; rintro e u17 ⟨rfl, rfl⟩))
      go_ret
      exact ⟨rfl, H15.out⟩
    · go_enter Tryz.func9, Tryz.ntmps9
      go_wp2_with (first
      | (go_at_call 26; refine (block_nil leb _).mono ?_; rintro e u1 ⟨rfl, hb1⟩; have H1 := hidW (Below.after H0.out (Below.after hb1 (below_new u1 (.cells #[.int .i64 0, .int .i64 0, .int .i64 0, .bool false] 54)))); have HR1 := hidW (Row.new u1 [.int .i64 0, .int .i64 0, .int .i64 0, .bool false] 54); clear hb1 H0)
      | (go_at_call 27; refine (dblock_nil leb _).mono ?_; rintro e u2 ⟨rfl, hb2⟩; have H2 := hidW (Below.after H1.out (Below.after hb2 (below_new u2 (.cells #[.int .i64 0, .int .i64 0, .int .i64 0, .bool false] 57)))); have r1 := (HR1.out.later hb2).alloc (.cells #[.int .i64 0, .int .i64 0, .int .i64 0, .bool false] 57); have c0 := r1.cell (i := 0) rfl; have c1 := r1.cell (i := 1) rfl; have c2 := r1.cell (i := 2) rfl; have c3 := r1.cell (i := 3) rfl; have r2 := Row.new u2 [.int .i64 0, .int .i64 0, .int .i64 0, .bool false] 57; have d0 := r2.cell (i := 0) rfl; have d1 := r2.cell (i := 1) rfl; have d2 := r2.cell (i := 2) rfl; have d3 := r2.cell (i := 3) rfl; clear hb2 r1 r2 HR1 H1)
      | (go_at_call 28; refine (least_nil _).mono ?_; rintro e u3 ⟨rfl, rfl⟩)
      | (go_at_call 29; refine (dleast_nil _).mono ?_; rintro e u4 ⟨rfl, rfl⟩)
      | (go_at_call 17; refine (totals_nil _).mono ?_; rintro e u5 ⟨rfl, hb5⟩; have H5 := hidW (Below.after H2.out hb5); clear hb5 H2)
      | (go_at_call 30; refine (dtotals_nil _).mono ?_; rintro e u6 ⟨rfl, rfl⟩)
      | (go_at_call 31; refine (dof_nil _ _).mono ?_; rintro e u7 ⟨rfl, rfl⟩)
      | (go_at_call 32; refine (frees_nil _).mono ?_; rintro e u8 ⟨rfl, rfl⟩)
      | (go_at_call 33; refine (dfrees_nil _).mono ?_; rintro e u9 ⟨rfl, rfl⟩)
      | (go_at_call 19; refine (ints_nil _).mono ?_; rintro e u10 ⟨rfl, hb10⟩; have H10 := hidW (Below.after H5.out hb10); clear hb10 H5)
      | (go_at_call 34; refine (of_nil use _).mono ?_; rintro e u11 ⟨rfl, hb11⟩; have H11 := hidW (Below.after H10.out hb11); clear hb11 H10)
      | (go_at_call 19; refine (ints_nil _).mono ?_; rintro e u12 ⟨rfl, hb12⟩; have H12 := hidW (Below.after H11.out hb12); clear hb12 H11)
      | (go_at_call 20; refine (vict_nil use _).mono ?_; rintro e u13 ⟨rfl, hb13⟩; have H13 := hidW (Below.after H12.out hb13); clear hb13 H12)
      | (go_at_call 35; refine (dvict_nil2 use _).mono ?_; rintro e u14 ⟨rfl, rfl⟩)
      | (go_at_call 19; refine (ints_nil _).mono ?_; rintro e u15 ⟨rfl, hb15⟩; have H15 := hidW (Below.after H13.out hb15); clear hb15 H13)
      | (go_at_call 12; refine (text_nil _).mono ?_; rintro e u16 ⟨rfl, rfl⟩)
      | (go_at_call 36; refine (dtext_nil _).mono ?_; rintro e u17 ⟨rfl, rfl⟩))
      go_ret
      exact ⟨rfl, H15.out⟩
end Go.Proofs.YtmaekpfkkpkgpaaGreatDoor
namespace Go.Proofs.YtmaekpfkkpkgpaaGreatDoor
open Go.RowKit Go.Shelf
set_option maxRecDepth 10000

theorem BLies.dkept {w w' : World} {p q cap P Q C : Nat} {size : Int} {l l1 l2 : List PB} (h : BLies w p q cap size l) (hd : DLies w P Q C size l1) (hl : DLeft w w' P Q C size l2) : BLies w' p q cap size l :=
  ⟨h.box.kept hl.2 (fun e => absurd e (h.box.ne hd.row (by decide))), h.row.kept hl.2 (fun e => absurd e (h.row.ne hd.row (by decide))), h.le, h.max⟩
theorem DLies.bkept {w w' : World} {p q cap P Q C : Nat} {size : Int} {l l1 l2 : List PB} (h : DLies w P Q C size l) (hb : BLies w p q cap size l1) (hl : Left w w' p q cap size l2) : DLies w' P Q C size l :=
  ⟨h.box.kept hl.2 (fun e => absurd e (h.box.ne hb.row (by decide))), h.row.kept hl.2 (fun e => absurd e (h.row.ne hb.row (by decide))), h.le, h.max⟩
theorem DLeft.kept {w w1 : World} {p q cap : Nat} {size : Int} {l0 l : List PB} (h0 : DLies w p q cap size l0) (h : DLeft w w1 p q cap size l) {B : Nat} {cs : List Value} {t : TypeId} (hr : Row w B cs t) (ht : t ≠ 57) : Row w1 B cs t := hr.kept h.2 (hr.ne h0.row ht)
/-- What an operation on both leaves. -/
def Both (w w' : World) (p q cap P Q C : Nat) (size : Int) (l : List PB) : Prop := BLies w' p q cap size l ∧ DLies w' P Q C size l ∧ Kept (fun k => k = q ∨ k = Q) w w'
set_option maxHeartbeats 2000000 in
theorem both_1 {w : World} {p q cap P Q C : Nat} {size : Int} {l : List PB} (h : BLies w p q cap size l) (hd : DLies w P Q C size l) (hO : BkOk size l) (leb n : Int) :
    Calls Tryz.prog 8 #[.pointer (some ⟨p, 0, none⟩), .pointer (some ⟨P, 0, none⟩), .agg #[.int .i64 1, .int .i64 leb, .int .i64 n]] w fun e w' => e = .returned (.bool true) ∧ Both w w' p q cap P Q C size (takeF l leb n).2 := by
  obtain ⟨X, hX⟩ : ∃ X, X = w.alloc (.cells #[.int .i64 1, .int .i64 leb, .int .i64 n] 33) := ⟨_, rfl⟩
  have hb : Below w.heap.size w X := by rw [hX]; exact below_new _ _
  have hr : Row X w.heap.size [.int .i64 1, .int .i64 leb, .int .i64 n] 33 := by rw [hX]; exact Row.new _ _ _
  have c0 : (w.alloc (.cells #[.int .i64 1, .int .i64 leb, .int .i64 n] 33)).cell? ⟨w.heap.size, 0, none⟩ = some (.int .i64 1) := (Row.new w _ _).cell (i := 0) rfl
  have c1 : X.cell? ⟨w.heap.size, 1, none⟩ = some (.int .i64 leb) := hr.cell (i := 1) rfl
  have c2 : X.cell? ⟨w.heap.size, 2, none⟩ = some (.int .i64 n) := hr.cell (i := 2) rfl
  have HLd := hidW (show BLies X.drew p q cap size l from (h.later hb).later (Below.refl _ _).drew)
  have HDd := hidW (show DLies X.drew P Q C size l from (hd.later hb).later (Below.refl _ _).drew)
  have HRd := hidW (show Row X.drew w.heap.size [.int .i64 1, .int .i64 leb, .int .i64 n] 33 from hr.drew)
  have HB := hidW (show Below w.heap.size w X.drew from hb.drew)
  have kB := hidW (take_go HLd.out leb n)
  have kD := hidW (fun W (hd : DLies W P Q C size l) => dtake_go hd hO.ok leb n)
  obtain ⟨Z, hZZ⟩ : ∃ Z, Z = takeF l leb n := ⟨_, rfl⟩
  rw [← hZZ] at kB kD ⊢
  obtain ⟨Z1, Z2⟩ := Z
  dsimp only at kB kD ⊢
  clear h hd hO hb hr hZZ
  go_enter Tryz.func8, Tryz.ntmps8
  go_wp2_with fail
  rw [← hX]
  clear hX c0
  go_region_held3 (fun w' => w'.cell? ⟨w.heap.size, 1, none⟩ = some (.int .i64 leb) ∧ w'.cell? ⟨w.heap.size, 2, none⟩ = some (.int .i64 n)) (first | assumption | go_keep) (first
    | (go_at_call 13; refine kB.out.mono ?_; rintro e w1 ⟨rfl, hl⟩; have r1 := Left.kept HLd.out hl HRd.out (by decide); have HR1 := hidW r1; have s1 : w1.cell? ⟨w.heap.size, 1, none⟩ = some (.int .i64 leb) := r1.cell (i := 1) rfl; have s2 : w1.cell? ⟨w.heap.size, 2, none⟩ = some (.int .i64 n) := r1.cell (i := 2) rfl; have HL1 := hidW hl; have HD1 := hidW (HDd.out.bkept HLd.out hl); clear hl r1)
    | (go_at_call 21; refine (kD.out _ HD1.out).mono ?_; rintro e w2 ⟨rfl, hl2⟩; have r2 := DLeft.kept HD1.out hl2 HR1.out (by decide); have s3 : w2.cell? ⟨w.heap.size, 1, none⟩ = some (.int .i64 leb) := r2.cell (i := 1) rfl; have s4 : w2.cell? ⟨w.heap.size, 2, none⟩ = some (.int .i64 n) := r2.cell (i := 2) rfl; have HL2 := hidW hl2; clear hl2 r2))
  have hzz : (Z1 == Z1) = true := by simp
  go_wp2
  go_ret
  exact ⟨rfl, HL1.out.1.dkept HD1.out HL2.out, HL2.out.1, ((Kept.of_below HB.out).trans (HL1.out.2.mono (fun k e => .inl e))).trans (HL2.out.2.mono (fun k e => .inr e))⟩
set_option maxHeartbeats 2000000 in
theorem both_2 {w : World} {p q cap P Q C : Nat} {size : Int} {l : List PB} (h : BLies w p q cap size l) (hd : DLies w P Q C size l) (hO : BkOk size l) (leb n : Int) :
    Calls Tryz.prog 8 #[.pointer (some ⟨p, 0, none⟩), .pointer (some ⟨P, 0, none⟩), .agg #[.int .i64 2, .int .i64 leb, .int .i64 n]] w fun e w' => e = .returned (.bool true) ∧ Both w w' p q cap P Q C size (useF size l leb n).2 := by
  obtain ⟨X, hX⟩ : ∃ X, X = w.alloc (.cells #[.int .i64 2, .int .i64 leb, .int .i64 n] 33) := ⟨_, rfl⟩
  have hb : Below w.heap.size w X := by rw [hX]; exact below_new _ _
  have hr : Row X w.heap.size [.int .i64 2, .int .i64 leb, .int .i64 n] 33 := by rw [hX]; exact Row.new _ _ _
  have c0 : (w.alloc (.cells #[.int .i64 2, .int .i64 leb, .int .i64 n] 33)).cell? ⟨w.heap.size, 0, none⟩ = some (.int .i64 2) := (Row.new w _ _).cell (i := 0) rfl
  have c1 : X.cell? ⟨w.heap.size, 1, none⟩ = some (.int .i64 leb) := hr.cell (i := 1) rfl
  have c2 : X.cell? ⟨w.heap.size, 2, none⟩ = some (.int .i64 n) := hr.cell (i := 2) rfl
  have HLd := hidW (show BLies X.drew p q cap size l from (h.later hb).later (Below.refl _ _).drew)
  have HDd := hidW (show DLies X.drew P Q C size l from (hd.later hb).later (Below.refl _ _).drew)
  have HRd := hidW (show Row X.drew w.heap.size [.int .i64 2, .int .i64 leb, .int .i64 n] 33 from hr.drew)
  have HB := hidW (show Below w.heap.size w X.drew from hb.drew)
  have kB := hidW (use_go HLd.out hO.ok hO.s2 leb n)
  have kD := hidW (fun W (hd : DLies W P Q C size l) => duse_go hd hO.ok hO.s2 leb n)
  obtain ⟨Z, hZZ⟩ : ∃ Z, Z = useF size l leb n := ⟨_, rfl⟩
  rw [← hZZ] at kB kD ⊢
  obtain ⟨Z1, Z2⟩ := Z
  dsimp only at kB kD ⊢
  clear h hd hO hb hr hZZ
  go_enter Tryz.func8, Tryz.ntmps8
  go_wp2_with fail
  rw [← hX]
  clear hX c0
  go_region_held3 (fun w' => w'.cell? ⟨w.heap.size, 1, none⟩ = some (.int .i64 leb) ∧ w'.cell? ⟨w.heap.size, 2, none⟩ = some (.int .i64 n)) (first | assumption | go_keep) (first
    | (go_at_call 14; refine kB.out.mono ?_; rintro e w1 ⟨rfl, hl⟩; have r1 := Left.kept HLd.out hl HRd.out (by decide); have HR1 := hidW r1; have s1 : w1.cell? ⟨w.heap.size, 1, none⟩ = some (.int .i64 leb) := r1.cell (i := 1) rfl; have s2 : w1.cell? ⟨w.heap.size, 2, none⟩ = some (.int .i64 n) := r1.cell (i := 2) rfl; have HL1 := hidW hl; have HD1 := hidW (HDd.out.bkept HLd.out hl); clear hl r1)
    | (go_at_call 22; refine (kD.out _ HD1.out).mono ?_; rintro e w2 ⟨rfl, hl2⟩; have r2 := DLeft.kept HD1.out hl2 HR1.out (by decide); have s3 : w2.cell? ⟨w.heap.size, 1, none⟩ = some (.int .i64 leb) := r2.cell (i := 1) rfl; have s4 : w2.cell? ⟨w.heap.size, 2, none⟩ = some (.int .i64 n) := r2.cell (i := 2) rfl; have HL2 := hidW hl2; clear hl2 r2))
  have hzz : (Z1 == Z1) = true := by simp
  go_wp2
  go_ret
  exact ⟨rfl, HL1.out.1.dkept HD1.out HL2.out, HL2.out.1, ((Kept.of_below HB.out).trans (HL1.out.2.mono (fun k e => .inl e))).trans (HL2.out.2.mono (fun k e => .inr e))⟩
set_option maxHeartbeats 2000000 in
theorem both_3 {w : World} {p q cap P Q C : Nat} {size : Int} {l : List PB} (h : BLies w p q cap size l) (hd : DLies w P Q C size l) (hO : BkOk size l) (leb n : Int) :
    Calls Tryz.prog 8 #[.pointer (some ⟨p, 0, none⟩), .pointer (some ⟨P, 0, none⟩), .agg #[.int .i64 3, .int .i64 leb, .int .i64 n]] w fun e w' => e = .returned (.bool true) ∧ Both w w' p q cap P Q C size (killF l leb n).2 := by
  obtain ⟨X, hX⟩ : ∃ X, X = w.alloc (.cells #[.int .i64 3, .int .i64 leb, .int .i64 n] 33) := ⟨_, rfl⟩
  have hb : Below w.heap.size w X := by rw [hX]; exact below_new _ _
  have hr : Row X w.heap.size [.int .i64 3, .int .i64 leb, .int .i64 n] 33 := by rw [hX]; exact Row.new _ _ _
  have c0 : (w.alloc (.cells #[.int .i64 3, .int .i64 leb, .int .i64 n] 33)).cell? ⟨w.heap.size, 0, none⟩ = some (.int .i64 3) := (Row.new w _ _).cell (i := 0) rfl
  have c1 : X.cell? ⟨w.heap.size, 1, none⟩ = some (.int .i64 leb) := hr.cell (i := 1) rfl
  have c2 : X.cell? ⟨w.heap.size, 2, none⟩ = some (.int .i64 n) := hr.cell (i := 2) rfl
  have HLd := hidW (show BLies X.drew p q cap size l from (h.later hb).later (Below.refl _ _).drew)
  have HDd := hidW (show DLies X.drew P Q C size l from (hd.later hb).later (Below.refl _ _).drew)
  have HRd := hidW (show Row X.drew w.heap.size [.int .i64 3, .int .i64 leb, .int .i64 n] 33 from hr.drew)
  have HB := hidW (show Below w.heap.size w X.drew from hb.drew)
  have kB := hidW (kill_go HLd.out hO.ok hO.s2 leb n)
  have kD := hidW (fun W (hd : DLies W P Q C size l) => dkill_go hd hO.ok hO.s2 leb n)
  obtain ⟨Z, hZZ⟩ : ∃ Z, Z = killF l leb n := ⟨_, rfl⟩
  rw [← hZZ] at kB kD ⊢
  obtain ⟨Z1, Z2⟩ := Z
  dsimp only at kB kD ⊢
  clear h hd hO hb hr hZZ
  go_enter Tryz.func8, Tryz.ntmps8
  go_wp2_with fail
  rw [← hX]
  clear hX c0
  go_region_held3 (fun w' => w'.cell? ⟨w.heap.size, 1, none⟩ = some (.int .i64 leb) ∧ w'.cell? ⟨w.heap.size, 2, none⟩ = some (.int .i64 n)) (first | assumption | go_keep) (first
    | (go_at_call 15; refine kB.out.mono ?_; rintro e w1 ⟨rfl, hl⟩; have r1 := Left.kept HLd.out hl HRd.out (by decide); have HR1 := hidW r1; have s1 : w1.cell? ⟨w.heap.size, 1, none⟩ = some (.int .i64 leb) := r1.cell (i := 1) rfl; have s2 : w1.cell? ⟨w.heap.size, 2, none⟩ = some (.int .i64 n) := r1.cell (i := 2) rfl; have HL1 := hidW hl; have HD1 := hidW (HDd.out.bkept HLd.out hl); clear hl r1)
    | (go_at_call 23; refine (kD.out _ HD1.out).mono ?_; rintro e w2 ⟨rfl, hl2⟩; have r2 := DLeft.kept HD1.out hl2 HR1.out (by decide); have s3 : w2.cell? ⟨w.heap.size, 1, none⟩ = some (.int .i64 leb) := r2.cell (i := 1) rfl; have s4 : w2.cell? ⟨w.heap.size, 2, none⟩ = some (.int .i64 n) := r2.cell (i := 2) rfl; have HL2 := hidW hl2; clear hl2 r2))
  have hzz : (Z1 == Z1) = true := by simp
  go_wp2
  go_ret
  exact ⟨rfl, HL1.out.1.dkept HD1.out HL2.out, HL2.out.1, ((Kept.of_below HB.out).trans (HL1.out.2.mono (fun k e => .inl e))).trans (HL2.out.2.mono (fun k e => .inr e))⟩
set_option maxHeartbeats 2000000 in
theorem both_4 {w : World} {p q cap P Q C : Nat} {size : Int} {l : List PB} (h : BLies w p q cap size l) (hd : DLies w P Q C size l) (_hO : BkOk size l) (leb n : Int) :
    Calls Tryz.prog 8 #[.pointer (some ⟨p, 0, none⟩), .pointer (some ⟨P, 0, none⟩), .agg #[.int .i64 4, .int .i64 leb, .int .i64 n]] w fun e w' => e = .returned (.bool true) ∧ Both w w' p q cap P Q C size (closeF l leb).2 := by
  obtain ⟨X, hX⟩ : ∃ X, X = w.alloc (.cells #[.int .i64 4, .int .i64 leb, .int .i64 n] 33) := ⟨_, rfl⟩
  have hb : Below w.heap.size w X := by rw [hX]; exact below_new _ _
  have hr : Row X w.heap.size [.int .i64 4, .int .i64 leb, .int .i64 n] 33 := by rw [hX]; exact Row.new _ _ _
  have c0 : (w.alloc (.cells #[.int .i64 4, .int .i64 leb, .int .i64 n] 33)).cell? ⟨w.heap.size, 0, none⟩ = some (.int .i64 4) := (Row.new w _ _).cell (i := 0) rfl
  have c1 : X.cell? ⟨w.heap.size, 1, none⟩ = some (.int .i64 leb) := hr.cell (i := 1) rfl
  have c2 : X.cell? ⟨w.heap.size, 2, none⟩ = some (.int .i64 n) := hr.cell (i := 2) rfl
  have HLd := hidW (show BLies X.drew p q cap size l from (h.later hb).later (Below.refl _ _).drew)
  have HDd := hidW (show DLies X.drew P Q C size l from (hd.later hb).later (Below.refl _ _).drew)
  have HRd := hidW (show Row X.drew w.heap.size [.int .i64 4, .int .i64 leb, .int .i64 n] 33 from hr.drew)
  have HB := hidW (show Below w.heap.size w X.drew from hb.drew)
  have kB := hidW (close_go HLd.out leb)
  have kD := hidW (fun W (hd : DLies W P Q C size l) => dclose_go hd leb)
  obtain ⟨Z, hZZ⟩ : ∃ Z, Z = closeF l leb := ⟨_, rfl⟩
  rw [← hZZ] at kB kD ⊢
  obtain ⟨Z1, Z2⟩ := Z
  dsimp only at kB kD ⊢
  clear h hd _hO hb hr hZZ
  go_enter Tryz.func8, Tryz.ntmps8
  go_wp2_with fail
  rw [← hX]
  clear hX c0
  go_region_held3 (fun w' => w'.cell? ⟨w.heap.size, 1, none⟩ = some (.int .i64 leb)) (first | assumption | go_keep) (first
    | (go_at_call 16; refine kB.out.mono ?_; rintro e w1 ⟨rfl, hl⟩; have r1 := Left.kept HLd.out hl HRd.out (by decide); have HR1 := hidW r1; have s1 : w1.cell? ⟨w.heap.size, 1, none⟩ = some (.int .i64 leb) := r1.cell (i := 1) rfl; have s2 : w1.cell? ⟨w.heap.size, 2, none⟩ = some (.int .i64 n) := r1.cell (i := 2) rfl; have HL1 := hidW hl; have HD1 := hidW (HDd.out.bkept HLd.out hl); clear hl r1)
    | (go_at_call 24; refine (kD.out _ HD1.out).mono ?_; rintro e w2 ⟨rfl, hl2⟩; have r2 := DLeft.kept HD1.out hl2 HR1.out (by decide); have s3 : w2.cell? ⟨w.heap.size, 1, none⟩ = some (.int .i64 leb) := r2.cell (i := 1) rfl; have s4 : w2.cell? ⟨w.heap.size, 2, none⟩ = some (.int .i64 n) := r2.cell (i := 2) rfl; have HL2 := hidW hl2; clear hl2 r2))
  have hzz : (Z1 == Z1) = true := by simp
  go_wp2
  go_ret
  exact ⟨rfl, HL1.out.1.dkept HD1.out HL2.out, HL2.out.1, ((Kept.of_below HB.out).trans (HL1.out.2.mono (fun k e => .inl e))).trans (HL2.out.2.mono (fun k e => .inr e))⟩
set_option maxHeartbeats 2000000 in
theorem both_5 {w : World} {p q cap P Q C : Nat} {size : Int} {l : List PB} (h : BLies w p q cap size l) (hd : DLies w P Q C size l) (_hO : BkOk size l) (leb n : Int) :
    Calls Tryz.prog 8 #[.pointer (some ⟨p, 0, none⟩), .pointer (some ⟨P, 0, none⟩), .agg #[.int .i64 5, .int .i64 leb, .int .i64 n]] w fun e w' => e = .returned (.bool true) ∧ Both w w' p q cap P Q C size (freeF l leb).2 := by
  obtain ⟨X, hX⟩ : ∃ X, X = w.alloc (.cells #[.int .i64 5, .int .i64 leb, .int .i64 n] 33) := ⟨_, rfl⟩
  have hb : Below w.heap.size w X := by rw [hX]; exact below_new _ _
  have hr : Row X w.heap.size [.int .i64 5, .int .i64 leb, .int .i64 n] 33 := by rw [hX]; exact Row.new _ _ _
  have c0 : (w.alloc (.cells #[.int .i64 5, .int .i64 leb, .int .i64 n] 33)).cell? ⟨w.heap.size, 0, none⟩ = some (.int .i64 5) := (Row.new w _ _).cell (i := 0) rfl
  have c1 : X.cell? ⟨w.heap.size, 1, none⟩ = some (.int .i64 leb) := hr.cell (i := 1) rfl
  have c2 : X.cell? ⟨w.heap.size, 2, none⟩ = some (.int .i64 n) := hr.cell (i := 2) rfl
  have HLd := hidW (show BLies X.drew p q cap size l from (h.later hb).later (Below.refl _ _).drew)
  have HDd := hidW (show DLies X.drew P Q C size l from (hd.later hb).later (Below.refl _ _).drew)
  have HRd := hidW (show Row X.drew w.heap.size [.int .i64 5, .int .i64 leb, .int .i64 n] 33 from hr.drew)
  have HB := hidW (show Below w.heap.size w X.drew from hb.drew)
  have kB := hidW (free_go HLd.out leb)
  have kD := hidW (fun W (hd : DLies W P Q C size l) => dfree_go hd leb)
  obtain ⟨Z, hZZ⟩ : ∃ Z, Z = freeF l leb := ⟨_, rfl⟩
  rw [← hZZ] at kB kD ⊢
  obtain ⟨Z1, Z2⟩ := Z
  dsimp only at kB kD ⊢
  clear h hd _hO hb hr hZZ
  go_enter Tryz.func8, Tryz.ntmps8
  go_wp2_with fail
  rw [← hX]
  clear hX c0
  go_region_held3 (fun w' => w'.cell? ⟨w.heap.size, 1, none⟩ = some (.int .i64 leb)) (first | assumption | go_keep) (first
    | (go_at_call 18; refine kB.out.mono ?_; rintro e w1 ⟨rfl, hl⟩; have r1 := Left.kept HLd.out hl HRd.out (by decide); have HR1 := hidW r1; have s1 : w1.cell? ⟨w.heap.size, 1, none⟩ = some (.int .i64 leb) := r1.cell (i := 1) rfl; have s2 : w1.cell? ⟨w.heap.size, 2, none⟩ = some (.int .i64 n) := r1.cell (i := 2) rfl; have HL1 := hidW hl; have HD1 := hidW (HDd.out.bkept HLd.out hl); clear hl r1)
    | (go_at_call 25; refine (kD.out _ HD1.out).mono ?_; rintro e w2 ⟨rfl, hl2⟩; have r2 := DLeft.kept HD1.out hl2 HR1.out (by decide); have s3 : w2.cell? ⟨w.heap.size, 1, none⟩ = some (.int .i64 leb) := r2.cell (i := 1) rfl; have s4 : w2.cell? ⟨w.heap.size, 2, none⟩ = some (.int .i64 n) := r2.cell (i := 2) rfl; have HL2 := hidW hl2; clear hl2 r2))
  have hzz : (Z1 == Z1) = true := by simp
  go_wp2
  go_ret
  exact ⟨rfl, HL1.out.1.dkept HD1.out HL2.out, HL2.out.1, ((Kept.of_below HB.out).trans (HL1.out.2.mono (fun k e => .inl e))).trans (HL2.out.2.mono (fun k e => .inr e))⟩
set_option maxHeartbeats 2000000 in
theorem one_y (a b : Option Addr) (k leb n : Int) (h1 : ¬ k = 1) (h2 : ¬ k = 2) (h3 : ¬ k = 3) (h4 : ¬ k = 4) (h5 : ¬ k = 5) (w : World) :
    Calls Tryz.prog 8 #[.pointer a, .pointer b, .agg #[.int .i64 k, .int .i64 leb, .int .i64 n]] w fun e w' => e = .returned (.bool true) ∧ Below w.heap.size w w' := by
  have c0 : (w.alloc (.cells #[.int .i64 k, .int .i64 leb, .int .i64 n] 33)).cell? ⟨w.heap.size, 0, none⟩ = some (.int .i64 k) := (Row.new w _ _).cell (i := 0) rfl
  have HL := hidW (below_new w (.cells #[.int .i64 k, .int .i64 leb, .int .i64 n] 33))
  go_enter Tryz.func8, Tryz.ntmps8
  go_wp2
  go_ret
  exact ⟨rfl, HL.out⟩
theorem both_any {w : World} {p q cap P Q C : Nat} {size : Int} {l : List PB} (h : BLies w p q cap size l) (hd : DLies w P Q C size l) (hO : BkOk size l) (o : BOp) :
    Calls Tryz.prog 8 #[.pointer (some ⟨p, 0, none⟩), .pointer (some ⟨P, 0, none⟩), .agg #[.int .i64 o.kind, .int .i64 o.leb, .int .i64 o.n]] w fun e w' => e = .returned (.bool true) ∧ Both w w' p q cap P Q C size (opF size l o) := by
  unfold opF
  by_cases h1 : o.kind = 1
  · rw [if_pos h1, h1]; exact both_1 h hd hO _ _
  · rw [if_neg h1]
    by_cases h2 : o.kind = 2
    · rw [if_pos h2, h2]; exact both_2 h hd hO _ _
    · rw [if_neg h2]
      by_cases h3 : o.kind = 3
      · rw [if_pos h3, h3]; exact both_3 h hd hO _ _
      · rw [if_neg h3]
        by_cases h4 : o.kind = 4
        · rw [if_pos h4, h4]; exact both_4 h hd hO _ _
        · rw [if_neg h4]
          by_cases h5 : o.kind = 5
          · rw [if_pos h5, h5]; exact both_5 h hd hO _ _
          · rw [if_neg h5]
            refine (one_y _ _ _ _ _ h1 h2 h3 h4 h5 w).mono ?_
            rintro e w' ⟨rfl, hb⟩
            exact ⟨rfl, h.later hb, hd.later hb, .of_below hb⟩
set_option maxHeartbeats 2000000 in
theorem nil_1 (leb n : Int) (w : World) :
    Calls Tryz.prog 8 #[.pointer none, .pointer none, .agg #[.int .i64 1, .int .i64 leb, .int .i64 n]] w fun e w' => e = .returned (.bool true) ∧ Below w.heap.size w w' := by
  obtain ⟨X, hX⟩ : ∃ X, X = w.alloc (.cells #[.int .i64 1, .int .i64 leb, .int .i64 n] 33) := ⟨_, rfl⟩
  have hb : Below w.heap.size w X := by rw [hX]; exact below_new _ _
  have hr : Row X w.heap.size [.int .i64 1, .int .i64 leb, .int .i64 n] 33 := by rw [hX]; exact Row.new _ _ _
  have c0 : (w.alloc (.cells #[.int .i64 1, .int .i64 leb, .int .i64 n] 33)).cell? ⟨w.heap.size, 0, none⟩ = some (.int .i64 1) := (Row.new w _ _).cell (i := 0) rfl
  have c1 : X.cell? ⟨w.heap.size, 1, none⟩ = some (.int .i64 leb) := hr.cell (i := 1) rfl
  have c2 : X.cell? ⟨w.heap.size, 2, none⟩ = some (.int .i64 n) := hr.cell (i := 2) rfl
  have HB := hidW (show Below w.heap.size w X.drew from hb.drew)
  clear hb hr
  go_enter Tryz.func8, Tryz.ntmps8
  go_wp2_with fail
  rw [← hX]
  clear hX c0
  go_region_held3 (fun w' => w'.cell? ⟨w.heap.size, 1, none⟩ = some (.int .i64 leb) ∧ w'.cell? ⟨w.heap.size, 2, none⟩ = some (.int .i64 n)) (first | assumption | go_keep) (first
    | (go_at_call 13; refine (cTake_nil _ _ _).mono ?_; rintro e w1 ⟨rfl, rfl⟩)
    | (go_at_call 21; refine (rTake_nil _ _ _).mono ?_; rintro e w2 ⟨rfl, rfl⟩))
  go_wp2
  go_ret
  exact ⟨rfl, HB.out⟩
set_option maxHeartbeats 2000000 in
theorem nil_2 (leb n : Int) (w : World) :
    Calls Tryz.prog 8 #[.pointer none, .pointer none, .agg #[.int .i64 2, .int .i64 leb, .int .i64 n]] w fun e w' => e = .returned (.bool true) ∧ Below w.heap.size w w' := by
  obtain ⟨X, hX⟩ : ∃ X, X = w.alloc (.cells #[.int .i64 2, .int .i64 leb, .int .i64 n] 33) := ⟨_, rfl⟩
  have hb : Below w.heap.size w X := by rw [hX]; exact below_new _ _
  have hr : Row X w.heap.size [.int .i64 2, .int .i64 leb, .int .i64 n] 33 := by rw [hX]; exact Row.new _ _ _
  have c0 : (w.alloc (.cells #[.int .i64 2, .int .i64 leb, .int .i64 n] 33)).cell? ⟨w.heap.size, 0, none⟩ = some (.int .i64 2) := (Row.new w _ _).cell (i := 0) rfl
  have c1 : X.cell? ⟨w.heap.size, 1, none⟩ = some (.int .i64 leb) := hr.cell (i := 1) rfl
  have c2 : X.cell? ⟨w.heap.size, 2, none⟩ = some (.int .i64 n) := hr.cell (i := 2) rfl
  have HB := hidW (show Below w.heap.size w X.drew from hb.drew)
  clear hb hr
  go_enter Tryz.func8, Tryz.ntmps8
  go_wp2_with fail
  rw [← hX]
  clear hX c0
  go_region_held3 (fun w' => w'.cell? ⟨w.heap.size, 1, none⟩ = some (.int .i64 leb) ∧ w'.cell? ⟨w.heap.size, 2, none⟩ = some (.int .i64 n)) (first | assumption | go_keep) (first
    | (go_at_call 14; refine (cUse_nil _ _ _).mono ?_; rintro e w1 ⟨rfl, rfl⟩)
    | (go_at_call 22; refine (rUse_nil _ _ _).mono ?_; rintro e w2 ⟨rfl, rfl⟩))
  go_wp2
  go_ret
  exact ⟨rfl, HB.out⟩
set_option maxHeartbeats 2000000 in
theorem nil_3 (leb n : Int) (w : World) :
    Calls Tryz.prog 8 #[.pointer none, .pointer none, .agg #[.int .i64 3, .int .i64 leb, .int .i64 n]] w fun e w' => e = .returned (.bool true) ∧ Below w.heap.size w w' := by
  obtain ⟨X, hX⟩ : ∃ X, X = w.alloc (.cells #[.int .i64 3, .int .i64 leb, .int .i64 n] 33) := ⟨_, rfl⟩
  have hb : Below w.heap.size w X := by rw [hX]; exact below_new _ _
  have hr : Row X w.heap.size [.int .i64 3, .int .i64 leb, .int .i64 n] 33 := by rw [hX]; exact Row.new _ _ _
  have c0 : (w.alloc (.cells #[.int .i64 3, .int .i64 leb, .int .i64 n] 33)).cell? ⟨w.heap.size, 0, none⟩ = some (.int .i64 3) := (Row.new w _ _).cell (i := 0) rfl
  have c1 : X.cell? ⟨w.heap.size, 1, none⟩ = some (.int .i64 leb) := hr.cell (i := 1) rfl
  have c2 : X.cell? ⟨w.heap.size, 2, none⟩ = some (.int .i64 n) := hr.cell (i := 2) rfl
  have HB := hidW (show Below w.heap.size w X.drew from hb.drew)
  clear hb hr
  go_enter Tryz.func8, Tryz.ntmps8
  go_wp2_with fail
  rw [← hX]
  clear hX c0
  go_region_held3 (fun w' => w'.cell? ⟨w.heap.size, 1, none⟩ = some (.int .i64 leb) ∧ w'.cell? ⟨w.heap.size, 2, none⟩ = some (.int .i64 n)) (first | assumption | go_keep) (first
    | (go_at_call 15; refine (cKill_nil _ _ _).mono ?_; rintro e w1 ⟨rfl, rfl⟩)
    | (go_at_call 23; refine (rKill_nil _ _ _).mono ?_; rintro e w2 ⟨rfl, rfl⟩))
  go_wp2
  go_ret
  exact ⟨rfl, HB.out⟩
set_option maxHeartbeats 2000000 in
theorem nil_4 (leb n : Int) (w : World) :
    Calls Tryz.prog 8 #[.pointer none, .pointer none, .agg #[.int .i64 4, .int .i64 leb, .int .i64 n]] w fun e w' => e = .returned (.bool true) ∧ Below w.heap.size w w' := by
  obtain ⟨X, hX⟩ : ∃ X, X = w.alloc (.cells #[.int .i64 4, .int .i64 leb, .int .i64 n] 33) := ⟨_, rfl⟩
  have hb : Below w.heap.size w X := by rw [hX]; exact below_new _ _
  have hr : Row X w.heap.size [.int .i64 4, .int .i64 leb, .int .i64 n] 33 := by rw [hX]; exact Row.new _ _ _
  have c0 : (w.alloc (.cells #[.int .i64 4, .int .i64 leb, .int .i64 n] 33)).cell? ⟨w.heap.size, 0, none⟩ = some (.int .i64 4) := (Row.new w _ _).cell (i := 0) rfl
  have c1 : X.cell? ⟨w.heap.size, 1, none⟩ = some (.int .i64 leb) := hr.cell (i := 1) rfl
  have c2 : X.cell? ⟨w.heap.size, 2, none⟩ = some (.int .i64 n) := hr.cell (i := 2) rfl
  have HB := hidW (show Below w.heap.size w X.drew from hb.drew)
  clear hb hr
  go_enter Tryz.func8, Tryz.ntmps8
  go_wp2_with fail
  rw [← hX]
  clear hX c0
  go_region_held3 (fun w' => w'.cell? ⟨w.heap.size, 1, none⟩ = some (.int .i64 leb)) (first | assumption | go_keep) (first
    | (go_at_call 16; refine (cClose_nil _ _).mono ?_; rintro e w1 ⟨rfl, rfl⟩)
    | (go_at_call 24; refine (rClose_nil _ _).mono ?_; rintro e w2 ⟨rfl, rfl⟩))
  go_wp2
  go_ret
  exact ⟨rfl, HB.out⟩
set_option maxHeartbeats 2000000 in
theorem nil_5 (leb n : Int) (w : World) :
    Calls Tryz.prog 8 #[.pointer none, .pointer none, .agg #[.int .i64 5, .int .i64 leb, .int .i64 n]] w fun e w' => e = .returned (.bool true) ∧ Below w.heap.size w w' := by
  obtain ⟨X, hX⟩ : ∃ X, X = w.alloc (.cells #[.int .i64 5, .int .i64 leb, .int .i64 n] 33) := ⟨_, rfl⟩
  have hb : Below w.heap.size w X := by rw [hX]; exact below_new _ _
  have hr : Row X w.heap.size [.int .i64 5, .int .i64 leb, .int .i64 n] 33 := by rw [hX]; exact Row.new _ _ _
  have c0 : (w.alloc (.cells #[.int .i64 5, .int .i64 leb, .int .i64 n] 33)).cell? ⟨w.heap.size, 0, none⟩ = some (.int .i64 5) := (Row.new w _ _).cell (i := 0) rfl
  have c1 : X.cell? ⟨w.heap.size, 1, none⟩ = some (.int .i64 leb) := hr.cell (i := 1) rfl
  have c2 : X.cell? ⟨w.heap.size, 2, none⟩ = some (.int .i64 n) := hr.cell (i := 2) rfl
  have HB := hidW (show Below w.heap.size w X.drew from hb.drew)
  clear hb hr
  go_enter Tryz.func8, Tryz.ntmps8
  go_wp2_with fail
  rw [← hX]
  clear hX c0
  go_region_held3 (fun w' => w'.cell? ⟨w.heap.size, 1, none⟩ = some (.int .i64 leb)) (first | assumption | go_keep) (first
    | (go_at_call 18; refine (cFree_nil _ _).mono ?_; rintro e w1 ⟨rfl, rfl⟩)
    | (go_at_call 25; refine (rFree_nil _ _).mono ?_; rintro e w2 ⟨rfl, rfl⟩))
  go_wp2
  go_ret
  exact ⟨rfl, HB.out⟩
theorem nil_any (o : BOp) (w : World) :
    Calls Tryz.prog 8 #[.pointer none, .pointer none, .agg #[.int .i64 o.kind, .int .i64 o.leb, .int .i64 o.n]] w fun e w' => e = .returned (.bool true) ∧ Below w.heap.size w w' := by
  by_cases h1 : o.kind = 1
  · rw [h1]; exact nil_1 _ _ w
  · by_cases h2 : o.kind = 2
    · rw [h2]; exact nil_2 _ _ w
    · by_cases h3 : o.kind = 3
      · rw [h3]; exact nil_3 _ _ w
      · by_cases h4 : o.kind = 4
        · rw [h4]; exact nil_4 _ _ w
        · by_cases h5 : o.kind = 5
          · rw [h5]; exact nil_5 _ _ w
          · exact one_y _ _ _ _ _ h1 h2 h3 h4 h5 w
end Go.Proofs.YtmaekpfkkpkgpaaGreatDoor
