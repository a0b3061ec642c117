/-
  What state, block, spoilt and meanCount of package scan answer.
-/
import Derived.Test.YtccfalafphjkpaaGreatDoorGO
import Derived.Deep.RegionWith
namespace Go.Proofs.YtccfalafphjkpaaGreatDoor
open Go.RowKit
set_option maxRecDepth 10000

/-- What a block's own pages tell. -/
structure Sg where
  marked : Bool
  blank : Bool
  counted : Bool
  count : Int
  mapped : Bool
  leb : Int
  seq : Int
  pages : Int
  used : Int
  closed : Bool
def sgCells (s : Sg) : List Value := [.bool s.marked, .bool s.blank, .bool s.counted, .int .i64 s.count, .bool s.mapped, .int .i64 s.leb, .int .u64 s.seq, .int .i64 s.pages, .int .i64 s.used, .bool s.closed]
def sgV (s : Sg) : Value := .agg #[.bool s.marked, .bool s.blank, .bool s.counted, .int .i64 s.count, .bool s.mapped, .int .i64 s.leb, .int .u64 s.seq, .int .i64 s.pages, .int .i64 s.used, .bool s.closed]
theorem sg_len (s : Sg) : (sgCells s).length = 10 := rfl
/-- A sight's state. -/
def Sg.state (s : Sg) : Int := if s.marked then 1 else if s.counted && s.blank then 2 else if s.counted && s.mapped && decide (s.pages ≤ s.used) then 4 else 3
/-- What is told of a block. -/
def Sg.block (s : Sg) (mean : Int) : Bl :=
  if s.state = 1 then ⟨1, 0, 0, 0, 0, false⟩
  else if s.state = 4 then ⟨4, if s.counted then s.count else mean, s.leb, s.used, s.seq, s.closed⟩
  else ⟨s.state, if s.counted then s.count else mean, 0, 0, 0, false⟩
/-- A copy that is not needed. -/
def spoilt (b : Bl) : Bl := ⟨3, b.cnt, 0, 0, 0, false⟩

set_option maxHeartbeats 2000000 in
theorem spoilt_any (b : Bl) (w : World) : Calls Tryz.prog 82 #[blV b] w fun e w' => e = .returned (blV (spoilt b)) ∧ Below w.heap.size w w' := by
  unfold blV
  go_enter Tryz.func82, Tryz.ntmps82
  go_wp2
  refine bodyPost_ret (v := .agg #[.int .i64 3, .int .i64 b.cnt, .int .i64 0, .int .i64 0, .int .u64 0, .bool false]) ?_ rfl ⟨rfl, ?_⟩
  · simp [results, Tryz.f82, go_sem]
  · exact Below.after (below_new w _) (below_new _ _)
set_option maxHeartbeats 2000000 in
theorem state_any (s : Sg) (w : World) : Calls Tryz.prog 83 #[sgV s] w fun e w' => e = .returned (.int .i64 s.state) ∧ Below w.heap.size w w' := by
  have HS : Hid (s.state = if s.marked then 1 else if s.counted && s.blank then 2 else if s.counted && s.mapped && decide (s.pages ≤ s.used) then 4 else 3) := rfl
  unfold sgV
  obtain ⟨s0, s1, s2, s3, s4, s5, s6, s7, s8, s9⟩ := s
  simp only at HS ⊢
  generalize hq : Sg.state _ = q at HS ⊢
  clear hq
  cases s0 with
  | true =>
    go_enter Tryz.func83, Tryz.ntmps83
    go_wp2
    go_ret
    exact ⟨by rw [HS.out]; rfl, below_new w _⟩
  | false =>
    cases s2 with
    | false =>
      go_enter Tryz.func83, Tryz.ntmps83
      go_wp2
      go_ret
      exact ⟨by rw [HS.out]; rfl, below_new w _⟩
    | true =>
      cases s1 with
      | true =>
        go_enter Tryz.func83, Tryz.ntmps83
        go_wp2
        go_ret
        exact ⟨by rw [HS.out]; rfl, below_new w _⟩
      | false =>
        cases s4 with
        | false =>
          go_enter Tryz.func83, Tryz.ntmps83
          go_wp2
          go_ret
          exact ⟨by rw [HS.out]; rfl, below_new w _⟩
        | true =>
          by_cases hp : s7 ≤ s8
          · go_enter Tryz.func83, Tryz.ntmps83
            go_wp2
            go_ret
            exact ⟨by rw [HS.out]; simp [hp], below_new w _⟩
          · go_enter Tryz.func83, Tryz.ntmps83
            go_wp2
            go_ret
            exact ⟨by rw [HS.out]; simp [hp], below_new w _⟩
theorem six_below {w w2 : World} (h : Below w.heap.size w w2) (v0 v1 v2 v3 v4 v5 : Value) (o : Obj) :
    Below w.heap.size w (((((((w2.setCell ⟨w.heap.size + 1, 0, none⟩ v0).setCell ⟨w.heap.size + 1, 1, none⟩ v1).setCell ⟨w.heap.size + 1, 2, none⟩ v2).setCell ⟨w.heap.size + 1, 3, none⟩ v3).setCell ⟨w.heap.size + 1, 4, none⟩ v4).setCell ⟨w.heap.size + 1, 5, none⟩ v5).alloc o) := by
  refine Below.alloc ?_ ?_ o
  · exact (((((h.setCell (by simp) _).setCell (by simp) _).setCell (by simp) _).setCell (by simp) _).setCell (by simp) _).setCell (by simp) _
  · have := h.size
    simpa [World.setCell] using this
theorem six_row {w2 : World} {b : Nat} {t : TypeId} {z0 z1 z2 z3 z4 z5 : Value} (h : Row w2 b [z0, z1, z2, z3, z4, z5] t) (v0 v1 v2 v3 v4 v5 : Value) (o : Obj) :
    Row (((((((w2.setCell ⟨b, 0, none⟩ v0).setCell ⟨b, 1, none⟩ v1).setCell ⟨b, 2, none⟩ v2).setCell ⟨b, 3, none⟩ v3).setCell ⟨b, 4, none⟩ v4).setCell ⟨b, 5, none⟩ v5).alloc o) b [v0, v1, v2, v3, v4, v5] t :=
  ((((((h.set (i := 0) v0 (by simp)).set (i := 1) v1 (by simp)).set (i := 2) v2 (by simp)).set (i := 3) v3 (by simp)).set (i := 4) v4 (by simp)).set (i := 5) v5 (by simp)).alloc o
theorem block_row (tmps : Array Value) (B : Nat) (t : TypeId) (x : Bl) (W : World) (h2 : tmps[4]?.getD undef = .pointer (some ⟨B, 0, none⟩)) (hr : Row W B [.int .i64 x.st, .int .i64 x.cnt, .int .i64 x.leb, .int .i64 x.used, .int .u64 x.seq, .bool x.closed] t) :
    (results Tryz.f50 tmps).run Tryz.prog W = .ok (blV x) W := by
  have c0 : W.cell? ⟨B, 0, none⟩ = _ := hr.cell (i := 0) rfl
  have c1 : W.cell? ⟨B, 1, none⟩ = _ := hr.cell (i := 1) rfl
  have c2 : W.cell? ⟨B, 2, none⟩ = _ := hr.cell (i := 2) rfl
  have c3 : W.cell? ⟨B, 3, none⟩ = _ := hr.cell (i := 3) rfl
  have c4 : W.cell? ⟨B, 4, none⟩ = _ := hr.cell (i := 4) rfl
  have c5 : W.cell? ⟨B, 5, none⟩ = _ := hr.cell (i := 5) rfl
  simp [results, Tryz.f50, go_sem, h2, c0, c1, c2, c3, c4, c5, blV]
theorem state_cases (s : Sg) : s.state = 1 ∨ s.state = 4 ∨ (s.state ≠ 1 ∧ s.state ≠ 4) := by
  unfold Sg.state
  repeat' split
  all_goals simp
set_option maxHeartbeats 4000000 in
theorem block_any (s : Sg) (mean : Int) (w : World) : Calls Tryz.prog 50 #[sgV s, .int .i64 mean] w fun e w' => e = .returned (blV (s.block mean)) ∧ Below w.heap.size w w' := by
  have cS := state_any s
  have HS : Hid (s.block mean = if s.state = 1 then ⟨1, 0, 0, 0, 0, false⟩ else if s.state = 4 then ⟨4, if s.counted then s.count else mean, s.leb, s.used, s.seq, s.closed⟩ else ⟨s.state, if s.counted then s.count else mean, 0, 0, 0, false⟩) := rfl
  have hst := state_cases s
  obtain ⟨W, hW⟩ : ∃ W, W = (w.alloc (.cells #[.bool s.marked, .bool s.blank, .bool s.counted, .int .i64 s.count, .bool s.mapped, .int .i64 s.leb, .int .u64 s.seq, .int .i64 s.pages, .int .i64 s.used, .bool s.closed] 93)).alloc (.cells #[.int .i64 0, .int .i64 0, .int .i64 0, .int .i64 0, .int .u64 0, .bool false] 51) := ⟨_, rfl⟩
  have hR : Row W w.heap.size (sgCells s) 93 := by rw [hW]; exact (Row.new w (sgCells s) _).alloc _
  have hT : Row W (w.heap.size + 1) [.int .i64 0, .int .i64 0, .int .i64 0, .int .i64 0, .int .u64 0, .bool false] 51 := by
    rw [hW]
    have := Row.new (w.alloc (.cells #[.bool s.marked, .bool s.blank, .bool s.counted, .int .i64 s.count, .bool s.mapped, .int .i64 s.leb, .int .u64 s.seq, .int .i64 s.pages, .int .i64 s.used, .bool s.closed] 93)) [.int .i64 0, .int .i64 0, .int .i64 0, .int .i64 0, .int .u64 0, .bool false] 51
    rw [World.size_alloc] at this
    exact this
  have HB : Hid (Below w.heap.size w W) := by rw [hW]; exact Below.after (below_new w _) (below_new _ _)
  have HR : Hid (Row W w.heap.size (sgCells s) 93) := hR
  have HT : Hid (Row W (w.heap.size + 1) [.int .i64 0, .int .i64 0, .int .i64 0, .int .i64 0, .int .u64 0, .bool false] 51) := hT
  have a0 : W.cell? ⟨w.heap.size, 0, none⟩ = some (.bool s.marked) := hR.cell (i := 0) rfl
  have a1 : W.cell? ⟨w.heap.size, 1, none⟩ = some (.bool s.blank) := hR.cell (i := 1) rfl
  have a2 : W.cell? ⟨w.heap.size, 2, none⟩ = some (.bool s.counted) := hR.cell (i := 2) rfl
  have a3 : W.cell? ⟨w.heap.size, 3, none⟩ = some (.int .i64 s.count) := hR.cell (i := 3) rfl
  have a4 : W.cell? ⟨w.heap.size, 4, none⟩ = some (.bool s.mapped) := hR.cell (i := 4) rfl
  have a5 : W.cell? ⟨w.heap.size, 5, none⟩ = some (.int .i64 s.leb) := hR.cell (i := 5) rfl
  have a6 : W.cell? ⟨w.heap.size, 6, none⟩ = some (.int .u64 s.seq) := hR.cell (i := 6) rfl
  have a7 : W.cell? ⟨w.heap.size, 7, none⟩ = some (.int .i64 s.pages) := hR.cell (i := 7) rfl
  have a8 : W.cell? ⟨w.heap.size, 8, none⟩ = some (.int .i64 s.used) := hR.cell (i := 8) rfl
  have a9 : W.cell? ⟨w.heap.size, 9, none⟩ = some (.bool s.closed) := hR.cell (i := 9) rfl
  clear hR hT
  unfold sgV at cS ⊢
  obtain ⟨q, hq⟩ : ∃ q, q = s.state := ⟨_, rfl⟩
  rw [← hq] at HS hst
  have cS' := cS W
  rw [← hq] at cS'
  clear cS hq
  rcases hst with rfl | rfl | ⟨n1, n4⟩
  all_goals cases hcd : s.counted
  all_goals rw [hcd] at a2 HS hW cS'
  all_goals try have e1 : (q == 1) = false := by simp [n1]
  all_goals try have e4 : (q == 4) = false := by simp [n4]
  all_goals go_enter Tryz.func50, Tryz.ntmps50
  all_goals go_wp2_with fail
  all_goals rw [← hW]
  all_goals clear hW
  all_goals go_wp2_with (go_at_call 83; (refine cS'.mono ?_; rintro e w2 ⟨rfl, hb2⟩; have hR2 := HR.out.later hb2; have hT2 := HT.out.later hb2; have HB2 : Hid (Below w.heap.size w w2) := Below.after HB.out hb2; have l0 := hR2.lt; have l1 := hT2.lt; have d2 : w2.cell? ⟨w.heap.size, 2, none⟩ = some (.bool s.counted) := hR2.cell (i := 2) rfl; have d3 : w2.cell? ⟨w.heap.size, 3, none⟩ = some (.int .i64 s.count) := hR2.cell (i := 3) rfl; have d5 : w2.cell? ⟨w.heap.size, 5, none⟩ = some (.int .i64 s.leb) := hR2.cell (i := 5) rfl; have d6 : w2.cell? ⟨w.heap.size, 6, none⟩ = some (.int .u64 s.seq) := hR2.cell (i := 6) rfl; have d8 : w2.cell? ⟨w.heap.size, 8, none⟩ = some (.int .i64 s.used) := hR2.cell (i := 8) rfl; have d9 : w2.cell? ⟨w.heap.size, 9, none⟩ = some (.bool s.closed) := hR2.cell (i := 9) rfl; rw [hcd] at d2; have t0 := hT2.frozen 0; have t1 := hT2.frozen 1; have t2 := hT2.frozen 2; have t3 := hT2.frozen 3; have t4 := hT2.frozen 4; have t5 := hT2.frozen 5; have u0 : w2.cell? ⟨w.heap.size + 1, 0, none⟩ = some (.int .i64 0) := hT2.cell (i := 0) rfl; have u1 : w2.cell? ⟨w.heap.size + 1, 1, none⟩ = some (.int .i64 0) := hT2.cell (i := 1) rfl; have u2 : w2.cell? ⟨w.heap.size + 1, 2, none⟩ = some (.int .i64 0) := hT2.cell (i := 2) rfl; have u3 : w2.cell? ⟨w.heap.size + 1, 3, none⟩ = some (.int .i64 0) := hT2.cell (i := 3) rfl; have u4 : w2.cell? ⟨w.heap.size + 1, 4, none⟩ = some (.int .u64 0) := hT2.cell (i := 4) rfl; have u5 : w2.cell? ⟨w.heap.size + 1, 5, none⟩ = some (.bool false) := hT2.cell (i := 5) rfl; have n5 : ¬ w2.heap.size = w.heap.size := (by omega); have n6 : ¬ w.heap.size = w2.heap.size := (by omega); have n7 : ¬ w2.heap.size = w.heap.size + 1 := (by omega); have n8 : ¬ w.heap.size + 1 = w2.heap.size := (by omega); have HT2 : Hid (Row w2 (w.heap.size + 1) [.int .i64 0, .int .i64 0, .int .i64 0, .int .i64 0, .int .u64 0, .bool false] 51) := hT2; clear hb2 hR2 hT2))
  all_goals try (go_region; go_wp2; go_region; go_wp2)
  all_goals
    refine bodyPost_ret (v := blV (s.block mean)) ?_ rfl ⟨rfl, ?_⟩
    · rw [HS.out]
      first
        | exact block_row _ _ _ _ _ rfl (six_row HT2.out _ _ _ _ _ _ _)
        | (simp only [n1, n4, if_false]; exact block_row _ _ _ _ _ rfl (six_row HT2.out _ _ _ _ _ _ _))
    · first
        | exact six_below HB2.out _ _ _ _ _ _ _
        | exact (six_below HB2.out _ _ _ _ _ _ _).drew.drew
end Go.Proofs.YtccfalafphjkpaaGreatDoor
