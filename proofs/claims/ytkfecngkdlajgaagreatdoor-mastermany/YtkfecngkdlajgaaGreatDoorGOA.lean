/-
  What state, block, spoilt and meanCount of package scan answer.
  What meanCount of package scan answers.
-/
import Derived.Test.YtkfecngkdlajgaaGreatDoorGO
import Derived.Deep.RegionWith
namespace Go.Proofs.YtkfecngkdlajgaaGreatDoor
open Go.RowKit
set_option maxRecDepth 10000

/-- What a block's own pages tell. -/
structure Sg where
  marked : Bool
  blank : Bool
  counted : Bool
  count : Int
  mapped : Bool
  leb : Int
  seq : Int
  pages : Int
  used : Int
  closed : Bool
def sgCells (s : Sg) : List Value := [.bool s.marked, .bool s.blank, .bool s.counted, .int .i64 s.count, .bool s.mapped, .int .i64 s.leb, .int .u64 s.seq, .int .i64 s.pages, .int .i64 s.used, .bool s.closed]
def sgV (s : Sg) : Value := .agg #[.bool s.marked, .bool s.blank, .bool s.counted, .int .i64 s.count, .bool s.mapped, .int .i64 s.leb, .int .u64 s.seq, .int .i64 s.pages, .int .i64 s.used, .bool s.closed]
theorem sg_len (s : Sg) : (sgCells s).length = 10 := rfl
/-- A sight's state. -/
def Sg.state (s : Sg) : Int := if s.marked then 1 else if s.counted && s.blank then 2 else if s.counted && s.mapped && decide (s.pages ≤ s.used) then 4 else 3
/-- What is told of a block. -/
def Sg.block (s : Sg) (mean : Int) : Bl :=
  if s.state = 1 then ⟨1, 0, 0, 0, 0, false⟩
  else if s.state = 4 then ⟨4, if s.counted then s.count else mean, s.leb, s.used, s.seq, s.closed⟩
  else ⟨s.state, if s.counted then s.count else mean, 0, 0, 0, false⟩
/-- A copy that is not needed. -/
def spoilt (b : Bl) : Bl := ⟨3, b.cnt, 0, 0, 0, false⟩

set_option maxHeartbeats 2000000 in
theorem spoilt_any (b : Bl) (w : World) : Calls Tryz.prog 160 #[blV b] w fun e w' => e = .returned (blV (spoilt b)) ∧ Below w.heap.size w w' := by
  unfold blV
  go_enter Tryz.func160, Tryz.ntmps160
  go_wp2
  refine bodyPost_ret (v := .agg #[.int .i64 3, .int .i64 b.cnt, .int .i64 0, .int .i64 0, .int .u64 0, .bool false]) ?_ rfl ⟨rfl, ?_⟩
  · simp [results, Tryz.f160, go_sem]
  · exact Below.after (below_new w _) (below_new _ _)
set_option maxHeartbeats 2000000 in
theorem state_any (s : Sg) (w : World) : Calls Tryz.prog 161 #[sgV s] w fun e w' => e = .returned (.int .i64 s.state) ∧ Below w.heap.size w w' := by
  have HS : Hid (s.state = if s.marked then 1 else if s.counted && s.blank then 2 else if s.counted && s.mapped && decide (s.pages ≤ s.used) then 4 else 3) := rfl
  unfold sgV
  obtain ⟨s0, s1, s2, s3, s4, s5, s6, s7, s8, s9⟩ := s
  simp only at HS ⊢
  generalize hq : Sg.state _ = q at HS ⊢
  clear hq
  cases s0 with
  | true =>
    go_enter Tryz.func161, Tryz.ntmps161
    go_wp2
    go_ret
    exact ⟨by rw [HS.out]; rfl, below_new w _⟩
  | false =>
    cases s2 with
    | false =>
      go_enter Tryz.func161, Tryz.ntmps161
      go_wp2
      go_ret
      exact ⟨by rw [HS.out]; rfl, below_new w _⟩
    | true =>
      cases s1 with
      | true =>
        go_enter Tryz.func161, Tryz.ntmps161
        go_wp2
        go_ret
        exact ⟨by rw [HS.out]; rfl, below_new w _⟩
      | false =>
        cases s4 with
        | false =>
          go_enter Tryz.func161, Tryz.ntmps161
          go_wp2
          go_ret
          exact ⟨by rw [HS.out]; rfl, below_new w _⟩
        | true =>
          by_cases hp : s7 ≤ s8
          · go_enter Tryz.func161, Tryz.ntmps161
            go_wp2
            go_ret
            exact ⟨by rw [HS.out]; simp [hp], below_new w _⟩
          · go_enter Tryz.func161, Tryz.ntmps161
            go_wp2
            go_ret
            exact ⟨by rw [HS.out]; simp [hp], below_new w _⟩
theorem six_below {w w2 : World} (h : Below w.heap.size w w2) (v0 v1 v2 v3 v4 v5 : Value) (o : Obj) :
    Below w.heap.size w (((((((w2.setCell ⟨w.heap.size + 1, 0, none⟩ v0).setCell ⟨w.heap.size + 1, 1, none⟩ v1).setCell ⟨w.heap.size + 1, 2, none⟩ v2).setCell ⟨w.heap.size + 1, 3, none⟩ v3).setCell ⟨w.heap.size + 1, 4, none⟩ v4).setCell ⟨w.heap.size + 1, 5, none⟩ v5).alloc o) := by
  refine Below.alloc ?_ ?_ o
  · exact (((((h.setCell (by simp) _).setCell (by simp) _).setCell (by simp) _).setCell (by simp) _).setCell (by simp) _).setCell (by simp) _
  · have := h.size
    simpa [World.setCell] using this
theorem six_row {w2 : World} {b : Nat} {t : TypeId} {z0 z1 z2 z3 z4 z5 : Value} (h : Row w2 b [z0, z1, z2, z3, z4, z5] t) (v0 v1 v2 v3 v4 v5 : Value) (o : Obj) :
    Row (((((((w2.setCell ⟨b, 0, none⟩ v0).setCell ⟨b, 1, none⟩ v1).setCell ⟨b, 2, none⟩ v2).setCell ⟨b, 3, none⟩ v3).setCell ⟨b, 4, none⟩ v4).setCell ⟨b, 5, none⟩ v5).alloc o) b [v0, v1, v2, v3, v4, v5] t :=
  ((((((h.set (i := 0) v0 (by simp)).set (i := 1) v1 (by simp)).set (i := 2) v2 (by simp)).set (i := 3) v3 (by simp)).set (i := 4) v4 (by simp)).set (i := 5) v5 (by simp)).alloc o
theorem block_row (tmps : Array Value) (B : Nat) (t : TypeId) (x : Bl) (W : World) (h2 : tmps[4]?.getD undef = .pointer (some ⟨B, 0, none⟩)) (hr : Row W B [.int .i64 x.st, .int .i64 x.cnt, .int .i64 x.leb, .int .i64 x.used, .int .u64 x.seq, .bool x.closed] t) :
    (results Tryz.f120 tmps).run Tryz.prog W = .ok (blV x) W := by
  have c0 : W.cell? ⟨B, 0, none⟩ = _ := hr.cell (i := 0) rfl
  have c1 : W.cell? ⟨B, 1, none⟩ = _ := hr.cell (i := 1) rfl
  have c2 : W.cell? ⟨B, 2, none⟩ = _ := hr.cell (i := 2) rfl
  have c3 : W.cell? ⟨B, 3, none⟩ = _ := hr.cell (i := 3) rfl
  have c4 : W.cell? ⟨B, 4, none⟩ = _ := hr.cell (i := 4) rfl
  have c5 : W.cell? ⟨B, 5, none⟩ = _ := hr.cell (i := 5) rfl
  simp [results, Tryz.f120, go_sem, h2, c0, c1, c2, c3, c4, c5, blV]
theorem state_cases (s : Sg) : s.state = 1 ∨ s.state = 4 ∨ (s.state ≠ 1 ∧ s.state ≠ 4) := by
  unfold Sg.state
  repeat' split
  all_goals simp
set_option maxHeartbeats 4000000 in
theorem block_any (s : Sg) (mean : Int) (w : World) : Calls Tryz.prog 120 #[sgV s, .int .i64 mean] w fun e w' => e = .returned (blV (s.block mean)) ∧ Below w.heap.size w w' := by
  have cS := state_any s
  have HS : Hid (s.block mean = if s.state = 1 then ⟨1, 0, 0, 0, 0, false⟩ else if s.state = 4 then ⟨4, if s.counted then s.count else mean, s.leb, s.used, s.seq, s.closed⟩ else ⟨s.state, if s.counted then s.count else mean, 0, 0, 0, false⟩) := rfl
  have hst := state_cases s
  obtain ⟨W, hW⟩ : ∃ W, W = (w.alloc (.cells #[.bool s.marked, .bool s.blank, .bool s.counted, .int .i64 s.count, .bool s.mapped, .int .i64 s.leb, .int .u64 s.seq, .int .i64 s.pages, .int .i64 s.used, .bool s.closed] 200)).alloc (.cells #[.int .i64 0, .int .i64 0, .int .i64 0, .int .i64 0, .int .u64 0, .bool false] 156) := ⟨_, rfl⟩
  have hR : Row W w.heap.size (sgCells s) 200 := by rw [hW]; exact (Row.new w (sgCells s) _).alloc _
  have hT : Row W (w.heap.size + 1) [.int .i64 0, .int .i64 0, .int .i64 0, .int .i64 0, .int .u64 0, .bool false] 156 := by
    rw [hW]
    have := Row.new (w.alloc (.cells #[.bool s.marked, .bool s.blank, .bool s.counted, .int .i64 s.count, .bool s.mapped, .int .i64 s.leb, .int .u64 s.seq, .int .i64 s.pages, .int .i64 s.used, .bool s.closed] 200)) [.int .i64 0, .int .i64 0, .int .i64 0, .int .i64 0, .int .u64 0, .bool false] 156
    rw [World.size_alloc] at this
    exact this
  have HB : Hid (Below w.heap.size w W) := by rw [hW]; exact Below.after (below_new w _) (below_new _ _)
  have HR : Hid (Row W w.heap.size (sgCells s) 200) := hR
  have HT : Hid (Row W (w.heap.size + 1) [.int .i64 0, .int .i64 0, .int .i64 0, .int .i64 0, .int .u64 0, .bool false] 156) := hT
  have a0 : W.cell? ⟨w.heap.size, 0, none⟩ = some (.bool s.marked) := hR.cell (i := 0) rfl
  have a1 : W.cell? ⟨w.heap.size, 1, none⟩ = some (.bool s.blank) := hR.cell (i := 1) rfl
  have a2 : W.cell? ⟨w.heap.size, 2, none⟩ = some (.bool s.counted) := hR.cell (i := 2) rfl
  have a3 : W.cell? ⟨w.heap.size, 3, none⟩ = some (.int .i64 s.count) := hR.cell (i := 3) rfl
  have a4 : W.cell? ⟨w.heap.size, 4, none⟩ = some (.bool s.mapped) := hR.cell (i := 4) rfl
  have a5 : W.cell? ⟨w.heap.size, 5, none⟩ = some (.int .i64 s.leb) := hR.cell (i := 5) rfl
  have a6 : W.cell? ⟨w.heap.size, 6, none⟩ = some (.int .u64 s.seq) := hR.cell (i := 6) rfl
  have a7 : W.cell? ⟨w.heap.size, 7, none⟩ = some (.int .i64 s.pages) := hR.cell (i := 7) rfl
  have a8 : W.cell? ⟨w.heap.size, 8, none⟩ = some (.int .i64 s.used) := hR.cell (i := 8) rfl
  have a9 : W.cell? ⟨w.heap.size, 9, none⟩ = some (.bool s.closed) := hR.cell (i := 9) rfl
  clear hR hT
  unfold sgV at cS ⊢
  obtain ⟨q, hq⟩ : ∃ q, q = s.state := ⟨_, rfl⟩
  rw [← hq] at HS hst
  have cS' := cS W
  rw [← hq] at cS'
  clear cS hq
  rcases hst with rfl | rfl | ⟨n1, n4⟩
  all_goals cases hcd : s.counted
  all_goals rw [hcd] at a2 HS hW cS'
  all_goals try have e1 : (q == 1) = false := by simp [n1]
  all_goals try have e4 : (q == 4) = false := by simp [n4]
  all_goals go_enter Tryz.func120, Tryz.ntmps120
  all_goals go_wp2_with fail
  all_goals rw [← hW]
  all_goals clear hW
  all_goals go_wp2_with (go_at_call 161; (refine cS'.mono ?_; rintro e w2 ⟨rfl, hb2⟩; have hR2 := HR.out.later hb2; have hT2 := HT.out.later hb2; have HB2 : Hid (Below w.heap.size w w2) := Below.after HB.out hb2; have l0 := hR2.lt; have l1 := hT2.lt; have d2 : w2.cell? ⟨w.heap.size, 2, none⟩ = some (.bool s.counted) := hR2.cell (i := 2) rfl; have d3 : w2.cell? ⟨w.heap.size, 3, none⟩ = some (.int .i64 s.count) := hR2.cell (i := 3) rfl; have d5 : w2.cell? ⟨w.heap.size, 5, none⟩ = some (.int .i64 s.leb) := hR2.cell (i := 5) rfl; have d6 : w2.cell? ⟨w.heap.size, 6, none⟩ = some (.int .u64 s.seq) := hR2.cell (i := 6) rfl; have d8 : w2.cell? ⟨w.heap.size, 8, none⟩ = some (.int .i64 s.used) := hR2.cell (i := 8) rfl; have d9 : w2.cell? ⟨w.heap.size, 9, none⟩ = some (.bool s.closed) := hR2.cell (i := 9) rfl; rw [hcd] at d2; have t0 := hT2.frozen 0; have t1 := hT2.frozen 1; have t2 := hT2.frozen 2; have t3 := hT2.frozen 3; have t4 := hT2.frozen 4; have t5 := hT2.frozen 5; have u0 : w2.cell? ⟨w.heap.size + 1, 0, none⟩ = some (.int .i64 0) := hT2.cell (i := 0) rfl; have u1 : w2.cell? ⟨w.heap.size + 1, 1, none⟩ = some (.int .i64 0) := hT2.cell (i := 1) rfl; have u2 : w2.cell? ⟨w.heap.size + 1, 2, none⟩ = some (.int .i64 0) := hT2.cell (i := 2) rfl; have u3 : w2.cell? ⟨w.heap.size + 1, 3, none⟩ = some (.int .i64 0) := hT2.cell (i := 3) rfl; have u4 : w2.cell? ⟨w.heap.size + 1, 4, none⟩ = some (.int .u64 0) := hT2.cell (i := 4) rfl; have u5 : w2.cell? ⟨w.heap.size + 1, 5, none⟩ = some (.bool false) := hT2.cell (i := 5) rfl; have n5 : ¬ w2.heap.size = w.heap.size := (by omega); have n6 : ¬ w.heap.size = w2.heap.size := (by omega); have n7 : ¬ w2.heap.size = w.heap.size + 1 := (by omega); have n8 : ¬ w.heap.size + 1 = w2.heap.size := (by omega); have HT2 : Hid (Row w2 (w.heap.size + 1) [.int .i64 0, .int .i64 0, .int .i64 0, .int .i64 0, .int .u64 0, .bool false] 156) := hT2; clear hb2 hR2 hT2))
  all_goals try (go_region; go_wp2; go_region; go_wp2)
  all_goals
    refine bodyPost_ret (v := blV (s.block mean)) ?_ rfl ⟨rfl, ?_⟩
    · rw [HS.out]
      first
        | exact block_row _ _ _ _ _ rfl (six_row HT2.out _ _ _ _ _ _ _)
        | (simp only [n1, n4, if_false]; exact block_row _ _ _ _ _ rfl (six_row HT2.out _ _ _ _ _ _ _))
    · first
        | exact six_below HB2.out _ _ _ _ _ _ _
        | exact (six_below HB2.out _ _ _ _ _ _ _).drew.drew
end Go.Proofs.YtkfecngkdlajgaaGreatDoor
namespace Go.Proofs.YtkfecngkdlajgaaGreatDoor
open Go.RowKit
set_option maxRecDepth 10000

/-- The cells of a sight at a place. -/
structure SgAt (w : World) (b off : Nat) (x : Sg) : Prop where
  c0 : w.cell? ⟨b, off, none⟩ = some (.bool x.marked)
  c1 : w.cell? ⟨b, off + 1, none⟩ = some (.bool x.blank)
  c2 : w.cell? ⟨b, off + 2, none⟩ = some (.bool x.counted)
  c3 : w.cell? ⟨b, off + 3, none⟩ = some (.int .i64 x.count)
  c4 : w.cell? ⟨b, off + 4, none⟩ = some (.bool x.mapped)
  c5 : w.cell? ⟨b, off + 5, none⟩ = some (.int .i64 x.leb)
  c6 : w.cell? ⟨b, off + 6, none⟩ = some (.int .u64 x.seq)
  c7 : w.cell? ⟨b, off + 7, none⟩ = some (.int .i64 x.pages)
  c8 : w.cell? ⟨b, off + 8, none⟩ = some (.int .i64 x.used)
  c9 : w.cell? ⟨b, off + 9, none⟩ = some (.bool x.closed)
theorem SgAt.below {w w' : World} {n b off : Nat} {x : Sg} (h : SgAt w b off x) (hb : Below n w w') (hn : b < n) : SgAt w' b off x := by
  have key : ∀ k v, w.cell? ⟨b, k, none⟩ = some v → w'.cell? ⟨b, k, none⟩ = some v := fun k v e => by rw [hb.cell (p := ⟨b, k, none⟩) hn]; exact e
  exact ⟨key _ _ h.c0, key _ _ h.c1, key _ _ h.c2, key _ _ h.c3, key _ _ h.c4, key _ _ h.c5, key _ _ h.c6, key _ _ h.c7, key _ _ h.c8, key _ _ h.c9⟩
/-- Sights, as they lie. -/
def SRow (w : World) (a : Option Addr) (l : List Sg) : Prop :=
  l = [] ∨ ∃ b off, a = some ⟨b, off, none⟩ ∧ b < w.heap.size ∧ ∀ i x, l[i]? = some x → SgAt w b (off + i * 10) x
theorem SRow.later {w w' : World} {a : Option Addr} {l : List Sg} (h : SRow w a l) (hb : Below w.heap.size w w') : SRow w' a l := by
  rcases h with h | ⟨b, off, e, hl, hc⟩
  · exact .inl h
  · exact .inr ⟨b, off, e, Nat.lt_of_lt_of_le hl hb.size, fun i x hx => (hc i x hx).below hb hl⟩
theorem SRow.kept {S : Nat → Prop} {w w' : World} {a : Option Addr} {l : List Sg} (h : SRow w a l) (hk : Kept S w w') (hs : ∀ b off, a = some ⟨b, off, none⟩ → ¬ S b) : SRow w' a l := by
  rcases h with h | ⟨b, off, e, hl, hc⟩
  · exact .inl h
  · have key : ∀ k v, w.cell? ⟨b, k, none⟩ = some v → w'.cell? ⟨b, k, none⟩ = some v := fun k v e' => by rw [World.cell?_of_block (a := ⟨b, k, none⟩) (hk.block b hl (hs b off e))]; exact e'
    refine .inr ⟨b, off, e, Nat.lt_of_lt_of_le hl hk.size, fun i x hx => ?_⟩
    have h := hc i x hx
    exact ⟨key _ _ h.c0, key _ _ h.c1, key _ _ h.c2, key _ _ h.c3, key _ _ h.c4, key _ _ h.c5, key _ _ h.c6, key _ _ h.c7, key _ _ h.c8, key _ _ h.c9⟩
/-- The counts that are told: their sum, and how many. -/
def tells (s : Sg) : Bool := s.counted && !s.marked
def sumS : List Sg → Int
  | [] => 0
  | s :: l => (if tells s then s.count else 0) + sumS l
def manyS : List Sg → Int
  | [] => 0
  | s :: l => (if tells s then 1 else 0) + manyS l
def meanS (l : List Sg) : Int := if manyS l = 0 then 0 else sumS l / manyS l
theorem sumS_snoc (x : Sg) : ∀ l : List Sg, sumS (l ++ [x]) = sumS l + (if tells x then x.count else 0)
  | [] => by simp [sumS]
  | s :: l => by simp only [List.cons_append, sumS, sumS_snoc x l]; omega
theorem manyS_snoc (x : Sg) : ∀ l : List Sg, manyS (l ++ [x]) = manyS l + (if tells x then 1 else 0)
  | [] => by simp [manyS]
  | s :: l => by simp only [List.cons_append, manyS, manyS_snoc x l]; omega
theorem take_snoc {α : Type} {l : List α} {k : Nat} {x : α} (h : l[k]? = some x) : l.take (k + 1) = l.take k ++ [x] := by
  obtain ⟨h1, h2⟩ := List.getElem?_eq_some_iff.1 h
  rw [List.take_succ_eq_append_getElem h1, h2]

set_option maxHeartbeats 4000000 in
theorem mean_any (a : Option Addr) (m cap : Nat) (l : List Sg) (w : World) (hm : m = l.length) (h256 : m ≤ 256) (hc : ∀ s ∈ l, 0 ≤ s.count ∧ s.count ≤ 2147483647) (hr : SRow w a l) :
    Calls Tryz.prog 118 #[.slice a m cap] w fun e w' => e = .returned (.int .i64 (meanS l)) ∧ Below w.heap.size w w' := by
  have HM : Hid (m = l.length) := hm
  have HC : Hid (∀ s ∈ l, 0 ≤ s.count ∧ s.count ≤ 2147483647) := hc
  have HR : Hid (SRow w a l) := hr
  clear hm hc hr
  go_enter Tryz.func118, Tryz.ntmps118
  go_wp2
  go_loopw [3, 4, 9] (fun s t i wr => ∃ (k : Nat) (su ma : Int), i = .int .i64 (k : Int) ∧ k ≤ m ∧ s = .int .i64 su ∧ t = .int .i64 ma ∧ 0 ≤ su ∧ su ≤ (k : Int) * 2147483647 ∧ 0 ≤ ma ∧ ma ≤ k ∧ Hid (su = sumS (l.take k) ∧ ma = manyS (l.take k)) ∧ Hid (Below w.heap.size w wr)) (fun _ _ i _ => m - (intOf i).toNat)
  case atStart => exact ⟨0, 0, 0, rfl, by omega, rfl, rfl, by omega, by omega, by omega, by omega, by show _ ∧ _; simp [sumS, manyS], Below.refl _ _⟩
  case round =>
    obtain ⟨k, su, ma, rfl, hk, rfl, rfl, q1, q2, q3, q4, HS, HB⟩ := hrel
    by_cases hlt : k < m
    · have hkl : k < l.length := by have := HM.out; omega
      obtain ⟨b, off, rfl, hbl, hcs⟩ : ∃ b off, a = some ⟨b, off, none⟩ ∧ b < w.heap.size ∧ ∀ i x, l[i]? = some x → SgAt w b (off + i * 10) x := by
        rcases HR.out with e | h
        · subst e; simp at hkl
        · exact h
      obtain ⟨x, hx⟩ : ∃ x, l[k]? = some x := ⟨_, List.getElem?_eq_getElem hkl⟩
      obtain ⟨g0, g1, g2, g3, g4, g5, g6, g7, g8, g9⟩ := (hcs k x hx).below HB.out hbl
      have hxc := HC.out x (List.mem_of_getElem? hx)
      have hbw : b < wr.heap.size := World.block_lt_of_cell? wr _ g0
      have HT : Hid (sumS (l.take (k + 1)) = su + (if tells x then x.count else 0) ∧ manyS (l.take (k + 1)) = ma + (if tells x then 1 else 0)) := by
        show _ ∧ _
        rw [take_snoc hx, sumS_snoc, manyS_snoc, HS.out.1, HS.out.2]
        exact ⟨rfl, rfl⟩
      have HU : Hid (tells x = (x.counted && !x.marked)) := rfl
      obtain ⟨x0, x1, x2, x3, x4, x5, x6, x7, x8, x9⟩ := x
      simp only at g0 g1 g2 g3 g4 g5 g6 g7 g8 g9 hxc HT HU
      generalize htl : tells _ = tl at HT HU
      have HBn : Hid (∀ o, Below w.heap.size w (wr.alloc o)) := fun o => Below.after HB.out (below_new _ _)
      clear hx hcs htl
      cases x2 with
      | false =>
        have e1 : tl = false := HU.out
        subst e1
        go_wp2
        go_roundw
        case rel => exact ⟨k + 1, su, ma, by go_num, by omega, rfl, rfl, by omega, by omega, by omega, by omega, by show _ ∧ _; rw [HT.out.1, HT.out.2]; simp, HBn.out _⟩
        case measure => simp [intOf]; omega
      | true =>
        cases x0 with
        | true =>
          have e1 : tl = false := HU.out
          subst e1
          go_wp2
          go_roundw
          case rel => exact ⟨k + 1, su, ma, by go_num, by omega, rfl, rfl, by omega, by omega, by omega, by omega, by show _ ∧ _; rw [HT.out.1, HT.out.2]; simp, HBn.out _⟩
          case measure => simp [intOf]; omega
        | false =>
          have e1 : tl = true := HU.out
          subst e1
          go_wp2
          go_roundw
          case rel => exact ⟨k + 1, su + x3, ma + 1, by go_num, by omega, by go_num, by go_num, by omega, by omega, by omega, by omega, by show _ ∧ _; rw [HT.out.1, HT.out.2]; simp, HBn.out _⟩
          case measure => simp [intOf]; omega
    · have ht : l.take k = l := List.take_of_length_le (by have := HM.out; omega)
      have HS2 : Hid (su = sumS l ∧ ma = manyS l) := by have := HS.out; rw [ht] at this; exact this
      have HM2 : Hid (meanS l = if ma = 0 then 0 else su / ma) := by show _ = _; unfold meanS; rw [← HS2.out.1, ← HS2.out.2]
      clear ht HS
      by_cases h0 : ma = 0
      · subst h0
        go_wp2
        go_ret
        exact ⟨by rw [HM2.out]; rfl, HB.out⟩
      · have e0 : (ma == 0) = false := by simp [h0]
        have hd : su.tdiv ma = su / ma := Int.tdiv_eq_ediv_of_nonneg q1
        go_wp2
        go_ret
        refine ⟨?_, HB.out⟩
        rw [HM2.out, if_neg h0]
        have h1 := Int.ediv_nonneg q1 q3
        have h2 := Int.ediv_le_self ma q1
        have hw : wrap64 (su / ma) = su / ma := by unfold wrap64; omega
        show Ending.returned (.int .i64 (wrap64 (su / ma))) = _
        rw [hw]
end Go.Proofs.YtkfecngkdlajgaaGreatDoor
