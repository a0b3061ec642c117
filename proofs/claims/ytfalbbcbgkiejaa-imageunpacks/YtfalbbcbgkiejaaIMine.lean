/-
  The document's image as the code's: mine; and what Size answers.
-/
import Derived.Test.YtfalbbcbgkiejaaISlots
namespace Go.Proofs.Ytfalbbcbgkiejaa
open Go.RowKit M
set_option maxRecDepth 10000

theorem two_boxes (w : World) (c1 c2 : List Value) (t1 t2 : TypeId) (W : World) (hW : W = (w.alloc (.cells c1.toArray t1)).alloc (.cells c2.toArray t2)) :
    Row W w.heap.size c1 t1 ∧ Row W (w.heap.size + 1) c2 t2 ∧ Below w.heap.size w W := by
  subst hW
  have h := Row.new (w.alloc (.cells c1.toArray t1)) c2 t2
  refine ⟨(Row.new w c1 t1).alloc _, ?_, Below.after (below_new _ _) (below_new _ _)⟩
  simpa using h
theorem undrew {w w1 : World} (h : Below w.drew.heap.size w.drew w1) : Below w.heap.size w w1 := ⟨h.os, h.tape, h.output, h.size, h.block⟩

theorem results_cell1 {fn : Func} {p : Tmp} {ty : TypeId} (h : fn.results = #[.cell p ty]) (tmps : Array Value) (P : Program) (w : World) :
    (results fn tmps).run P w = ((asAddr (tmps.getD p undef)).run P w).andThen fun a w₁ => (loadVar ty a).run P w₁ := by
  simp only [results, h]
  simp [Sem.run_bind, Result.andThen]
theorem cell_set_other {w : World} {p q : Addr} (v : Value) (h : q.block ≠ p.block) : (w.setCell p v).cell? q = w.cell? q := World.cell?_of_block (Below.heap_setCell _ _ _ q.block h)
theorem ZArg.set {w : World} {a : Option Addr} {n c : Nat} {l : List St} (h : ZArg w a n c l) (p : Addr) (v : Value) (hne : ∀ b off, a = some ⟨b, off, none⟩ → b ≠ p.block) : ZArg (w.setCell p v) a n c l := by
  refine ⟨h.len_eq, h.le, h.max, h.keys, ?_⟩
  rcases h.row with e | ⟨b, off, ha, hc⟩
  · exact .inl e
  · have hb := hne b off ha
    refine .inr ⟨b, off, ha, fun i y hy => ?_⟩
    obtain ⟨q0, q1, q2, q3⟩ := hc i y hy
    exact ⟨(cell_set_other v hb).trans q0, (cell_set_other v hb).trans q1, (cell_set_other v hb).trans q2, (cell_set_other v hb).trans q3⟩
set_option maxHeartbeats 2000000 in
theorem mine_any (level : Int) (a : Option Addr) (len cap : Nat) (l : List St) (w : World) (h : ZArg w a len cap l) (hl : len * 40 ≤ 140737488351232) :
    Calls Try.prog 10 #[.agg #[.int .i64 level, .slice a len cap]] w fun e w' => MPost w level l e w' := by
  have hs := fun W (hb : Below w.heap.size w W) => slots_any a len cap l W (h.later hb) hl
  have HK : Hid (∀ s ∈ l, s.key.size ≤ maxLen) := h.keys
  obtain ⟨W, hW⟩ : ∃ W, W = (w.alloc (.cells #[.int .i64 level, .slice a len cap] 24)).alloc (.cells #[.int .i64 0, .slice none 0 0] 31) := ⟨_, rfl⟩
  obtain ⟨hR1, hR2, hBW⟩ := two_boxes w [.int .i64 level, .slice a len cap] [.int .i64 0, .slice none 0 0] 24 31 W hW
  have x0 : W.cell? ⟨w.heap.size, 0, none⟩ = some (.int .i64 level) := hR1.cell (i := 0) rfl
  have x1 : W.cell? ⟨w.heap.size, 1, none⟩ = some (.slice a len cap) := hR1.cell (i := 1) rfl
  have HBW : Hid (Below w.heap.size w W) := hBW
  have HR1 : Hid (Row W w.heap.size [.int .i64 level, .slice a len cap] 24) := hR1
  have HR2 : Hid (Row W (w.heap.size + 1) [.int .i64 0, .slice none 0 0] 31) := hR2
  clear hR1 hR2 hBW h
  go_enter Try.func10, Try.ntmps10
  go_wp2_with fail
  rw [← hW]
  clear hW
  go_region_with (go_at_call 23; refine (hs _ HBW.out.drew).mono ?_; rintro e w1 ⟨a1, n1, c1, rfl, hn1, hz⟩; have hzb := undrew hz.2; have HB1 : Hid (Below w.heap.size w w1) := bafter HBW.out hzb; have m0 : w1.cell? ⟨w.heap.size + 1, 0, none⟩ = _ := (HR2.out.later hzb).cell (i := 0) rfl; have m1 : w1.cell? ⟨w.heap.size + 1, 1, none⟩ = _ := (HR2.out.later hzb).cell (i := 1) rfl; have f0 := (HR2.out.later hzb).frozen 0; have f1 := (HR2.out.later hzb).frozen 1; have y0 : w1.cell? ⟨w.heap.size, 0, none⟩ = _ := (HR1.out.later hzb).cell (i := 0) rfl; have HA1 : Hid (ZArg w1 a1 n1 c1 l) := hz.arg hn1 HK.out; have HN1 : Hid (∀ b off, a1 = some ⟨b, off, none⟩ → b ≠ w.heap.size + 1) := (fun b off e => by have h1 := (hz.1.lt b (by rw [e]; rfl)).1; have h2 := HR2.out.lt; simp at h1; omega); clear hz hn1 hzb)
  all_goals
    go_wp2
    (try simp only [Exit.inBlock, Exit.then])
    refine bodyPost_ret (v := .agg #[.int .i64 level, .slice a1 n1 c1]) ?_ rfl ⟨a1, n1, c1, rfl, (HA1.out.set _ _ HN1.out).set _ _ HN1.out, ((HA1.out.set _ _ HN1.out).set _ _ HN1.out).row, (HB1.out.setCell (by simp) _).setCell (by simp) _⟩
    rw [results_cell1 rfl]
    go_simp

/-- What Size answers. -/
def sizeN (level : Int) (l : List St) : Nat := if imgOk level l then 9 + pkN l else 0
set_option maxHeartbeats 1000000 in
theorem size_any (level : Int) (a : Option Addr) (len cap : Nat) (l : List St) (w : World) (h : ZArg w a len cap l) :
    Calls Try.prog 14 #[.agg #[.int .i64 level, .slice a len cap]] w fun e w' => e = .returned (.int .i64 (sizeN level l : Nat)) ∧ Below w.heap.size w w' := by
  have hr := fun W (hb : Below w.heap.size w W) => right_any level a len cap l W (h.later hb)
  unfold sizeN
  cases hi : imgOk level l with
  | false =>
    rw [hi] at hr
    clear h hi
    go_enter Try.func14, Try.ntmps14
    go_wp2_with (go_at_call 12; refine (hr _ (below_new _ _)).mono ?_; rintro e w1 ⟨rfl, hb⟩; have HB1 : Hid (Below w.heap.size w w1) := bafter (below_new _ _) hb; clear hb)
    go_ret
    exact ⟨rfl, HB1.out⟩
  | true =>
    rw [hi] at hr
    obtain ⟨_, ⟨_, i3⟩, i4⟩ := imgOk_iff hi
    have hpk := pkN_le (rises_mem i4)
    have hf := fun W (hb : Below w.heap.size w W) => framed_any a len cap l W (h.later hb) (by omega)
    rw [if_pos rfl]
    obtain ⟨P, hP⟩ : ∃ P, P = 9 + pkN l := ⟨_, rfl⟩
    rw [← hP] at hf ⊢
    clear h hi hP hpk i3 i4
    go_enter Try.func14, Try.ntmps14
    go_wp2_with (first
      | (go_at_call 12; refine (hr _ (below_new _ _)).mono ?_; rintro e w1 ⟨rfl, hb⟩; have HX1 : Hid (Row w1 w.heap.size [.int .i64 level, .slice a len cap] 31) := (Row.new w [.int .i64 level, .slice a len cap] 31).later hb; have HB1 : Hid (Below w.heap.size w w1) := bafter (below_new _ _) hb; have x1 : w1.cell? ⟨w.heap.size, 1, none⟩ = _ := HX1.out.cell (i := 1) rfl; clear hb)
      | (go_at_call 39; refine (hf _ HB1.out).mono ?_; rintro e w2 ⟨rfl, hb⟩; have HB2 : Hid (Below w.heap.size w w2) := bafter HB1.out hb; clear hb))
    go_ret
    exact ⟨rfl, HB2.out⟩
end Go.Proofs.Ytfalbbcbgkiejaa
