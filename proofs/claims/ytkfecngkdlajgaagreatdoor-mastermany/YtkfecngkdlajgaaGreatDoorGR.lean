/-
  What Least and Good of package scan answer.
  What Good of package scan answers.
-/
import Derived.Test.YtkfecngkdlajgaaGreatDoorGL
import Derived.BigQuiet
namespace Go.Proofs.YtkfecngkdlajgaaGreatDoor
open Go.RowKit Go.Shelf
set_option maxRecDepth 10000
attribute [local go_sem] Oper.semAt_some

/-- The one with the least count so far. -/
def lessO (o : Option (Nat × Bl)) (x : Nat × Bl) : Option (Nat × Bl) := match o with
  | none => some x
  | some y => if x.2.cnt < y.2.cnt then some x else some y
def leastO (p : List (Nat × Bl)) : Option (Nat × Bl) := p.foldl lessO none
def numO : Option (Nat × Bl) → Int
  | none => -1
  | some y => y.1
/-- What Least answers. -/
def leastI (l : List Bl) : Int := numO (leastO (sel 2 0 l))
theorem leastO_snoc (p : List (Nat × Bl)) (x : Nat × Bl) : leastO (p ++ [x]) = lessO (leastO p) x := by simp [leastO]
theorem lessO_mem {o : Option (Nat × Bl)} {x y : Nat × Bl} (h : lessO o x = some y) : y = x ∨ o = some y := by
  unfold lessO at h
  split at h
  · cases h; exact .inl rfl
  · split at h
    · cases h; exact .inl rfl
    · cases h; exact .inr rfl
theorem leastO_mem : ∀ (p : List (Nat × Bl)) (o : Option (Nat × Bl)) (y : Nat × Bl), p.foldl lessO o = some y → y ∈ p ∨ o = some y
  | [], o, y, h => .inr h
  | x :: p, o, y, h => by
    rcases leastO_mem p (lessO o x) y h with h | h
    · exact .inl (by simp [h])
    · rcases lessO_mem h with rfl | h
      · exact .inl (by simp)
      · exact .inr h

/-- What a round's own variables are. -/
def AxL (w : World) (a : Option Addr) (m cap : Nat) {st : Int} {l : List Bl} (x : El st l) (a' : Act) (W : World) : Prop :=
  ∃ B, w.heap.size + 4 ≤ B ∧ B < W.heap.size ∧ Blk W B #[.int .i64 x.1.2.st, .int .i64 x.1.2.cnt, .int .i64 x.1.2.leb, .int .i64 x.1.2.used, .int .u64 x.1.2.seq, .bool x.1.2.closed] 156 ∧
    a' = { tmps := #[.slice a m cap, .pointer (some ⟨w.heap.size, 0, none⟩), .int .i64 0, .pointer (some ⟨w.heap.size + 1, 0, none⟩), .int .i64 (x.1.1 : Int), .pointer (some ⟨B, 0, none⟩), .slice a m cap, .func (.func 153) #[] #[.pointer (some ⟨w.heap.size + 1 + 1, 0, none⟩), .pointer (some ⟨w.heap.size + 1 + 1 + 1, 0, none⟩)], .int .i64 (x.1.1 : Int), blV x.1.2, undef, undef, undef, undef, undef, undef, undef, undef, undef, undef, undef, undef, undef, undef], defers := [] }

set_option maxRecDepth 100000 in
set_option maxHeartbeats 2000000 in
theorem least_in (n : Nat) (hn : 3 ≤ n) (m cap : Nat) (l : List Bl) (a : Option Addr) (hm : m = l.length) (hl : m ≤ 281474976710656) (w : World) (hr : LRow w a l) :
    CallsIn Fence.wide n Tryz.prog 154 #[.slice a m cap] w fun e w' => e = .returned (.int .i64 (leastI l)) ∧ Below w.heap.size w w' := by
  have hn1 : 1 ≤ n := by omega
  have HM : Hid (m = l.length) := hm
  clear hm
  refine callsIn_of_wp_marks Tryz.func154 rfl trivial ?_ rfl
  simp only [Tryz.ntmps154, List.size_toArray, List.length_cons, List.length_nil, Nat.reduceAdd, Nat.reduceSub, Array.replicate_succ, Array.replicate_zero, List.push_toArray, List.append_toArray, List.nil_append, List.cons_append]
  gi_wp2_with (refine ⟨trivial, ?_⟩; gi_at_call 112; refine (inst_in (n - 1) _ _ _ _ _).mono ?_; rintro e w' ⟨rfl, rfl⟩)
  have x0 := Boxed.new w 68 (.slice a m cap)
  obtain ⟨w1, hw1⟩ : ∃ w1, w1 = w.alloc (Obj.cells #[Value.slice a m cap] 68) := ⟨_, rfl⟩
  have hs1 : w1.heap.size = w.heap.size + 1 := by rw [hw1, World.size_alloc]
  have hB1 : Below w.heap.size w w1 := by rw [hw1]; exact below_new w _
  rw [← hw1] at x0 ⊢
  clear hw1
  have x1 := Boxed.new w1 3 (.int .i64 (-1))
  have y0 := x0.alloc (Obj.cells #[Value.int IntKind.i64 (-1)] 3)
  obtain ⟨w2, hw2⟩ : ∃ w2, w2 = w1.alloc (Obj.cells #[Value.int IntKind.i64 (-1)] 3) := ⟨_, rfl⟩
  have hs2 : w2.heap.size = w.heap.size + 1 + 1 := by rw [hw2, World.size_alloc, hs1]
  have hB2 : Below w.heap.size w w2 := by rw [hw2]; exact hB1.alloc hB1.size _
  rw [← hw2] at x1 y0 ⊢
  rw [hs1] at x1
  clear hw2 x0
  have x2 := Boxed.new w2 68 (.slice a m cap)
  have y1 := x1.alloc (Obj.cells #[Value.slice a m cap] 68)
  have z0 := y0.alloc (Obj.cells #[Value.slice a m cap] 68)
  obtain ⟨w3, hw3⟩ : ∃ w3, w3 = w2.alloc (Obj.cells #[Value.slice a m cap] 68) := ⟨_, rfl⟩
  have hs3 : w3.heap.size = w.heap.size + 1 + 1 + 1 := by rw [hw3, World.size_alloc, hs2]
  have hB3 : Below w.heap.size w w3 := by rw [hw3]; exact hB2.alloc hB2.size _
  rw [← hw3] at x2 y1 z0 ⊢
  rw [hs2] at x2
  clear hw3 x1 y0
  have x3 := Boxed.new w3 3 (.int .i64 2)
  have y2 := x2.alloc (Obj.cells #[Value.int IntKind.i64 2] 3)
  have z1 := y1.alloc (Obj.cells #[Value.int IntKind.i64 2] 3)
  have u0 := z0.alloc (Obj.cells #[Value.int IntKind.i64 2] 3)
  obtain ⟨w4, hw4⟩ : ∃ w4, w4 = w3.alloc (Obj.cells #[Value.int IntKind.i64 2] 3) := ⟨_, rfl⟩
  have hs4 : w4.heap.size = w.heap.size + 1 + 1 + 1 + 1 := by rw [hw4, World.size_alloc, hs3]
  have hB4 : Below w.heap.size w w4 := by rw [hw4]; exact hB3.alloc hB3.size _
  rw [← hw4] at x3 y2 z1 u0 ⊢
  rw [hs3] at x3
  clear hw4 x2 y1 z0 hB1 hB2 hB3 hs1 hs2 hs3
  refine wpIn_rangeFunc_ownH rfl hn1 (gf := 153) (lb := #[.pointer (some ⟨w.heap.size + 1 + 1, 0, none⟩), .pointer (some ⟨w.heap.size + 1 + 1 + 1, 0, none⟩)]) rfl trivial (enters_of Tryz.func153 (by kernel_rfl) rfl)
    (inst_stops (n - 1) (by omega) (w.heap.size + 1 + 1) (w.heap.size + 1 + 1 + 1) w.heap.size m cap 2 l a HM.out hl w4 y2.cell x3.cell (hr.later hB4) hr.low hB4.size) KpS.trans (kpS_b hB4.size (by omega)) (Below.refl _ _) (fun _ => rfl)
    (fun pre W => Boxed W w.heap.size 68 (.slice a m cap) ∧ Boxed W (w.heap.size + 1) 3 (.int .i64 (numO (leastO (vals pre)))) ∧ w.heap.size + 4 ≤ W.heap.size ∧ Below w.heap.size w W)
    (fun c pre W => False)
    (OwnFrom.and (Own.from (boxed_own _ _ _) _) (OwnFrom.and (fun pre W W' row h hg hrow => (blk_own (β := Unit) _ _ _) () W W' row h hg (fun r e => (hrow r e).2)) (OwnFrom.and (own_size _ _) (ownFrom_below (Nat.le_refl _) (by omega)))))
    (fun c _ _ _ _ h _ _ => h)
    ⟨u0, z1, by omega, hB4⟩ (AxL w a m cap) ?ax ?assign ?body ?done ?stop
  case ax =>
    intro x a' s W W' row h hg hrow
    obtain ⟨B, h1, h2, h3, h4⟩ := h
    exact ⟨B, h1, Nat.lt_of_lt_of_le h2 hg.size, (blk_own (β := Unit) B _ _) () W W' row h3 hg (fun r e => (hrow r e).2), h4⟩
  case assign =>
    rintro L pre x W K ⟨h0, h1, hsz, hB⟩ hK
    have hbs := hB.size
    simp only [blV]
    gi_wp2
    exact hK _ _ ((KeepsOthers.alloc W _).from _) ((KpS.refl _ _ W).alloc hbs (by omega) _) ⟨h0.alloc _, h1.alloc _, by rw [World.size_alloc]; omega, hB.alloc hbs _⟩ ⟨W.heap.size, by omega, by simp, World.alloc_heap_new W _, by unfold blV; rfl⟩
  case body =>
    rintro L pre x a' W hL hLL ⟨h0, h1, hsz, hB⟩ ⟨B, hB1', hB2', hB3', rfl⟩ hlt
    have c0 := h0.cell
    have c1 := h1.cell
    have f1 := h1.frozen
    have g1 : W.cell? ⟨B, 1, none⟩ = some (.int .i64 x.1.2.cnt) := hB3'.cell (i := 1) rfl
    have H1 : Hid (Boxed W (w.heap.size + 1) 3 (.int .i64 (numO (leastO (vals pre))))) := h1
    have H0 : Hid (Boxed W w.heap.size 68 (.slice a m cap)) := h0
    have HB : Hid (Below w.heap.size w W) := hB
    obtain ⟨y, hy⟩ : ∃ y, y = x.1.2.cnt := ⟨_, rfl⟩
    rw [← hy] at g1
    have HY : Hid (y = x.1.2.cnt) := hy
    obtain ⟨o, ho⟩ : ∃ o, o = leastO (vals pre) := ⟨_, rfl⟩
    have HO : Hid (o = leastO (vals pre)) := ho
    rw [← ho] at c1 H1
    have FS : Hid (∀ v, KeepsFrom w4.heap.size W (W.setCell ⟨w.heap.size + 1, 0, none⟩ v).drew ∧ KpS w.heap.size (w.heap.size + 1 + 1 + 1) W (W.setCell ⟨w.heap.size + 1, 0, none⟩ v).drew ∧ Boxed (W.setCell ⟨w.heap.size + 1, 0, none⟩ v).drew w.heap.size 68 (.slice a m cap) ∧ Boxed (W.setCell ⟨w.heap.size + 1, 0, none⟩ v).drew (w.heap.size + 1) 3 v ∧ w.heap.size + 4 ≤ (W.setCell ⟨w.heap.size + 1, 0, none⟩ v).drew.heap.size ∧ Below w.heap.size w (W.setCell ⟨w.heap.size + 1, 0, none⟩ v).drew) := by
      intro v
      have k1 : KpS w.heap.size (w.heap.size + 1 + 1 + 1) W (W.setCell ⟨w.heap.size + 1, 0, none⟩ v) := (KpS.refl _ _ _).set (by simp) (by simp; omega) v
      have k2 : Blk (W.setCell ⟨w.heap.size + 1, 0, none⟩ v) w.heap.size #[.slice a m cap] 68 := (Below.heap_setCell _ _ _ _ (by simp)).trans h0
      have k3 := h1.set v
      exact ⟨((KeepsOthers.setCell _ _ _).trans (KeepsOthers.drew _)).from _, ⟨k1.below.drew, k1.box⟩, k2, k3, Nat.le_trans hsz (KeepsOthers.setCell _ _ _).size, (hB.setCell (by simp) _).drew⟩
    have FN : Hid (KeepsFrom w4.heap.size W W.drew ∧ KpS w.heap.size (w.heap.size + 1 + 1 + 1) W W.drew ∧ Boxed W.drew w.heap.size 68 (.slice a m cap) ∧ Boxed W.drew (w.heap.size + 1) 3 (.int .i64 (numO o)) ∧ w.heap.size + 4 ≤ W.drew.heap.size ∧ Below w.heap.size w W.drew) := by
      rw [ho]
      exact ⟨(KeepsOthers.drew _).from _, ⟨(Below.refl _ _).drew, rfl⟩, h0, h1, hsz, hB.drew⟩
    have HL : Hid (numO (leastO (vals (pre ++ [x]))) = numO (lessO o x.1)) := by show _ = _; rw [vals_snoc, leastO_snoc, ho]
    clear hy h0 h1 hB hLL hB3' hlt
    unfold blV
    cases o with
    | none =>
      simp only [numO] at c1
      clear ho
      gi_wp2
      gi_region
      all_goals gi_wp2
      all_goals
        obtain ⟨k1, k2, k3, k4, k5⟩ := FS.out (.int .i64 (x.1.1 : Int))
        refine ⟨k1, k2, k3, ?_, k5⟩
        show Boxed _ _ _ (.int .i64 (numO (leastO (vals (pre ++ [x])))))
        rw [HL.out]
        exact k4
    | some z =>
      simp only [numO] at c1
      obtain ⟨hz1, hz2⟩ : l[z.1]? = some z.2 ∧ z.1 < m := by
        rcases leastO_mem _ _ _ ho.symm with h | h
        · obtain ⟨e, _, rfl⟩ := List.mem_map.1 h
          exact ⟨e.2.1, by rw [HM.out]; exact (List.getElem?_eq_some_iff.1 e.2.1).1⟩
        · cases h
      obtain ⟨b, off, rfl, hc⟩ : ∃ b off, a = some ⟨b, off, none⟩ ∧ ∀ i x, l[i]? = some x → BlAt w b (off + i * 6) x := by
        rcases hr with e | h
        · subst e; simp at hz1
        · exact h
      have q1 : W.cell? ⟨b, off + z.1 * 6 + 1, none⟩ = some (.int .i64 z.2.cnt) := ((hc z.1 z.2 hz1).below HB.out (hc z.1 z.2 hz1).lt).c1
      obtain ⟨zi, hzi⟩ : ∃ zi, zi = z.1 := ⟨_, rfl⟩
      obtain ⟨zc, hzc⟩ : ∃ zc, zc = z.2.cnt := ⟨_, rfl⟩
      rw [← hzi] at q1 c1 hz2
      rw [← hzc] at q1
      have HZC : Hid (zc = z.2.cnt) := hzc
      have n0 : ¬ (zi : Int) < 0 := by omega
      have n1 : (zi : Int) < (m : Int) := by omega
      clear ho hzi hzc hc hz1 hr
      by_cases hlt2 : y < zc
      · have HW : Hid (numO (lessO (some z) x.1) = x.1.1) := by show numO (if x.1.2.cnt < z.2.cnt then some x.1 else some z) = _; rw [if_pos (by rw [← HY.out, ← HZC.out]; exact hlt2)]; rfl
        gi_wp2
        gi_region
        all_goals gi_wp2
        all_goals
          obtain ⟨k1, k2, k3, k4, k5⟩ := FS.out (.int .i64 (x.1.1 : Int))
          refine ⟨k1, k2, k3, ?_, k5⟩
          show Boxed _ _ _ (.int .i64 (numO (leastO (vals (pre ++ [x])))))
          rw [HL.out, HW.out]
          exact k4
      · have HW : Hid (lessO (some z) x.1 = some z) := by show (if x.1.2.cnt < z.2.cnt then some x.1 else some z) = _; rw [if_neg (by rw [← HY.out, ← HZC.out]; exact hlt2)]
        gi_wp2
        gi_region
        all_goals gi_wp2
        all_goals
          obtain ⟨k1, k2, k3, k4, k5⟩ := FN.out
          refine ⟨k1, k2, k3, ?_, k5⟩
          show Boxed _ _ _ (.int .i64 (numO (leastO (vals (pre ++ [x])))))
          rw [HL.out, HW.out]
          exact k4
  case done =>
    rintro D ys W hD hS ⟨h0, h1, hsz, hB⟩ hK
    have c1 := h1.cell
    gi_wp2
    rw [hS] at h1
    refine ⟨by simp, .inl ⟨_, _, rfl, run_takeDeferred hK, ?_⟩⟩
    exact ⟨_, results_tmp rfl _ _ _, by unfold leastI; rw [← hS]; rfl, hB.trans (belowK_b (w := w) (Nat.le_refl _) W D _ _ (by omega) hK rfl rfl)⟩
  case stop =>
    rintro D c pre W hD hpre h hK
    exact h.elim
end Go.Proofs.YtkfecngkdlajgaaGreatDoor
namespace Go.Proofs.YtkfecngkdlajgaaGreatDoor
open Go.RowKit Go.Shelf
set_option maxRecDepth 10000
attribute [local go_sem] Oper.semAt_some

theorem least_any (m cap : Nat) (l : List Bl) (a : Option Addr) (hm : m = l.length) (hl : m ≤ 281474976710656) (w : World) (hr : LRow w a l) :
    Calls Tryz.prog 154 #[.slice a m cap] w fun e w' => e = .returned (.int .i64 (leastI l)) ∧ Below w.heap.size w w' :=
  callsIn_wide.1 (least_in 3 (by omega) m cap l a hm hl w hr)
end Go.Proofs.YtkfecngkdlajgaaGreatDoor
