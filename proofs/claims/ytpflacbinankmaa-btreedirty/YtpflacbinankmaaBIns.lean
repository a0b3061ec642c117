/-
  slices.Insert at slots: one slot, at whatever place.
-/
import Derived.Test.YtpflacbinankmaaBSlice
import Derived.Lib.AppendZerosOnto
import Derived.Lib.AppendZeros
import Derived.Lib.Overlaps
import Derived.Laws.Externs
import Derived.Laws.NewBlocks
namespace Go.Proofs.Ytpflacbinankmaa.Bt
open Go.RowKit
set_option maxRecDepth 10000

theorem wp_copy_run {P : Program} (w : World) {o : Oper} {a : Act} {K : Act → World → Prop} {Q : Exit → Act → World → Prop} (d s : Operand) (t t' : TypeId)
    (ho : o.op = .call { callee := .builtin .copy, args := #[d, s], argTypes := #[t, t'] }) (v u : Value) (hd : a.eval d = v) (hs : a.eval s = u) {v' : Value} {w' : World}
    (hr : (Builtin.copy_ #[t, t'] o.type #[v, u]).run P w = .ok v' w') (h : K (a.put o.dst v') w') : o.wp P a w K Q := by
  unfold Oper.wp execOp
  simp only [ho, resolve, invoke, builtin, Sem.run_bind, Sem.run_pure, Result.andThen_ok, List.map_toArray, List.map_cons, List.map_nil, hd, hs, hr]
  exact h
theorem wpl_copy_run {P : Program} (w : World) {ops : Array Oper} {rest : List Oper} {o : Oper} {a : Act} {Q : Exit → Act → World → Prop} (hgd : o.guard = none) (d s : Operand) (t t' : TypeId)
    (ho : o.op = .call { callee := .builtin .copy, args := #[d, s], argTypes := #[t, t'] }) (v u : Value) (hd : a.eval d = v) (hs : a.eval s = u) {v' : Value} {w' : World}
    (hr : (Builtin.copy_ #[t, t'] o.type #[v, u]).run P w = .ok v' w') (h : wpList P ops Q rest (a.put o.dst v') w') : wpList P ops Q (o :: rest) a w :=
  wpList_plain hgd fun _ hK => wp_copy_run w d s t t' ho v u hd hs hr (hK _ _ h)
theorem step_copy_run {P : Program} {ops : Array Oper} {o : Oper} {a : Act} {w : World} {K : Act → World → Prop} {Q : Exit → Act → World → Prop} {E : Prop}
    (hg : o.guard = none) (d x : Operand) (dT sT : TypeId) (hop : o.op = Op.call { callee := Callee.builtin Builtin.copy, args := #[d, x], argTypes := #[dT, sT] })
    (v u : Value) (hd : a.eval d = v) (hx : a.eval x = u) {v' : Value} {w' : World} (hr : (Builtin.copy_ #[dT, sT] o.type #[v, u]).run P w = .ok v' w') (hK : K (a.put o.dst v') w') :
    if Region.wanted o (yielded ops a.tmps) = true then Oper.wp P o a w K Q else E := by
  have hw : Region.wanted o (yielded ops a.tmps) = true := by simp [Region.wanted, hg]
  rw [if_pos hw]
  unfold Oper.wp
  simp [execOp, hop, resolve, invoke, builtin, hd, hx, hr, Result.andThen]
  exact hK
theorem Whole.shape {W : World} {B : Nat} {cs : List Value} {t : TypeId} (h : Whole W B cs t) : W.shape? B = some (t, cs.length) := by simp [World.shape?, show W.heap[B]? = _ from h]
theorem Whole.same {W W' : World} {B : Nat} {cs : List Value} {t : TypeId} (h : Whole W B cs t) (e : W'.heap[B]? = W.heap[B]?) : Whole W' B cs t := e.trans h
theorem Whole.later {W W' : World} {B : Nat} {cs : List Value} {t : TypeId} (h : Whole W B cs t) (hb : Below W.heap.size W W') : Whole W' B cs t := h.same (hb.block B h.lt)
theorem Whole.kept {S : Nat → Prop} {W W' : World} {B : Nat} {cs : List Value} {t : TypeId} (h : Whole W B cs t) (hk : Kept S W W') (hn : ¬ S B) : Whole W' B cs t := h.same (hk.block B h.lt hn)
theorem Whole.new (W : World) (cs : List Value) (t : TypeId) : Whole (W.alloc (.cells cs.toArray t)) W.heap.size cs t := by show (W.heap.push _)[W.heap.size]? = _; simp
theorem Whole.row {W : World} {B : Nat} {cs : List Value} {t : TypeId} (h : Whole W B cs t) : Row W B cs t := ⟨[], by rw [List.append_nil]; exact h⟩
/-- What an Insert says of its answer. -/
def Inserted (w : World) (v : Value) (l : List Sl) (v' : Value) (w' : World) : Prop :=
  Slots w' v' l ∧ (∃ g, v'.ownBlock = some g ∧ (v.ownBlock = some g ∨ w.heap.size ≤ g)) ∧ Kept (fun b => v.ownBlock = some b) w w'

set_option maxHeartbeats 4000000 in
theorem insert_end (v : Value) (l : List Sl) (s : Sl) (vb vc : Nat) (w : World) (h : Slots w v l) (hl : l.length ≤ 1000) (hV : Whole w vb (slv s) 77) :
    Calls Try.prog 68 #[v, .int .i64 l.length, .slice (some ⟨vb, 0, none⟩) 1 vc] w fun e w' => ∃ v', e = .returned v' ∧ Inserted w v (l ++ [s]) v' w' := by
  obtain ⟨i0, hi0, hz0, hz1, hz2⟩ := info_parts infoS
  obtain ⟨n, hn⟩ : ∃ n, n = l.length := ⟨_, rfl⟩
  have hX : Hid (w.ownsRow 0 77 3 v n (l.flatMap slv)) := by show w.ownsRow _ _ _ _ _ _; rw [hn]; exact h
  have hN : Hid (∀ j u, (slv s)[j]? = some u → w.cell? ((⟨vb, 0, none⟩ : Addr).add j) = some u) := by
    intro j u hj; rw [Addr.add_lit, Nat.zero_add, hV.cell]; exact hj
  have h1 : Hid (∀ u ∈ slv s, u.oneCell' = true) := by intro u hu; exact slv_one [s] u (by simpa using hu)
  have fin : ∀ g cap w', w'.ownsRow 0 77 3 (.slice (some ⟨g, 0, none⟩) (n + 1) cap) (n + 1) (l.flatMap slv ++ slv s) → w.grownBy w' v.ownBlock → (v.ownBlock = some g ∨ g = w.heap.size) → Inserted w v (l ++ [s]) (.slice (some ⟨g, 0, none⟩) (n + 1) cap) w' := by
    intro g cap w' q1 q2 q3
    refine ⟨?_, ⟨g, rfl, ?_⟩, Kept.of_grown q2 fun k e => e⟩
    · unfold Slots
      rw [List.length_append, List.length_singleton, List.flatMap_append, ← hn]
      simpa using q1
    · rcases q3 with q | q
      · exact .inl q
      · exact .inr (by omega)
  have HF : Hid (∀ g cap w', w'.ownsRow 0 77 3 (.slice (some ⟨g, 0, none⟩) (n + 1) cap) (n + 1) (l.flatMap slv ++ slv s) → w.grownBy w' v.ownBlock → (v.ownBlock = some g ∨ g = w.heap.size) → Inserted w v (l ++ [s]) (.slice (some ⟨g, 0, none⟩) (n + 1) cap) w') := fin
  have hl2 : n ≤ 1000 := by omega
  rw [← hn]
  rcases h.form with ⟨rfl, rfl⟩ | ⟨g, cap, cs, rfl, _, _, c1, c2, _⟩
  · simp only [List.length_nil] at hn
    subst hn
    clear fin h hV
    go_enter Try.func68, Try.ntmps68
    go_wp2_with (at_builtin; refine wpList_append_lies _ rfl _ _ 72 rfl 0 77 i0 _ 3 40 Try.underlying72 hi0 hz0 hz1 hz2 rfl (by decide) _ 0 _ rfl hX.out ⟨vb, 0, none⟩ 1 vc (slv s) rfl rfl hN.out h1.out (by decide) (by decide) (by decide) (Nat.zero_le _) _ rfl ?_; intro g cap w1 q1 q2 q3 q4)
    go_ret
    exact ⟨_, rfl, HF.out _ _ _ q1 q2 q3⟩
  · rw [← hn] at hX HF ⊢
    have hc : n ≤ cap := by omega
    clear fin h hV hn
    unfold maxLen at c2
    go_enter Try.func68, Try.ntmps68
    go_wp2_with (at_builtin; refine wpList_append_lies _ rfl _ _ 72 rfl 0 77 i0 _ 3 40 Try.underlying72 hi0 hz0 hz1 hz2 rfl (by decide) _ n _ rfl hX.out ⟨vb, 0, none⟩ 1 vc (slv s) rfl rfl hN.out h1.out (by decide) (by unfold maxLen; omega) (by omega) (Nat.zero_le _) _ rfl ?_; intro g cap w1 q1 q2 q3 q4)
    all_goals go_ret
    all_goals exact ⟨_, rfl, HF.out _ _ _ q1 q2 q3⟩
end Go.Proofs.Ytpflacbinankmaa.Bt
