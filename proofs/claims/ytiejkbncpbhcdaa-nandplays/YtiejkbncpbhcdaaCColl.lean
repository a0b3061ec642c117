/-
  The faults of a plan, told by a range over a function and collected.
-/
import Derived.Test.YtiejkbncpbhcdaaCStep
import Derived.RangeFuncBox
import Derived.RangeFuncNested
import Derived.RangeFuncBound
import Derived.RangeFuncCalls
import Derived.RangeFuncLeaves
import Derived.Shelf.Abstract
import Derived.Shelf.RegionOpen
import Derived.OwnWalkIn
import Derived.TacticsInMore
import Derived.LoopNIn
import Derived.LoopIn
import Derived.Maps.AppendAt
namespace Go.Proofs.Ytiejkbncpbhcdaa
open Go.RowKit Go.Shelf
attribute [local go_sem] Oper.semAt_some

/-- A fault, as a value. -/
def flV (f : Flt) : Value := .agg #[.int .i64 f.num, .int .i64 f.kind, .int .i64 f.torn]
theorem grown_drewN (w : World) (n : Nat) (row : Option Nat) : w.grownBy (w.drewN n) row := ⟨rfl, rfl, rfl, Nat.le_refl _, fun _ _ _ => rfl⟩

set_option maxRecDepth 100000 in
set_option maxHeartbeats 1000000 in
theorem vals1_in (n : Nat) (hn : 1 ≤ n) (L Bn n₀ m cap : Nat) (l : List Flt) (a : Option Addr) (hm : m = l.length) (hl : m ≤ 256) (J Jx : List Flt → World → Prop) (hJd : ∀ pre W W', J pre W → W.grownBy W' none → J pre W')
    (hY : ∀ pre x W, J pre W → pre.length < l.length → YieldAt Fence.wide (n - 1) Try.prog L #[flV x] W fun e W' =>
      (e = .returned (.bool true) ∧ J (pre ++ [x]) W' ∧ Below n₀ W W') ∨ (e = .returned (.bool false) ∧ Jx (pre ++ [x]) W'))
    (W : World) (hBn : W.cell? ⟨Bn, 0, none⟩ = some (.slice a m cap)) (hr : FRow W a l) (hb : ∀ b off, a = some ⟨b, off, none⟩ → l ≠ [] → b < n₀) (hn0 : n₀ ≤ W.heap.size) (h0 : J [] W) :
    CallsIn Fence.wide n Try.prog 68 #[.func (.yield L) #[] #[], .pointer (some ⟨Bn, 0, none⟩)] W fun e W' => (∃ v, e = .returned v) ∧
      ((∃ ys, ys = l ∧ J ys W') ∨ (∃ pre, pre <+: l ∧ Jx pre W')) := by
  refine callsIn_of_wp Try.func68 rfl trivial ?_ rfl
  simp only [Try.ntmps68, List.size_toArray, List.length_cons, List.length_nil, Nat.reduceAdd, Nat.reduceSub, Array.replicate_succ, Array.replicate_zero, List.push_toArray, List.append_toArray, List.nil_append, List.cons_append]
  gi_wp2
  gi_loopw [7] (fun i wr => ∃ k : Nat, i = .int .i64 k ∧ k ≤ m ∧ J (l.take k) wr ∧ Below n₀ W wr) (fun i _ => m - (intOf i).toNat)
  case atStart => exact ⟨0, rfl, by omega, by simpa using h0, Below.refl _ _⟩
  case round =>
    obtain ⟨k, rfl, hk, hJs, hbel⟩ := hrel
    by_cases hlt : k < m
    · have hkl : k < l.length := by omega
      obtain ⟨b, off, rfl, hc⟩ : ∃ b off, a = some ⟨b, off, none⟩ ∧ ∀ i f, l[i]? = some f → W.cell? ⟨b, off + i * 3, none⟩ = some (.int .i64 f.num) ∧ W.cell? ⟨b, off + i * 3 + 1, none⟩ = some (.int .i64 f.kind) ∧ W.cell? ⟨b, off + i * 3 + 2, none⟩ = some (.int .i64 f.torn) := by
        rcases hr with e | h
        · subst e; simp at hkl
        · exact h
      have hbn := hb b off rfl (by intro e; subst e; simp at hkl)
      obtain ⟨g0, g1, g2⟩ := hc k l[k] (List.getElem?_eq_getElem hkl)
      rw [← hbel.cell (p := ⟨b, off + k * 3, none⟩) hbn] at g0
      rw [← hbel.cell (p := ⟨b, off + k * 3 + 1, none⟩) hbn] at g1
      rw [← hbel.cell (p := ⟨b, off + k * 3 + 2, none⟩) hbn] at g2
      obtain ⟨f, hf⟩ : ∃ f, f = l[k] := ⟨_, rfl⟩
      have HT : Hid (l.take (k + 1) = l.take k ++ [f]) := by show _ = _; rw [List.take_succ_eq_append_getElem hkl, hf]
      rw [← hf] at g0 g1 g2
      have hbw : b < wr.heap.size := World.block_lt_of_cell? wr _ g0
      have hnw : n₀ ≤ wr.heap.size := Nat.le_trans hn0 hbel.size
      have hpl : (l.take k).length < l.length := by simp; omega
      obtain ⟨fn, tmps, assign, body, hy, hR⟩ := hY (l.take k) f (wr.alloc (.cells #[.int .i64 f.num, .int .i64 f.kind, .int .i64 f.torn] 78)) (hJd _ _ _ hJs (World.grownBy_alloc wr _ none)) hpl
      unfold flV at hy
      clear hf hc hr
      gi_wp2
      refine hR.mono ?_
      rintro e W3 (⟨rfl, hJ3, hk3⟩ | ⟨rfl, hJx3⟩)
      · gi_wp2
        refine ⟨⟨k + 1, by simp, by omega, by rw [HT.out]; exact hJ3, hbel.trans (((Below.refl n₀ wr).alloc hnw _).trans hk3)⟩, ?_⟩
        simp [intOf]; omega
      · gi_wp2
        refine bodyPost_ret (results_none rfl _ _ _) rfl ?_
        exact ⟨⟨_, rfl⟩, .inr ⟨l.take k ++ [f], ⟨l.drop (k + 1), by rw [← HT.out, List.take_append_drop]⟩, hJx3⟩⟩
    · gi_wp2
      go_end0
      have e : l.take k = l := List.take_of_length_le (by omega)
      rw [e] at hJs
      exact ⟨⟨_, rfl⟩, .inl ⟨l, rfl, hJs⟩⟩

theorem vals_stops (n : Nat) (hn : 1 ≤ n) (Bn n₀ m cap : Nat) (l : List Flt) (a : Option Addr) (hm : m = l.length) (hl : m ≤ 256) (w : World) (hBn : w.cell? ⟨Bn, 0, none⟩ = some (.slice a m cap)) (hr : FRow w a l) (hb : ∀ b off, a = some ⟨b, off, none⟩ → l ≠ [] → b < n₀) (hn0 : n₀ ≤ w.heap.size) :
    SeqStopsK Fence.wide n Try.prog 68 #[.pointer (some ⟨Bn, 0, none⟩)] (fun f : Flt => #[flV f]) (Below n₀) (fun ys => ys = l) (fun pre => pre <+: l) l.length w := fun L J Jx W hW hJ _ hY h0 =>
  vals1_in n hn L Bn n₀ m cap l a hm hl J Jx (fun pre W W' h hg => hJ pre W W' none h hg (fun r e => by cases e)) hY W ((hW.cell (p := ⟨Bn, 0, none⟩) (World.block_lt_of_cell? w _ hBn)).trans hBn)
    (by
      rcases hr with e | ⟨b, off, e, hc⟩
      · exact .inl e
      · refine .inr ⟨b, off, e, fun i f hf => ?_⟩
        obtain ⟨q0, q1, q2⟩ := hc i f hf
        have hbw := World.block_lt_of_cell? w _ q0
        rw [hW.cell (p := ⟨b, off + i * 3, none⟩) hbw, hW.cell (p := ⟨b, off + i * 3 + 1, none⟩) hbw, hW.cell (p := ⟨b, off + i * 3 + 2, none⟩) hbw]
        exact ⟨q0, q1, q2⟩) hb (Nat.le_trans hn0 hW.size) h0

theorem infoF : (Try.prog.info? 78).map (fun i => (i.zero, i.size, i.bytes)) = some (some (.agg #[.int .i64 0, .int .i64 0, .int .i64 0]), 3, 24) := by kernel_rfl
theorem fl_one (l : List Flt) : ∀ u ∈ l.flatMap flCells, u.oneCell' = true := by
  intro u hu
  obtain ⟨f, _, h⟩ := List.mem_flatMap.1 hu
  simp [flCells] at h
  rcases h with rfl | rfl | rfl <;> rfl
theorem three_new (w : World) (x y z : Value) (t : TypeId) : ∀ j u, [x, y, z][j]? = some u → (w.alloc (.cells #[x, y, z] t)).cell? ((⟨w.heap.size, 0, none⟩ : Addr).add j) = some u := by
  intro j u hj
  have e : (⟨w.heap.size, 0, none⟩ : Addr).add j = ⟨w.heap.size, j, none⟩ := by unfold Addr.add; split <;> simp_all
  rw [e]
  exact (Row.new w [x, y, z] t).cell hj
theorem pure_own {β : Type} (p : β → Prop) : Go.Own (fun (s : β) (_ : World) => p s) := fun _ _ _ _ h _ _ => h
def Blk (W : World) (B : Nat) (cs : Array Value) (t : TypeId) : Prop := W.heap[B]? = some (.cells cs t (0, 0))
theorem blk_own {β : Type} (B : Nat) (cs : Array Value) (t : TypeId) : Go.Own (fun (_ : β) W => Blk W B cs t) := by
  intro s X Y row h hg hr
  refine (hg.block B (Array.getElem?_eq_some_iff.1 h).1 (fun e => ?_)).trans h
  obtain ⟨o, ho, hc⟩ := hr B e.symm
  rw [show X.heap[B]? = _ from h] at ho
  cases ho
  cases hc
theorem Blk.cell {W : World} {B i : Nat} {cs : Array Value} {t : TypeId} {v : Value} (h : Blk W B cs t) (hi : cs[i]? = some v) : W.cell? ⟨B, i, none⟩ = some v := by
  simp only [World.cell?, show W.heap[B]? = _ from h]; simpa using hi
theorem own_form {W : World} {base size n : Nat} {e : TypeId} {v : Value} {xs : List Value} (h : W.ownsRow base e size v n xs) : ∃ a cap, v = .slice a n cap := by
  rcases h.2 with ⟨rfl, hn⟩ | ⟨g, cap, cur, rfl, _⟩
  · exact ⟨none, 0, by rw [hn]⟩
  · exact ⟨_, cap, rfl⟩
/-- What a round's own variable is. -/
def Ax (w : World) (Bn : Nat) (x : Flt) (a : Act) (W : World) : Prop :=
  ∃ B, w.heap.size + 1 ≤ B ∧ B < W.heap.size ∧ Blk W B #[.int .i64 x.num, .int .i64 x.kind, .int .i64 x.torn] 78 ∧
    a = { tmps := #[.slice none 0 0, .func (.func 68) #[] #[.pointer (some ⟨Bn, 0, none⟩)], .pointer (some ⟨w.heap.size, 0, none⟩), undef, .slice none 0 0, .pointer (some ⟨B, 0, none⟩), .func (.func 68) #[] #[.pointer (some ⟨Bn, 0, none⟩)], flV x, undef, undef, undef, undef, undef], defers := [] }

set_option maxRecDepth 100000 in
set_option maxHeartbeats 2000000 in
theorem appendSeq_in (n : Nat) (hn : 3 ≤ n) (Bn m cap : Nat) (l : List Flt) (a : Option Addr) (hm : m = l.length) (hl : m ≤ 256) (w : World) (hBn : w.cell? ⟨Bn, 0, none⟩ = some (.slice a m cap)) (hr : FRow w a l) :
    CallsIn Fence.wide n Try.prog 71 #[.slice none 0 0, .func (.func 68) #[] #[.pointer (some ⟨Bn, 0, none⟩)]] w fun e w' => ∃ v, e = .returned v ∧ w'.ownsRow w.heap.size 78 3 v l.length (l.flatMap flCells) ∧ Below w.heap.size w w' := by
  have hn1 : 1 ≤ n := by omega
  obtain ⟨i0, hi, hz0, hz1, hz2⟩ := info_parts infoF
  refine callsIn_of_wp_marks Try.func71 rfl trivial ?_ rfl
  simp only [Try.ntmps71, List.size_toArray, List.length_cons, List.length_nil, Nat.reduceAdd, Nat.reduceSub, Array.replicate_succ, Array.replicate_zero, List.push_toArray, List.append_toArray, List.nil_append, List.cons_append]
  gi_wp2
  have bX := Boxed.new w 24 (.slice none 0 0)
  have hB1 : Below w.heap.size w (w.alloc (Obj.cells #[Value.slice none 0 0] 24)) := below_new w _
  have hrow1 : (w.alloc (Obj.cells #[Value.slice none 0 0] 24)).ownsRow w.heap.size 78 3 (.slice none 0 0) 0 [] := World.ownsRow_nil _ _ _ _
  have hcB : (w.alloc (Obj.cells #[Value.slice none 0 0] 24)).cell? ⟨Bn, 0, none⟩ = some (.slice a m cap) := by rw [hB1.cell (p := ⟨Bn, 0, none⟩) (World.block_lt_of_cell? w _ hBn)]; exact hBn
  have hrB : FRow (w.alloc (Obj.cells #[Value.slice none 0 0] 24)) a l := by
    rcases hr with e | ⟨b, off, e, hc⟩
    · exact .inl e
    · refine .inr ⟨b, off, e, fun i f hf => ?_⟩
      obtain ⟨q0, q1, q2⟩ := hc i f hf
      have hbw := World.block_lt_of_cell? w _ q0
      rw [hB1.cell (p := ⟨b, off + i * 3, none⟩) hbw, hB1.cell (p := ⟨b, off + i * 3 + 1, none⟩) hbw, hB1.cell (p := ⟨b, off + i * 3 + 2, none⟩) hbw]
      exact ⟨q0, q1, q2⟩
  have hbb : ∀ b off, a = some ⟨b, off, none⟩ → l ≠ [] → b < w.heap.size := by
    intro b off e hne
    rcases hr with e2 | ⟨b2, off2, e2, hc⟩
    · exact absurd e2 hne
    · rw [e] at e2
      obtain ⟨rfl, rfl⟩ : b = b2 ∧ off = off2 := by simpa using e2
      cases l with
      | nil => exact absurd rfl hne
      | cons f l => exact World.block_lt_of_cell? w _ (hc 0 f rfl).1
  refine wpIn_rangeFunc_ownH rfl hn1 (gf := 68) (lb := #[.pointer (some ⟨Bn, 0, none⟩)]) rfl trivial (enters_of Try.func68 (by kernel_rfl) rfl)
    (vals_stops (n - 1) (by omega) Bn w.heap.size m cap l a hm hl _ hcB hrB hbb hB1.size) belowK_t (belowK_b (by rw [World.size_alloc]; omega)) (Below.refl _ _) (fun _ => rfl)
    (fun pre W => (∃ v, Boxed W w.heap.size 24 v ∧ W.ownsRow w.heap.size 78 3 v pre.length (pre.flatMap flCells) ∧ True) ∧ Below w.heap.size w W)
    (fun c pre W => False)
    (OwnFrom.and (Own.from (holdsRow_own w.heap.size w.heap.size 24 78 3 (fun pre : List Flt => pre.length) (fun pre => pre.flatMap flCells) (fun _ _ => True)) _) (ownFrom_below (Nat.le_refl _) (by rw [World.size_alloc]; omega)))
    (fun c _ _ _ _ h _ _ => h)
    ⟨⟨_, bX, by simpa using hrow1, trivial⟩, hB1⟩ (Ax w Bn) ?ax ?assign ?body ?done ?stop
  case ax =>
    intro x a' s W W' row h hg hrow
    obtain ⟨B, h1, h2, h3, h4⟩ := h
    exact ⟨B, h1, Nat.lt_of_lt_of_le h2 hg.size, (blk_own (β := Unit) B _ _) () W W' row h3 hg (fun r e => (hrow r e).2), h4⟩
  case assign =>
    rintro L pre x W K ⟨⟨v, hv, hrow, _⟩, hB⟩ hK
    have hbs := hB.size
    simp only [flV]
    gi_wp2
    refine hK _ _ ((KeepsOthers.alloc W _).from _) ((Below.refl _ W).alloc hbs _) ⟨⟨v, hv.alloc _, hrow.alloc _, trivial⟩, hB.alloc hbs _⟩ ⟨W.heap.size, ?_, by simp, World.alloc_heap_new W _, by unfold flV; rfl⟩
    have := (Array.getElem?_eq_some_iff.1 (show W.heap[w.heap.size]? = _ from hv)).1
    omega
  case body =>
    rintro L pre x a' W hL hLL ⟨⟨v, hv, hrow, _⟩, hB⟩ ⟨B, hB1', hB2', hB3', rfl⟩ hlt
    obtain ⟨ao, cp, rfl⟩ := own_form hrow
    have hc := hv.cell
    have hf := hv.frozen
    have g0 := hB3'.cell (i := 0) rfl
    have g1 := hB3'.cell (i := 1) rfl
    have g2 := hB3'.cell (i := 2) rfl
    have hbs := hB.size
    obtain ⟨k, hk⟩ : ∃ k, k = pre.length := ⟨_, rfl⟩
    have HK : Hid (k = pre.length) := hk
    have hk2 : k < 256 := by omega
    rw [← hk] at hrow hc
    have HV : Hid (Boxed W w.heap.size 24 (.slice ao pre.length cp)) := hv
    have HB : Hid (Below w.heap.size w W) := hB
    clear hk hv hB hlt hLL hB3'
    unfold flV
    gi_wp2_with (gi_at_builtin; refine wpListIn_append_own _ rfl _ _ 24 rfl w.heap.size 78 i0 (.agg #[.int .i64 0, .int .i64 0, .int .i64 0]) 3 24 Try.underlying24 hi hz0 hz1 hz2 rfl (by decide) _ _ _ rfl (hrow.alloc _) ⟨W.heap.size, 0, none⟩ 1 1 [.int .i64 x.num, .int .i64 x.kind, .int .i64 x.torn] rfl rfl (three_new _ _ _ _ _) (fl_one [x]) (by unfold maxLen; omega) (by omega) (by simp; omega) ?_; intro v' w5 hown' hgrow _; obtain ⟨a5, cap5, rfl⟩ := own_form hown'; obtain ⟨hv1, hv2, hr2, hk2, hb2⟩ := (show Boxed W w.heap.size 24 (.slice ao k cp) by rw [HK.out]; exact HV.out).appended (by decide) hrow hbs (Nat.le_refl _) hown' hgrow; have hc1 := hv1.cell; have hf1 := hv1.frozen)
    refine ⟨hk2.from _, hb2, ⟨_, hv2, ?_, trivial⟩, HB.out.trans hb2⟩
    simpa [← HK.out, flCells] using hr2
  case done =>
    rintro D ys W hD rfl ⟨⟨v, hv, hrow, _⟩, hB⟩ hK
    obtain ⟨ao, cp, rfl⟩ := own_form hrow
    have hc := hv.cell
    gi_wp2
    refine ⟨by simp, .inl ⟨_, _, rfl, run_takeDeferred hK, ?_⟩⟩
    exact ⟨_, results_tmp rfl _ _ _, _, rfl, ownsRow_putObj hrow _ hK rfl, hB.trans (belowK_b (w := w) (Nat.le_refl _) W D _ _ (by rw [World.size_alloc] at hD; omega) hK rfl rfl)⟩
  case stop =>
    rintro D c pre W hD hpre h hK
    exact h.elim
end Go.Proofs.Ytiejkbncpbhcdaa
