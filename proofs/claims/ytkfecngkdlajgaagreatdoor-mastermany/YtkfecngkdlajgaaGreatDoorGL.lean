/-
  The faults of a plan, told by a range over a function and collected.
  Blocks of a scan in memory, and the ones in one state, as a range over a function tells them.
  What Find of package scan answers.
-/
import Derived.Test.YtkfecngkdlajgaaGreatDoorGI
import Derived.RangeFuncBox
import Derived.RangeFuncNested
import Derived.RangeFuncBound
import Derived.RangeFuncCalls
import Derived.RangeFuncLeaves
import Derived.Shelf.Abstract
import Derived.Shelf.RegionOpen
import Derived.OwnWalkIn
import Derived.TacticsInMore
import Derived.LoopNIn
import Derived.LoopIn
import Derived.Maps.AppendAt
namespace Go.Proofs.YtkfecngkdlajgaaGreatDoor
open Go.RowKit Go.Shelf
set_option maxRecDepth 10000
attribute [local go_sem] Oper.semAt_some

/-- A fault, as a value. -/
def flV (f : Flt) : Value := .agg #[.int .i64 f.num, .int .i64 f.kind, .int .i64 f.torn]
theorem grown_drewN (w : World) (n : Nat) (row : Option Nat) : w.grownBy (w.drewN n) row := ⟨rfl, rfl, rfl, Nat.le_refl _, fun _ _ _ => rfl⟩

set_option maxRecDepth 100000 in
set_option maxHeartbeats 1000000 in
theorem vals1_in (n : Nat) (hn : 1 ≤ n) (L Bn n₀ m cap : Nat) (l : List Flt) (a : Option Addr) (hm : m = l.length) (hl : m ≤ 256) (J Jx : List Flt → World → Prop) (hJd : ∀ pre W W', J pre W → W.grownBy W' none → J pre W')
    (hY : ∀ pre x W, J pre W → pre.length < l.length → YieldAt Fence.wide (n - 1) Tryz.prog L #[flV x] W fun e W' =>
      (e = .returned (.bool true) ∧ J (pre ++ [x]) W' ∧ Below n₀ W W') ∨ (e = .returned (.bool false) ∧ Jx (pre ++ [x]) W'))
    (W : World) (hBn : W.cell? ⟨Bn, 0, none⟩ = some (.slice a m cap)) (hr : FRow W a l) (hb : ∀ b off, a = some ⟨b, off, none⟩ → l ≠ [] → b < n₀) (hn0 : n₀ ≤ W.heap.size) (h0 : J [] W) :
    CallsIn Fence.wide n Tryz.prog 92 #[.func (.yield L) #[] #[], .pointer (some ⟨Bn, 0, none⟩)] W fun e W' => (∃ v, e = .returned v) ∧
      ((∃ ys, ys = l ∧ J ys W') ∨ (∃ pre, pre <+: l ∧ Jx pre W')) := by
  refine callsIn_of_wp Tryz.func92 rfl trivial ?_ rfl
  simp only [Tryz.ntmps92, List.size_toArray, List.length_cons, List.length_nil, Nat.reduceAdd, Nat.reduceSub, Array.replicate_succ, Array.replicate_zero, List.push_toArray, List.append_toArray, List.nil_append, List.cons_append]
  gi_wp2
  gi_loopw [7] (fun i wr => ∃ k : Nat, i = .int .i64 k ∧ k ≤ m ∧ J (l.take k) wr ∧ Below n₀ W wr) (fun i _ => m - (intOf i).toNat)
  case atStart => exact ⟨0, rfl, by omega, by simpa using h0, Below.refl _ _⟩
  case round =>
    obtain ⟨k, rfl, hk, hJs, hbel⟩ := hrel
    by_cases hlt : k < m
    · have hkl : k < l.length := by omega
      obtain ⟨b, off, rfl, hc⟩ : ∃ b off, a = some ⟨b, off, none⟩ ∧ ∀ i f, l[i]? = some f → W.cell? ⟨b, off + i * 3, none⟩ = some (.int .i64 f.num) ∧ W.cell? ⟨b, off + i * 3 + 1, none⟩ = some (.int .i64 f.kind) ∧ W.cell? ⟨b, off + i * 3 + 2, none⟩ = some (.int .i64 f.torn) := by
        rcases hr with e | h
        · subst e; simp at hkl
        · exact h
      have hbn := hb b off rfl (by intro e; subst e; simp at hkl)
      obtain ⟨g0, g1, g2⟩ := hc k l[k] (List.getElem?_eq_getElem hkl)
      rw [← hbel.cell (p := ⟨b, off + k * 3, none⟩) hbn] at g0
      rw [← hbel.cell (p := ⟨b, off + k * 3 + 1, none⟩) hbn] at g1
      rw [← hbel.cell (p := ⟨b, off + k * 3 + 2, none⟩) hbn] at g2
      obtain ⟨f, hf⟩ : ∃ f, f = l[k] := ⟨_, rfl⟩
      have HT : Hid (l.take (k + 1) = l.take k ++ [f]) := by show _ = _; rw [List.take_succ_eq_append_getElem hkl, hf]
      rw [← hf] at g0 g1 g2
      have hbw : b < wr.heap.size := World.block_lt_of_cell? wr _ g0
      have hnw : n₀ ≤ wr.heap.size := Nat.le_trans hn0 hbel.size
      have hpl : (l.take k).length < l.length := by simp; omega
      obtain ⟨fn, tmps, assign, body, hy, hR⟩ := hY (l.take k) f (wr.alloc (.cells #[.int .i64 f.num, .int .i64 f.kind, .int .i64 f.torn] 66)) (hJd _ _ _ hJs (World.grownBy_alloc wr _ none)) hpl
      unfold flV at hy
      clear hf hc hr
      gi_wp2
      refine hR.mono ?_
      rintro e W3 (⟨rfl, hJ3, hk3⟩ | ⟨rfl, hJx3⟩)
      · gi_wp2
        refine ⟨⟨k + 1, by simp, by omega, by rw [HT.out]; exact hJ3, hbel.trans (((Below.refl n₀ wr).alloc hnw _).trans hk3)⟩, ?_⟩
        simp [intOf]; omega
      · gi_wp2
        refine bodyPost_ret (results_none rfl _ _ _) rfl ?_
        exact ⟨⟨_, rfl⟩, .inr ⟨l.take k ++ [f], ⟨l.drop (k + 1), by rw [← HT.out, List.take_append_drop]⟩, hJx3⟩⟩
    · gi_wp2
      go_end0
      have e : l.take k = l := List.take_of_length_le (by omega)
      rw [e] at hJs
      exact ⟨⟨_, rfl⟩, .inl ⟨l, rfl, hJs⟩⟩

theorem vals_stops (n : Nat) (hn : 1 ≤ n) (Bn n₀ m cap : Nat) (l : List Flt) (a : Option Addr) (hm : m = l.length) (hl : m ≤ 256) (w : World) (hBn : w.cell? ⟨Bn, 0, none⟩ = some (.slice a m cap)) (hr : FRow w a l) (hb : ∀ b off, a = some ⟨b, off, none⟩ → l ≠ [] → b < n₀) (hn0 : n₀ ≤ w.heap.size) :
    SeqStopsK Fence.wide n Tryz.prog 92 #[.pointer (some ⟨Bn, 0, none⟩)] (fun f : Flt => #[flV f]) (Below n₀) (fun ys => ys = l) (fun pre => pre <+: l) l.length w := fun L J Jx W hW hJ _ hY h0 =>
  vals1_in n hn L Bn n₀ m cap l a hm hl J Jx (fun pre W W' h hg => hJ pre W W' none h hg (fun r e => by cases e)) hY W ((hW.cell (p := ⟨Bn, 0, none⟩) (World.block_lt_of_cell? w _ hBn)).trans hBn)
    (by
      rcases hr with e | ⟨b, off, e, hc⟩
      · exact .inl e
      · refine .inr ⟨b, off, e, fun i f hf => ?_⟩
        obtain ⟨q0, q1, q2⟩ := hc i f hf
        have hbw := World.block_lt_of_cell? w _ q0
        rw [hW.cell (p := ⟨b, off + i * 3, none⟩) hbw, hW.cell (p := ⟨b, off + i * 3 + 1, none⟩) hbw, hW.cell (p := ⟨b, off + i * 3 + 2, none⟩) hbw]
        exact ⟨q0, q1, q2⟩) hb (Nat.le_trans hn0 hW.size) h0

theorem infoF : (Tryz.prog.info? 66).map (fun i => (i.zero, i.size, i.bytes)) = some (some (.agg #[.int .i64 0, .int .i64 0, .int .i64 0]), 3, 24) := by kernel_rfl
theorem fl_one (l : List Flt) : ∀ u ∈ l.flatMap flCells, u.oneCell' = true := by
  intro u hu
  obtain ⟨f, _, h⟩ := List.mem_flatMap.1 hu
  simp [flCells] at h
  rcases h with rfl | rfl | rfl <;> rfl
theorem three_new (w : World) (x y z : Value) (t : TypeId) : ∀ j u, [x, y, z][j]? = some u → (w.alloc (.cells #[x, y, z] t)).cell? ((⟨w.heap.size, 0, none⟩ : Addr).add j) = some u := by
  intro j u hj
  have e : (⟨w.heap.size, 0, none⟩ : Addr).add j = ⟨w.heap.size, j, none⟩ := by unfold Addr.add; split <;> simp_all
  rw [e]
  exact (Row.new w [x, y, z] t).cell hj
theorem pure_own {β : Type} (p : β → Prop) : Go.Own (fun (s : β) (_ : World) => p s) := fun _ _ _ _ h _ _ => h
def Blk (W : World) (B : Nat) (cs : Array Value) (t : TypeId) : Prop := W.heap[B]? = some (.cells cs t (0, 0))
theorem blk_own {β : Type} (B : Nat) (cs : Array Value) (t : TypeId) : Go.Own (fun (_ : β) W => Blk W B cs t) := by
  intro s X Y row h hg hr
  refine (hg.block B (Array.getElem?_eq_some_iff.1 h).1 (fun e => ?_)).trans h
  obtain ⟨o, ho, hc⟩ := hr B e.symm
  rw [show X.heap[B]? = _ from h] at ho
  cases ho
  cases hc
theorem Blk.cell {W : World} {B i : Nat} {cs : Array Value} {t : TypeId} {v : Value} (h : Blk W B cs t) (hi : cs[i]? = some v) : W.cell? ⟨B, i, none⟩ = some v := by
  simp only [World.cell?, show W.heap[B]? = _ from h]; simpa using hi
theorem own_form {W : World} {base size n : Nat} {e : TypeId} {v : Value} {xs : List Value} (h : W.ownsRow base e size v n xs) : ∃ a cap, v = .slice a n cap := by
  rcases h.2 with ⟨rfl, hn⟩ | ⟨g, cap, cur, rfl, _⟩
  · exact ⟨none, 0, by rw [hn]⟩
  · exact ⟨_, cap, rfl⟩
/-- What a round's own variable is. -/
def Ax (w : World) (Bn : Nat) (x : Flt) (a : Act) (W : World) : Prop :=
  ∃ B, w.heap.size + 1 ≤ B ∧ B < W.heap.size ∧ Blk W B #[.int .i64 x.num, .int .i64 x.kind, .int .i64 x.torn] 66 ∧
    a = { tmps := #[.slice none 0 0, .func (.func 92) #[] #[.pointer (some ⟨Bn, 0, none⟩)], .pointer (some ⟨w.heap.size, 0, none⟩), undef, .slice none 0 0, .pointer (some ⟨B, 0, none⟩), .func (.func 92) #[] #[.pointer (some ⟨Bn, 0, none⟩)], flV x, undef, undef, undef, undef, undef], defers := [] }

set_option maxRecDepth 100000 in
set_option maxHeartbeats 2000000 in
theorem appendSeq_in (n : Nat) (hn : 3 ≤ n) (Bn m cap : Nat) (l : List Flt) (a : Option Addr) (hm : m = l.length) (hl : m ≤ 256) (w : World) (hBn : w.cell? ⟨Bn, 0, none⟩ = some (.slice a m cap)) (hr : FRow w a l) :
    CallsIn Fence.wide n Tryz.prog 135 #[.slice none 0 0, .func (.func 92) #[] #[.pointer (some ⟨Bn, 0, none⟩)]] w fun e w' => ∃ v, e = .returned v ∧ w'.ownsRow w.heap.size 66 3 v l.length (l.flatMap flCells) ∧ Below w.heap.size w w' := by
  have hn1 : 1 ≤ n := by omega
  obtain ⟨i0, hi, hz0, hz1, hz2⟩ := info_parts infoF
  refine callsIn_of_wp_marks Tryz.func135 rfl trivial ?_ rfl
  simp only [Tryz.ntmps135, List.size_toArray, List.length_cons, List.length_nil, Nat.reduceAdd, Nat.reduceSub, Array.replicate_succ, Array.replicate_zero, List.push_toArray, List.append_toArray, List.nil_append, List.cons_append]
  gi_wp2
  have bX := Boxed.new w 24 (.slice none 0 0)
  have hB1 : Below w.heap.size w (w.alloc (Obj.cells #[Value.slice none 0 0] 24)) := below_new w _
  have hrow1 : (w.alloc (Obj.cells #[Value.slice none 0 0] 24)).ownsRow w.heap.size 66 3 (.slice none 0 0) 0 [] := World.ownsRow_nil _ _ _ _
  have hcB : (w.alloc (Obj.cells #[Value.slice none 0 0] 24)).cell? ⟨Bn, 0, none⟩ = some (.slice a m cap) := by rw [hB1.cell (p := ⟨Bn, 0, none⟩) (World.block_lt_of_cell? w _ hBn)]; exact hBn
  have hrB : FRow (w.alloc (Obj.cells #[Value.slice none 0 0] 24)) a l := by
    rcases hr with e | ⟨b, off, e, hc⟩
    · exact .inl e
    · refine .inr ⟨b, off, e, fun i f hf => ?_⟩
      obtain ⟨q0, q1, q2⟩ := hc i f hf
      have hbw := World.block_lt_of_cell? w _ q0
      rw [hB1.cell (p := ⟨b, off + i * 3, none⟩) hbw, hB1.cell (p := ⟨b, off + i * 3 + 1, none⟩) hbw, hB1.cell (p := ⟨b, off + i * 3 + 2, none⟩) hbw]
      exact ⟨q0, q1, q2⟩
  have hbb : ∀ b off, a = some ⟨b, off, none⟩ → l ≠ [] → b < w.heap.size := by
    intro b off e hne
    rcases hr with e2 | ⟨b2, off2, e2, hc⟩
    · exact absurd e2 hne
    · rw [e] at e2
      obtain ⟨rfl, rfl⟩ : b = b2 ∧ off = off2 := by simpa using e2
      cases l with
      | nil => exact absurd rfl hne
      | cons f l => exact World.block_lt_of_cell? w _ (hc 0 f rfl).1
  refine wpIn_rangeFunc_ownH rfl hn1 (gf := 92) (lb := #[.pointer (some ⟨Bn, 0, none⟩)]) rfl trivial (enters_of Tryz.func92 (by kernel_rfl) rfl)
    (vals_stops (n - 1) (by omega) Bn w.heap.size m cap l a hm hl _ hcB hrB hbb hB1.size) belowK_t (belowK_b (by rw [World.size_alloc]; omega)) (Below.refl _ _) (fun _ => rfl)
    (fun pre W => (∃ v, Boxed W w.heap.size 24 v ∧ W.ownsRow w.heap.size 66 3 v pre.length (pre.flatMap flCells) ∧ True) ∧ Below w.heap.size w W)
    (fun c pre W => False)
    (OwnFrom.and (Own.from (holdsRow_own w.heap.size w.heap.size 24 66 3 (fun pre : List Flt => pre.length) (fun pre => pre.flatMap flCells) (fun _ _ => True)) _) (ownFrom_below (Nat.le_refl _) (by rw [World.size_alloc]; omega)))
    (fun c _ _ _ _ h _ _ => h)
    ⟨⟨_, bX, by simpa using hrow1, trivial⟩, hB1⟩ (Ax w Bn) ?ax ?assign ?body ?done ?stop
  case ax =>
    intro x a' s W W' row h hg hrow
    obtain ⟨B, h1, h2, h3, h4⟩ := h
    exact ⟨B, h1, Nat.lt_of_lt_of_le h2 hg.size, (blk_own (β := Unit) B _ _) () W W' row h3 hg (fun r e => (hrow r e).2), h4⟩
  case assign =>
    rintro L pre x W K ⟨⟨v, hv, hrow, _⟩, hB⟩ hK
    have hbs := hB.size
    simp only [flV]
    gi_wp2
    refine hK _ _ ((KeepsOthers.alloc W _).from _) ((Below.refl _ W).alloc hbs _) ⟨⟨v, hv.alloc _, hrow.alloc _, trivial⟩, hB.alloc hbs _⟩ ⟨W.heap.size, ?_, by simp, World.alloc_heap_new W _, by unfold flV; rfl⟩
    have := (Array.getElem?_eq_some_iff.1 (show W.heap[w.heap.size]? = _ from hv)).1
    omega
  case body =>
    rintro L pre x a' W hL hLL ⟨⟨v, hv, hrow, _⟩, hB⟩ ⟨B, hB1', hB2', hB3', rfl⟩ hlt
    obtain ⟨ao, cp, rfl⟩ := own_form hrow
    have hc := hv.cell
    have hf := hv.frozen
    have g0 := hB3'.cell (i := 0) rfl
    have g1 := hB3'.cell (i := 1) rfl
    have g2 := hB3'.cell (i := 2) rfl
    have hbs := hB.size
    obtain ⟨k, hk⟩ : ∃ k, k = pre.length := ⟨_, rfl⟩
    have HK : Hid (k = pre.length) := hk
    have hk2 : k < 256 := by omega
    rw [← hk] at hrow hc
    have HV : Hid (Boxed W w.heap.size 24 (.slice ao pre.length cp)) := hv
    have HB : Hid (Below w.heap.size w W) := hB
    clear hk hv hB hlt hLL hB3'
    unfold flV
    gi_wp2_with (gi_at_builtin; refine wpListIn_append_own _ rfl _ _ 24 rfl w.heap.size 66 i0 (.agg #[.int .i64 0, .int .i64 0, .int .i64 0]) 3 24 Tryz.underlying24 hi hz0 hz1 hz2 rfl (by decide) _ _ _ rfl (hrow.alloc _) ⟨W.heap.size, 0, none⟩ 1 1 [.int .i64 x.num, .int .i64 x.kind, .int .i64 x.torn] rfl rfl (three_new _ _ _ _ _) (fl_one [x]) (by unfold maxLen; omega) (by omega) (by simp; omega) ?_; intro v' w5 hown' hgrow _; obtain ⟨a5, cap5, rfl⟩ := own_form hown'; obtain ⟨hv1, hv2, hr2, hk2, hb2⟩ := (show Boxed W w.heap.size 24 (.slice ao k cp) by rw [HK.out]; exact HV.out).appended (by decide) hrow hbs (Nat.le_refl _) hown' hgrow; have hc1 := hv1.cell; have hf1 := hv1.frozen)
    refine ⟨hk2.from _, hb2, ⟨_, hv2, ?_, trivial⟩, HB.out.trans hb2⟩
    simpa [← HK.out, flCells] using hr2
  case done =>
    rintro D ys W hD rfl ⟨⟨v, hv, hrow, _⟩, hB⟩ hK
    obtain ⟨ao, cp, rfl⟩ := own_form hrow
    have hc := hv.cell
    gi_wp2
    refine ⟨by simp, .inl ⟨_, _, rfl, run_takeDeferred hK, ?_⟩⟩
    exact ⟨_, results_tmp rfl _ _ _, _, rfl, ownsRow_putObj hrow _ hK rfl, hB.trans (belowK_b (w := w) (Nat.le_refl _) W D _ _ (by rw [World.size_alloc] at hD; omega) hK rfl rfl)⟩
  case stop =>
    rintro D c pre W hD hpre h hK
    exact h.elim
end Go.Proofs.YtkfecngkdlajgaaGreatDoor
namespace Go.Proofs.YtkfecngkdlajgaaGreatDoor
open Go.RowKit Go.Shelf
set_option maxRecDepth 10000
attribute [local go_sem] Oper.semAt_some

/-- A block of a scan. -/
structure Bl where
  st : Int
  cnt : Int
  leb : Int
  used : Int
  seq : Int
  closed : Bool
def blCells (b : Bl) : List Value := [.int .i64 b.st, .int .i64 b.cnt, .int .i64 b.leb, .int .i64 b.used, .int .u64 b.seq, .bool b.closed]
def blV (b : Bl) : Value := .agg #[.int .i64 b.st, .int .i64 b.cnt, .int .i64 b.leb, .int .i64 b.used, .int .u64 b.seq, .bool b.closed]
theorem bl_len (b : Bl) : (blCells b).length = 6 := rfl
/-- The cells of a block at a place. -/
structure BlAt (w : World) (b off : Nat) (x : Bl) : Prop where
  c0 : w.cell? ⟨b, off, none⟩ = some (.int .i64 x.st)
  c1 : w.cell? ⟨b, off + 1, none⟩ = some (.int .i64 x.cnt)
  c2 : w.cell? ⟨b, off + 2, none⟩ = some (.int .i64 x.leb)
  c3 : w.cell? ⟨b, off + 3, none⟩ = some (.int .i64 x.used)
  c4 : w.cell? ⟨b, off + 4, none⟩ = some (.int .u64 x.seq)
  c5 : w.cell? ⟨b, off + 5, none⟩ = some (.bool x.closed)
theorem BlAt.lt {w : World} {b off : Nat} {x : Bl} (h : BlAt w b off x) : b < w.heap.size := World.block_lt_of_cell? w _ h.c0
theorem BlAt.below {w w' : World} {n b off : Nat} {x : Bl} (h : BlAt w b off x) (hb : Below n w w') (hn : b < n) : BlAt w' b off x := by
  refine ⟨?_, ?_, ?_, ?_, ?_, ?_⟩
  · rw [hb.cell (p := ⟨b, off, none⟩) hn]; exact h.c0
  · rw [hb.cell (p := ⟨b, off + 1, none⟩) hn]; exact h.c1
  · rw [hb.cell (p := ⟨b, off + 2, none⟩) hn]; exact h.c2
  · rw [hb.cell (p := ⟨b, off + 3, none⟩) hn]; exact h.c3
  · rw [hb.cell (p := ⟨b, off + 4, none⟩) hn]; exact h.c4
  · rw [hb.cell (p := ⟨b, off + 5, none⟩) hn]; exact h.c5
/-- Blocks, as they lie. -/
def LRow (w : World) (a : Option Addr) (l : List Bl) : Prop :=
  l = [] ∨ ∃ b off, a = some ⟨b, off, none⟩ ∧ ∀ i x, l[i]? = some x → BlAt w b (off + i * 6) x
theorem LRow.low {w : World} {a : Option Addr} {l : List Bl} (h : LRow w a l) : ∀ b off, a = some ⟨b, off, none⟩ → l ≠ [] → b < w.heap.size := by
  intro b off e hne
  rcases h with h | ⟨b2, off2, e2, hc⟩
  · exact absurd h hne
  · rw [e] at e2
    obtain ⟨rfl, rfl⟩ : b = b2 ∧ off = off2 := by simpa using e2
    cases l with
    | nil => exact absurd rfl hne
    | cons x l => exact (hc 0 x rfl).lt
theorem LRow.below {w w' : World} {n : Nat} {a : Option Addr} {l : List Bl} (h : LRow w a l) (hb : Below n w w') (hn : ∀ b off, a = some ⟨b, off, none⟩ → l ≠ [] → b < n) : LRow w' a l := by
  rcases h with h | ⟨b, off, e, hc⟩
  · exact .inl h
  · refine .inr ⟨b, off, e, fun i x hx => (hc i x hx).below hb (hn b off e ?_)⟩
    rintro rfl
    simp at hx
theorem LRow.later {w w' : World} {a : Option Addr} {l : List Bl} (h : LRow w a l) (hb : Below w.heap.size w w') : LRow w' a l := h.below hb h.low
/-- Those in one state, with their numbers. -/
def sel (st : Int) : Nat → List Bl → List (Nat × Bl)
  | _, [] => []
  | k, b :: l => if b.st = st then (k, b) :: sel st (k + 1) l else sel st (k + 1) l
theorem sel_snoc (st : Int) (x : Bl) : ∀ (l : List Bl) (k : Nat), sel st k (l ++ [x]) = sel st k l ++ (if x.st = st then [(k + l.length, x)] else [])
  | [], k => by simp [sel]
  | b :: l, k => by
    simp only [List.cons_append, sel, sel_snoc st x l (k + 1), List.length_cons]
    split <;> simp [Nat.add_assoc, Nat.add_comm 1]
theorem sel_append (st : Int) : ∀ (l m : List Bl) (k : Nat), sel st k (l ++ m) = sel st k l ++ sel st (k + l.length) m
  | [], m, k => by simp [sel]
  | b :: l, m, k => by
    simp only [List.cons_append, sel, sel_append st l m (k + 1), List.length_cons]
    split <;> simp [Nat.add_assoc, Nat.add_comm 1]
theorem sel_take {st : Int} {l : List Bl} {k : Nat} (hk : k < l.length) : sel st 0 (l.take (k + 1)) = sel st 0 (l.take k) ++ (if l[k].st = st then [(k, l[k])] else []) := by
  rw [List.take_succ_eq_append_getElem hk, sel_snoc]
  simp [Nat.min_eq_left (Nat.le_of_lt hk)]
theorem sel_split {st : Int} {l : List Bl} (k : Nat) : sel st 0 l = sel st 0 (l.take k) ++ sel st (min k l.length) (l.drop k) := by
  conv => lhs; rw [← List.take_append_drop k l, sel_append]
  simp
theorem sel_pre {st : Int} {l : List Bl} (k : Nat) : sel st 0 (l.take k) <+: sel st 0 l := ⟨_, (sel_split k).symm⟩
theorem sel_fst {st : Int} : ∀ (l : List Bl) (k : Nat) (x : Nat × Bl), x ∈ sel st k l → k ≤ x.1 ∧ l[x.1 - k]? = some x.2 ∧ x.2.st = st
  | [], k, x, h => by simp [sel] at h
  | b :: l, k, x, h => by
    unfold sel at h
    split at h
    · rcases List.mem_cons.1 h with rfl | h
      · exact ⟨Nat.le_refl _, by simp, by assumption⟩
      · obtain ⟨h1, h2, h3⟩ := sel_fst l (k + 1) x h
        refine ⟨by omega, ?_, h3⟩
        rw [show x.1 - k = (x.1 - (k + 1)) + 1 by omega]
        simpa using h2
    · obtain ⟨h1, h2, h3⟩ := sel_fst l (k + 1) x h
      refine ⟨by omega, ?_, h3⟩
      rw [show x.1 - k = (x.1 - (k + 1)) + 1 by omega]
      simpa using h2

/-- What lay below n₀ is as it was, and so is the block Bs. -/
structure KpS (n₀ Bs : Nat) (W W' : World) : Prop where
  below : Below n₀ W W'
  box : W'.heap[Bs]? = W.heap[Bs]?
theorem KpS.refl (n₀ Bs : Nat) (W : World) : KpS n₀ Bs W W := ⟨Below.refl _ _, rfl⟩
theorem KpS.trans {n₀ Bs : Nat} {A B C : World} (h : KpS n₀ Bs A B) (k : KpS n₀ Bs B C) : KpS n₀ Bs A C := ⟨h.below.trans k.below, k.box.trans h.box⟩
theorem KpS.alloc {n₀ Bs : Nat} {A B : World} (h : KpS n₀ Bs A B) (hn : n₀ ≤ B.heap.size) (hb : Bs < B.heap.size) (o : Obj) : KpS n₀ Bs A (B.alloc o) := ⟨h.below.alloc hn o, (Below.heap_alloc _ _ _ hb).trans h.box⟩
theorem KpS.set {n₀ Bs : Nat} {A B : World} (h : KpS n₀ Bs A B) {p : Addr} (hn : n₀ ≤ p.block) (hb : Bs ≠ p.block) (v : Value) : KpS n₀ Bs A (B.setCell p v) := ⟨h.below.setCell hn v, (Below.heap_setCell _ _ _ Bs hb).trans h.box⟩
theorem KpS.cell {n₀ Bs i : Nat} {A B : World} (h : KpS n₀ Bs A B) : B.cell? ⟨Bs, i, none⟩ = A.cell? ⟨Bs, i, none⟩ := World.cell?_of_block (a := ⟨Bs, i, none⟩) h.box
theorem kpS_b {n₀ Bs : Nat} {w : World} (hn : n₀ ≤ w.heap.size) (hb : Bs < w.heap.size) (W : World) (l : Nat) (o o' : Obj) (hl : w.heap.size ≤ l) (ho : W.heap[l]? = some o) (h1 : o.isCells = false) (h2 : o.isWalk = false) : KpS n₀ Bs W (W.putObj l o') :=
  ⟨belowK_b (w := w) hn W l o o' hl ho h1 h2, World.putObj_heap_other (by omega)⟩

/-- One of those. -/
def El (st : Int) (l : List Bl) : Type := { x : Nat × Bl // l[x.1]? = some x.2 ∧ x.2.st = st }
/-- Those, without what is known of them. -/
def vals {st : Int} {l : List Bl} (p : List (El st l)) : List (Nat × Bl) := p.map Subtype.val
theorem vals_snoc {st : Int} {l : List Bl} (p : List (El st l)) (x : El st l) : vals (p ++ [x]) = vals p ++ [x.1] := List.map_append
theorem vals_length {st : Int} {l : List Bl} (p : List (El st l)) : (vals p).length = p.length := List.length_map _

set_option maxRecDepth 100000 in
set_option maxHeartbeats 1000000 in
theorem inst1_in (n : Nat) (hn : 1 ≤ n) (L Ba Bs n₀ m cap : Nat) (st : Int) (l : List Bl) (a : Option Addr) (hm : m = l.length) (hl : m ≤ 281474976710656) (J Jx : List (El st l) → World → Prop) (hJd : ∀ pre W W', J pre W → W.grownBy W' none → J pre W')
    (hY : ∀ pre (x : El st l) W, J pre W → pre.length < (sel st 0 l).length → YieldAt Fence.wide (n - 1) Tryz.prog L #[.int .i64 (x.1.1 : Int), blV x.1.2] W fun e W' =>
      (e = .returned (.bool true) ∧ J (pre ++ [x]) W' ∧ KpS n₀ Bs W W') ∨ (e = .returned (.bool false) ∧ Jx (pre ++ [x]) W'))
    (W : World) (hBa : W.cell? ⟨Ba, 0, none⟩ = some (.slice a m cap)) (hBs : W.cell? ⟨Bs, 0, none⟩ = some (.int .i64 st)) (hr : LRow W a l) (hb : ∀ b off, a = some ⟨b, off, none⟩ → l ≠ [] → b < n₀) (hn0 : n₀ ≤ W.heap.size) (h0 : J [] W) :
    CallsIn Fence.wide n Tryz.prog 153 #[.func (.yield L) #[] #[], .pointer (some ⟨Ba, 0, none⟩), .pointer (some ⟨Bs, 0, none⟩)] W fun e W' => (∃ v, e = .returned v) ∧
      ((∃ ys, vals ys = sel st 0 l ∧ J ys W') ∨ (∃ pre, vals pre <+: sel st 0 l ∧ Jx pre W')) := by
  refine callsIn_of_wp Tryz.func153 rfl trivial ?_ rfl
  simp only [Tryz.ntmps153, List.size_toArray, List.length_cons, List.length_nil, Nat.reduceAdd, Nat.reduceSub, Array.replicate_succ, Array.replicate_zero, List.push_toArray, List.append_toArray, List.nil_append, List.cons_append]
  gi_wp2
  gi_loopw [8] (fun i wr => ∃ (k : Nat) (pre : List (El st l)), i = .int .i64 k ∧ k ≤ m ∧ Hid (vals pre = sel st 0 (l.take k)) ∧ J pre wr ∧ KpS n₀ Bs W wr) (fun i _ => m - (intOf i).toNat)
  case atStart => exact ⟨0, [], rfl, by omega, by show _ = _; simp [sel]; rfl, h0, KpS.refl _ _ _⟩
  case round =>
    obtain ⟨k, pre, rfl, hk, HV, hJs, hkp⟩ := hrel
    have hbel := hkp.below
    by_cases hlt : k < m
    · have hkl : k < l.length := by omega
      obtain ⟨b, off, rfl, hc⟩ : ∃ b off, a = some ⟨b, off, none⟩ ∧ ∀ i x, l[i]? = some x → BlAt W b (off + i * 6) x := by
        rcases hr with e | h
        · subst e; simp at hkl
        · exact h
      have hbn := hb b off rfl (by intro e; subst e; simp at hkl)
      obtain ⟨x, hx⟩ : ∃ x, x = l[k] := ⟨_, rfl⟩
      obtain ⟨g0, g1, g2, g3, g4, g5⟩ := (hc k l[k] (List.getElem?_eq_getElem hkl)).below hbel hbn
      rw [← hx] at g0 g1 g2 g3 g4 g5
      have hs := hkp.cell (i := 0)
      rw [hBs] at hs
      have hbw : b < wr.heap.size := World.block_lt_of_cell? wr _ g0
      have hsw : Bs < wr.heap.size := World.block_lt_of_cell? wr _ hs
      have hnw : n₀ ≤ wr.heap.size := Nat.le_trans hn0 hbel.size
      have HT : Hid (sel st 0 (l.take (k + 1)) = vals pre ++ (if x.st = st then [(k, x)] else [])) := by show _ = _; rw [sel_take hkl, hx, HV.out]
      have HA : Hid (J pre (wr.alloc (.cells #[.int .i64 x.st, .int .i64 x.cnt, .int .i64 x.leb, .int .i64 x.used, .int .u64 x.seq, .bool x.closed] 156))) := hJd _ _ _ hJs (World.grownBy_alloc wr _ none)
      have HB : Hid (KpS n₀ Bs W (wr.alloc (.cells #[.int .i64 x.st, .int .i64 x.cnt, .int .i64 x.leb, .int .i64 x.used, .int .u64 x.seq, .bool x.closed] 156))) := hkp.alloc hnw hsw _
      by_cases hst : x.st = st
      · have e1 : (x.st == st) = true := by simp [hst]
        have HP : Hid (sel st 0 (l.take (k + 1)) <+: sel st 0 l) := sel_pre (k + 1)
        have hpl : pre.length < (sel st 0 l).length := by
          have h1 := HT.out
          rw [if_pos hst] at h1
          have h2 := HP.out.length_le
          rw [h1] at h2
          simp [vals_length] at h2
          omega
        obtain ⟨y, hy0⟩ : ∃ y : El st l, y.1 = (k, x) := ⟨⟨(k, x), by rw [hx]; exact List.getElem?_eq_getElem hkl, hst⟩, rfl⟩
        obtain ⟨fn, tmps, assign, body, hy, hR⟩ := hY pre y (wr.alloc (.cells #[.int .i64 x.st, .int .i64 x.cnt, .int .i64 x.leb, .int .i64 x.used, .int .u64 x.seq, .bool x.closed] 156)) HA.out hpl
        rw [hy0] at hy
        unfold blV at hy
        simp only at hy
        have HS : Hid (x.st = st) := hst
        have HY0 : Hid (y.1 = (k, x)) := hy0
        clear hx hc hr hst hJs hpl hy0
        gi_wp2
        refine hR.mono ?_
        rintro e W3 (⟨rfl, hJ3, hk3⟩ | ⟨rfl, hJx3⟩)
        · gi_wp2
          refine ⟨⟨k + 1, pre ++ [y], by simp, by omega, by show _ = _; rw [HT.out, if_pos HS.out, vals_snoc, HY0.out], hJ3, HB.out.trans hk3⟩, ?_⟩
          simp [intOf]; omega
        · gi_wp2
          refine bodyPost_ret (results_none rfl _ _ _) rfl ?_
          have hp := HP.out
          rw [HT.out, if_pos HS.out, ← HY0.out, ← vals_snoc] at hp
          exact ⟨⟨_, rfl⟩, .inr ⟨_, hp, hJx3⟩⟩
      · have e1 : (x.st == st) = false := by simp [hst]
        have HS : Hid (¬ x.st = st) := hst
        clear hx hc hr hst hJs
        gi_wp2
        refine ⟨(fun f h => by cases h), ?_⟩
        gi_wp2
        refine ⟨⟨k + 1, pre, by simp, by omega, by show _ = _; rw [HT.out, if_neg HS.out, List.append_nil], HA.out, HB.out⟩, ?_⟩
        simp [intOf]; omega
    · gi_wp2
      go_end0
      have e : l.take k = l := List.take_of_length_le (by omega)
      have hv := HV.out
      rw [e] at hv
      exact ⟨⟨_, rfl⟩, .inl ⟨_, hv, hJs⟩⟩
theorem inst_stops (n : Nat) (hn : 1 ≤ n) (Ba Bs n₀ m cap : Nat) (st : Int) (l : List Bl) (a : Option Addr) (hm : m = l.length) (hl : m ≤ 281474976710656) (w : World) (hBa : w.cell? ⟨Ba, 0, none⟩ = some (.slice a m cap)) (hBs : w.cell? ⟨Bs, 0, none⟩ = some (.int .i64 st)) (hr : LRow w a l) (hb : ∀ b off, a = some ⟨b, off, none⟩ → l ≠ [] → b < n₀) (hn0 : n₀ ≤ w.heap.size) :
    SeqStopsK Fence.wide n Tryz.prog 153 #[.pointer (some ⟨Ba, 0, none⟩), .pointer (some ⟨Bs, 0, none⟩)] (fun x : El st l => #[.int .i64 (x.1.1 : Int), blV x.1.2]) (KpS n₀ Bs) (fun ys => vals ys = sel st 0 l) (fun pre => vals pre <+: sel st 0 l) (sel st 0 l).length w := fun L J Jx W hW hJ _ hY h0 =>
  inst1_in n hn L Ba Bs n₀ m cap st l a hm hl J Jx (fun pre W W' h hg => hJ pre W W' none h hg (fun r e => by cases e)) hY W ((hW.cell (p := ⟨Ba, 0, none⟩) (World.block_lt_of_cell? w _ hBa)).trans hBa) ((hW.cell (p := ⟨Bs, 0, none⟩) (World.block_lt_of_cell? w _ hBs)).trans hBs)
    (hr.later hW) hb (Nat.le_trans hn0 hW.size) h0
set_option maxHeartbeats 1000000 in
/-- The function value that tells them. -/
theorem inst_in (n : Nat) (a : Option Addr) (m cap : Nat) (st : Int) (w : World) :
    CallsIn Fence.wide n Tryz.prog 112 #[.slice a m cap, .int .i64 st] w fun e w' => e = .returned (.func (.func 153) #[] #[.pointer (some ⟨w.heap.size, 0, none⟩), .pointer (some ⟨w.heap.size + 1, 0, none⟩)]) ∧ w' = (w.alloc (.cells #[.slice a m cap] 68)).alloc (.cells #[.int .i64 st] 3) := by
  refine callsIn_of_wp Tryz.func112 rfl trivial ?_ rfl
  simp only [Tryz.ntmps112, List.size_toArray, List.length_cons, List.length_nil, Nat.reduceAdd, Nat.reduceSub, Array.replicate_succ, Array.replicate_zero, List.push_toArray, List.append_toArray, List.nil_append, List.cons_append]
  gi_wp2
  go_ret
  exact ⟨rfl, rfl⟩
end Go.Proofs.YtkfecngkdlajgaaGreatDoor
namespace Go.Proofs.YtkfecngkdlajgaaGreatDoor
open Go.RowKit Go.Shelf
set_option maxRecDepth 10000
attribute [local go_sem] Oper.semAt_some

/-- The first of those with a leb. -/
def firstL (leb : Int) : List (Nat × Bl) → Int
  | [] => -1
  | x :: r => if x.2.leb = leb then (x.1 : Int) else firstL leb r
theorem firstL_none {leb : Int} : ∀ {p : List (Nat × Bl)}, (∀ x ∈ p, x.2.leb ≠ leb) → firstL leb p = -1
  | [], _ => rfl
  | x :: r, h => by unfold firstL; rw [if_neg (h x (by simp)), firstL_none (fun y hy => h y (by simp [hy]))]
theorem firstL_snoc {leb : Int} {x : Nat × Bl} (hx : x.2.leb = leb) : ∀ {p : List (Nat × Bl)} (r : List (Nat × Bl)), (∀ x ∈ p, x.2.leb ≠ leb) → firstL leb (p ++ x :: r) = x.1
  | [], r, _ => by simp [firstL, hx]
  | y :: p, r, h => by
    rw [List.cons_append]
    unfold firstL
    rw [if_neg (h y (by simp)), firstL_snoc hx r (fun y hy => h y (by simp [hy]))]
/-- What Find answers. -/
def findI (l : List Bl) (leb : Int) : Int := firstL leb (sel 4 0 l)

theorem own_size {β : Type} (k B : Nat) : OwnFrom B (fun (_ : β) W => k ≤ W.heap.size) := fun _ _ _ _ h hg _ => Nat.le_trans h hg.size
/-- What a round's own variables are. -/
def AxF (w : World) (a : Option Addr) (m cap : Nat) (leb : Int) {st : Int} {l : List Bl} (x : El st l) (a' : Act) (W : World) : Prop :=
  ∃ B, w.heap.size + 4 ≤ B ∧ B < W.heap.size ∧ Blk W B #[.int .i64 x.1.2.st, .int .i64 x.1.2.cnt, .int .i64 x.1.2.leb, .int .i64 x.1.2.used, .int .u64 x.1.2.seq, .bool x.1.2.closed] 156 ∧
    a' = { tmps := #[.slice a m cap, .int .i64 leb, undef, .pointer (some ⟨w.heap.size, 0, none⟩), .pointer (some ⟨w.heap.size + 1, 0, none⟩), .int .i64 (x.1.1 : Int), .pointer (some ⟨B, 0, none⟩), .slice a m cap, .func (.func 153) #[] #[.pointer (some ⟨w.heap.size + 1 + 1, 0, none⟩), .pointer (some ⟨w.heap.size + 1 + 1 + 1, 0, none⟩)], .int .i64 (x.1.1 : Int), blV x.1.2, undef, undef, undef, undef, undef], defers := [] }
theorem find_results (tmps : Array Value) (B : Nat) (v : Value) (W : World) (h2 : tmps[4]?.getD undef = .pointer (some ⟨B, 0, none⟩)) (ca : W.cell? ⟨B, 0, none⟩ = some v) :
    (results Tryz.f77 tmps).run Tryz.prog W = .ok v W := by
  simp [results, Tryz.f77, go_sem, h2, ca]

set_option maxRecDepth 100000 in
set_option maxHeartbeats 2000000 in
theorem find_in (n : Nat) (hn : 3 ≤ n) (m cap : Nat) (l : List Bl) (a : Option Addr) (leb : Int) (hm : m = l.length) (hl : m ≤ 281474976710656) (w : World) (hr : LRow w a l) :
    CallsIn Fence.wide n Tryz.prog 77 #[.slice a m cap, .int .i64 leb] w fun e w' => e = .returned (.int .i64 (findI l leb)) ∧ Below w.heap.size w w' := by
  have hn1 : 1 ≤ n := by omega
  have HM : Hid (m = l.length) := hm
  clear hm
  refine callsIn_of_wp_marks Tryz.func77 rfl trivial ?_ rfl
  simp only [Tryz.ntmps77, List.size_toArray, List.length_cons, List.length_nil, Nat.reduceAdd, Nat.reduceSub, Array.replicate_succ, Array.replicate_zero, List.push_toArray, List.append_toArray, List.nil_append, List.cons_append]
  gi_wp2_with (refine ⟨trivial, ?_⟩; gi_at_call 112; refine (inst_in (n - 1) _ _ _ _ _).mono ?_; rintro e w' ⟨rfl, rfl⟩)
  have x0 := Boxed.new w 3 (.int .i64 leb)
  obtain ⟨w1, hw1⟩ : ∃ w1, w1 = w.alloc (Obj.cells #[Value.int IntKind.i64 leb] 3) := ⟨_, rfl⟩
  have hs1 : w1.heap.size = w.heap.size + 1 := by rw [hw1, World.size_alloc]
  have hB1 : Below w.heap.size w w1 := by rw [hw1]; exact below_new w _
  rw [← hw1] at x0 ⊢
  clear hw1
  have x1 := Boxed.new w1 3 (.int .i64 0)
  have y0 := x0.alloc (Obj.cells #[Value.int IntKind.i64 0] 3)
  obtain ⟨w2, hw2⟩ : ∃ w2, w2 = w1.alloc (Obj.cells #[Value.int IntKind.i64 0] 3) := ⟨_, rfl⟩
  have hs2 : w2.heap.size = w.heap.size + 1 + 1 := by rw [hw2, World.size_alloc, hs1]
  have hB2 : Below w.heap.size w w2 := by rw [hw2]; exact hB1.alloc hB1.size _
  rw [← hw2] at x1 y0 ⊢
  rw [hs1] at x1
  clear hw2 x0
  have x2 := Boxed.new w2 68 (.slice a m cap)
  have y1 := x1.alloc (Obj.cells #[Value.slice a m cap] 68)
  have z0 := y0.alloc (Obj.cells #[Value.slice a m cap] 68)
  obtain ⟨w3, hw3⟩ : ∃ w3, w3 = w2.alloc (Obj.cells #[Value.slice a m cap] 68) := ⟨_, rfl⟩
  have hs3 : w3.heap.size = w.heap.size + 1 + 1 + 1 := by rw [hw3, World.size_alloc, hs2]
  have hB3 : Below w.heap.size w w3 := by rw [hw3]; exact hB2.alloc hB2.size _
  rw [← hw3] at x2 y1 z0 ⊢
  rw [hs2] at x2
  clear hw3 x1 y0
  have x3 := Boxed.new w3 3 (.int .i64 4)
  have y2 := x2.alloc (Obj.cells #[Value.int IntKind.i64 4] 3)
  have z1 := y1.alloc (Obj.cells #[Value.int IntKind.i64 4] 3)
  have u0 := z0.alloc (Obj.cells #[Value.int IntKind.i64 4] 3)
  obtain ⟨w4, hw4⟩ : ∃ w4, w4 = w3.alloc (Obj.cells #[Value.int IntKind.i64 4] 3) := ⟨_, rfl⟩
  have hs4 : w4.heap.size = w.heap.size + 1 + 1 + 1 + 1 := by rw [hw4, World.size_alloc, hs3]
  have hB4 : Below w.heap.size w w4 := by rw [hw4]; exact hB3.alloc hB3.size _
  rw [← hw4] at x3 y2 z1 u0 ⊢
  rw [hs3] at x3
  clear hw4 x2 y1 z0 hB1 hB2 hB3 hs1 hs2 hs3
  refine wpIn_rangeFunc_ownH rfl hn1 (gf := 153) (lb := #[.pointer (some ⟨w.heap.size + 1 + 1, 0, none⟩), .pointer (some ⟨w.heap.size + 1 + 1 + 1, 0, none⟩)]) rfl trivial (enters_of Tryz.func153 (by kernel_rfl) rfl)
    (inst_stops (n - 1) (by omega) (w.heap.size + 1 + 1) (w.heap.size + 1 + 1 + 1) w.heap.size m cap 4 l a HM.out hl w4 y2.cell x3.cell (hr.later hB4) hr.low hB4.size) KpS.trans (kpS_b hB4.size (by omega)) (Below.refl _ _) (fun _ => rfl)
    (fun pre W => Boxed W w.heap.size 3 (.int .i64 leb) ∧ Boxed W (w.heap.size + 1) 3 (.int .i64 0) ∧ (∀ x ∈ vals pre, x.2.leb ≠ leb) ∧ w.heap.size + 4 ≤ W.heap.size ∧ Below w.heap.size w W)
    (fun c pre W => c = .ret ∧ (∃ p x, vals pre = p ++ [x] ∧ x.2.leb = leb ∧ (∀ x ∈ p, x.2.leb ≠ leb) ∧ Boxed W (w.heap.size + 1) 3 (.int .i64 (x.1 : Int))) ∧ Below w.heap.size w W)
    (OwnFrom.and (Own.from (boxed_own _ _ _) _) (OwnFrom.and (Own.from (boxed_own _ _ _) _) (OwnFrom.and (Own.from (pure_own _) _) (OwnFrom.and (own_size _ _) (ownFrom_below (Nat.le_refl _) (by omega))))))
    (fun c => OwnFrom.and (Own.from (pure_own _) _) (OwnFrom.and (fun pre W W' row h hg hrow => by obtain ⟨p, x, h1, h2, h3, h4⟩ := h; exact ⟨p, x, h1, h2, h3, (blk_own (β := Unit) _ _ _) () W W' row h4 hg (fun r e => (hrow r e).2)⟩) (ownFrom_below (Nat.le_refl _) (by omega))))
    ⟨u0, z1, (by intro x hx; cases hx), by omega, hB4⟩ (AxF w a m cap leb) ?ax ?assign ?body ?done ?stop
  case ax =>
    intro x a' s W W' row h hg hrow
    obtain ⟨B, h1, h2, h3, h4⟩ := h
    exact ⟨B, h1, Nat.lt_of_lt_of_le h2 hg.size, (blk_own (β := Unit) B _ _) () W W' row h3 hg (fun r e => (hrow r e).2), h4⟩
  case assign =>
    rintro L pre x W K ⟨h0, h1, h2, hsz, hB⟩ hK
    have hbs := hB.size
    simp only [blV]
    gi_wp2
    exact hK _ _ ((KeepsOthers.alloc W _).from _) ((KpS.refl _ _ W).alloc hbs (by omega) _) ⟨h0.alloc _, h1.alloc _, h2, by rw [World.size_alloc]; omega, hB.alloc hbs _⟩ ⟨W.heap.size, by omega, by simp, World.alloc_heap_new W _, by unfold blV; rfl⟩
  case body =>
    rintro L pre x a' W hL hLL ⟨h0, h1, h2, hsz, hB⟩ ⟨B, hB1', hB2', hB3', rfl⟩ hlt
    have c0 := h0.cell
    have c1 := h1.cell
    have f1 := h1.frozen
    have g2 := hB3'.cell (i := 2) rfl
    have H1 : Hid (Boxed W (w.heap.size + 1) 3 (.int .i64 0)) := h1
    have H0 : Hid (Boxed W w.heap.size 3 (.int .i64 leb)) := h0
    have H2 : Hid (∀ x ∈ vals pre, x.2.leb ≠ leb) := h2
    have HB : Hid (Below w.heap.size w W) := hB
    obtain ⟨y, hy⟩ : ∃ y, y = x.1.2.leb := ⟨_, rfl⟩
    rw [← hy] at g2
    have HY : Hid (y = x.1.2.leb) := hy
    clear hy h0 h1 h2 hB hLL hB3' hlt
    unfold blV
    by_cases he : y = leb
    · have e1 : (y == leb) = true := by simp [he]
      have HE : Hid (y = leb) := he
      clear he
      gi_wp2
      refine ⟨(KeepsOthers.setCell _ _ _).from _, rfl, ⟨vals pre, x.1, vals_snoc _ _, by rw [← HY.out]; exact HE.out, H2.out, H1.out.set _⟩, HB.out.setCell (by simp) _⟩
    · have e1 : (y == leb) = false := by simp [he]
      have HE : Hid (¬ y = leb) := he
      clear he
      gi_wp2
      refine ⟨(KeepsOthers.refl _).from _, KpS.refl _ _ _, H0.out, H1.out, ?_, hsz, HB.out⟩
      intro z hz
      rw [vals_snoc, List.mem_append] at hz
      rcases hz with hz | hz
      · exact H2.out z hz
      · simp at hz; subst hz; rw [← HY.out]; exact HE.out
  case done =>
    rintro D ys W hD hS ⟨h0, h1, h2, hsz, hB⟩ hK
    have c1 := h1.cell
    have f1 := h1.frozen
    gi_wp2
    have hf : findI l leb = -1 := by unfold findI; rw [← hS]; exact firstL_none h2
    rw [hf]
    have q2 := h1.set (.int .i64 (-1))
    have q3 : KeepsOthers W (W.setCell ⟨w.heap.size + 1, 0, none⟩ (.int .i64 (-1))) := KeepsOthers.setCell _ _ _
    have q4 : Below w.heap.size W (W.setCell ⟨w.heap.size + 1, 0, none⟩ (.int .i64 (-1))) := (Below.refl _ _).setCell (by simp) _
    obtain ⟨X, hX⟩ : ∃ X, X = W.setCell ⟨w.heap.size + 1, 0, none⟩ (.int .i64 (-1)) := ⟨_, rfl⟩
    rw [← hX] at q2 q3 q4 ⊢
    have hKd : X.heap[D]? = some (.deferred (some [])) := q3.same D _ hK rfl
    refine ⟨by simp, .inl ⟨_, _, rfl, run_takeDeferred hKd, ?_⟩⟩
    have hE' : Boxed (X.putObj D (.deferred none)) (w.heap.size + 1) 3 (.int .i64 (-1)) := (blk_own (β := Unit) _ _ _).putObj (s := ()) _ (show Blk X _ _ _ from q2) hKd rfl
    exact ⟨_, find_results _ (w.heap.size + 1) _ _ rfl hE'.cell, rfl, (hB.trans q4).trans (belowK_b (w := w) (Nat.le_refl _) X D _ _ (by omega) hKd rfl rfl)⟩
  case stop =>
    rintro D c pre W hD hpre ⟨rfl, ⟨p, x, h1, h2, h3, h4⟩, hB⟩ hK
    gi_wp2
    have hf : findI l leb = x.1 := by
      obtain ⟨r, hr⟩ := hpre
      unfold findI
      rw [← hr, h1, List.append_assoc]
      exact firstL_snoc h2 r h3
    rw [hf]
    refine ⟨by simp, .inl ⟨_, _, rfl, run_takeDeferred hK, ?_⟩⟩
    have hE' : Boxed (W.putObj D (.deferred none)) (w.heap.size + 1) 3 (.int .i64 (x.1 : Int)) := (blk_own (β := Unit) _ _ _).putObj (s := ()) _ (show Blk W _ _ _ from h4) hK rfl
    exact ⟨_, find_results _ (w.heap.size + 1) _ _ rfl hE'.cell, rfl, hB.trans (belowK_b (w := w) (Nat.le_refl _) W D _ _ (by omega) hK rfl rfl)⟩
theorem find_any (m cap : Nat) (l : List Bl) (a : Option Addr) (leb : Int) (hm : m = l.length) (hl : m ≤ 281474976710656) (w : World) (hr : LRow w a l) :
    Calls Tryz.prog 77 #[.slice a m cap, .int .i64 leb] w fun e w' => e = .returned (.int .i64 (findI l leb)) ∧ Below w.heap.size w w' :=
  callsIn_wide.1 (find_in 3 (by omega) m cap l a leb hm hl w hr)
end Go.Proofs.YtkfecngkdlajgaaGreatDoor
