/-
  The sights of a chip's blocks, told by a range over a function and collected.
-/
import Derived.Test.YtccfalafphjkpaaGreatDoorGPA
import Derived.Test.YtccfalafphjkpaaGreatDoorGOB
namespace Go.Proofs.YtccfalafphjkpaaGreatDoor
open Go.RowKit Go.Shelf
set_option maxRecDepth 10000
attribute [local go_sem] Oper.semAt_some

/-- The sights of all blocks. -/
noncomputable def sightsV (v : Vw) : List Sg := (List.range v.gb).map (fun k => sightV v (k : Nat))
theorem sightsV_length (v : Vw) : (sightsV v).length = v.gb := by simp [sightsV]
theorem sightsV_take {v : Vw} {k : Nat} (hk : k < v.gb) : (sightsV v).take (k + 1) = (sightsV v).take k ++ [sightV v (k : Nat)] := by
  have h : (sightsV v)[k]? = some (sightV v (k : Nat)) := by simp [sightsV, hk]
  exact take_snoc h
theorem below_grown {W W' : World} (h : Below W.heap.size W W') : W.grownBy W' none := ⟨h.os, h.tape, h.output, h.size, fun k hk _ => h.block k hk⟩

theorem field_blocks (a b c d : Value) (W : World) : (Instr.field 23 (.agg #[a, b, c, d]) 0).run Tryz.prog W = .ok a W := by kernel_rfl
set_option maxRecDepth 100000 in
set_option maxHeartbeats 4000000 in
theorem sights1_in (n : Nat) (hn : 1 ≤ n) (L Bc base p : Nat) (c : CS) (hp : c.p = p) (w0 : World) (hc : Lies base w0 c) (hg : Hd.Glb w0) (hBc : w0.cell? ⟨Bc, 0, none⟩ = some (.pointer (some ⟨p, 0, none⟩))) (J Jx : List Sg → World → Prop) (hJd : ∀ pre W W', J pre W → W.grownBy W' none → J pre W')
    (hY : ∀ pre x W, J pre W → pre.length < 256 → YieldAt Fence.wide (n - 1) Tryz.prog L #[sgV x] W fun e W' =>
      (e = .returned (.bool true) ∧ J (pre ++ [x]) W' ∧ Below w0.heap.size W W') ∨ (e = .returned (.bool false) ∧ Jx (pre ++ [x]) W'))
    (W : World) (hW : Below w0.heap.size w0 W) (h0 : J [] W) :
    CallsIn Fence.wide n Tryz.prog 80 #[.func (.yield L) #[] #[], .pointer (some ⟨Bc, 0, none⟩)] W fun e W' => (∃ v, e = .returned v) ∧
      ((∃ ys, ys = sightsV c.vw ∧ J ys W') ∨ (∃ pre, pre <+: sightsV c.vw ∧ Jx pre W')) := by
  have hBl := World.block_lt_of_cell? w0 _ hBc
  have hcell : ∀ X, Below w0.heap.size w0 X → X.cell? ⟨Bc, 0, none⟩ = some (.pointer (some ⟨p, 0, none⟩)) := fun X hX => by rw [hX.cell (p := ⟨Bc, 0, none⟩) hBl]; exact hBc
  have cG := fun X (hX : Below w0.heap.size w0 X) => vgeo_any (hc.later hX) p hp
  have cL := fun X (hX : Below w0.heap.size w0 X) (k : Int) => look_any (hc.later hX) p hp k (hg.later hX)
  have hgb := hc.good.gs
  have HT : Hid (∀ k, k < c.gb → (sightsV c.vw).take (k + 1) = (sightsV c.vw).take k ++ [sightV c.vw (k : Nat)]) := fun k hk => sightsV_take (v := c.vw) hk
  have HLn : Hid ((sightsV c.vw).length = c.gb) := sightsV_length c.vw
  obtain ⟨sv, hsv⟩ : ∃ sv, sv = sightsV c.vw := ⟨_, rfl⟩
  rw [← hsv] at HT HLn
  obtain ⟨gb, hgb2⟩ : ∃ g, g = c.gb := ⟨_, rfl⟩
  simp only [← hgb2] at cG hgb HT HLn
  rw [← hsv]
  clear hsv
  have d0 := hcell W hW
  have fB := field_blocks
  refine callsIn_of_wp Tryz.func80 rfl trivial ?_ rfl
  simp only [Tryz.ntmps80, List.size_toArray, List.length_cons, List.length_nil, Nat.reduceAdd, Nat.reduceSub, Array.replicate_succ, Array.replicate_zero, List.push_toArray, List.append_toArray, List.nil_append, List.cons_append]
  gi_wp2_with (refine ⟨trivial, ?_⟩; gi_at_call 31; refine (callsIn_wide.2 (cG W hW)).mono ?_; rintro e W1 ⟨rfl, hb1⟩)
  have hW1 : Below w0.heap.size w0 W1 := Below.after hW hb1
  have hJ1 := hJd _ _ _ h0 (below_grown hb1)
  clear hb1 d0
  gi_loopw [7] (fun i wr => ∃ k : Nat, i = .int .i64 k ∧ k ≤ gb ∧ J (sv.take k) wr ∧ Hid (Below w0.heap.size w0 wr)) (fun i _ => gb - (intOf i).toNat)
  case atStart => exact ⟨0, rfl, by omega, by simpa using hJ1, hW1⟩
  case round =>
    obtain ⟨k, rfl, hk, hJs, HB⟩ := hrel
    by_cases hlt : k < gb
    · have d1 := hcell wr HB.out
      have cL1 := cL wr HB.out k
      have HTk : Hid (sv.take (k + 1) = sv.take k ++ [sightV c.vw (k : Nat)]) := HT.out k hlt
      obtain ⟨x, hx⟩ : ∃ x, x = sightV c.vw (k : Nat) := ⟨_, rfl⟩
      rw [← hx] at HTk cL1
      have HL1 : Hid (sv.take (k + 1) <+: sv) := List.take_prefix _ _
      have hpl : (sv.take k).length < 256 := by rw [List.length_take]; omega
      clear hx
      gi_wp2_with (refine ⟨trivial, ?_⟩; gi_at_call 81; refine (callsIn_wide.2 cL1).mono ?_; rintro e W2 ⟨rfl, hb2⟩; obtain ⟨fn, tmps, assign, body, hy, hR⟩ := hY (sv.take k) x W2 (hJd _ _ _ hJs (below_grown hb2)) hpl; have HB2 : Hid (Below w0.heap.size w0 W2) := Below.after HB.out hb2; clear hb2)
      refine hR.mono ?_
      rintro e W3 (⟨rfl, hJ3, hk3⟩ | ⟨rfl, hJx3⟩)
      · gi_wp2
        refine ⟨⟨k + 1, by simp, by omega, by rw [HTk.out]; exact hJ3, HB2.out.trans hk3⟩, ?_⟩
        simp [intOf]; omega
      · gi_wp2
        refine bodyPost_ret (results_none rfl _ _ _) rfl ?_
        have hp2 := HL1.out
        rw [HTk.out] at hp2
        exact ⟨⟨_, rfl⟩, .inr ⟨_, hp2, hJx3⟩⟩
    · gi_wp2
      go_end0
      have e : sv.take k = sv := List.take_of_length_le (by rw [HLn.out]; omega)
      rw [e] at hJs
      exact ⟨⟨_, rfl⟩, .inl ⟨_, rfl, hJs⟩⟩
theorem sights_stops (n : Nat) (hn : 1 ≤ n) (Bc base p : Nat) (c : CS) (hp : c.p = p) (w0 : World) (hc : Lies base w0 c) (hg : Hd.Glb w0) (hBc : w0.cell? ⟨Bc, 0, none⟩ = some (.pointer (some ⟨p, 0, none⟩))) (w : World) (hw : Below w0.heap.size w0 w) :
    SeqStopsK Fence.wide n Tryz.prog 80 #[.pointer (some ⟨Bc, 0, none⟩)] (fun s : Sg => #[sgV s]) (Below w0.heap.size) (fun ys => ys = sightsV c.vw) (fun pre => pre <+: sightsV c.vw) 256 w := fun L J Jx W hW hJ _ hY h0 =>
  sights1_in n hn L Bc base p c hp w0 hc hg hBc J Jx (fun pre W W' h hg => hJ pre W W' none h hg (fun r e => by cases e)) hY W (hw.trans (hW.mono hw.size)) h0
set_option maxHeartbeats 1000000 in
/-- The function value that tells them. -/
theorem sights_any (p : Nat) (w : World) :
    Calls Tryz.prog 47 #[.pointer (some ⟨p, 0, none⟩)] w fun e w' => e = .returned (.func (.func 80) #[] #[.pointer (some ⟨w.heap.size, 0, none⟩)]) ∧ w' = w.alloc (.cells #[.pointer (some ⟨p, 0, none⟩)] 25) := by
  go_enter Tryz.func47, Tryz.ntmps47
  go_wp2
  go_ret
  exact ⟨rfl, rfl⟩
theorem infoSg : (Tryz.prog.info? 93).map (fun i => (i.zero, i.size, i.bytes)) = some (some (.agg #[.bool false, .bool false, .bool false, .int .i64 0, .bool false, .int .i64 0, .int .u64 0, .int .i64 0, .int .i64 0, .bool false]), 10, 64) := by kernel_rfl
theorem sg_one (l : List Sg) : ∀ u ∈ l.flatMap sgCells, u.oneCell' = true := by
  intro u hu
  obtain ⟨f, _, h⟩ := List.mem_flatMap.1 hu
  simp [sgCells] at h
  rcases h with rfl | rfl | rfl | rfl | rfl | rfl | rfl | rfl | rfl | rfl <;> rfl
theorem sg_new (w : World) (s : Sg) (t : TypeId) : ∀ j u, (sgCells s)[j]? = some u → (w.alloc (.cells #[.bool s.marked, .bool s.blank, .bool s.counted, .int .i64 s.count, .bool s.mapped, .int .i64 s.leb, .int .u64 s.seq, .int .i64 s.pages, .int .i64 s.used, .bool s.closed] t)).cell? ((⟨w.heap.size, 0, none⟩ : Addr).add j) = some u := by
  intro j u hj
  have e : (⟨w.heap.size, 0, none⟩ : Addr).add j = ⟨w.heap.size, j, none⟩ := by unfold Addr.add; split <;> simp_all
  rw [e]
  exact (Row.new w (sgCells s) t).cell hj
/-- What a round's own variable is. -/
def AxS (w : World) (Bc : Nat) (x : Sg) (a : Act) (W : World) : Prop :=
  ∃ B, w.heap.size + 1 ≤ B ∧ B < W.heap.size ∧ Blk W B #[.bool x.marked, .bool x.blank, .bool x.counted, .int .i64 x.count, .bool x.mapped, .int .i64 x.leb, .int .u64 x.seq, .int .i64 x.pages, .int .i64 x.used, .bool x.closed] 93 ∧
    a = { tmps := #[.slice none 0 0, .func (.func 80) #[] #[.pointer (some ⟨Bc, 0, none⟩)], .pointer (some ⟨w.heap.size, 0, none⟩), undef, .slice none 0 0, .pointer (some ⟨B, 0, none⟩), .func (.func 80) #[] #[.pointer (some ⟨Bc, 0, none⟩)], sgV x, undef, undef, undef, undef, undef], defers := [] }

set_option maxRecDepth 100000 in
set_option maxHeartbeats 4000000 in
theorem appendSights_in (n : Nat) (hn : 3 ≤ n) (Bc base p : Nat) (c : CS) (hp : c.p = p) (w : World) (hc : Lies base w c) (hg : Hd.Glb w) (hBc : w.cell? ⟨Bc, 0, none⟩ = some (.pointer (some ⟨p, 0, none⟩))) :
    CallsIn Fence.wide n Tryz.prog 79 #[.slice none 0 0, .func (.func 80) #[] #[.pointer (some ⟨Bc, 0, none⟩)]] w fun e w' => ∃ v, e = .returned v ∧ w'.ownsRow w.heap.size 93 10 v (sightsV c.vw).length ((sightsV c.vw).flatMap sgCells) ∧ Below w.heap.size w w' := by
  have hn1 : 1 ≤ n := by omega
  obtain ⟨i0, hi, hz0, hz1, hz2⟩ := info_parts infoSg
  refine callsIn_of_wp_marks Tryz.func79 rfl trivial ?_ rfl
  simp only [Tryz.ntmps79, List.size_toArray, List.length_cons, List.length_nil, Nat.reduceAdd, Nat.reduceSub, Array.replicate_succ, Array.replicate_zero, List.push_toArray, List.append_toArray, List.nil_append, List.cons_append]
  gi_wp2
  have bX := Boxed.new w 88 (.slice none 0 0)
  have hB1 : Below w.heap.size w (w.alloc (Obj.cells #[Value.slice none 0 0] 88)) := below_new w _
  have hrow1 : (w.alloc (Obj.cells #[Value.slice none 0 0] 88)).ownsRow w.heap.size 93 10 (.slice none 0 0) 0 [] := World.ownsRow_nil _ _ _ _
  refine wpIn_rangeFunc_ownH rfl hn1 (gf := 80) (lb := #[.pointer (some ⟨Bc, 0, none⟩)]) rfl trivial (enters_of Tryz.func80 (by kernel_rfl) rfl)
    (sights_stops (n - 1) (by omega) Bc base p c hp w hc hg hBc _ hB1) belowK_t (belowK_b (by rw [World.size_alloc]; omega)) (Below.refl _ _) (fun _ => rfl)
    (fun pre W => (∃ v, Boxed W w.heap.size 88 v ∧ W.ownsRow w.heap.size 93 10 v pre.length (pre.flatMap sgCells) ∧ True) ∧ Below w.heap.size w W)
    (fun c pre W => False)
    (OwnFrom.and (Own.from (holdsRow_own w.heap.size w.heap.size 88 93 10 (fun pre : List Sg => pre.length) (fun pre => pre.flatMap sgCells) (fun _ _ => True)) _) (ownFrom_below (Nat.le_refl _) (by rw [World.size_alloc]; omega)))
    (fun c _ _ _ _ h _ _ => h)
    ⟨⟨_, bX, by simpa using hrow1, trivial⟩, hB1⟩ (AxS w Bc) ?ax ?assign ?body ?done ?stop
  case ax =>
    intro x a' s W W' row h hg hrow
    obtain ⟨B, h1, h2, h3, h4⟩ := h
    exact ⟨B, h1, Nat.lt_of_lt_of_le h2 hg.size, (blk_own (β := Unit) B _ _) () W W' row h3 hg (fun r e => (hrow r e).2), h4⟩
  case assign =>
    rintro L pre x W K ⟨⟨v, hv, hrow, _⟩, hB⟩ hK
    have hbs := hB.size
    simp only [sgV]
    gi_wp2
    refine hK _ _ ((KeepsOthers.alloc W _).from _) ((Below.refl _ W).alloc hbs _) ⟨⟨v, hv.alloc _, hrow.alloc _, trivial⟩, hB.alloc hbs _⟩ ⟨W.heap.size, ?_, by simp, World.alloc_heap_new W _, by unfold sgV; rfl⟩
    have := (Array.getElem?_eq_some_iff.1 (show W.heap[w.heap.size]? = _ from hv)).1
    omega
  case body =>
    rintro L pre x a' W hL hLL ⟨⟨v, hv, hrow, _⟩, hB⟩ ⟨B, hB1', hB2', hB3', rfl⟩ hlt
    obtain ⟨ao, cp, rfl⟩ := own_form hrow
    have hc := hv.cell
    have hf := hv.frozen
    have g0 : W.cell? ⟨B, 0, none⟩ = some (.bool x.marked) := hB3'.cell (i := 0) rfl
    have g1 : W.cell? ⟨B, 1, none⟩ = some (.bool x.blank) := hB3'.cell (i := 1) rfl
    have g2 : W.cell? ⟨B, 2, none⟩ = some (.bool x.counted) := hB3'.cell (i := 2) rfl
    have g3 : W.cell? ⟨B, 3, none⟩ = some (.int .i64 x.count) := hB3'.cell (i := 3) rfl
    have g4 : W.cell? ⟨B, 4, none⟩ = some (.bool x.mapped) := hB3'.cell (i := 4) rfl
    have g5 : W.cell? ⟨B, 5, none⟩ = some (.int .i64 x.leb) := hB3'.cell (i := 5) rfl
    have g6 : W.cell? ⟨B, 6, none⟩ = some (.int .u64 x.seq) := hB3'.cell (i := 6) rfl
    have g7 : W.cell? ⟨B, 7, none⟩ = some (.int .i64 x.pages) := hB3'.cell (i := 7) rfl
    have g8 : W.cell? ⟨B, 8, none⟩ = some (.int .i64 x.used) := hB3'.cell (i := 8) rfl
    have g9 : W.cell? ⟨B, 9, none⟩ = some (.bool x.closed) := hB3'.cell (i := 9) rfl
    have hbs := hB.size
    obtain ⟨k, hk⟩ : ∃ k, k = pre.length := ⟨_, rfl⟩
    have HK : Hid (k = pre.length) := hk
    have hk2 : k < 256 := by omega
    rw [← hk] at hrow hc
    have HV : Hid (Boxed W w.heap.size 88 (.slice ao pre.length cp)) := hv
    have HB : Hid (Below w.heap.size w W) := hB
    clear hk hv hB hlt hLL hB3'
    unfold sgV
    gi_wp2_with (gi_at_builtin; refine wpListIn_append_own _ rfl _ _ 88 rfl w.heap.size 93 i0 (.agg #[.bool false, .bool false, .bool false, .int .i64 0, .bool false, .int .i64 0, .int .u64 0, .int .i64 0, .int .i64 0, .bool false]) 10 64 Tryz.underlying88 hi hz0 hz1 hz2 rfl (by decide) _ _ _ rfl (hrow.alloc _) ⟨W.heap.size, 0, none⟩ 1 1 (sgCells x) rfl rfl (sg_new _ _ _) (by have := sg_one [x]; simpa using this) (by unfold maxLen; omega) (by omega) (by simp; omega) ?_; intro v' w5 hown' hgrow _; obtain ⟨a5, cap5, rfl⟩ := own_form hown'; obtain ⟨hv1, hv2, hr2, hk2, hb2⟩ := (show Boxed W w.heap.size 88 (.slice ao k cp) by rw [HK.out]; exact HV.out).appended (by decide) hrow hbs (Nat.le_refl _) hown' hgrow; have hc1 := hv1.cell; have hf1 := hv1.frozen)
    refine ⟨hk2.from _, hb2, ⟨_, hv2, ?_, trivial⟩, HB.out.trans hb2⟩
    simpa [← HK.out] using hr2
  case done =>
    rintro D ys W hD rfl ⟨⟨v, hv, hrow, _⟩, hB⟩ hK
    obtain ⟨ao, cp, rfl⟩ := own_form hrow
    have hc := hv.cell
    gi_wp2
    refine ⟨by simp, .inl ⟨_, _, rfl, run_takeDeferred hK, ?_⟩⟩
    exact ⟨_, results_tmp rfl _ _ _, _, rfl, ownsRow_putObj hrow _ hK rfl, hB.trans (belowK_b (w := w) (Nat.le_refl _) W D _ _ (by rw [World.size_alloc] at hD; omega) hK rfl rfl)⟩
  case stop =>
    rintro D c pre W hD hpre h hK
    exact h.elim
/-- What Collect leaves: the sights, in new memory. -/
def CollPost (w : World) (l : List Sg) (e : Ending) (w' : World) : Prop := ∃ a cap, e = .returned (.slice a l.length cap) ∧ SRow w' a l ∧ (∀ b o, a = some ⟨b, o, none⟩ → w.heap.size ≤ b) ∧ l.length ≤ cap ∧ cap ≤ maxLen ∧ Below w.heap.size w w'
theorem srow_own {w w' : World} {v : Value} {l : List Sg} (h : w'.ownsRow w.heap.size 93 10 v l.length (l.flatMap sgCells)) (hb : Below w.heap.size w w') : CollPost w l (.returned v) w' := by
  rcases h.2 with ⟨rfl, hn⟩ | ⟨g, cap, cur, rfl, hbg, hgg, hnc, hcm, hcs, htake⟩
  · have : l = [] := List.eq_nil_of_length_eq_zero hn
    subst this
    exact ⟨none, 0, rfl, .inl rfl, (fun b o e => by cases e), by simp, by decide, hb⟩
  · have hr : Row w' g (l.flatMap sgCells) 93 := ⟨cur.toList.drop (l.length * 10), by rw [hgg, ← htake, List.take_append_drop]⟩
    refine ⟨_, cap, rfl, .inr ⟨g, 0, rfl, hr.lt, fun i x hx => ?_⟩, (fun b o e => by cases e; exact hbg), hnc, hcm, hb⟩
    have key : ∀ k v, k < 10 → (sgCells x)[k]? = some v → w'.cell? ⟨g, 0 + i * 10 + k, none⟩ = some v := fun k v hk e => hr.cell (by rw [Nat.zero_add, flat_get sgCells 10 sg_len k hk l i x hx]; exact e)
    exact ⟨key 0 _ (by omega) rfl, key 1 _ (by omega) rfl, key 2 _ (by omega) rfl, key 3 _ (by omega) rfl, key 4 _ (by omega) rfl, key 5 _ (by omega) rfl, key 6 _ (by omega) rfl, key 7 _ (by omega) rfl, key 8 _ (by omega) rfl, key 9 _ (by omega) rfl⟩
set_option maxHeartbeats 1000000 in
theorem collectS_any (Bc base p : Nat) (c : CS) (hp : c.p = p) (w : World) (hc : Lies base w c) (hg : Hd.Glb w) (hBc : w.cell? ⟨Bc, 0, none⟩ = some (.pointer (some ⟨p, 0, none⟩))) :
    Calls Tryz.prog 46 #[.func (.func 80) #[] #[.pointer (some ⟨Bc, 0, none⟩)]] w (CollPost w (sightsV c.vw)) := by
  have h1 := callsIn_wide.1 (appendSights_in 3 (by omega) Bc base p c hp w hc hg hBc)
  generalize sightsV c.vw = l at h1 ⊢
  clear hc hg hBc
  go_enter Tryz.func46, Tryz.ntmps46
  go_wp2_with (go_at_call 79; refine h1.mono ?_; rintro e w1 ⟨v, rfl, ho, hb⟩; have HP : Hid (CollPost w l (.returned v) w1) := srow_own ho hb; obtain ⟨a, cap, rfl⟩ := own_form ho; clear ho hb)
  go_ret
  exact HP.out
end Go.Proofs.YtccfalafphjkpaaGreatDoor
