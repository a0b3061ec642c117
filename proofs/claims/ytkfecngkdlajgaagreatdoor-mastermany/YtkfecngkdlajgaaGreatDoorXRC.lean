/-
  slices.Collect(slices.Chunk(..)): bytes cut into pages.
  slices.AppendSeq of the pieces, and Collect.
  A call of a Go function as a step of a region.
-/
import Derived.Test.YtkfecngkdlajgaaGreatDoorGL
import Derived.Test.YtkfecngkdlajgaaGreatDoorXRA
import Derived.Test.YtkfecngkdlajgaaGreatDoorGD
import Derived.Test.YtkfecngkdlajgaaGreatDoorGM
import Derived.Deep.RegionLaw
namespace Go.Proofs.YtkfecngkdlajgaaGreatDoor
open Go.RowKit Go.Shelf
set_option maxRecDepth 10000
attribute [local go_sem] Oper.semAt_some

/-- A piece: where it begins, how long it is. -/
def chV (g : Nat) (x : Nat × Nat) : Value := .slice (some ⟨g, x.1, none⟩) x.2 x.2
def pcs (gz D : Nat) : List (Nat × Nat) := (List.range (many gz D)).map fun k => (k * gz, min gz (D - k * gz))
theorem pcs_length (gz D : Nat) : (pcs gz D).length = many gz D := by simp [pcs]
theorem pcs_get {gz D k : Nat} (h : k < many gz D) : (pcs gz D)[k]? = some (k * gz, min gz (D - k * gz)) := by simp [pcs, h]
theorem pcs_take {gz D k : Nat} (h : k < many gz D) : (pcs gz D).take (k + 1) = (pcs gz D).take k ++ [(k * gz, min gz (D - k * gz))] := by
  rw [List.take_add_one, pcs_get h]
  rfl
set_option maxRecDepth 100000 in
set_option maxHeartbeats 1000000 in
theorem chunk1_in (n : Nat) (hn : 1 ≤ n) (L Bs Bn n₀ gz D cap g : Nat) (hz : 0 < gz) (hz2 : gz ≤ 512) (hD : D ≤ 1048576) (hcap : D ≤ cap) (J Jx : List (Nat × Nat) → World → Prop) (hJd : ∀ pre W W', J pre W → W.grownBy W' none → J pre W')
    (hY : ∀ pre x W, J pre W → pre.length < (pcs gz D).length → YieldAt Fence.wide (n - 1) Tryz.prog L #[chV g x] W fun e W' =>
      (e = .returned (.bool true) ∧ J (pre ++ [x]) W' ∧ Below n₀ W W') ∨ (e = .returned (.bool false) ∧ Jx (pre ++ [x]) W'))
    (W : World) (hBs : W.cell? ⟨Bs, 0, none⟩ = some (.slice (some ⟨g, 0, none⟩) D cap)) (hBn : W.cell? ⟨Bn, 0, none⟩ = some (.int .i64 (gz : Nat))) (hs : Bs < n₀) (hb : Bn < n₀) (hn0 : n₀ ≤ W.heap.size) (h0 : J [] W) :
    CallsIn Fence.wide n Tryz.prog 106 #[.func (.yield L) #[] #[], .pointer (some ⟨Bs, 0, none⟩), .pointer (some ⟨Bn, 0, none⟩)] W fun e W' => (∃ v, e = .returned v) ∧
      ((∃ ys, ys = pcs gz D ∧ J ys W') ∨ (∃ pre, pre <+: pcs gz D ∧ Jx pre W')) := by
  refine callsIn_of_wp Tryz.func106 rfl trivial ?_ rfl
  simp only [Tryz.ntmps106, List.size_toArray, List.length_cons, List.length_nil, Nat.reduceAdd, Nat.reduceSub, Array.replicate_succ, Array.replicate_zero, List.push_toArray, List.append_toArray, List.nil_append, List.cons_append]
  have HM : Hid (∀ k, k < many gz D ↔ k * gz < D) := fun k => many_iff hz
  gi_wp2
  gi_loopw [4] (fun i wr => ∃ k : Nat, i = .int .i64 ((k * gz : Nat) : Int) ∧ k ≤ many gz D ∧ J ((pcs gz D).take k) wr ∧ Below n₀ W wr) (fun i _ => many gz D * gz - (intOf i).toNat)
  case atStart => exact ⟨0, by simp, by omega, by simpa using h0, Below.refl _ _⟩
  case round =>
    obtain ⟨k, rfl, hk, hJs, hbel⟩ := hrel
    rw [← hbel.cell (p := ⟨Bs, 0, none⟩) hs] at hBs
    rw [← hbel.cell (p := ⟨Bn, 0, none⟩) hb] at hBn
    by_cases hlt : k * gz < D
    · have hkm := (HM.out k).2 hlt
      obtain ⟨kz, hkz⟩ : ∃ kz, kz = k * gz := ⟨_, rfl⟩
      rw [← hkz] at hlt
      rw [← hkz]
      have HP : Hid ((pcs gz D).take (k + 1) = (pcs gz D).take k ++ [(kz, min gz (D - kz))]) := by rw [hkz]; exact pcs_take hkm
      obtain ⟨e, he⟩ : ∃ e, e = min gz (D - kz) := ⟨_, rfl⟩
      rw [← he] at HP
      have hee : (((kz : Nat) : Int) + min ((gz : Nat) : Int) ((D - kz : Nat) : Int)).toNat - kz = e := by omega
      have hmm : min ((gz : Nat) : Int) ((D - kz : Nat) : Int) = (e : Int) := by omega
      have HE : Hid (min ((gz : Nat) : Int) ((D - kz : Nat) : Int) = (e : Int) ∧ kz + gz = (k + 1) * gz ∧ kz = k * gz) := ⟨hmm, by rw [hkz, Nat.add_mul, Nat.one_mul], hkz⟩
      have hnw : n₀ ≤ wr.heap.size := Nat.le_trans hn0 hbel.size
      have hpl : ((pcs gz D).take k).length < (pcs gz D).length := by simp only [List.length_take, pcs_length]; omega
      obtain ⟨fn, tmps, assign, body, hy, hR⟩ := hY ((pcs gz D).take k) (kz, e) wr.drew (hJd _ _ _ hJs (grown_drewN wr 1 none)) hpl
      have hyv : (chV g (kz, e)) = .slice (some ⟨g, kz, none⟩) ((((kz : Nat) : Int) + min ((gz : Nat) : Int) ((D - kz : Nat) : Int)).toNat - kz) ((((kz : Nat) : Int) + min ((gz : Nat) : Int) ((D - kz : Nat) : Int)).toNat - kz) := by rw [hee]; rfl
      rw [hyv] at hy
      have hlez : min ((gz : Nat) : Int) ((D - kz : Nat) : Int) ≤ 512 := by omega
      have hge0 : 0 ≤ min ((gz : Nat) : Int) ((D - kz : Nat) : Int) := by omega
      have hltc : ((kz : Nat) : Int) + min ((gz : Nat) : Int) ((D - kz : Nat) : Int) ≤ (cap : Int) := by omega
      clear hkz hyv hmm hee he
      gi_wp2
      gi_region
      all_goals gi_wp2
      all_goals
        refine hR.mono ?_
        rintro e3 W3 (⟨rfl, hJ3, hk3⟩ | ⟨rfl, hJx3⟩)
        · have hBn3 : W3.cell? ⟨Bn, 0, none⟩ = some (.int .i64 (gz : Nat)) := by
            rw [hk3.cell (p := ⟨Bn, 0, none⟩) hb]
            exact hBn
          gi_wp2
          refine ⟨⟨k + 1, ?_, hkm, by rw [HP.out]; exact hJ3, hbel.trans ((Below.refl n₀ wr).drew.trans hk3)⟩, ?_⟩
          · rw [← HE.out.2.1]
            simp
          · have h1 : (k + 1) * gz ≤ many gz D * gz := Nat.mul_le_mul_right _ hkm
            have := HE.out.2.1
            simp [intOf]
            omega
        · gi_wp2
          refine bodyPost_ret (results_none rfl _ _ _) rfl ?_
          exact ⟨⟨_, rfl⟩, .inr ⟨(pcs gz D).take k ++ [(kz, e)], ⟨(pcs gz D).drop (k + 1), by rw [← HP.out, List.take_append_drop]⟩, hJx3⟩⟩
    · have hke : Hid (k = many gz D) := by
        have := HM.out k
        show _ = _
        omega
      obtain ⟨kz, hkz⟩ : ∃ kz, kz = k * gz := ⟨_, rfl⟩
      rw [← hkz] at hlt
      rw [← hkz]
      clear hkz
      gi_wp2
      go_end0
      rw [hke.out, List.take_of_length_le (Nat.le_of_eq (pcs_length gz D))] at hJs
      exact ⟨⟨_, rfl⟩, .inl ⟨_, rfl, hJs⟩⟩
end Go.Proofs.YtkfecngkdlajgaaGreatDoor
namespace Go.Proofs.YtkfecngkdlajgaaGreatDoor
open Go.RowKit Go.Shelf
set_option maxRecDepth 10000
attribute [local go_sem] Oper.semAt_some

theorem chunk_stops (n : Nat) (hn : 1 ≤ n) (Bs Bn n₀ gz D cap g : Nat) (hz : 0 < gz) (hz2 : gz ≤ 512) (hD : D ≤ 1048576) (hcap : D ≤ cap) (w : World) (hBs : w.cell? ⟨Bs, 0, none⟩ = some (.slice (some ⟨g, 0, none⟩) D cap)) (hBn : w.cell? ⟨Bn, 0, none⟩ = some (.int .i64 (gz : Nat))) (hs : Bs < n₀) (hb : Bn < n₀) (hn0 : n₀ ≤ w.heap.size) :
    SeqStopsK Fence.wide n Tryz.prog 106 #[.pointer (some ⟨Bs, 0, none⟩), .pointer (some ⟨Bn, 0, none⟩)] (fun x : Nat × Nat => #[chV g x]) (Below n₀) (fun ys => ys = pcs gz D) (fun pre => pre <+: pcs gz D) (pcs gz D).length w := fun L J Jx W hW hJ _ hY h0 =>
  chunk1_in n hn L Bs Bn n₀ gz D cap g hz hz2 hD hcap J Jx (fun pre W W' h hg => hJ pre W W' none h hg (fun r e => by cases e)) hY W ((hW.cell (p := ⟨Bs, 0, none⟩) (World.block_lt_of_cell? w _ hBs)).trans hBs) ((hW.cell (p := ⟨Bn, 0, none⟩) (World.block_lt_of_cell? w _ hBn)).trans hBn) hs hb (Nat.le_trans hn0 hW.size) h0
theorem infoBy : (Tryz.prog.info? 56).map (fun i => (i.zero, i.size, i.bytes)) = some (some (.slice none 0 0), 1, 24) := by kernel_rfl
theorem ch_one (g : Nat) (x : Nat × Nat) : ∀ u ∈ [chV g x], u.oneCell' = true := by
  intro u hu
  rw [List.mem_singleton.1 hu]
  rfl
theorem xone_new (w : World) (x : Value) (t : TypeId) : ∀ j u, [x][j]? = some u → (w.alloc (.cells #[x] t)).cell? ((⟨w.heap.size, 0, none⟩ : Addr).add j) = some u := by
  intro j u hj
  have e : (⟨w.heap.size, 0, none⟩ : Addr).add j = ⟨w.heap.size, j, none⟩ := by unfold Addr.add; split <;> simp_all
  rw [e]
  exact (Row.new w [x] t).cell hj
/-- What a round's own variable is. -/
def AxB (w : World) (Bs Bn g : Nat) (x : Nat × Nat) (a : Act) (_ : World) : Prop :=
  a = { tmps := #[.slice none 0 0, .func (.func 106) #[] #[.pointer (some ⟨Bs, 0, none⟩), .pointer (some ⟨Bn, 0, none⟩)], .pointer (some ⟨w.heap.size, 0, none⟩), undef, .slice none 0 0, chV g x, .func (.func 106) #[] #[.pointer (some ⟨Bs, 0, none⟩), .pointer (some ⟨Bn, 0, none⟩)], chV g x, undef, undef, undef, undef, undef], defers := [] }

set_option maxRecDepth 100000 in
set_option maxHeartbeats 2000000 in
theorem appendSeqB_in (n : Nat) (hn : 3 ≤ n) (Bs Bn gz D cap g : Nat) (hz : 0 < gz) (hz2 : gz ≤ 512) (hD : D ≤ 1048576) (hcap : D ≤ cap) (hmx : many gz D ≤ 65536) (w : World) (hBs : w.cell? ⟨Bs, 0, none⟩ = some (.slice (some ⟨g, 0, none⟩) D cap)) (hBn : w.cell? ⟨Bn, 0, none⟩ = some (.int .i64 (gz : Nat))) :
    CallsIn Fence.wide n Tryz.prog 105 #[.slice none 0 0, .func (.func 106) #[] #[.pointer (some ⟨Bs, 0, none⟩), .pointer (some ⟨Bn, 0, none⟩)]] w fun e w' => ∃ v, e = .returned v ∧ w'.ownsRow w.heap.size 56 1 v (pcs gz D).length ((pcs gz D).map (chV g)) ∧ Below w.heap.size w w' := by
  have hn1 : 1 ≤ n := by omega
  obtain ⟨i0, hi, iz0, iz1, iz2⟩ := info_parts infoBy
  refine callsIn_of_wp_marks Tryz.func105 rfl trivial ?_ rfl
  simp only [Tryz.ntmps105, List.size_toArray, List.length_cons, List.length_nil, Nat.reduceAdd, Nat.reduceSub, Array.replicate_succ, Array.replicate_zero, List.push_toArray, List.append_toArray, List.nil_append, List.cons_append]
  gi_wp2
  have bX := Boxed.new w 54 (.slice none 0 0)
  have hB1 : Below w.heap.size w (w.alloc (Obj.cells #[Value.slice none 0 0] 54)) := below_new w _
  have hrow1 : (w.alloc (Obj.cells #[Value.slice none 0 0] 54)).ownsRow w.heap.size 56 1 (.slice none 0 0) 0 [] := World.ownsRow_nil _ _ _ _
  have hcS : (w.alloc (Obj.cells #[Value.slice none 0 0] 54)).cell? ⟨Bs, 0, none⟩ = some (.slice (some ⟨g, 0, none⟩) D cap) := by rw [hB1.cell (p := ⟨Bs, 0, none⟩) (World.block_lt_of_cell? w _ hBs)]; exact hBs
  have hcB : (w.alloc (Obj.cells #[Value.slice none 0 0] 54)).cell? ⟨Bn, 0, none⟩ = some (.int .i64 (gz : Nat)) := by rw [hB1.cell (p := ⟨Bn, 0, none⟩) (World.block_lt_of_cell? w _ hBn)]; exact hBn
  refine wpIn_rangeFunc_ownH rfl hn1 (gf := 106) (lb := #[.pointer (some ⟨Bs, 0, none⟩), .pointer (some ⟨Bn, 0, none⟩)]) rfl trivial (enters_of Tryz.func106 (by kernel_rfl) rfl)
    (chunk_stops (n - 1) (by omega) Bs Bn w.heap.size gz D cap g hz hz2 hD hcap _ hcS hcB (World.block_lt_of_cell? w _ hBs) (World.block_lt_of_cell? w _ hBn) hB1.size) belowK_t (belowK_b (by rw [World.size_alloc]; omega)) (Below.refl _ _) (fun _ => rfl)
    (fun pre W => (∃ v, Boxed W w.heap.size 54 v ∧ W.ownsRow w.heap.size 56 1 v pre.length (pre.map (chV g)) ∧ True) ∧ Below w.heap.size w W)
    (fun c pre W => False)
    (OwnFrom.and (Own.from (holdsRow_own w.heap.size w.heap.size 54 56 1 (fun pre : List (Nat × Nat) => pre.length) (fun pre => pre.map (chV g)) (fun _ _ => True)) _) (ownFrom_below (Nat.le_refl _) (by rw [World.size_alloc]; omega)))
    (fun c _ _ _ _ h _ _ => h)
    ⟨⟨_, bX, by simpa using hrow1, trivial⟩, hB1⟩ (AxB w Bs Bn g) ?ax ?assign ?body ?done ?stop
  case ax =>
    intro x a' s W W' row h hg hrow
    exact h
  case assign =>
    rintro L pre x W K ⟨⟨v, hv, hrow, _⟩, hB⟩ hK
    simp only [chV]
    gi_wp2
    exact hK _ _ ((KeepsOthers.refl W).from _) (Below.refl _ W) ⟨⟨v, hv, hrow, trivial⟩, hB⟩ rfl
  case body =>
    rintro L pre x a' W hL hLL ⟨⟨v, hv, hrow, _⟩, hB⟩ rfl hlt
    obtain ⟨ao, cp, rfl⟩ := own_form hrow
    have hc := hv.cell
    have hf := hv.frozen
    have hbs := hB.size
    obtain ⟨k, hk⟩ : ∃ k, k = pre.length := ⟨_, rfl⟩
    have HK : Hid (k = pre.length) := hk
    have hk2 : k < 65536 := by rw [pcs_length] at hlt; omega
    rw [← hk] at hrow hc
    have HV : Hid (Boxed W w.heap.size 54 (.slice ao pre.length cp)) := hv
    have HB : Hid (Below w.heap.size w W) := hB
    clear hk hv hB hlt hLL
    unfold chV
    gi_wp2_with (gi_at_builtin; refine wpListIn_append_own _ rfl _ _ 54 rfl w.heap.size 56 i0 (.slice none 0 0) 1 24 Tryz.underlying54 hi iz0 iz1 iz2 rfl (by decide) _ _ _ rfl (hrow.alloc _) ⟨W.heap.size, 0, none⟩ 1 1 [chV g x] rfl rfl (xone_new _ _ _) (ch_one g x) (by unfold maxLen; omega) (by omega) (by simp; omega) ?_; intro v' w5 hown' hgrow _; obtain ⟨a5, cap5, rfl⟩ := own_form hown'; obtain ⟨hv1, hv2, hr2, hk2, hb2⟩ := (show Boxed W w.heap.size 54 (.slice ao k cp) by rw [HK.out]; exact HV.out).appended (by decide) hrow hbs (Nat.le_refl _) hown' hgrow; have hc1 := hv1.cell; have hf1 := hv1.frozen)
    refine ⟨hk2.from _, hb2, ⟨_, hv2, ?_, trivial⟩, HB.out.trans hb2⟩
    have hm : (pre ++ [x]).map (chV g) = pre.map (chV g) ++ [chV g x] := by simp
    have hl : (pre ++ [x]).length = k + 1 := by rw [List.length_append, HK.out]; rfl
    show World.ownsRow _ _ _ _ _ (pre ++ [x]).length ((pre ++ [x]).map (chV g))
    rw [hm, hl]
    exact hr2
  case done =>
    rintro D ys W hD rfl ⟨⟨v, hv, hrow, _⟩, hB⟩ hK
    obtain ⟨ao, cp, rfl⟩ := own_form hrow
    have hc := hv.cell
    gi_wp2
    refine ⟨by simp, .inl ⟨_, _, rfl, run_takeDeferred hK, ?_⟩⟩
    exact ⟨_, results_tmp rfl _ _ _, _, rfl, ownsRow_putObj hrow _ hK rfl, hB.trans (belowK_b (w := w) (Nat.le_refl _) W D _ _ (by rw [World.size_alloc] at hD; omega) hK rfl rfl)⟩
  case stop =>
    rintro D c pre W hD hpre h hK
    exact h.elim

theorem collectB_any (Bs Bn gz D cap g : Nat) (hz : 0 < gz) (hz2 : gz ≤ 512) (hD : D ≤ 1048576) (hcap : D ≤ cap) (hmx : many gz D ≤ 65536) (w : World) (hBs : w.cell? ⟨Bs, 0, none⟩ = some (.slice (some ⟨g, 0, none⟩) D cap)) (hBn : w.cell? ⟨Bn, 0, none⟩ = some (.int .i64 (gz : Nat))) :
    Calls Tryz.prog 65 #[.func (.func 106) #[] #[.pointer (some ⟨Bs, 0, none⟩), .pointer (some ⟨Bn, 0, none⟩)]] w fun e w' => ∃ a cp, e = .returned (.slice a (pcs gz D).length cp) ∧ w'.ownsRow w.heap.size 56 1 (.slice a (pcs gz D).length cp) (pcs gz D).length ((pcs gz D).map (chV g)) ∧ Below w.heap.size w w' := by
  have h := callsIn_wide.1 (appendSeqB_in 3 (by omega) Bs Bn gz D cap g hz hz2 hD hcap hmx w hBs hBn)
  clear hBn hBs
  go_enter Tryz.func65, Tryz.ntmps65
  go_wp2_with (go_at_call 105; refine h.mono ?_; rintro e w1 ⟨v, rfl, q1, q2⟩; obtain ⟨ao, cp, rfl⟩ := own_form q1)
  go_ret
  exact ⟨_, _, rfl, q1, q2⟩
theorem chunk_any (gz D cap g : Nat) (hz : 0 < gz) (hz2 : gz ≤ 512) (w : World) :
    Calls Tryz.prog 66 #[.slice (some ⟨g, 0, none⟩) D cap, .int .i64 gz] w fun e w' => ∃ Bs Bn, e = .returned (.func (.func 106) #[] #[.pointer (some ⟨Bs, 0, none⟩), .pointer (some ⟨Bn, 0, none⟩)]) ∧ w'.cell? ⟨Bs, 0, none⟩ = some (.slice (some ⟨g, 0, none⟩) D cap) ∧ w'.cell? ⟨Bn, 0, none⟩ = some (.int .i64 gz) ∧ w.heap.size ≤ Bs ∧ w.heap.size ≤ Bn ∧ Below w.heap.size w w' := by
  have hge : ¬ ((gz : Nat) : Int) < 1 := by omega
  go_enter Tryz.func66, Tryz.ntmps66
  go_wp2
  go_ret
  exact ⟨_, _, rfl, by simp, by simp, by simp, by simp, (below_new w _).alloc (by simp) _⟩
end Go.Proofs.YtkfecngkdlajgaaGreatDoor
namespace Go.Proofs.YtkfecngkdlajgaaGreatDoor
open Go.RowKit Go.Extern.Stop Go.Stop Go.Extern
set_option maxRecDepth 10000

theorem step_calls {ops : Array Oper} {o : Oper} {a : Act} {w : World} {K : Act → World → Prop} {Q : Exit → Act → World → Prop} {E : Prop} (hgd : o.guard = none) (f : FuncId) (x : Operand) (t : TypeId)
    (ho : o.op = .call { callee := .value (.func f), args := #[x], argTypes := #[t] }) (v : Value) (hv : a.eval x = v) (hc : (callFunc f #[v]).run Tryz.prog w = .ok (.enter f #[v]) w) {R : Ending → World → Prop} (h : Calls Tryz.prog f #[v] w R) (hR : ∀ e w', R e w' → ∃ u, e = .returned u ∧ K (a.put o.dst u) w') :
    if Region.wanted o (yielded ops a.tmps) = true then Oper.wp Tryz.prog o a w K Q else E := by
  have hw : Region.wanted o (yielded ops a.tmps) = true := by simp [Region.wanted, hgd]
  rw [if_pos hw]
  have hf : a.eval (.func f) = .func (.func f) #[] #[] := rfl
  unfold Oper.wp execOp
  simp only [ho]
  have e : (Sem.run Tryz.prog (do
        let d ← resolve a.eval { callee := Callee.value (Operand.func f), args := #[x], argTypes := #[t] } o.type
        invoke d.target d.args) w) = (callFunc f #[a.eval x]).run Tryz.prog w := by
    go_simp
  rw [e, hv, hc, Oper.upon_enter]
  refine h.mono ?_
  intro e w' hr
  obtain ⟨u, rfl, hk⟩ := hR e w' hr
  exact hk
end Go.Proofs.YtkfecngkdlajgaaGreatDoor
