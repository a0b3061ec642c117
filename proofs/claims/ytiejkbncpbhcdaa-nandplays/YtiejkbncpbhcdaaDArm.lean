/-
  What Arm does with the document's chip.
-/
import Derived.Test.YtiejkbncpbhcdaaDPlan
import Derived.Test.YtiejkbncpbhcdaaDEraB
namespace Go.Proofs.Ytiejkbncpbhcdaa
open Go.RowKit

theorem infoFl_ : (Try.prog.info? 78).map (fun i => (i.zero, i.size, i.bytes)) = some (some (.agg #[.int .i64 0, .int .i64 0, .int .i64 0]), 3, 24) := by kernel_rfl
theorem frow_cells {w : World} {ad : Addr} {l : List Flt} (h : FRow w (some ad) l) : ∀ j u, (l.flatMap flCells)[j]? = some u → w.cell? (ad.add j) = some u := by
  rcases h with rfl | ⟨b, off, ha, hc⟩
  · intro j u hj; simp at hj
  · cases ha
    intro j u hj
    have hlt := (List.getElem?_eq_some_iff.1 hj).1
    rw [flat_len flCells 3 fl_len] at hlt
    have hil : j / 3 < l.length := by omega
    obtain ⟨f, hf⟩ : ∃ f, l[j / 3]? = some f := ⟨_, List.getElem?_eq_getElem hil⟩
    have e : (⟨b, off, none⟩ : Addr).add j = ⟨b, off + j, none⟩ := by unfold Addr.add; split <;> simp_all
    rw [e]
    obtain ⟨c0, c1, c2⟩ := hc (j / 3) f hf
    have hj3 : j % 3 = 0 ∨ j % 3 = 1 ∨ j % 3 = 2 := by omega
    have key : ∀ k, k < 3 → j % 3 = k → (flCells f)[k]? = some u := by
      intro k hk hk2
      have := flat_get flCells 3 fl_len k hk l (j / 3) f hf
      rw [show j / 3 * 3 + k = j by omega, hj] at this
      exact this.symm
    rcases hj3 with q | q | q
    · have := key 0 (by omega) q
      rw [show off + j = off + j / 3 * 3 by omega, c0]
      simpa [flCells] using this
    · have := key 1 (by omega) q
      rw [show off + j = off + j / 3 * 3 + 1 by omega, c1]
      simpa [flCells] using this
    · have := key 2 (by omega) q
      rw [show off + j = off + j / 3 * 3 + 2 by omega, c2]
      simpa [flCells] using this
theorem frow_of_row {w : World} {g : Nat} {l : List Flt} {t : TypeId} (h : Row w g (l.flatMap flCells) t) : FRow w (some ⟨g, 0, none⟩) l := by
  refine .inr ⟨g, 0, rfl, fun i f hf => ?_⟩
  rw [Nat.zero_add]
  exact ⟨h.cell (flat_get flCells 3 fl_len 0 (by decide) l i f hf), h.cell (flat_get flCells 3 fl_len 1 (by decide) l i f hf), h.cell (flat_get flCells 3 fl_len 2 (by decide) l i f hf)⟩
theorem wpList_append_flts {w : World} {ops : Array Oper} {rest : List Oper} {o : Oper} {a : Act} {Q : Exit → Act → World → Prop} (hgd : o.guard = none) (s x : Operand)
    (ho : o.op = .call { callee := .builtin .append, args := #[s, x], argTypes := #[24, 24] })
    (base : Nat) (v : Value) (n : Nat) (xs : List Value) (hs : a.eval s = v) (hown : w.ownsRow base 78 3 v n xs)
    (ao : Option Addr) (m c : Nat) (M : List Flt) (hx : a.eval x = .slice ao m c) (hM : m = M.length) (hr : FRow w ao M) (hnil : ao = none → m = 0 ∧ c = 0)
    (h63 : n + m ≤ maxLen) (hbytes : (n + m) * 24 ≤ 140737488355328) (hbase : base ≤ w.heap.size)
    (h : ∀ v' w', w'.ownsRow base 78 3 v' (n + m) (xs ++ M.flatMap flCells) → w.grownBy w' v.ownBlock → wpList Try.prog ops Q rest (a.put o.dst v') w') : wpList Try.prog ops Q (o :: rest) a w := by
  obtain ⟨i0, hi, hz0, hz1, hz2⟩ := info_parts infoFl_
  cases ao with
  | none =>
    obtain ⟨rfl, rfl⟩ := hnil rfl
    have hM0 : M = [] := List.eq_nil_of_length_eq_zero hM.symm
    subst hM0
    refine wpList_append_own_none hgd s x 24 ho base 78 i0 3 Try.underlying24 hi v n xs hs hown hx ?_
    exact h v w (by simpa using hown) ⟨rfl, rfl, rfl, Nat.le_refl _, fun _ _ _ => rfl⟩
  | some ad =>
    exact wpList_append_own w hgd s x 24 ho base 78 i0 (.agg #[.int .i64 0, .int .i64 0, .int .i64 0]) 3 24 Try.underlying24 hi hz0 hz1 hz2 rfl (by omega) v n xs hs hown ad m c (M.flatMap flCells) hx (by rw [flat_len flCells 3 fl_len, hM]) (frow_cells hr) (fl_one _) h63 hbytes hbase
      (fun v' w' h1 h2 _ => h v' w' h1 h2)
/-- The chip armed anew. -/
def DS.armed (d : DS) (na : Option Addr) (m nc : Nat) (l : List Flt) : DS := { d with pa := na, pl := m, pc := nc, plan := l, since := d.ops }
theorem arm_laid {base : Nat} {w1 w2 : World} {d : DS} (h1 : DLies base w1 d) (l : List Flt) (m : Nat) (hm : m = l.length) (v2 : Value) (hown : w2.ownsRow w1.heap.size 78 3 v2 (0 + m) ([] ++ l.flatMap flCells))
    (hgr : (w1.alloc (.cells #[] 78)).grownBy w2 (Value.ownBlock (.slice (some ⟨w1.heap.size, 0, none⟩) 0 0))) :
    ∃ na nc, v2 = .slice na m nc ∧ DLies base w2 d ∧ Below w1.heap.size w1 w2 ∧ FRow w2 na l ∧ ∀ b o, na = some ⟨b, o, none⟩ → l ≠ [] → (∃ cs, Row w2 b cs 78) ∧ w1.heap.size ≤ b := by
  have hb : Below w1.heap.size w1 w2 := (below_new w1 _).grown hgr (by simp) (fun k hk => by simp [Value.ownBlock] at hk; omega)
  rw [Nat.zero_add, List.nil_append] at hown
  obtain ⟨na, nc, rfl⟩ := own_form' hown
  refine ⟨na, nc, rfl, h1.later hb, hb, ?_, ?_⟩
  · by_cases he : l = []
    · exact .inl he
    · obtain ⟨g, cap, e2, _, _, _, hr⟩ := Row.of_owns hown (by rw [hm]; exact List.length_pos_iff.2 he)
      simp only [Value.slice.injEq] at e2
      rw [e2.1]
      exact frow_of_row hr
  · intro b o e hl
    obtain ⟨g, cap, e2, _, _, hg, hr⟩ := Row.of_owns hown (by rw [hm]; exact List.length_pos_iff.2 hl)
    simp only [Value.slice.injEq] at e2
    rw [e] at e2
    obtain ⟨e3, _⟩ := e2
    simp only [Option.some.injEq, Addr.mk.injEq] at e3
    rw [e3.1]
    exact ⟨⟨_, hr⟩, hg⟩
theorem DLies.arm {base : Nat} {w1 w2 : World} {d : DS} (h : DLies base w2 d) (hlt : ∀ k, d.foot k → k < w1.heap.size) (l : List Flt) (na : Option Addr) (m nc : Nat) (hm : m = l.length) (hy : m ≤ 256 ∧ planOk l) (hr : FRow w2 na l) (ha : ∀ b o, na = some ⟨b, o, none⟩ → l ≠ [] → (∃ cs, Row w2 b cs 78) ∧ w1.heap.size ≤ b) :
    DLies base ((w2.setCell ⟨d.p, 6, none⟩ (.slice na m nc)).setCell ⟨d.p, 7, none⟩ (.int .i64 d.ops)) (d.armed na m nc l) ∧ Kept d.foot w2 ((w2.setCell ⟨d.p, 6, none⟩ (.slice na m nc)).setCell ⟨d.p, 7, none⟩ (.int .i64 d.ops)) ∧
    ∀ b o, na = some ⟨b, o, none⟩ → l ≠ [] → ∃ cs, Row ((w2.setCell ⟨d.p, 6, none⟩ (.slice na m nc)).setCell ⟨d.p, 7, none⟩ (.int .i64 d.ops)) b cs 78 := by
  have hk : Kept (fun k => k = d.p) w2 ((w2.setCell ⟨d.p, 6, none⟩ (.slice na m nc)).setCell ⟨d.p, 7, none⟩ (.int .i64 d.ops)) := ((Kept.refl (fun k => k = d.p) w2).setCell (p := ⟨d.p, 6, none⟩) rfl _).setCell (p := ⟨d.p, 7, none⟩) rfl _
  have hmono : Kept d.foot w2 _ := hk.mono (fun k e => .inl e)
  have hnf : ∀ b o, na = some ⟨b, o, none⟩ → l ≠ [] → ¬ d.foot b := fun b o e hl q => by
    have h1 := (ha b o e hl).2
    have h2 := hlt b q
    omega
  refine ⟨⟨?_, ?_, ?_, h.nd, h.low, ⟨?_, ?_⟩, ?_⟩, hmono, ?_⟩
  · exact (h.chip.set (i := 6) (.slice na m nc) (by simp [dsCells])).set (i := 7) (.int .i64 d.ops) (by simp [dsCells])
  · exact h.bks.kept hk (fun e => h.bks.ne h.chip (by decide) e)
  · intro x hx; exact ⟨(h.pgs x hx).1.kept hk (fun e => (h.pgs x hx).1.ne h.chip (by decide) e), fun p hp => ((h.pgs x hx).2 p hp).kept hmono (u8_apart h)⟩
  · exact frow_kept hr hmono hnf
  · intro b o e hl
    refine ⟨hnf b o e hl, ?_⟩
    obtain ⟨⟨cs, hcs⟩, _⟩ := ha b o e hl
    exact Nat.lt_of_lt_of_le hcs.lt hmono.size
  · exact ⟨h.good.len, h.good.plen, h.good.qc, h.good.gs, h.good.dat, hm, hy.1, hy.2⟩
  · intro b o e hl
    obtain ⟨⟨cs, hcs⟩, _⟩ := ha b o e hl
    exact ⟨cs, hcs.kept hk (fun q => hnf b o e hl (.inl q))⟩
set_option maxHeartbeats 2000000 in
theorem d_arm {base : Nat} {w : World} {d : DS} (h : DLies base w d) (a : Option Addr) (m cap : Nat) (l : List Flt) (hm : m = l.length) (hm63 : m ≤ 9223372036854775807) (hr : FRow w a l) (hnil : a = none → m = 0 ∧ cap = 0) :
    Calls Try.prog 38 #[.pointer (some ⟨d.p, 0, none⟩), .slice a m cap] w fun e w' =>
      (¬ (m ≤ 256 ∧ planOk l) ∧ e = .returned (.int .i64 22) ∧ DLies base w' d ∧ Below w.heap.size w w') ∨
      ((m ≤ 256 ∧ planOk l) ∧ e = .returned (.int .i64 0) ∧ ∃ na nc, DLies base w' (d.armed na m nc l) ∧ Kept d.foot w w' ∧ ∀ b o, na = some ⟨b, o, none⟩ → l ≠ [] → ∃ cs, Row w' b cs 78) := by
  have kP := d_plan a m cap l w hm hm63 hr
  by_cases hy : m ≤ 256 ∧ planOk l
  · rw [planB_yes (by rw [← hm]; exact hy)] at kP
    have HL : Hid (∀ w1, Below w.heap.size w w1 → DLies base w1 d ∧ w1.cell? ⟨d.p, 8, none⟩ = some (.int .i64 d.ops) ∧ (∃ v6, w1.cell? ⟨d.p, 6, none⟩ = some v6) ∧ (∃ v7, w1.cell? ⟨d.p, 7, none⟩ = some v7) ∧ w1.frozen? ⟨d.p, 6, none⟩ = false ∧ w1.frozen? ⟨d.p, 7, none⟩ = false ∧ d.p < w1.heap.size ∧ FRow w1 a l) := fun w1 hb => by
      have h1 := h.later hb
      exact ⟨h1, h1.chip.cell (by rfl), ⟨_, h1.chip.cell (i := 6) rfl⟩, ⟨_, h1.chip.cell (i := 7) rfl⟩, h1.chip.frozen 6, h1.chip.frozen 7, h1.chip.lt, frow_later hr hb⟩
    have HM : Hid (m = l.length) := hm
    have HN : Hid (a = none → m = 0 ∧ cap = 0) := hnil
    have HY : Hid (m ≤ 256 ∧ planOk l) := hy
    have hm256 : m ≤ 256 := hy.1
    clear hm hr hnil hy h
    go_enter Try.func38, Try.ntmps38
    go_wp2_with (first
      | (go_at_call 18; refine kP.mono ?_; rintro e w1 ⟨rfl, hb1⟩; obtain ⟨l1, c8, ⟨v6, c6⟩, ⟨v7, c7⟩, f6, f7, hp, r1⟩ := HL.out w1 hb1; have HL1 : Hid (DLies _ _ _) := l1; have HB1 : Hid (Below _ _ _) := hb1; have HR1 : Hid (FRow _ _ _) := r1; clear l1 hb1 r1)
      | (at_builtin; go_must (refine wpList_append_flts rfl (.tmp 11) (.tmp 12) rfl w1.heap.size (.slice (some ⟨w1.heap.size, 0, none⟩) 0 0) 0 [] rfl (World.ownsRow_lit (e := 78) (size := 3) w1 #[] 0 (Nat.le_refl _) (by decide) rfl) a m cap l rfl HM.out (frow_later HR1.out (below_new _ _)) HN.out (by unfold maxLen; omega) (by omega) (by simp) ?_); intro v2 w2 hown2 hgrow2; obtain ⟨na, nc, rfl, l2, hb2, hr2, ha2⟩ := arm_laid HL1.out l m HM.out v2 hown2 hgrow2; have k6 := l2.chip.cell (i := 6) rfl; have k7 := l2.chip.cell (i := 7) rfl; have k8 := l2.chip.cell (i := 8) rfl; have y6 := l2.chip.frozen 6; have y7 := l2.chip.frozen 7; have HA : Hid (_ ∧ _ ∧ _) := l2.arm (w1 := w1) (fun k hk => HL1.out.foot_lt hk) l na m nc HM.out HY.out hr2 ha2; have HB2 : Hid (Below _ _ _) := hb2; clear hown2 hgrow2 l2 hb2 hr2 ha2))
    go_ret
    obtain ⟨r1, r2, r3⟩ := HA.out
    exact .inr ⟨HY.out, rfl, na, nc, r1, (Kept.of_below (Below.after HB1.out HB2.out)).trans r2, r3⟩
  · rw [planB_no (by rw [← hm]; exact hy)] at kP
    have HL : Hid (∀ w1, Below w.heap.size w w1 → DLies base w1 d) := fun w1 hb => h.later hb
    clear hm hr hnil h
    have HY : Hid (¬ (m ≤ 256 ∧ planOk l)) := hy
    clear hy
    go_enter Try.func38, Try.ntmps38
    go_wp2_with (go_at_call 18; refine kP.mono ?_; rintro e w1 ⟨rfl, hb1⟩; have HB1 : Hid (Below _ _ _) := hb1; clear hb1)
    go_ret
    exact .inl ⟨HY.out, rfl, HL.out _ HB1.out, HB1.out⟩
end Go.Proofs.Ytiejkbncpbhcdaa
