/-
  What is read of the document's chip.
-/
import Derived.Test.YtiejkbncpbhcdaaDLook
import Derived.Deep.LoopGhost
namespace Go.Proofs.Ytiejkbncpbhcdaa
open Go.RowKit

theorem cells_any {w : World} {ad : Addr} {l : List Nat} (h : BRow w (some ad) l) : ∀ j u, (l.map u8v)[j]? = some u → w.cell? (ad.add j) = some u := by
  rcases h with rfl | ⟨b, off, ha, hc⟩
  · intro j u hj; simp at hj
  · cases ha
    exact BRow.cells hc
theorem wpList_append_bytes {w : World} {ops : Array Oper} {rest : List Oper} {o : Oper} {a : Act} {Q : Exit → Act → World → Prop} (hgd : o.guard = none) (s x : Operand)
    (ho : o.op = .call { callee := .builtin .append, args := #[s, x], argTypes := #[35, 35] })
    (base : Nat) (v : Value) (n : Nat) (xs : List Value) (hs : a.eval s = v) (hown : w.ownsRow base 5 1 v n xs)
    (ao : Option Addr) (m c : Nat) (M : List Nat) (hx : a.eval x = .slice ao m c) (hM : m = M.length) (hr : BRow w ao M) (hnil : ao = none → m = 0 ∧ c = 0)
    (h63 : n + m ≤ maxLen) (hbytes : (n + m) * 1 ≤ 140737488355328) (hbase : base ≤ w.heap.size)
    (h : ∀ v' w', w'.ownsRow base 5 1 v' (n + m) (xs ++ M.map u8v) → w.grownBy w' v.ownBlock → wpList Try.prog ops Q rest (a.put o.dst v') w') : wpList Try.prog ops Q (o :: rest) a w := by
  obtain ⟨i0, hi, hz0, hz1, hz2⟩ := info_parts info8
  cases ao with
  | none =>
    obtain ⟨rfl, rfl⟩ := hnil rfl
    have hM0 : M = [] := List.eq_nil_of_length_eq_zero hM.symm
    subst hM0
    refine wpList_append_own_none hgd s x 35 ho base 5 i0 1 Try.underlying35 hi v n xs hs hown hx ?_
    exact h v w (by simpa using hown) ⟨rfl, rfl, rfl, Nat.le_refl _, fun _ _ _ => rfl⟩
  | some ad =>
    exact wpList_append_own w hgd s x 35 ho base 5 i0 (.int .u8 0) 1 1 Try.underlying35 hi hz0 hz1 hz2 rfl (by omega) v n xs hs hown ad m c (M.map u8v) hx (by simp [hM]) (cells_any hr) (u8v_one _) h63 hbytes hbase
      (fun v' w' h1 h2 _ => h v' w' h1 h2)
theorem own_shape {w : World} {base n : Nat} {v : Value} {l : List Nat} (hn : n = l.length) (h : w.ownsRow base 5 1 v l.length (l.map u8v)) :
    ∃ a cap, v = .slice a n cap ∧ BRow w a l ∧ (a = none → n = 0 ∧ cap = 0) ∧ n ≤ cap ∧ cap ≤ maxLen := by
  subst hn
  rcases h.2 with ⟨rfl, hn⟩ | ⟨g, cap, cur, rfl, hbg, hgg, hnc, hcm, hcs, htake⟩
  · have : l = [] := List.eq_nil_of_length_eq_zero hn
    subst this
    exact ⟨none, 0, rfl, .inl rfl, fun _ => ⟨rfl, rfl⟩, Nat.le_refl _, by decide⟩
  · obtain ⟨a, c, hv, hr, _⟩ := owns_row h
    simp only [Value.slice.injEq] at hv
    obtain ⟨rfl, _, rfl⟩ := hv
    exact ⟨_, cap, rfl, hr, (fun h => by cases h), hnc, hcm⟩
theorem own_shape' {w : World} {base n : Nat} {v : Value} {l : List Nat} (hn : n = l.length) (h : w.ownsRow base 5 1 v n (l.map u8v)) :
    ∃ a cap, v = .slice a n cap ∧ BRow w a l ∧ (a = none → n = 0 ∧ cap = 0) ∧ n ≤ cap ∧ cap ≤ maxLen := own_shape hn (by rw [← hn]; exact h)
theorem grown_own {B : Nat} {w w1 w2 : World} {v : Value} {e n : Nat} {xs : List Value} (h : Below B w w1) (hg : w1.grownBy w2 v.ownBlock) (hB : B ≤ w1.heap.size) (ho : w1.ownsRow B e 1 v n xs) : Below B w w2 :=
  h.grown hg hB (fun k hk => (ho.lt k hk).1)
theorem own_empty (w : World) (base : Nat) (h : base ≤ w.heap.size) : (w.alloc (.cells #[] 5)).ownsRow base 5 1 (.slice (some ⟨w.heap.size, 0, none⟩) 0 0) 0 [] :=
  World.ownsRow_lit (e := 5) (size := 1) w #[] 0 h (by decide) rfl
theorem below_copy {w w' : World} (hg : (w.alloc (.cells #[] 5)).grownBy w' (Value.ownBlock (.slice (some ⟨w.heap.size, 0, none⟩) 0 0))) : Below w.heap.size w w' :=
  (below_new w _).grown hg (by simp) (fun k hk => by simp [Value.ownBlock] at hk; omega)
theorem owns_drewN {w : World} {base e n : Nat} {v : Value} {xs : List Value} (h : w.ownsRow base e 1 v n xs) (m : Nat) : (w.drewN m).ownsRow base e 1 v n xs := by
  have hb := below_drawn w m
  exact owns_later h hb

theorem one_new (w : World) (x : Value) (t : TypeId) : ∀ j u, [x][j]? = some u → (w.alloc (.cells #[x] t)).cell? ((⟨w.heap.size, 0, none⟩ : Addr).add j) = some u := by
  intro j u hj
  have e : (⟨w.heap.size, 0, none⟩ : Addr).add j = ⟨w.heap.size, j, none⟩ := by unfold Addr.add; split <;> simp_all
  rw [e]
  exact (Row.new w [x] t).cell hj
theorem own_form' {W : World} {base size n : Nat} {e : TypeId} {v : Value} {xs : List Value} (h : W.ownsRow base e size v n xs) : ∃ a cap, v = .slice a n cap := by
  rcases h.2 with ⟨rfl, hn⟩ | ⟨g, cap, cur, rfl, _⟩
  · exact ⟨none, 0, by rw [hn]⟩
  · exact ⟨_, cap, rfl⟩
/-- What is read of a page of the document's chip. -/
def DPg.bytes (p : DPg) (n : Nat) : List Nat := if p.spoilt = true then [] else p.data ++ List.replicate (n - p.data.length) 255
def DPg.err (p : DPg) : Int := if p.spoilt = true then 5 else 0
def DS.read (d : DS) (block page : Int) : List Nat × Int :=
  if d.off = true then ([], 6) else match d.at block with
  | none => ([], 22)
  | some b => if page < 0 then ([], 22) else match b.pgs[page.toNat]? with
    | none => ([], 22)
    | some p => (p.bytes d.gz, p.err)
theorem dp_cells {W : World} {r i : Nat} {l : List DPg} {t : TypeId} (h : Row W r (l.flatMap dpCells) t) (hi : i < l.length) :
    W.cell? ⟨r, i * 3, none⟩ = some (.bool l[i].done) ∧ W.cell? ⟨r, i * 3 + 1, none⟩ = some (.bool l[i].spoilt) ∧ W.cell? ⟨r, i * 3 + 2, none⟩ = some (.slice l[i].da l[i].dl l[i].dc) := by
  have e1 := flat_get dpCells 3 dp_len 0 (by decide) l i l[i] (List.getElem?_eq_getElem hi)
  have e2 := flat_get dpCells 3 dp_len 1 (by decide) l i l[i] (List.getElem?_eq_getElem hi)
  have e3 := flat_get dpCells 3 dp_len 2 (by decide) l i l[i] (List.getElem?_eq_getElem hi)
  exact ⟨h.cell e1, h.cell e2, h.cell e3⟩
/-- What Read tells: an answer, without the memory that it lies in. -/
def DGot (w w' : World) (l : List Nat) (a : Option Addr) (m : Nat) : Prop := m = l.length ∧ BRow w' a l ∧ Below w.heap.size w w'

theorem dread_off {d : DS} (block page : Int) (h : d.off = true) : d.read block page = ([], 6) := by unfold DS.read; rw [if_pos h]
theorem dread_none {d : DS} (block page : Int) (h : ¬ d.off = true) (hb : d.at block = none) : d.read block page = ([], 22) := by unfold DS.read; rw [if_neg h, hb]
theorem dread_at {d : DS} (block page : Int) {b : DBk} (h : ¬ d.off = true) (hb : d.at block = some b) : d.read block page = if page < 0 then ([], 22) else match b.pgs[page.toNat]? with | none => ([], 22) | some p => (p.bytes d.gz, p.err) := by
  unfold DS.read; rw [if_neg h, hb]
set_option maxRecDepth 20000 in
set_option maxHeartbeats 4000000 in
theorem d_read {base : Nat} {w : World} {d : DS} (h : DLies base w d) (block page : Int) :
    Calls Try.prog 39 #[.pointer (some ⟨d.p, 0, none⟩), .int .i64 block, .int .i64 page] w fun e w' => ∃ a m cap, e = .returned (.tuple #[.slice a m cap, .int .i64 (d.read block page).2]) ∧ DGot w w' (d.read block page).1 a m := by
  have ha := d_asked h block
  have c4 := d_len h
  have c1 : w.cell? ⟨d.p, 1, none⟩ = some (.int .i64 d.gp) := h.chip.cell (by rfl)
  have c2 : w.cell? ⟨d.p, 2, none⟩ = some (.int .i64 d.gz) := h.chip.cell (by rfl)
  unfold DS.asked at ha
  by_cases ho : d.off = true
  · rw [if_pos ho] at ha
    rw [dread_off block page ho]
    clear ho h
    go_enter Try.func39, Try.ntmps39
    go_wp2_with (go_at_call 63; refine ha.mono ?_; rintro e w' ⟨rfl, rfl⟩)
    go_ret2
    exact ⟨_, 0, 0, rfl, rfl, .inl rfl, Below.refl _ _⟩
  · rw [if_neg ho] at ha
    cases hb : d.at block with
    | none =>
      rw [hb] at ha
      rw [dread_none block page ho hb]
      clear ho h hb
      go_enter Try.func39, Try.ntmps39
      go_wp2_with (go_at_call 63; refine ha.mono ?_; rintro e w' ⟨rfl, rfl⟩)
      go_ret2
      exact ⟨_, 0, 0, rfl, rfl, .inl rfl, Below.refl _ _⟩
    | some b =>
      rw [hb] at ha
      obtain ⟨hb1, hb2⟩ := dat_some hb
      have hbm : b ∈ d.bks := List.mem_of_getElem? hb1
      obtain ⟨l1, l2, l3, _, _⟩ := h.good.plen b hbm
      obtain ⟨_, _, _, _, z1, z2⟩ := h.good.gs
      obtain ⟨i, rfl⟩ : ∃ i : Nat, block = i := ⟨block.toNat, by omega⟩
      simp only [Int.toNat_natCast] at hb1
      have hil : (i : Int) < (d.bks.length : Int) := by have := (List.getElem?_eq_some_iff.1 hb1).1; omega
      have b0 := (DAt.of h.bks hb1).list
      by_cases hp : 0 ≤ page ∧ page < (d.gp : Int)
      · obtain ⟨k, rfl⟩ : ∃ k : Nat, page = k := ⟨page.toNat, by omega⟩
        have hk : k < b.pgs.length := by omega
        have er : d.read i k = (b.pgs[k].bytes d.gz, b.pgs[k].err) := by rw [dread_at i k ho hb, if_neg (by omega), show ((k : Int).toNat) = k from rfl, List.getElem?_eq_getElem hk]
        rw [er]
        clear er
        obtain ⟨g0, g1, g2⟩ := dp_cells (h.pgs b hbm).1 hk
        have hok := (h.pgs b hbm).2 _ (List.getElem_mem hk)
        have hdl := h.good.dat b hbm _ (List.getElem_mem hk)
        have k1 : ¬ (k : Int) < 0 := by omega
        have k2 : ¬ (d.gp : Int) ≤ (k : Int) := by omega
        have hkl : (k : Int) < (b.pgs.length : Int) := by omega
        have hrl := (h.pgs b hbm).1.lt
        have hpl := h.chip.lt
        have hql := h.bks.lt
        generalize hpg : b.pgs[k] = pg at *
        clear hpg hk
        generalize b.pgs.length = bl at *
        generalize d.bks.length = dl at *
        unfold DPg.bytes DPg.err
        cases hsp : pg.spoilt with
        | true =>
          rw [if_pos rfl, if_pos rfl]
          rw [hsp] at g1
          clear ho h hb hb1 hbm hp hok hdl l1
          go_enter Try.func39, Try.ntmps39
          go_wp2_with (go_at_call 63; refine ha.mono ?_; rintro e w' ⟨rfl, rfl⟩)
          go_ret2
          exact ⟨_, 0, 0, rfl, rfl, .inl rfl, below_new w _⟩
        | false =>
          rw [if_neg (by decide), if_neg (by decide)]
          rw [hsp] at g1
          have HOK : Hid (DOk w pg) := hok
          obtain ⟨i0, hi, hz0, hz1, hz2⟩ := info_parts info8
          obtain ⟨dn, hdn⟩ : ∃ dn, dn = pg.data.length := ⟨_, rfl⟩
          have HDN : Hid (dn = pg.data.length) := hdn
          rw [← hdn] at hdl ⊢
          have HE : Hid (((w.alloc (.cells #[.bool pg.done, .bool false, .slice pg.da pg.dl pg.dc] 102)).alloc (.cells #[] 5)).ownsRow w.heap.size 5 1 (.slice (some ⟨w.heap.size + 1, 0, none⟩) 0 0) 0 []) := by
            have := own_empty (w.alloc (.cells #[.bool pg.done, .bool false, .slice pg.da pg.dl pg.dc] 102)) w.heap.size (by simp)
            rw [World.size_alloc] at this
            exact this
          have hbA : Below w.heap.size w ((w.alloc (.cells #[.bool pg.done, .bool false, .slice pg.da pg.dl pg.dc] 102)).alloc (.cells #[] 5)) := Below.after (below_new w _) (below_new _ _)
          have HRW : Hid (BRow ((w.alloc (.cells #[.bool pg.done, .bool false, .slice pg.da pg.dl pg.dc] 102)).alloc (.cells #[] 5)) pg.da pg.data) := hok.row.later hbA
          have hlen := hok.len
          have HB1 : Hid (0 + pg.dl ≤ maxLen) := by show _ ≤ _; rw [hlen, ← hdn]; unfold maxLen; omega
          have HB2 : Hid ((0 + pg.dl) * 1 ≤ 140737488355328) := by show _ ≤ _; rw [hlen, ← hdn]; omega
          have HB3 : Hid (w.heap.size ≤ ((w.alloc (.cells #[.bool pg.done, .bool false, .slice pg.da pg.dl pg.dc] 102)).alloc (.cells #[] 5)).heap.size) := hbA.size
          have HDL : Hid (pg.dl = dn) := hlen.trans hdn.symm
          clear ho h hb hb1 hbm hp hok l1 hdn hlen
          go_enter Try.func39, Try.ntmps39
          go_wp2_with (first
            | (go_at_call 63; refine ha.mono ?_; rintro e w' ⟨rfl, rfl⟩)
            | (at_builtin; refine wpList_append_bytes rfl _ _ rfl w.heap.size _ 0 [] rfl HE.out pg.da pg.dl pg.dc pg.data rfl HOK.out.len HRW.out HOK.out.nil HB1.out HB2.out HB3.out ?_; intro v1 w1 hown hgrow))
          have hown1 : w1.ownsRow w.heap.size 5 1 v1 dn (pg.data.map u8v) := by
            have := hown
            rw [Nat.zero_add, HDL.out, List.nil_append] at this
            exact this
          have hb1 : Below w.heap.size w w1 := hbA.grown hgrow hbA.size (fun j hj => by have h9 : some (w.heap.size + 1) = some j := hj; simp at h9; omega)
          clear hown hgrow HE HRW HB1 HB2 HB3
          obtain ⟨a1, cap1, rfl, _, _, _, _⟩ := own_shape' HDN.out hown1
          have HO1 : Hid (w1.ownsRow w.heap.size 5 1 (.slice a1 dn cap1) dn (pg.data.map u8v)) := hown1
          clear hown1
          go_loopg [10] (d.gz - dn) (fun gm s10 wr => ∃ k a2 cap2, dn ≤ k ∧ k ≤ d.gz ∧ gm = d.gz - k ∧ s10 = .slice a2 k cap2 ∧ Hid (wr.ownsRow w.heap.size 5 1 (.slice a2 k cap2) k ((pg.data ++ List.replicate (k - dn) 255).map u8v)) ∧ Below w.heap.size w wr)
          case atStart => exact ⟨dn, a1, cap1, Nat.le_refl _, hdl, rfl, rfl, by show World.ownsRow _ _ _ _ _ _ _; simpa using HO1.out, hb1⟩
          case round =>
            obtain ⟨k2, a2, cap2, hk1, hk2, rfl, rfl, HO, hbr⟩ := hrel
            have c2r : wr.cell? ⟨d.p, 2, none⟩ = some (.int .i64 d.gz) := by rw [hbr.cell (p := ⟨d.p, 2, none⟩) hpl]; exact c2
            by_cases hlt : k2 < d.gz
            · have hli : (k2 : Int) < (d.gz : Int) := by omega
              have hrow := HO.out
              have hbs := hbr.size
              go_wp2_with (at_builtin; refine wpList_append_own _ rfl _ _ 35 rfl w.heap.size 5 i0 (.int .u8 0) 1 1 Try.underlying35 hi hz0 hz1 hz2 rfl (by decide) _ _ _ rfl (hrow.alloc _) ⟨wr.heap.size, 0, none⟩ 1 1 [.int .u8 255] rfl rfl (one_new _ _ _) (by simp [Value.oneCell']) (by unfold maxLen; omega) (by omega) (by simp; omega) ?_; intro v' w5 hown' hgrow _; obtain ⟨a5, cap5, rfl⟩ := own_form' hown')
              go_roundg (d.gz - (k2 + 1))
              case measure => omega
              case rel =>
                refine ⟨k2 + 1, a5, cap5, by omega, by omega, rfl, rfl, ?_, ?_⟩
                · show World.ownsRow _ _ _ _ _ _ _
                  have e : (pg.data ++ List.replicate (k2 + 1 - dn) 255).map u8v = (pg.data ++ List.replicate (k2 - dn) 255).map u8v ++ [.int .u8 255] := by
                    rw [show k2 + 1 - dn = (k2 - dn) + 1 by omega, List.replicate_succ', ← List.append_assoc, List.map_append]
                    rfl
                  rw [e]
                  exact hown'
                · exact (hbr.alloc hbs _).grown hgrow (by simp; omega) (fun j hj => (hrow.lt j hj).1)
            · obtain rfl : k2 = d.gz := by omega
              go_wp2
              go_ret2
              obtain ⟨a6, cap6, e6, hr6, _⟩ := own_shape' (l := pg.data ++ List.replicate (d.gz - dn) 255) (by simp [← HDN.out]; omega) HO.out
              cases e6
              exact ⟨a2, _, cap2, rfl, by simp [← HDN.out]; omega, hr6, hbr⟩
      · have e : d.read i page = ([], 22) := by
          rw [dread_at i page ho hb]
          split
          · rfl
          · rw [List.getElem?_eq_none (by omega)]
        rw [e]
        by_cases h0 : page < 0
        · clear ho h hb hb1 hbm hp e
          go_enter Try.func39, Try.ntmps39
          go_wp2_with (go_at_call 63; refine ha.mono ?_; rintro e w' ⟨rfl, rfl⟩)
          go_ret2
          exact ⟨_, 0, 0, rfl, rfl, .inl rfl, Below.refl _ _⟩
        · have h1 : (d.gp : Int) ≤ page := by omega
          clear ho h hb hb1 hbm hp e
          go_enter Try.func39, Try.ntmps39
          go_wp2_with (go_at_call 63; refine ha.mono ?_; rintro e w' ⟨rfl, rfl⟩)
          go_ret2
          exact ⟨_, 0, 0, rfl, rfl, .inl rfl, Below.refl _ _⟩
end Go.Proofs.Ytiejkbncpbhcdaa
