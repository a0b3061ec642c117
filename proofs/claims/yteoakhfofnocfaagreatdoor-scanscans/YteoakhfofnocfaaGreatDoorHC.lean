/-
  A scan's list is what the document's words say of each block by itself: a mapped block stays so unless another has the same logical block and is newer, or as new and stands ahead.
  What is read of the document's chip, with its room; the document's chip as what it tells.
  What the document's looked answers.
  What the document's older answers.
  What the document's Scan answers.
  What the statement's own same answers of two lists that are one.
-/
import Derived.Test.YteoakhfofnocfaaGreatDoorHB
import Derived.Test.YteoakhfofnocfaaGreatDoorHA
import Derived.Test.YteoakhfofnocfaaGreatDoorGO
import Derived.Test.YteoakhfofnocfaaGreatDoorGP
import Derived.Test.YteoakhfofnocfaaGreatDoorGH
import Derived.Test.YteoakhfofnocfaaGreatDoorGU
import Derived.Test.YteoakhfofnocfaaGreatDoorGG
import Derived.Deep.QuietTactic
import Derived.BigQuiet
import Derived.Laws.StructEq
namespace Go.Proofs.YteoakhfofnocfaaGreatDoor
open Go.RowKit
set_option maxRecDepth 10000

def olderP (l : List Bl) (i : Nat) (b : Bl) : Prop := ∃ (k : Nat) (x : Bl), l[k]? = some x ∧ k ≠ i ∧ x.st = 4 ∧ x.leb = b.leb ∧ (b.seq < x.seq ∨ (x.seq = b.seq ∧ k < i))
open Classical in
noncomputable def fin1 (l : List Bl) (i : Nat) (b : Bl) : Bl := if b.st = 4 ∧ olderP l i b then spoilt b else b
noncomputable def refL (l : List Bl) : List Bl := l.mapIdx (fin1 l)
theorem refL_get (l : List Bl) (i : Nat) : (refL l)[i]? = (l[i]?).map (fin1 l i) := by simp [refL]
theorem refL_length (l : List Bl) : (refL l).length = l.length := by simp [refL]
theorem fin1_pos {l : List Bl} {i : Nat} {b : Bl} (h : b.st = 4) (ho : olderP l i b) : fin1 l i b = spoilt b := by unfold fin1; rw [if_pos ⟨h, ho⟩]
theorem fin1_neg {l : List Bl} {i : Nat} {b : Bl} (h : ¬ (b.st = 4 ∧ olderP l i b)) : fin1 l i b = b := by unfold fin1; rw [if_neg h]
theorem fin1_four {l : List Bl} {i : Nat} {b : Bl} (h : (fin1 l i b).st = 4) : fin1 l i b = b ∧ ¬ olderP l i b := by
  unfold fin1 at h ⊢
  split
  · rename_i q
    rw [if_pos q] at h
    cases h
  · rename_i q
    rw [if_neg q] at h
    exact ⟨rfl, fun ho => q ⟨h, ho⟩⟩
theorem champ (l : List Bl) (leb : Int) : ∀ n, (∃ (i : Nat) (x : Bl), i < n ∧ l[i]? = some x ∧ x.st = 4 ∧ x.leb = leb) → ∃ (c : Nat) (y : Bl), c < n ∧ l[c]? = some y ∧ y.st = 4 ∧ y.leb = leb ∧ ∀ (k : Nat) (x : Bl), k < n → l[k]? = some x → x.st = 4 → x.leb = leb → x.seq ≤ y.seq ∧ (x.seq = y.seq → c ≤ k)
  | 0, h => by obtain ⟨i, x, h, _⟩ := h; omega
  | n + 1, h => by
    by_cases hE : ∃ (i : Nat) (x : Bl), i < n ∧ l[i]? = some x ∧ x.st = 4 ∧ x.leb = leb
    · obtain ⟨c, y, hc, hy, y4, yl, hm⟩ := champ l leb n hE
      by_cases hb : ∃ b, l[n]? = some b ∧ b.st = 4 ∧ b.leb = leb ∧ y.seq < b.seq
      · obtain ⟨b, hb, b4, bl, hs⟩ := hb
        refine ⟨n, b, by omega, hb, b4, bl, fun k x hk hx x4 xl => ?_⟩
        by_cases e : k = n
        · subst e; rw [hb] at hx; cases hx; exact ⟨by omega, fun _ => by omega⟩
        · have := (hm k x (by omega) hx x4 xl).1
          exact ⟨by omega, fun _ => by omega⟩
      · refine ⟨c, y, by omega, hy, y4, yl, fun k x hk hx x4 xl => ?_⟩
        by_cases e : k = n
        · subst e
          have : ¬ y.seq < x.seq := fun q => hb ⟨x, hx, x4, xl, q⟩
          exact ⟨by omega, fun _ => by omega⟩
        · exact hm k x (by omega) hx x4 xl
    · obtain ⟨i, b, hi, hb, b4, bl⟩ := h
      have e : i = n := by
        by_cases e : i = n
        · exact e
        · exact absurd ⟨i, b, by omega, hb, b4, bl⟩ hE
      subst e
      refine ⟨i, b, by omega, hb, b4, bl, fun k x hk hx x4 xl => ?_⟩
      by_cases e : k = i
      · subst e; rw [hb] at hx; cases hx; exact ⟨by omega, fun _ => by omega⟩
      · exact absurd ⟨k, x, by omega, hx, x4, xl⟩ hE
theorem older_old {pre : List Bl} {b x : Bl} {i : Nat} (hx : pre[i]? = some x) : olderP (pre ++ [b]) i x ↔ olderP pre i x ∨ (b.st = 4 ∧ b.leb = x.leb ∧ x.seq < b.seq) := by
  have hi := (List.getElem?_eq_some_iff.1 hx).1
  constructor
  · rintro ⟨k, z, hz, hk, h4, hl, hs⟩
    rcases get_snoc hz with hz | ⟨rfl, rfl⟩
    · exact .inl ⟨k, z, hz, hk, h4, hl, hs⟩
    · refine .inr ⟨h4, hl, ?_⟩
      rcases hs with hs | ⟨_, hs⟩
      · exact hs
      · omega
  · rintro (⟨k, z, hz, hk, h4, hl, hs⟩ | ⟨h4, hl, hs⟩)
    · exact ⟨k, z, by rw [List.getElem?_append_left (List.getElem?_eq_some_iff.1 hz).1]; exact hz, hk, h4, hl, hs⟩
    · exact ⟨pre.length, b, by simp, by omega, h4, hl, .inl hs⟩
theorem older_new {pre : List Bl} {b : Bl} : olderP (pre ++ [b]) pre.length b ↔ ∃ (k : Nat) (x : Bl), pre[k]? = some x ∧ x.st = 4 ∧ x.leb = b.leb ∧ b.seq ≤ x.seq := by
  constructor
  · rintro ⟨k, z, hz, hk, h4, hl, hs⟩
    rcases get_snoc hz with hz | ⟨rfl, rfl⟩
    · exact ⟨k, z, hz, h4, hl, by omega⟩
    · exact absurd rfl hk
  · rintro ⟨k, z, hz, h4, hl, hs⟩
    have hk := (List.getElem?_eq_some_iff.1 hz).1
    exact ⟨k, z, by rw [List.getElem?_append_left hk]; exact hz, by omega, h4, hl, by omega⟩
/-- Two lists with one block more are the same if their blocks are. -/
theorem snoc_ext {l : List Bl} {pre : List Bl} {b b' : Bl} (hn : l.length = pre.length) (h1 : ∀ i x, pre[i]? = some x → l[i]? = some (fin1 (pre ++ [b]) i x)) (h2 : b' = fin1 (pre ++ [b]) pre.length b) : l ++ [b'] = refL (pre ++ [b]) := by
  apply List.ext_getElem?
  intro i
  rw [refL_get]
  by_cases hi : i < pre.length
  · rw [List.getElem?_append_left (by omega), List.getElem?_append_left hi]
    obtain ⟨x, hx⟩ : ∃ x, pre[i]? = some x := ⟨_, List.getElem?_eq_getElem hi⟩
    rw [h1 i x hx, hx]
    rfl
  · by_cases e : i = pre.length
    · subst e
      rw [← hn, List.getElem?_concat_length, hn, List.getElem?_concat_length, h2]
      rfl
    · rw [List.getElem?_eq_none (by simp; omega), List.getElem?_eq_none (by simp; omega)]
      rfl
theorem enl_ref (pre : List Bl) (b : Bl) : enlist (refL pre) b = refL (pre ++ [b]) := by
  have same : ∀ (i : Nat) (x : Bl), pre[i]? = some x → (x.st = 4 → b.st = 4 → b.leb = x.leb → x.seq < b.seq → olderP pre i x) → (refL pre)[i]? = some (fin1 (pre ++ [b]) i x) := by
    intro i x hx h
    rw [refL_get, hx]
    simp only [Option.map_some, Option.some.injEq]
    by_cases x4 : x.st = 4
    · by_cases ho : olderP pre i x
      · rw [fin1_pos x4 ho, fin1_pos x4 ((older_old hx).2 (.inl ho))]
      · rw [fin1_neg (fun q => ho q.2), fin1_neg (fun q => ?_)]
        rcases (older_old hx).1 q.2 with q | ⟨q1, q2, q3⟩
        · exact ho q
        · exact ho (h x4 q1 q2 q3)
    · rw [fin1_neg (fun q => x4 q.1), fin1_neg (fun q => x4 q.1)]
  by_cases b4 : b.st = 4
  · rcases find_cases (refL pre) b.leb with hf | ⟨k, o, hf, ho, o4, ol⟩
    · have he : enlist (refL pre) b = refL pre ++ [b] := by unfold enlist; rw [if_pos b4, hf, if_pos (by decide)]
      have none4 : ∀ (i : Nat) (x : Bl), pre[i]? = some x → x.st = 4 → x.leb ≠ b.leb := by
        intro i x hx x4 xl
        obtain ⟨c, y, hc, hy, y4, yl, hm⟩ := champ pre b.leb pre.length ⟨i, x, (List.getElem?_eq_some_iff.1 hx).1, hx, x4, xl⟩
        have hno : ¬ olderP pre c y := by
          rintro ⟨k, z, hz, hk, z4, zl, hs⟩
          obtain ⟨m1, m2⟩ := hm k z (List.getElem?_eq_some_iff.1 hz).1 hz z4 (zl.trans yl)
          rcases hs with hs | ⟨hs, hlt⟩
          · omega
          · have := m2 hs; omega
        refine findI_none hf c y ?_ y4 yl
        rw [refL_get, hy]
        simp only [Option.map_some, Option.some.injEq]
        exact fin1_neg (fun q => hno q.2)
      rw [he]
      refine snoc_ext (refL_length pre) (fun i x hx => same i x hx (fun x4 _ e _ => absurd e.symm (none4 i x hx x4))) ?_
      refine (fin1_neg ?_).symm
      rintro ⟨_, q⟩
      obtain ⟨k, x, hx, x4, xl, _⟩ := older_new.1 q
      exact none4 k x hx x4 xl
    · rw [refL_get] at ho
      obtain ⟨y, hy, hyo⟩ : ∃ y, pre[k]? = some y ∧ fin1 pre k y = o := by
        rcases h : pre[k]? with _ | y
        · rw [h] at ho; cases ho
        · rw [h] at ho; exact ⟨y, rfl, by simpa using ho⟩
      have hk := (List.getElem?_eq_some_iff.1 hy).1
      rw [← hyo] at o4
      obtain ⟨e1, hno⟩ := fin1_four o4
      rw [e1] at hyo
      subst hyo
      rw [e1] at o4
      have most : ∀ (i : Nat) (x : Bl), pre[i]? = some x → x.st = 4 → x.leb = b.leb → x.seq ≤ y.seq := by
        intro i x hx x4 xl
        by_cases q : y.seq < x.seq
        · refine absurd ⟨i, x, hx, ?_, x4, xl.trans ol.symm, .inl q⟩ hno
          rintro rfl
          rw [hy] at hx; cases hx; omega
        · omega
      have rest : ∀ (i : Nat) (x : Bl), pre[i]? = some x → i ≠ k → x.st = 4 → x.leb = b.leb → olderP pre i x := by
        intro i x hx hik x4 xl
        refine ⟨k, y, hy, fun e => hik e.symm, o4, ol.trans xl.symm, ?_⟩
        have h1 := most i x hx x4 xl
        by_cases q : x.seq < y.seq
        · exact .inl q
        · have e : y.seq = x.seq := by omega
          by_cases q2 : k < i
          · exact .inr ⟨e, q2⟩
          · exact absurd ⟨i, x, hx, hik, x4, xl.trans ol.symm, .inr ⟨e.symm, by omega⟩⟩ hno
      have hget : (refL pre)[(k : Int).toNat]? = some y := by
        rw [Int.toNat_natCast, refL_get, hy]
        simp only [Option.map_some, Option.some.injEq]
        exact e1
      by_cases hs : y.seq < b.seq
      · have he : enlist (refL pre) b = (refL pre).set k (spoilt y) ++ [b] := by
          unfold enlist
          rw [if_pos b4, hf, if_neg (by omega), hget]
          simp only
          rw [if_pos hs, Int.toNat_natCast]
        rw [he]
        refine snoc_ext (by rw [List.length_set, refL_length]) (fun i x hx => ?_) ?_
        · by_cases e : i = k
          · subst e
            rw [List.getElem?_set_self (by rw [refL_length]; exact hk)]
            rw [hy] at hx
            cases hx
            rw [fin1_pos o4 ((older_old hy).2 (.inr ⟨b4, ol.symm, hs⟩))]
          · rw [List.getElem?_set_ne (fun q => e q.symm)]
            exact same i x hx (fun x4 _ q _ => rest i x hx e x4 q.symm)
        · refine (fin1_neg ?_).symm
          rintro ⟨_, q⟩
          obtain ⟨j, x, hx, x4, xl, hsq⟩ := older_new.1 q
          have := most j x hx x4 xl
          omega
      · have he : enlist (refL pre) b = refL pre ++ [spoilt b] := by
          unfold enlist
          rw [if_pos b4, hf, if_neg (by omega), hget]
          simp only
          rw [if_neg hs]
        rw [he]
        refine snoc_ext (refL_length pre) (fun i x hx => same i x hx (fun x4 _ q hq => ?_)) ?_
        · refine rest i x hx ?_ x4 q.symm
          rintro rfl
          rw [hy] at hx; cases hx; omega
        · exact (fin1_pos b4 (older_new.2 ⟨k, y, hy, o4, ol, by omega⟩)).symm
  · have he : enlist (refL pre) b = refL pre ++ [b] := by unfold enlist; rw [if_neg b4]
    rw [he]
    exact snoc_ext (refL_length pre) (fun i x hx => same i x hx (fun _ q _ _ => absurd q b4)) (fin1_neg (fun q => b4 q.1)).symm
theorem fold_ref : ∀ (bs pre : List Bl), bs.foldl enlist (refL pre) = refL (pre ++ bs)
  | [], pre => by simp
  | b :: bs, pre => by rw [List.foldl_cons, enl_ref, fold_ref bs, List.append_assoc]; rfl
/-- A scan's blocks, each by itself. -/
noncomputable def blksV (v : Vw) : List Bl := (sightsV v).map (fun s => s.block (meanS (sightsV v)))
theorem blksV_length (v : Vw) : (blksV v).length = v.gb := by simp [blksV, sightsV_length]
theorem scan_ref (v : Vw) : scanV v = refL (blksV v) := by
  have := fold_ref (blksV v) []
  rw [List.nil_append] at this
  exact this
end Go.Proofs.YteoakhfofnocfaaGreatDoor
namespace Go.Proofs.YteoakhfofnocfaaGreatDoor
open Go.RowKit
set_option maxRecDepth 10000

def DGot2 (w w' : World) (l : List Nat) (a : Option Addr) (m cap : Nat) : Prop := m = l.length ∧ m ≤ cap ∧ cap ≤ maxLen ∧ BRow w' a l ∧ Below w.heap.size w w'
set_option maxRecDepth 20000 in
set_option maxHeartbeats 4000000 in
theorem d_read2 {base : Nat} {w : World} {d : DS} (h : DLies base w d) (block page : Int) :
    Calls Tryz.prog 55 #[.pointer (some ⟨d.p, 0, none⟩), .int .i64 block, .int .i64 page] w fun e w' => ∃ a m cap, e = .returned (.tuple #[.slice a m cap, .int .i64 (d.read block page).2]) ∧ DGot2 w w' (d.read block page).1 a m cap := by
  have ha := d_asked h block
  have c4 := d_len h
  have c1 : w.cell? ⟨d.p, 1, none⟩ = some (.int .i64 d.gp) := h.chip.cell (by rfl)
  have c2 : w.cell? ⟨d.p, 2, none⟩ = some (.int .i64 d.gz) := h.chip.cell (by rfl)
  unfold DS.asked at ha
  by_cases ho : d.off = true
  · rw [if_pos ho] at ha
    rw [dread_off block page ho]
    clear ho h
    go_enter Tryz.func55, Tryz.ntmps55
    go_wp2_with (go_at_call 82; refine ha.mono ?_; rintro e w' ⟨rfl, rfl⟩)
    go_ret2
    exact ⟨_, 0, 0, rfl, rfl, Nat.le_refl _, by decide, .inl rfl, Below.refl _ _⟩
  · rw [if_neg ho] at ha
    cases hb : d.at block with
    | none =>
      rw [hb] at ha
      rw [dread_none block page ho hb]
      clear ho h hb
      go_enter Tryz.func55, Tryz.ntmps55
      go_wp2_with (go_at_call 82; refine ha.mono ?_; rintro e w' ⟨rfl, rfl⟩)
      go_ret2
      exact ⟨_, 0, 0, rfl, rfl, Nat.le_refl _, by decide, .inl rfl, Below.refl _ _⟩
    | some b =>
      rw [hb] at ha
      obtain ⟨hb1, hb2⟩ := dat_some hb
      have hbm : b ∈ d.bks := List.mem_of_getElem? hb1
      obtain ⟨l1, l2, l3, _, _⟩ := h.good.plen b hbm
      obtain ⟨_, _, _, _, z1, z2⟩ := h.good.gs
      obtain ⟨i, rfl⟩ : ∃ i : Nat, block = i := ⟨block.toNat, by omega⟩
      simp only [Int.toNat_natCast] at hb1
      have hil : (i : Int) < (d.bks.length : Int) := by have := (List.getElem?_eq_some_iff.1 hb1).1; omega
      have b0 := (DAt.of h.bks hb1).list
      by_cases hp : 0 ≤ page ∧ page < (d.gp : Int)
      · obtain ⟨k, rfl⟩ : ∃ k : Nat, page = k := ⟨page.toNat, by omega⟩
        have hk : k < b.pgs.length := by omega
        have er : d.read i k = (b.pgs[k].bytes d.gz, b.pgs[k].err) := by rw [dread_at i k ho hb, if_neg (by omega), show ((k : Int).toNat) = k from rfl, List.getElem?_eq_getElem hk]
        rw [er]
        clear er
        obtain ⟨g0, g1, g2⟩ := dp_cells (h.pgs b hbm).1 hk
        have hok := (h.pgs b hbm).2 _ (List.getElem_mem hk)
        have hdl := h.good.dat b hbm _ (List.getElem_mem hk)
        have k1 : ¬ (k : Int) < 0 := by omega
        have k2 : ¬ (d.gp : Int) ≤ (k : Int) := by omega
        have hkl : (k : Int) < (b.pgs.length : Int) := by omega
        have hrl := (h.pgs b hbm).1.lt
        have hpl := h.chip.lt
        have hql := h.bks.lt
        generalize hpg : b.pgs[k] = pg at *
        clear hpg hk
        generalize b.pgs.length = bl at *
        generalize d.bks.length = dl at *
        unfold DPg.bytes DPg.err
        cases hsp : pg.spoilt with
        | true =>
          rw [if_pos rfl, if_pos rfl]
          rw [hsp] at g1
          clear ho h hb hb1 hbm hp hok hdl l1
          go_enter Tryz.func55, Tryz.ntmps55
          go_wp2_with (go_at_call 82; refine ha.mono ?_; rintro e w' ⟨rfl, rfl⟩)
          go_ret2
          exact ⟨_, 0, 0, rfl, rfl, Nat.le_refl _, by decide, .inl rfl, below_new w _⟩
        | false =>
          rw [if_neg (by decide), if_neg (by decide)]
          rw [hsp] at g1
          have HOK : Hid (DOk w pg) := hok
          obtain ⟨i0, hi, hz0, hz1, hz2⟩ := info_parts info8
          obtain ⟨dn, hdn⟩ : ∃ dn, dn = pg.data.length := ⟨_, rfl⟩
          have HDN : Hid (dn = pg.data.length) := hdn
          rw [← hdn] at hdl ⊢
          have HE : Hid (((w.alloc (.cells #[.bool pg.done, .bool false, .slice pg.da pg.dl pg.dc] 132)).alloc (.cells #[] 5)).ownsRow w.heap.size 5 1 (.slice (some ⟨w.heap.size + 1, 0, none⟩) 0 0) 0 []) := by
            have := own_empty (w.alloc (.cells #[.bool pg.done, .bool false, .slice pg.da pg.dl pg.dc] 132)) w.heap.size (by simp)
            rw [World.size_alloc] at this
            exact this
          have hbA : Below w.heap.size w ((w.alloc (.cells #[.bool pg.done, .bool false, .slice pg.da pg.dl pg.dc] 132)).alloc (.cells #[] 5)) := Below.after (below_new w _) (below_new _ _)
          have HRW : Hid (BRow ((w.alloc (.cells #[.bool pg.done, .bool false, .slice pg.da pg.dl pg.dc] 132)).alloc (.cells #[] 5)) pg.da pg.data) := hok.row.later hbA
          have hlen := hok.len
          have HB1 : Hid (0 + pg.dl ≤ maxLen) := by show _ ≤ _; rw [hlen, ← hdn]; unfold maxLen; omega
          have HB2 : Hid ((0 + pg.dl) * 1 ≤ 140737488355328) := by show _ ≤ _; rw [hlen, ← hdn]; omega
          have HB3 : Hid (w.heap.size ≤ ((w.alloc (.cells #[.bool pg.done, .bool false, .slice pg.da pg.dl pg.dc] 132)).alloc (.cells #[] 5)).heap.size) := hbA.size
          have HDL : Hid (pg.dl = dn) := hlen.trans hdn.symm
          clear ho h hb hb1 hbm hp hok l1 hdn hlen
          go_enter Tryz.func55, Tryz.ntmps55
          go_wp2_with (first
            | (go_at_call 82; refine ha.mono ?_; rintro e w' ⟨rfl, rfl⟩)
            | (at_builtin; refine wpList_append_bytes rfl _ _ rfl w.heap.size _ 0 [] rfl HE.out pg.da pg.dl pg.dc pg.data rfl HOK.out.len HRW.out HOK.out.nil HB1.out HB2.out HB3.out ?_; intro v1 w1 hown hgrow))
          have hown1 : w1.ownsRow w.heap.size 5 1 v1 dn (pg.data.map u8v) := by
            have := hown
            rw [Nat.zero_add, HDL.out, List.nil_append] at this
            exact this
          have hb1 : Below w.heap.size w w1 := hbA.grown hgrow hbA.size (fun j hj => by have h9 : some (w.heap.size + 1) = some j := hj; simp at h9; omega)
          clear hown hgrow HE HRW HB1 HB2 HB3
          obtain ⟨a1, cap1, rfl, _, _, _, _⟩ := own_shape' HDN.out hown1
          have HO1 : Hid (w1.ownsRow w.heap.size 5 1 (.slice a1 dn cap1) dn (pg.data.map u8v)) := hown1
          clear hown1
          go_loopg [10] (d.gz - dn) (fun gm s10 wr => ∃ k a2 cap2, dn ≤ k ∧ k ≤ d.gz ∧ gm = d.gz - k ∧ s10 = .slice a2 k cap2 ∧ Hid (wr.ownsRow w.heap.size 5 1 (.slice a2 k cap2) k ((pg.data ++ List.replicate (k - dn) 255).map u8v)) ∧ Below w.heap.size w wr)
          case atStart => exact ⟨dn, a1, cap1, Nat.le_refl _, hdl, rfl, rfl, by show World.ownsRow _ _ _ _ _ _ _; simpa using HO1.out, hb1⟩
          case round =>
            obtain ⟨k2, a2, cap2, hk1, hk2, rfl, rfl, HO, hbr⟩ := hrel
            have c2r : wr.cell? ⟨d.p, 2, none⟩ = some (.int .i64 d.gz) := by rw [hbr.cell (p := ⟨d.p, 2, none⟩) hpl]; exact c2
            by_cases hlt : k2 < d.gz
            · have hli : (k2 : Int) < (d.gz : Int) := by omega
              have hrow := HO.out
              have hbs := hbr.size
              go_wp2_with (at_builtin; refine wpList_append_own _ rfl _ _ 35 rfl w.heap.size 5 i0 (.int .u8 0) 1 1 Tryz.underlying35 hi hz0 hz1 hz2 rfl (by decide) _ _ _ rfl (hrow.alloc _) ⟨wr.heap.size, 0, none⟩ 1 1 [.int .u8 255] rfl rfl (one_new _ _ _) (by simp [Value.oneCell']) (by unfold maxLen; omega) (by omega) (by simp; omega) ?_; intro v' w5 hown' hgrow _; obtain ⟨a5, cap5, rfl⟩ := own_form' hown')
              go_roundg (d.gz - (k2 + 1))
              case measure => omega
              case rel =>
                refine ⟨k2 + 1, a5, cap5, by omega, by omega, rfl, rfl, ?_, ?_⟩
                · show World.ownsRow _ _ _ _ _ _ _
                  have e : (pg.data ++ List.replicate (k2 + 1 - dn) 255).map u8v = (pg.data ++ List.replicate (k2 - dn) 255).map u8v ++ [.int .u8 255] := by
                    rw [show k2 + 1 - dn = (k2 - dn) + 1 by omega, List.replicate_succ', ← List.append_assoc, List.map_append]
                    rfl
                  rw [e]
                  exact hown'
                · exact (hbr.alloc hbs _).grown hgrow (by simp; omega) (fun j hj => (hrow.lt j hj).1)
            · obtain rfl : k2 = d.gz := by omega
              go_wp2
              go_ret2
              obtain ⟨a6, cap6, e6, hr6, _, hle6, hmx6⟩ := own_shape' (l := pg.data ++ List.replicate (d.gz - dn) 255) (by simp [← HDN.out]; omega) HO.out
              cases e6
              exact ⟨a2, _, cap2, rfl, by simp [← HDN.out]; omega, hle6, hmx6, hr6, hbr⟩
      · have e : d.read i page = ([], 22) := by
          rw [dread_at i page ho hb]
          split
          · rfl
          · rw [List.getElem?_eq_none (by omega)]
        rw [e]
        by_cases h0 : page < 0
        · clear ho h hb hb1 hbm hp e
          go_enter Tryz.func55, Tryz.ntmps55
          go_wp2_with (go_at_call 82; refine ha.mono ?_; rintro e w' ⟨rfl, rfl⟩)
          go_ret2
          exact ⟨_, 0, 0, rfl, rfl, Nat.le_refl _, by decide, .inl rfl, Below.refl _ _⟩
        · have h1 : (d.gp : Int) ≤ page := by omega
          clear ho h hb hb1 hbm hp e
          go_enter Tryz.func55, Tryz.ntmps55
          go_wp2_with (go_at_call 82; refine ha.mono ?_; rintro e w' ⟨rfl, rfl⟩)
          go_ret2
          exact ⟨_, 0, 0, rfl, rfl, Nat.le_refl _, by decide, .inl rfl, Below.refl _ _⟩
/-- The document's chip tells what the code's does. -/
structure Dv (base : Nat) (W : World) (d : DS) (P : Nat) (c : CS) : Prop where
  dl : DLies base W d
  q : d.p = P
  rd : ∀ n k, d.read n k = c.read n k
  bd : ∀ n, (match d.at n with | none => false | some b => b.bad) = c.vw.bd n
  nx : ∀ n, (match d.at n with | none => 0 | some b => b.next) = c.vw.nx n
  geo : d.gb = c.gb ∧ d.gp = c.gp ∧ d.gz = c.gz ∧ d.gr = c.gr
  on : d.off = !c.on
  good : Good c
theorem Dv.later {base : Nat} {W W' : World} {d : DS} {P : Nat} {c : CS} (h : Dv base W d P c) (hb : Below W.heap.size W W') : Dv base W' d P c := ⟨h.dl.later hb, h.q, h.rd, h.bd, h.nx, h.geo, h.on, h.good⟩
theorem Duo.dv {base : Nat} {W : World} {c : CS} {d : DS} {k : Nat} (h : Duo base W c d k) {P : Nat} (hq : d.p = P) : Dv base W d P c := by
  have on : c.on = !d.off := h.rel.on
  exact ⟨h.dl, hq, fun n k => (h.rel.read n k).symm, fun n => (h.rel.looks n).1.symm, fun n => (h.rel.looks n).2.1.symm, ⟨h.rel.geo.1.symm, h.rel.geo.2.1.symm, h.rel.geo.2.2.1.symm, h.rel.geo.2.2.2.symm⟩, by rw [on]; cases d.off <;> rfl, h.cl.good⟩
theorem dv_bad {base : Nat} {W : World} {d : DS} {P : Nat} {c : CS} (h : Dv base W d P c) (n : Int) :
    Calls Tryz.prog 57 #[.pointer (some ⟨P, 0, none⟩), .int .i64 n] W fun e w' => e = .returned (.bool (c.vw.bd n)) ∧ W = w' := by
  have := d_bad h.dl n
  rw [h.q] at this; rw [← h.bd n]; exact this
theorem dv_next {base : Nat} {W : World} {d : DS} {P : Nat} {c : CS} (h : Dv base W d P c) (n : Int) :
    Calls Tryz.prog 58 #[.pointer (some ⟨P, 0, none⟩), .int .i64 n] W fun e w' => e = .returned (.int .i64 (c.vw.nx n)) ∧ W = w' := by
  have := d_next h.dl n
  rw [h.q] at this; rw [← h.nx n]; exact this
theorem dv_read {base : Nat} {W : World} {d : DS} {P : Nat} {c : CS} (h : Dv base W d P c) (n k : Int) :
    Calls Tryz.prog 55 #[.pointer (some ⟨P, 0, none⟩), .int .i64 n, .int .i64 k] W fun e w' => ∃ a m cap, e = .returned (.tuple #[.slice a m cap, .int .i64 (c.vw.rd n k).2]) ∧ Hd.Lies w' a m cap (c.vw.rd n k).1 ∧ Below W.heap.size W w' := by
  have := d_read2 h.dl n k
  rw [h.q, h.rd] at this
  refine this.mono ?_
  rintro e w' ⟨a, m, cap, rfl, h1, h2, h3, h4, h5⟩
  exact ⟨a, m, cap, rfl, ⟨h1, h2, h3, read_lt h.good n k, h4⟩, h5⟩
theorem dv_geo {base : Nat} {W : World} {d : DS} {P : Nat} {c : CS} (h : Dv base W d P c) :
    Calls Tryz.prog 52 #[.pointer (some ⟨P, 0, none⟩)] W fun e w' => e = .returned (.agg #[.int .i64 c.gb, .int .i64 c.gp, .int .i64 c.gz, .int .i64 c.gr]) ∧ Below W.heap.size W w' := by
  have := d_geometry h.dl
  obtain ⟨g1, g2, g3, g4⟩ := h.geo
  rw [h.q, g1, g2, g3, g4] at this; exact this
theorem dv_on {base : Nat} {W : World} {d : DS} {P : Nat} {c : CS} (h : Dv base W d P c) :
    Calls Tryz.prog 51 #[.pointer (some ⟨P, 0, none⟩)] W fun e w' => e = .returned (.bool c.on) ∧ W = w' := by
  have := d_on h.dl
  rw [h.q, h.on, Bool.not_not] at this; exact this
theorem dv_pc {w : World} {a : Option Addr} {n cap : Nat} {l : List Nat} (h : Hd.Lies w a n cap l) : Calls Tryz.prog 91 #[.slice a n cap] w (Hd.CPost w (Hd.parseC l)) := Hd.rparseCount h
theorem dv_pm {w : World} {a : Option Addr} {n cap : Nat} {l : List Nat} (h : Hd.Lies w a n cap l) : Calls Tryz.prog 92 #[.slice a n cap] w (Hd.MPost w (Hd.parseM l)) := Hd.rparseMapping h
set_option maxHeartbeats 2000000 in
theorem rlebs_any (b p z r : Int) (w : World) : Calls Tryz.prog 10 #[.agg #[.int .i64 b, .int .i64 p, .int .i64 z, .int .i64 r]] w fun e w' => e = .returned (.int .i64 (lebsI b p z r)) ∧ Below w.heap.size w w' := by
  obtain ⟨W, hW⟩ : ∃ W, W = w.alloc (.cells #[.int .i64 b, .int .i64 p, .int .i64 z, .int .i64 r] 23) := ⟨_, rfl⟩
  have hr : Row W w.heap.size [.int .i64 b, .int .i64 p, .int .i64 z, .int .i64 r] 23 := by rw [hW]; exact Row.new w [_, _, _, _] _
  have HB : Hid (Below w.heap.size w W) := by rw [hW]; exact below_new w _
  have cR := d_right b p z r W
  have c0 : W.cell? ⟨w.heap.size, 0, none⟩ = some (.int .i64 b) := hr.cell (i := 0) rfl
  have c1 : W.cell? ⟨w.heap.size, 1, none⟩ = some (.int .i64 p) := hr.cell (i := 1) rfl
  have c2 : W.cell? ⟨w.heap.size, 2, none⟩ = some (.int .i64 z) := hr.cell (i := 2) rfl
  have c3 : W.cell? ⟨w.heap.size, 3, none⟩ = some (.int .i64 r) := hr.cell (i := 3) rfl
  have HR : Hid (Row W w.heap.size [.int .i64 b, .int .i64 p, .int .i64 z, .int .i64 r] 23) := hr
  have HI : Hid (lebsI b p z r = if rightB b p z r then b - r - 2 else 0) := rfl
  have HQ : Hid (rightB b p z r = true → 16 ≤ b ∧ b ≤ 256 ∧ 0 ≤ r ∧ r ≤ 64) := by
    intro h
    unfold rightB at h
    simp only [Bool.and_eq_true, decide_eq_true_eq] at h
    obtain ⟨h1, _, _, _, _, _, h7⟩ := h
    have : wrap64 (b.tdiv 4) = b.tdiv 4 := by
      have e : b.tdiv 4 = b / 4 := Int.tdiv_eq_ediv_of_nonneg (by omega)
      rw [e]
      unfold wrap64; omega
    rw [this, Int.tdiv_eq_ediv_of_nonneg (by omega)] at h7
    omega
  obtain ⟨R, hR⟩ : ∃ R, R = rightB b p z r := ⟨_, rfl⟩
  rw [← hR] at cR HI HQ
  clear hr hR
  cases R with
  | true =>
    obtain ⟨q1, q2, q3, q4⟩ := HQ.out rfl
    go_enter Tryz.func10, Tryz.ntmps10
    go_wp2_with fail
    rw [← hW]
    clear hW
    go_wp2_with (go_at_call 35; refine cR.mono ?_; rintro e w2 ⟨rfl, hb2⟩; have hr2 := HR.out.later hb2; have d0 : w2.cell? ⟨w.heap.size, 0, none⟩ = some (.int .i64 b) := hr2.cell (i := 0) rfl; have d3 : w2.cell? ⟨w.heap.size, 3, none⟩ = some (.int .i64 r) := hr2.cell (i := 3) rfl; have HB2 : Hid (Below w.heap.size w w2) := Below.after HB.out hb2; clear hb2 hr2)
    go_ret
    exact ⟨by rw [HI.out, if_pos trivial]; rfl, HB2.out⟩
  | false =>
    go_enter Tryz.func10, Tryz.ntmps10
    go_wp2_with fail
    rw [← hW]
    clear hW
    go_wp2_with (go_at_call 35; refine cR.mono ?_; rintro e w2 ⟨rfl, hb2⟩; have HB2 : Hid (Below w.heap.size w w2) := Below.after HB.out hb2; clear hb2)
    go_ret
    exact ⟨by rw [HI.out]; rfl, HB2.out⟩
end Go.Proofs.YteoakhfofnocfaaGreatDoor
namespace Go.Proofs.YteoakhfofnocfaaGreatDoor
open Go.RowKit
set_option maxRecDepth 10000

theorem field_pages (a b c d : Value) (W : World) : (Instr.field 23 (.agg #[a, b, c, d]) 1).run Tryz.prog W = .ok b W := by kernel_rfl
def LookedPost (w : World) (s : Sg) (e : Ending) (w' : World) : Prop := e = .returned (.tuple #[blV (s.block 0), .bool (tells s)]) ∧ Below w.heap.size w w'
theorem res_block (tmps : Array Value) (B : Nat) (x : Bl) (o : Bool) (t : TypeId) (W : World) (h4 : tmps[4]?.getD undef = .pointer (some ⟨B, 0, none⟩)) (h5 : tmps[5]?.getD undef = .bool o) (hr : Row W B (blCells x) t) :
    (results Tryz.f53 tmps).run Tryz.prog W = .ok (.tuple #[blV x, .bool o]) W := by
  have c0 : W.cell? ⟨B, 0, none⟩ = _ := hr.cell (i := 0) rfl
  have c1 : W.cell? ⟨B, 1, none⟩ = _ := hr.cell (i := 1) rfl
  have c2 : W.cell? ⟨B, 2, none⟩ = _ := hr.cell (i := 2) rfl
  have c3 : W.cell? ⟨B, 3, none⟩ = _ := hr.cell (i := 3) rfl
  have c4 : W.cell? ⟨B, 4, none⟩ = _ := hr.cell (i := 4) rfl
  have c5 : W.cell? ⟨B, 5, none⟩ = _ := hr.cell (i := 5) rfl
  simp [results, Tryz.f53, go_sem, h4, h5, c0, c1, c2, c3, c4, c5, blV]
theorem rlooked_bad {base : Nat} {w : World} {d : DS} {P : Nat} {c : CS} (h : Dv base w d P c) (n : Int) (hb : c.vw.bd n = true) : Calls Tryz.prog 53 #[.pointer (some ⟨P, 0, none⟩), .int .i64 n] w (LookedPost w (sightV c.vw n)) := by
  have HD : Hid (∀ W, Below w.heap.size w W → Dv base W d P c) := fun W hW => h.later hW
  have cB := fun W (hW : Below w.heap.size w W) => dv_bad (HD.out W hW) n
  simp only [hb] at cB
  have HS : Hid ((sightV c.vw n).block 0 = ⟨1, 0, 0, 0, 0, false⟩ ∧ tells (sightV c.vw n) = false) := by
    have hm : (sightV c.vw n).marked = true := hb
    generalize sightV c.vw n = s at hm
    constructor
    · unfold Sg.block Sg.state; simp [hm]
    · unfold tells; simp [hm]
  go_enter Tryz.func53, Tryz.ntmps53
  go_wp2_with (go_at_call 57; refine (cB _ (Below.after (below_new w _) (below_new _ _))).mono ?_; rintro e w' ⟨rfl, rfl⟩)
  refine bodyPost_ret (v := .tuple #[blV ⟨1, 0, 0, 0, 0, false⟩, .bool false]) ?_ rfl ⟨by rw [HS.out.1, HS.out.2], Below.after (below_new w _) (below_new _ _)⟩
  exact res_block _ w.heap.size ⟨1, 0, 0, 0, 0, false⟩ false 102 _ rfl rfl ((Row.new w (blCells ⟨1, 0, 0, 0, 0, false⟩) _).alloc _)
/-- What lies on while the document's looked goes on. -/
structure Lr (w W : World) (cs : List Value) : Prop where
  res : Row W w.heap.size [.int .i64 0, .int .i64 0, .int .i64 0, .int .i64 0, .int .u64 0, .bool false] 102
  box : Row W (w.heap.size + 1) cs 102
  bel : Below w.heap.size w W
theorem Lr.later {w W W' : World} {cs : List Value} (h : Lr w W cs) (hb : Below W.heap.size W W') : Lr w W' cs := ⟨h.res.later hb, h.box.later hb, Below.after h.bel hb⟩
theorem lr_start (w : World) : Lr w ((w.alloc (.cells #[.int .i64 0, .int .i64 0, .int .i64 0, .int .i64 0, .int .u64 0, .bool false] 102)).alloc (.cells #[.int .i64 3, .int .i64 0, .int .i64 0, .int .i64 0, .int .u64 0, .bool false] 102)) [.int .i64 3, .int .i64 0, .int .i64 0, .int .i64 0, .int .u64 0, .bool false] := by
  refine ⟨(Row.new w [_, _, _, _, _, _] _).alloc _, ?_, Below.after (below_new w _) (below_new _ _)⟩
  have := Row.new (w.alloc (.cells #[.int .i64 0, .int .i64 0, .int .i64 0, .int .i64 0, .int .u64 0, .bool false] 102)) [.int .i64 3, .int .i64 0, .int .i64 0, .int .i64 0, .int .u64 0, .bool false] 102
  rw [World.size_alloc] at this
  exact this
theorem Lr.set {w W : World} {cs : List Value} (h : Lr w W cs) (i : Nat) (v : Value) (hi : i < cs.length) : Lr w (W.setCell ⟨w.heap.size + 1, i, none⟩ v) (cs.set i v) :=
  ⟨h.res.other _ _ (by simp), h.box.set v hi, h.bel.setCell (by simp) v⟩
theorem lr_fin {w W : World} {cs : List Value} (h : Lr w W cs) (x : Bl) :
    Row ((((((W.setCell ⟨w.heap.size, 0, none⟩ (.int .i64 x.st)).setCell ⟨w.heap.size, 1, none⟩ (.int .i64 x.cnt)).setCell ⟨w.heap.size, 2, none⟩ (.int .i64 x.leb)).setCell ⟨w.heap.size, 3, none⟩ (.int .i64 x.used)).setCell ⟨w.heap.size, 4, none⟩ (.int .u64 x.seq)).setCell ⟨w.heap.size, 5, none⟩ (.bool x.closed)) w.heap.size (blCells x) 102 ∧
    Below w.heap.size w ((((((W.setCell ⟨w.heap.size, 0, none⟩ (.int .i64 x.st)).setCell ⟨w.heap.size, 1, none⟩ (.int .i64 x.cnt)).setCell ⟨w.heap.size, 2, none⟩ (.int .i64 x.leb)).setCell ⟨w.heap.size, 3, none⟩ (.int .i64 x.used)).setCell ⟨w.heap.size, 4, none⟩ (.int .u64 x.seq)).setCell ⟨w.heap.size, 5, none⟩ (.bool x.closed)) :=
  ⟨((((((h.res.set (i := 0) _ (by simp)).set (i := 1) _ (by simp)).set (i := 2) _ (by simp)).set (i := 3) _ (by simp)).set (i := 4) _ (by simp)).set (i := 5) _ (by simp)),
   (((((h.bel.setCell (Nat.le_refl _) _).setCell (Nat.le_refl _) _).setCell (Nat.le_refl _) _).setCell (Nat.le_refl _) _).setCell (Nat.le_refl _) _).setCell (Nat.le_refl _) _⟩
/-- The cells that the walk reads and writes. -/
structure LrS (w W : World) (x0 x1 x2 x3 x4 x5 : Value) : Prop where
  c0 : W.cell? ⟨w.heap.size + 1, 0, none⟩ = some x0
  c1 : W.cell? ⟨w.heap.size + 1, 1, none⟩ = some x1
  c2 : W.cell? ⟨w.heap.size + 1, 2, none⟩ = some x2
  c3 : W.cell? ⟨w.heap.size + 1, 3, none⟩ = some x3
  c4 : W.cell? ⟨w.heap.size + 1, 4, none⟩ = some x4
  c5 : W.cell? ⟨w.heap.size + 1, 5, none⟩ = some x5
  fz : ∀ i, W.frozen? ⟨w.heap.size + 1, i, none⟩ = false
  r0 : W.cell? ⟨w.heap.size, 0, none⟩ = some (.int .i64 0)
  r1 : W.cell? ⟨w.heap.size, 1, none⟩ = some (.int .i64 0)
  r2 : W.cell? ⟨w.heap.size, 2, none⟩ = some (.int .i64 0)
  r3 : W.cell? ⟨w.heap.size, 3, none⟩ = some (.int .i64 0)
  r4 : W.cell? ⟨w.heap.size, 4, none⟩ = some (.int .u64 0)
  r5 : W.cell? ⟨w.heap.size, 5, none⟩ = some (.bool false)
  fr : ∀ i, W.frozen? ⟨w.heap.size, i, none⟩ = false
theorem Lr.seen {w W : World} {x0 x1 x2 x3 x4 x5 : Value} (h : Lr w W [x0, x1, x2, x3, x4, x5]) : LrS w W x0 x1 x2 x3 x4 x5 :=
  ⟨h.box.cell (i := 0) rfl, h.box.cell (i := 1) rfl, h.box.cell (i := 2) rfl, h.box.cell (i := 3) rfl, h.box.cell (i := 4) rfl, h.box.cell (i := 5) rfl, h.box.frozen, h.res.cell (i := 0) rfl, h.res.cell (i := 1) rfl, h.res.cell (i := 2) rfl, h.res.cell (i := 3) rfl, h.res.cell (i := 4) rfl, h.res.cell (i := 5) rfl, h.res.frozen⟩
set_option maxHeartbeats 8000000 in
theorem rlooked_no {base : Nat} {w : World} {d : DS} {P : Nat} {c : CS} (h : Dv base w d P c) (hcl : ∀ b ∈ c.bks, b.clear) (n : Int) (hb : c.vw.bd n = false) : Calls Tryz.prog 53 #[.pointer (some ⟨P, 0, none⟩), .int .i64 n] w (LookedPost w (sightV c.vw n)) := by
  have HD : Hid (∀ W, Below w.heap.size w W → Dv base W d P c) := fun W hW => h.later hW
  have cB := fun W (hW : Below w.heap.size w W) => dv_bad (HD.out W hW) n
  have cR0 := fun W (hW : Below w.heap.size w W) => dv_read (HD.out W hW) n 0
  simp only [hb] at cB
  obtain ⟨l0, hl0⟩ : ∃ l, l = (c.vw.rd n 0).1 := ⟨_, rfl⟩
  simp only [← hl0] at cR0
  have cC := fun W (a : Option Addr) (m cap : Nat) (hl : Hd.Lies W a m cap l0) => dv_pc hl
  obtain ⟨W0, hW0⟩ : ∃ W, W = (w.alloc (.cells #[.int .i64 0, .int .i64 0, .int .i64 0, .int .i64 0, .int .u64 0, .bool false] 102)).alloc (.cells #[.int .i64 3, .int .i64 0, .int .i64 0, .int .i64 0, .int .u64 0, .bool false] 102) := ⟨_, rfl⟩
  have HL0 : Hid (Lr w W0 [.int .i64 3, .int .i64 0, .int .i64 0, .int .i64 0, .int .u64 0, .bool false]) := by show Lr _ _ _; rw [hW0]; exact lr_start w
  rcases hp : Hd.parseC l0 with _ | z
  · simp only [hp] at cC
    have HS : Hid ((sightV c.vw n).block 0 = ⟨3, 0, 0, 0, 0, false⟩ ∧ tells (sightV c.vw n) = false) := by
      have hm : (sightV c.vw n).marked = false := hb
      have hm2 : (sightV c.vw n).counted = false := by show (Hd.parseC (c.vw.rd n 0).1).isSome = false; rw [← hl0, hp]; rfl
      generalize sightV c.vw n = s at hm hm2
      constructor
      · unfold Sg.block Sg.state; simp [hm, hm2]
      · unfold tells; simp [hm, hm2]
    clear h hb hl0 hp
    go_enter Tryz.func53, Tryz.ntmps53
    go_wp2_with fail
    rw [← hW0]
    clear hW0
    go_wp2_with (first
      | (go_at_call 57; refine (cB _ HL0.out.bel).mono ?_; rintro e w' ⟨rfl, rfl⟩)
      | (go_at_call 55; refine (cR0 _ HL0.out.bel).mono ?_; rintro e w1 ⟨a1, m1, k1, rfl, hl1, hb1⟩; have HS1 : Hid (Hd.Lies w1 a1 m1 k1 l0) := hl1; have HL1 : Hid (Lr w w1 _) := HL0.out.later hb1; clear hl1 hb1)
      | (go_at_call 91; refine (cC _ _ _ _ HS1.out).mono ?_; rintro e w2 hq; obtain ⟨rfl, hb2⟩ := cpost_elim hq; have HL2 : Hid (Lr w w2 _) := HL1.out.later hb2; obtain ⟨x0, x1, x2, x3, x4, x5, fz, r0, r1, r2, r3, r4, r5, fr⟩ := HL2.out.seen; clear hq hb2))
    obtain ⟨hf1, hf2⟩ := lr_fin (HL2.out.set 1 (.int .i64 0) (by simp)) ⟨3, 0, 0, 0, 0, false⟩
    refine bodyPost_ret (v := .tuple #[blV ⟨3, 0, 0, 0, 0, false⟩, .bool false]) ?_ rfl ⟨by rw [HS.out.1, HS.out.2], hf2⟩
    exact res_block _ w.heap.size ⟨3, 0, 0, 0, 0, false⟩ false 102 _ rfl rfl hf1
  · simp only [hp] at cC
    have cN := fun W (hW : Below w.heap.size w W) => dv_next (HD.out W hW) n
    have M1 : Hid True := trivial
    by_cases hn : c.vw.nx n = 1
    · simp only [hn] at cN
      have HS : Hid ((sightV c.vw n).block 0 = ⟨2, z, 0, 0, 0, false⟩ ∧ tells (sightV c.vw n) = true) := by
        have hm : (sightV c.vw n).marked = false := hb
        have hm2 : (sightV c.vw n).counted = true := by show (Hd.parseC (c.vw.rd n 0).1).isSome = true; rw [← hl0, hp]; rfl
        have hm3 : (sightV c.vw n).count = z := by show (((Hd.parseC (c.vw.rd n 0).1).getD 0 : Nat) : Int) = z; rw [← hl0, hp]; rfl
        have hm4 : (sightV c.vw n).blank = true := by show (c.vw.nx n == 1) = true; rw [hn]; rfl
        generalize sightV c.vw n = s at hm hm2 hm3 hm4
        constructor
        · unfold Sg.block Sg.state; simp [hm, hm2, hm3, hm4]
        · unfold tells; simp [hm, hm2]
      clear h hb hl0 hp hn
      go_enter Tryz.func53, Tryz.ntmps53
      go_wp2_with fail
      rw [← hW0]
      clear hW0
      go_wp2_with (first
        | (go_at_call 57; refine (cB _ HL0.out.bel).mono ?_; rintro e w' ⟨rfl, rfl⟩)
        | (go_at_call 55; refine (cR0 _ HL0.out.bel).mono ?_; rintro e w1 ⟨a1, m1, k1, rfl, hl1, hb1⟩; have HS1 : Hid (Hd.Lies w1 a1 m1 k1 l0) := hl1; have HL1 : Hid (Lr w w1 _) := HL0.out.later hb1; clear hl1 hb1)
        | (go_at_call 91; refine (cC _ _ _ _ HS1.out).mono ?_; rintro e w2 hq; obtain ⟨rfl, hb2⟩ := cpost_elim hq; have HL2 : Hid (Lr w w2 _) := HL1.out.later hb2; obtain ⟨x0, x1, x2, x3, x4, x5, fz, r0, r1, r2, r3, r4, r5, fr⟩ := HL2.out.seen; simp only [Option.getD_some, Option.isSome_some]; clear hq hb2)
        | (go_at_call 58; refine (cN _ (HL2.out.bel.setCell (by simp) _)).mono ?_; rintro e w' ⟨rfl, rfl⟩))
      obtain ⟨hf1, hf2⟩ := lr_fin ((HL2.out.set 1 (.int .i64 z) (by simp)).set 0 (.int .i64 2) (by simp)) ⟨2, z, 0, 0, 0, false⟩
      refine bodyPost_ret (v := .tuple #[blV ⟨2, z, 0, 0, 0, false⟩, .bool true]) ?_ rfl ⟨by rw [HS.out.1, HS.out.2], hf2⟩
      exact res_block _ w.heap.size ⟨2, z, 0, 0, 0, false⟩ true 102 _ rfl rfl hf1
    · have cR1 := fun W (hW : Below w.heap.size w W) => dv_read (HD.out W hW) n 1
      obtain ⟨l1, hl1⟩ : ∃ l, l = (c.vw.rd n 1).1 := ⟨_, rfl⟩
      simp only [← hl1] at cR1
      have cM := fun W (a : Option Addr) (m cap : Nat) (hl : Hd.Lies W a m cap l1) => dv_pm hl
      have cG := fun W (hW : Below w.heap.size w W) => dv_geo (HD.out W hW)
      obtain ⟨nx, hnx⟩ : ∃ x, x = c.vw.nx n := ⟨_, rfl⟩
      simp only [← hnx] at cN
      rw [← hnx] at hn
      have hgs := h.good.gs
      obtain ⟨gb, hgb⟩ : ∃ x, x = c.gb := ⟨_, rfl⟩
      obtain ⟨gp, hgp⟩ : ∃ x, x = c.gp := ⟨_, rfl⟩
      obtain ⟨gz, hgz⟩ : ∃ x, x = c.gz := ⟨_, rfl⟩
      obtain ⟨gr, hgr⟩ : ∃ x, x = c.gr := ⟨_, rfl⟩
      simp only [← hgb, ← hgp, ← hgz, ← hgr] at cG
      rw [← hgb, ← hgp, ← hgz] at hgs
      obtain ⟨u1, u2, u3, u4, _, _⟩ := hgs
      have HST : Hid ((sightV c.vw n).marked = false ∧ (sightV c.vw n).counted = true ∧ (sightV c.vw n).count = z ∧ (sightV c.vw n).blank = false) := by
        refine ⟨hb, ?_, ?_, ?_⟩
        · show (Hd.parseC (c.vw.rd n 0).1).isSome = true; rw [← hl0, hp]; rfl
        · show (((Hd.parseC (c.vw.rd n 0).1).getD 0 : Nat) : Int) = z; rw [← hl0, hp]; rfl
        · show (c.vw.nx n == 1) = false; rw [← hnx]; simpa using hn
      obtain ⟨y1, ey1⟩ : ∃ y, y = ((Hd.parseM l1).getD (0, 0, 0)).1 := ⟨_, rfl⟩
      obtain ⟨y2, ey2⟩ : ∃ y, y = ((Hd.parseM l1).getD (0, 0, 0)).2.1 := ⟨_, rfl⟩
      obtain ⟨y3, ey3⟩ : ∃ y, y = ((Hd.parseM l1).getD (0, 0, 0)).2.2 := ⟨_, rfl⟩
      obtain ⟨ib, eib⟩ : ∃ y, y = (Hd.parseM l1).isSome := ⟨_, rfl⟩
      have cM' : ∀ W (a : Option Addr) (m cap : Nat), Hd.Lies W a m cap l1 → Calls Tryz.prog 92 #[.slice a m cap] W fun e w' => e = .returned (.tuple #[.agg #[.int .i64 (y1 : Int), .int .u64 (y2 : Int), .int .i64 (y3 : Int)], .bool ib]) ∧ Below W.heap.size W w' := fun W a m cap hl => by rw [ey1, ey2, ey3, eib]; exact cM W a m cap hl
      obtain ⟨L, hL⟩ : ∃ L, L = lebsI gb gp gz gr := ⟨_, rfl⟩
      have cL := fun W => rlebs_any gb gp gz gr W
      simp only [← hL] at cL
      obtain ⟨wu, wc, hw⟩ : ∃ a b, writtenV c.vw n = (a, b) := ⟨_, _, rfl⟩
      have HSV : Hid (sightV c.vw n = ⟨false, false, true, z, ib && decide ((y1 : Int) < L), y1, y2, y3, if ib && decide ((y1 : Int) < L) then wu else 0, if ib && decide ((y1 : Int) < L) then wc else false⟩) := by
        show _ = _
        have e1 : c.vw.lebs = L := by rw [hL, hgb, hgp, hgz, hgr]; rfl
        have e2 : (sightV c.vw n).blank = false := HST.out.2.2.2
        have e3 : sightV c.vw n = ⟨c.vw.bd n, c.vw.nx n == 1, (Hd.parseC (c.vw.rd n 0).1).isSome, (((Hd.parseC (c.vw.rd n 0).1).getD 0 : Nat) : Int), (Hd.parseM (c.vw.rd n 1).1).isSome && decide ((((Hd.parseM (c.vw.rd n 1).1).getD (0, 0, 0)).1 : Int) < c.vw.lebs), (((Hd.parseM (c.vw.rd n 1).1).getD (0, 0, 0)).1 : Nat), (((Hd.parseM (c.vw.rd n 1).1).getD (0, 0, 0)).2.1 : Nat), (((Hd.parseM (c.vw.rd n 1).1).getD (0, 0, 0)).2.2 : Nat), if (Hd.parseM (c.vw.rd n 1).1).isSome && decide ((((Hd.parseM (c.vw.rd n 1).1).getD (0, 0, 0)).1 : Int) < c.vw.lebs) then (writtenV c.vw n).1 else 0, if (Hd.parseM (c.vw.rd n 1).1).isSome && decide ((((Hd.parseM (c.vw.rd n 1).1).getD (0, 0, 0)).1 : Int) < c.vw.lebs) then (writtenV c.vw n).2 else false⟩ := rfl
        have e4 : (c.vw.nx n == 1) = false := e2
        rw [e3, hb, e4, ← hl0, hp, ← hl1, ← ey1, ← ey2, ← ey3, ← eib, e1, hw]
        rfl
      generalize hsv : sightV c.vw n = sv at HSV ⊢
      have M2 : Hid True := trivial
      have HW : Hid (writtenV c.vw n = (wu, wc)) := hw
      have HNX : Hid (nx = c.vw.nx n) := hnx
      have hng : nx ≤ gp := by
        rw [hnx, hgp]
        show (match c.at n with | none => 0 | some b => b.next) ≤ _
        rcases h' : c.at n with _ | b
        · simp
        · exact (h.good.plen b (List.mem_of_getElem? (at_some h').1)).2.2.2.2
      have HIB : Hid (ib = true → 2 ≤ nx) := by
        intro q
        rw [hnx]
        refine map_next hcl ?_
        show (Hd.parseM (c.vw.rd n 1).1).isSome = true
        rw [← hl1, ← eib]; exact q
      clear h hcl hb hl0 hp hl1 hnx hgb hgp hgz hgr HST cM ey1 ey2 ey3 eib hsv hw hL
      have hn1 : (nx == 1) = false := by simpa using hn
      have fP := fun W => field_pages (.int .i64 gb) (.int .i64 gp) (.int .i64 gz) (.int .i64 gr) W
      go_enter Tryz.func53, Tryz.ntmps53
      go_wp2_with fail
      rw [← hW0]
      clear hW0
      go_wp2_with (first
        | (go_at_call 57; refine (cB _ HL0.out.bel).mono ?_; rintro e w' ⟨rfl, rfl⟩)
        | (go_at_call 55; clear M1; refine (cR0 _ HL0.out.bel).mono ?_; rintro e w1 ⟨a1, m1, k1, rfl, hl1, hb1⟩; have HS1 : Hid (Hd.Lies w1 a1 m1 k1 l0) := hl1; have HL1 : Hid (Lr w w1 _) := HL0.out.later hb1; clear hl1 hb1)
        | (go_at_call 91; refine (cC _ _ _ _ HS1.out).mono ?_; rintro e w2 hq; obtain ⟨rfl, hb2⟩ := cpost_elim hq; have HL2 : Hid (Lr w w2 _) := HL1.out.later hb2; obtain ⟨x0, x1, x2, x3, x4, x5, fz, r0, r1, r2, r3, r4, r5, fr⟩ := HL2.out.seen; have HL3 : Hid (Lr w (w2.setCell ⟨w.heap.size + 1, 1, none⟩ (.int .i64 z)) [.int .i64 3, .int .i64 z, .int .i64 0, .int .i64 0, .int .u64 0, .bool false]) := HL2.out.set 1 (.int .i64 z) (by simp); simp only [Option.getD_some, Option.isSome_some]; clear hq hb2)
        | (go_at_call 58; refine (cN _ HL3.out.bel).mono ?_; rintro e w' ⟨rfl, rfl⟩)
        | (go_at_call 55; refine (cR1 _ HL3.out.bel).mono ?_; rintro e w4 ⟨a4, m4, k4, rfl, hl4, hb4⟩; have HS4 : Hid (Hd.Lies w4 a4 m4 k4 l1) := hl4; have HL4 : Hid (Lr w w4 _) := HL3.out.later hb4; clear hl4 hb4)
        | (go_at_call 92; refine (cM' _ _ _ _ HS4.out).mono ?_; rintro e w5 ⟨rfl, hb5⟩; have HL5 : Hid (Lr w w5 _) := HL4.out.later hb5; clear hb5)
        | (go_at_call 52; clear M2; refine (cG _ (HL5.out.later (below_new _ _)).bel).mono ?_; rintro e w6 ⟨rfl, hb6⟩; have HL6 : Hid (Lr w w6 _) := (HL5.out.later (below_new _ _)).later hb6; have HX6 : Hid (Row w6 w5.heap.size [.int .i64 y1, .int .u64 y2, .int .i64 y3] 65) := (Row.new w5 [_, _, _] _).later hb6; have v0 := HX6.out.cell (i := 0) rfl; have v2 := HX6.out.cell (i := 2) rfl; clear hb6))
      clear x0 x1 x2 x3 x4 x5 fz r0 r1 r2 r3 r4 r5 fr v0 v2
      have HWU : Hid (ib = true → wu ≤ nx - 2) := by
        intro q
        have h2 := HIB.out q
        have hq := (writtenF_facts (v := c.vw) (n := n) (nx - 2).toNat 2 (by rw [← HNX.out]; omega)).2.1
        have hw' : writtenF c.vw n (nx - 2).toNat ((2 : Nat) : Int) = (wu, wc) := by rw [HNX.out]; exact HW.out
        rw [hw', ← HNX.out] at hq
        exact hq
      have HSB0 : Hid ((sv.block 0 = if ib = true ∧ (y1 : Int) < L ∧ (y3 : Int) ≤ wu then ⟨4, z, y1, wu, y2, wc⟩ else ⟨3, z, 0, 0, 0, false⟩) ∧ tells sv = true) := by
        show _ ∧ _
        rw [HSV.out]
        refine ⟨?_, rfl⟩
        unfold Sg.block Sg.state
        by_cases q1 : ib = true
        · subst q1
          by_cases q2 : (y1 : Int) < L
          · by_cases q3 : (y3 : Int) ≤ wu
            · simp [q2, q3]
            · simp [q2, q3]
          · simp [q2]
        · simp [q1]
      have cG6 := fun p' : Hd.Wd w6 => quiet_call p' (cG p'.v (HL6.out.later p'.h).bel)
      have cL6 := fun p' : Hd.Wd w6 => quiet_call p' (cL p'.v)
      have ne : Nonempty (Hd.Wd w6) := ⟨⟨w6, Below.refl _ _⟩⟩
      have v0 : ∀ p : Hd.Wd w6, p.v.cell? ⟨w5.heap.size, 0, none⟩ = some (.int .i64 (y1 : Int)) := fun p => (HX6.out.later p.h).cell (i := 0) rfl
      have v2 : ∀ p : Hd.Wd w6, p.v.cell? ⟨w5.heap.size, 2, none⟩ = some (.int .i64 (y3 : Int)) := fun p => (HX6.out.later p.h).cell (i := 2) rfl
      by_cases hgo : ib = true ∧ (y1 : Int) < L ∧ (y3 : Int) ≤ (gp : Int) - 2
      · obtain ⟨i1, i2, i3⟩ := hgo
        subst i1
        have i4 : ¬ L ≤ (y1 : Int) := by omega
        have i5 : ¬ (gp : Int) - 2 < (y3 : Int) := by omega
        refine Hd.quiet_below (by kernel_rfl) ?_
        repeat (first | go_big_quiet_skip | go_big_quiet_step (first
          | (go_at_call 52; exact cG6 _)
          | (go_at_call 10; exact cL6 _)))
        refine wpQuiet_nil ?_
        rintro _ ⟨p7, rfl⟩
        obtain ⟨w7, hw7⟩ : ∃ W, W = p7.v := ⟨_, rfl⟩
        have HL7 : Hid (Lr w w7 [.int .i64 3, .int .i64 z, .int .i64 0, .int .i64 0, .int .u64 0, .bool false]) := by rw [hw7]; exact HL6.out.later p7.h
        have HX7 : Hid (Row w7 w5.heap.size [.int .i64 y1, .int .u64 y2, .int .i64 y3] 65) := by rw [hw7]; exact HX6.out.later p7.h
        rw [← hw7]
        clear hw7
        clear p7
        clear cG6 cL6 ne v0 v2
        obtain ⟨x0, x1, x2, x3, x4, x5, fz, r0, r1, r2, r3, r4, r5, fr⟩ := HL7.out.seen
        clear x0 x1 x2 x3 x4 x5 fz r0 r1 r2 r3 r4 r5 fr
        have h2 := HIB.out rfl
        have cRk := fun (k : Int) W (hW : Below w.heap.size w W) => dv_read (HD.out W hW) n k
        go_wp2
        go_loopw [14, 15] (fun u cl wr => ∃ k : Nat, u = .int .i64 (k : Int) ∧ cl = .bool false ∧ (k : Int) ≤ nx - 2 ∧ Hid (writtenF c.vw n (nx - 2 - (k : Int)).toNat ((k : Int) + 2) = (wu, wc)) ∧ Hid (Below w7.heap.size w7 wr)) (fun u _ _ => gp - (intOf u).toNat)
        case atStart => exact ⟨0, rfl, rfl, by omega, by show writtenF c.vw n (nx - 2 - ((0 : Nat) : Int)).toNat (((0 : Nat) : Int) + 2) = _; rw [← HW.out, HNX.out]; unfold writtenV; simp, Below.refl _ _⟩
        case round =>
          obtain ⟨k, rfl, rfl, hk, HF, HBk⟩ := hrel
          by_cases hc : (k : Int) + 2 < nx
          · have hk1 : (k : Int) < (gp : Int) - 2 := by omega
            obtain ⟨er, her⟩ : ∃ x, x = (c.vw.rd n ((k : Int) + 2)).2 := ⟨_, rfl⟩
            have cR := fun W (hW : Below w.heap.size w W) => cRk ((k : Int) + 2) W hW
            simp only [← her] at cR
            have hstep : (nx - 2 - (k : Int)).toNat = (nx - 2 - ((k + 1 : Nat) : Int)).toNat + 1 := by omega
            by_cases h0 : er = 0
            · have HF2 : Hid (writtenF c.vw n (nx - 2 - ((k + 1 : Nat) : Int)).toNat (((k + 1 : Nat) : Int) + 2) = (wu, wc)) := by
                show _ = _
                rw [← HF.out, hstep]
                conv => rhs; unfold writtenF
                rw [if_pos (by rw [← her]; exact h0)]
                congr 1
              subst h0
              clear her HF hstep
              have HLk : Hid (Lr w wr [.int .i64 3, .int .i64 z, .int .i64 0, .int .i64 0, .int .u64 0, .bool false]) := HL7.out.later HBk.out
              go_wp2_with (first
                | (go_at_call 58; refine (cN _ HLk.out.bel).mono ?_; rintro e w' ⟨rfl, rfl⟩)
                | (go_at_call 55; refine (cR _ HLk.out.bel).mono ?_; rintro e w9 ⟨a9, m9, k9, rfl, _, hb9⟩; have HB9 : Hid (Below w7.heap.size w7 w9) := Below.after HBk.out hb9; clear hb9))
              go_roundw
              case rel => exact ⟨k + 1, by go_num, rfl, by omega, HF2, HB9⟩
              case measure => simp [intOf]; omega
            · have h0' : (er == 0) = false := by simpa using h0
              have HWK : Hid (wu = (k : Int) ∧ wc = true) := by
                have hf := HF.out
                rw [hstep] at hf
                unfold writtenF at hf
                rw [if_neg (by rw [← her]; exact h0)] at hf
                have h1 := congrArg Prod.fst hf
                have h3 := congrArg Prod.snd hf
                simp only at h1 h3
                exact ⟨by omega, h3.symm⟩
              clear her HF hstep h0
              have HLk : Hid (Lr w wr [.int .i64 3, .int .i64 z, .int .i64 0, .int .i64 0, .int .u64 0, .bool false]) := HL7.out.later HBk.out
              by_cases hfit : (y3 : Int) ≤ (k : Int)
              · have HSB : Hid (sv.block 0 = ⟨4, z, y1, k, y2, true⟩ ∧ tells sv = true) := ⟨by rw [HSB0.out.1, if_pos ⟨by trivial, i2, by rw [HWK.out.1]; exact hfit⟩, HWK.out.1, HWK.out.2], HSB0.out.2⟩
                go_wp2_with (first
                      | (go_at_call 58; refine (cN _ HLk.out.bel).mono ?_; rintro e w' ⟨rfl, rfl⟩)
                      | (go_at_call 55; refine (cR _ HLk.out.bel).mono ?_; rintro e w9 ⟨a9, m9, k9, rfl, _, hb9⟩; have HB9 : Hid (Below w7.heap.size w7 w9) := Below.after HBk.out hb9; have HL9 : Hid (Lr w w9 [.int .i64 3, .int .i64 z, .int .i64 0, .int .i64 0, .int .u64 0, .bool false]) := HL7.out.later HB9.out; obtain ⟨x0, x1, x2, x3, x4, x5, fz, r0, r1, r2, r3, r4, r5, fr⟩ := HL9.out.seen; have v1 := (HX7.out.later HB9.out).cell (i := 0) rfl; have v2 := (HX7.out.later HB9.out).cell (i := 1) rfl; have v3 := (HX7.out.later HB9.out).cell (i := 2) rfl; clear hb9))
                obtain ⟨hf1, hf2⟩ := lr_fin ((((((HL9.out.set 0 (.int .i64 4) (by simp)).set 1 (.int .i64 z) (by simp)).set 2 (.int .i64 y1) (by simp)).set 3 (.int .i64 k) (by simp)).set 4 (.int .u64 y2) (by simp)).set 5 (.bool true) (by simp)) ⟨4, z, y1, k, y2, true⟩
                refine bodyPost_ret (v := .tuple #[blV ⟨4, z, y1, k, y2, true⟩, .bool true]) ?_ rfl ⟨by rw [HSB.out.1, HSB.out.2], hf2⟩
                exact res_block _ w.heap.size ⟨4, z, y1, k, y2, true⟩ true 102 _ rfl rfl hf1
              · have HSB : Hid (sv.block 0 = ⟨3, z, 0, 0, 0, false⟩ ∧ tells sv = true) := ⟨by rw [HSB0.out.1, if_neg (fun q => hfit (by rw [← HWK.out.1]; exact q.2.2))], HSB0.out.2⟩
                go_wp2_with (first
                      | (go_at_call 58; refine (cN _ HLk.out.bel).mono ?_; rintro e w' ⟨rfl, rfl⟩)
                      | (go_at_call 55; refine (cR _ HLk.out.bel).mono ?_; rintro e w9 ⟨a9, m9, k9, rfl, _, hb9⟩; have HB9 : Hid (Below w7.heap.size w7 w9) := Below.after HBk.out hb9; have HL9 : Hid (Lr w w9 [.int .i64 3, .int .i64 z, .int .i64 0, .int .i64 0, .int .u64 0, .bool false]) := HL7.out.later HB9.out; obtain ⟨x0, x1, x2, x3, x4, x5, fz, r0, r1, r2, r3, r4, r5, fr⟩ := HL9.out.seen; have v1 := (HX7.out.later HB9.out).cell (i := 0) rfl; have v2 := (HX7.out.later HB9.out).cell (i := 1) rfl; have v3 := (HX7.out.later HB9.out).cell (i := 2) rfl; clear hb9))
                obtain ⟨hf1, hf2⟩ := lr_fin HL9.out ⟨3, z, 0, 0, 0, false⟩
                refine bodyPost_ret (v := .tuple #[blV ⟨3, z, 0, 0, 0, false⟩, .bool true]) ?_ rfl ⟨by rw [HSB.out.1, HSB.out.2], hf2⟩
                exact res_block _ w.heap.size ⟨3, z, 0, 0, 0, false⟩ true 102 _ rfl rfl hf1
          · have HWK : Hid (wu = (k : Int) ∧ wc = false) := by
              have hf := HF.out
              rw [show (nx - 2 - (k : Int)).toNat = 0 by omega] at hf
              unfold writtenF at hf
              have h1 := congrArg Prod.fst hf
              have h3 := congrArg Prod.snd hf
              simp only at h1 h3
              rw [← HNX.out] at h1
              exact ⟨by omega, h3.symm⟩
            clear HF
            by_cases hk1 : (k : Int) < (gp : Int) - 2
            · have M7 : Hid True := trivial
              have HLk : Hid (Lr w wr [.int .i64 3, .int .i64 z, .int .i64 0, .int .i64 0, .int .u64 0, .bool false]) := HL7.out.later HBk.out
              obtain ⟨x0, x1, x2, x3, x4, x5, fz, r0, r1, r2, r3, r4, r5, fr⟩ := HLk.out.seen
              have v1 := (HX7.out.later HBk.out).cell (i := 0) rfl
              have v2 := (HX7.out.later HBk.out).cell (i := 1) rfl
              have v3 := (HX7.out.later HBk.out).cell (i := 2) rfl
              by_cases hfit : (y3 : Int) ≤ (k : Int)
              · have HSB : Hid (sv.block 0 = ⟨4, z, y1, k, y2, false⟩ ∧ tells sv = true) := ⟨by rw [HSB0.out.1, if_pos ⟨by trivial, i2, by rw [HWK.out.1]; exact hfit⟩, HWK.out.1, HWK.out.2], HSB0.out.2⟩
                go_wp2_with (go_at_call 58; refine (cN _ HLk.out.bel).mono ?_; rintro e w' ⟨rfl, rfl⟩)
                obtain ⟨hf1, hf2⟩ := lr_fin ((((((HLk.out.set 0 (.int .i64 4) (by simp)).set 1 (.int .i64 z) (by simp)).set 2 (.int .i64 y1) (by simp)).set 3 (.int .i64 k) (by simp)).set 4 (.int .u64 y2) (by simp)).set 5 (.bool false) (by simp)) ⟨4, z, y1, k, y2, false⟩
                refine bodyPost_ret (v := .tuple #[blV ⟨4, z, y1, k, y2, false⟩, .bool true]) ?_ rfl ⟨by rw [HSB.out.1, HSB.out.2], hf2⟩
                exact res_block _ w.heap.size ⟨4, z, y1, k, y2, false⟩ true 102 _ rfl rfl hf1
              · have HSB : Hid (sv.block 0 = ⟨3, z, 0, 0, 0, false⟩ ∧ tells sv = true) := ⟨by rw [HSB0.out.1, if_neg (fun q => hfit (by rw [← HWK.out.1]; exact q.2.2))], HSB0.out.2⟩
                go_wp2_with (go_at_call 58; refine (cN _ HLk.out.bel).mono ?_; rintro e w' ⟨rfl, rfl⟩)
                obtain ⟨hf1, hf2⟩ := lr_fin HLk.out ⟨3, z, 0, 0, 0, false⟩
                refine bodyPost_ret (v := .tuple #[blV ⟨3, z, 0, 0, 0, false⟩, .bool true]) ?_ rfl ⟨by rw [HSB.out.1, HSB.out.2], hf2⟩
                exact res_block _ w.heap.size ⟨3, z, 0, 0, 0, false⟩ true 102 _ rfl rfl hf1
            · have M7 : Hid True := trivial
              have HLk : Hid (Lr w wr [.int .i64 3, .int .i64 z, .int .i64 0, .int .i64 0, .int .u64 0, .bool false]) := HL7.out.later HBk.out
              obtain ⟨x0, x1, x2, x3, x4, x5, fz, r0, r1, r2, r3, r4, r5, fr⟩ := HLk.out.seen
              have v1 := (HX7.out.later HBk.out).cell (i := 0) rfl
              have v2 := (HX7.out.later HBk.out).cell (i := 1) rfl
              have v3 := (HX7.out.later HBk.out).cell (i := 2) rfl
              have hfit : (y3 : Int) ≤ (k : Int) := by omega
              have HSB : Hid (sv.block 0 = ⟨4, z, y1, k, y2, false⟩ ∧ tells sv = true) := ⟨by rw [HSB0.out.1, if_pos ⟨by trivial, i2, by rw [HWK.out.1]; exact hfit⟩, HWK.out.1, HWK.out.2], HSB0.out.2⟩
              go_wp2_with (go_at_call 58; refine (cN _ HLk.out.bel).mono ?_; rintro e w' ⟨rfl, rfl⟩)
              obtain ⟨hf1, hf2⟩ := lr_fin ((((((HLk.out.set 0 (.int .i64 4) (by simp)).set 1 (.int .i64 z) (by simp)).set 2 (.int .i64 y1) (by simp)).set 3 (.int .i64 k) (by simp)).set 4 (.int .u64 y2) (by simp)).set 5 (.bool false) (by simp)) ⟨4, z, y1, k, y2, false⟩
              refine bodyPost_ret (v := .tuple #[blV ⟨4, z, y1, k, y2, false⟩, .bool true]) ?_ rfl ⟨by rw [HSB.out.1, HSB.out.2], hf2⟩
              exact res_block _ w.heap.size ⟨4, z, y1, k, y2, false⟩ true 102 _ rfl rfl hf1
      · have HSB : Hid (sv.block 0 = ⟨3, z, 0, 0, 0, false⟩ ∧ tells sv = true) := by
          refine ⟨?_, HSB0.out.2⟩
          rw [HSB0.out.1, if_neg]
          rintro ⟨q1, q2, q3⟩
          have := HWU.out q1
          exact hgo ⟨q1, q2, by omega⟩
        by_cases i1 : ib = true
        · subst i1
          by_cases i2 : (y1 : Int) < L
          · have i3 : (gp : Int) - 2 < (y3 : Int) := by
              by_cases q : (y3 : Int) ≤ (gp : Int) - 2
              · exact absurd ⟨rfl, i2, q⟩ hgo
              · omega
            have i4 : ¬ L ≤ (y1 : Int) := by omega
            refine Hd.quiet_below (by kernel_rfl) ?_
            repeat (first | go_big_quiet_skip | go_big_quiet_step (first
              | (go_at_call 52; exact cG6 _)
              | (go_at_call 10; exact cL6 _)))
            refine wpQuiet_nil ?_
            rintro _ ⟨p7, rfl⟩
            obtain ⟨w7, hw7⟩ : ∃ W, W = p7.v := ⟨_, rfl⟩
            have HL7 : Hid (Lr w w7 [.int .i64 3, .int .i64 z, .int .i64 0, .int .i64 0, .int .u64 0, .bool false]) := by rw [hw7]; exact HL6.out.later p7.h
            have HX7 : Hid (Row w7 w5.heap.size [.int .i64 y1, .int .u64 y2, .int .i64 y3] 65) := by rw [hw7]; exact HX6.out.later p7.h
            rw [← hw7]
            clear hw7
            clear p7
            clear cG6 cL6 ne v0 v2
            obtain ⟨x0, x1, x2, x3, x4, x5, fz, r0, r1, r2, r3, r4, r5, fr⟩ := HL7.out.seen
            go_wp2
            obtain ⟨hf1, hf2⟩ := lr_fin HL7.out ⟨3, z, 0, 0, 0, false⟩
            refine bodyPost_ret (v := .tuple #[blV ⟨3, z, 0, 0, 0, false⟩, .bool true]) ?_ rfl ⟨by rw [HSB.out.1, HSB.out.2], hf2⟩
            exact res_block _ w.heap.size ⟨3, z, 0, 0, 0, false⟩ true 102 _ rfl rfl hf1
          · have i4 : L ≤ (y1 : Int) := by omega
            refine Hd.quiet_below (by kernel_rfl) ?_
            repeat (first | go_big_quiet_skip | go_big_quiet_step (first
              | (go_at_call 52; exact cG6 _)
              | (go_at_call 10; exact cL6 _)))
            refine wpQuiet_nil ?_
            rintro _ ⟨p7, rfl⟩
            obtain ⟨w7, hw7⟩ : ∃ W, W = p7.v := ⟨_, rfl⟩
            have HL7 : Hid (Lr w w7 [.int .i64 3, .int .i64 z, .int .i64 0, .int .i64 0, .int .u64 0, .bool false]) := by rw [hw7]; exact HL6.out.later p7.h
            have HX7 : Hid (Row w7 w5.heap.size [.int .i64 y1, .int .u64 y2, .int .i64 y3] 65) := by rw [hw7]; exact HX6.out.later p7.h
            rw [← hw7]
            clear hw7
            clear p7
            clear cG6 cL6 ne v0 v2
            obtain ⟨x0, x1, x2, x3, x4, x5, fz, r0, r1, r2, r3, r4, r5, fr⟩ := HL7.out.seen
            go_wp2
            obtain ⟨hf1, hf2⟩ := lr_fin HL7.out ⟨3, z, 0, 0, 0, false⟩
            refine bodyPost_ret (v := .tuple #[blV ⟨3, z, 0, 0, 0, false⟩, .bool true]) ?_ rfl ⟨by rw [HSB.out.1, HSB.out.2], hf2⟩
            exact res_block _ w.heap.size ⟨3, z, 0, 0, 0, false⟩ true 102 _ rfl rfl hf1
        · have i1 : ib = false := by simpa using i1
          subst i1
          refine Hd.quiet_below (by kernel_rfl) ?_
          repeat (first | go_big_quiet_skip | go_big_quiet_step (first
            | (go_at_call 52; exact cG6 _)
            | (go_at_call 10; exact cL6 _)))
          refine wpQuiet_nil ?_
          rintro _ ⟨p7, rfl⟩
          obtain ⟨w7, hw7⟩ : ∃ W, W = p7.v := ⟨_, rfl⟩
          have HL7 : Hid (Lr w w7 [.int .i64 3, .int .i64 z, .int .i64 0, .int .i64 0, .int .u64 0, .bool false]) := by rw [hw7]; exact HL6.out.later p7.h
          have HX7 : Hid (Row w7 w5.heap.size [.int .i64 y1, .int .u64 y2, .int .i64 y3] 65) := by rw [hw7]; exact HX6.out.later p7.h
          rw [← hw7]
          clear hw7
          clear p7
          clear cG6 cL6 ne v0 v2
          obtain ⟨x0, x1, x2, x3, x4, x5, fz, r0, r1, r2, r3, r4, r5, fr⟩ := HL7.out.seen
          go_wp2
          obtain ⟨hf1, hf2⟩ := lr_fin HL7.out ⟨3, z, 0, 0, 0, false⟩
          refine bodyPost_ret (v := .tuple #[blV ⟨3, z, 0, 0, 0, false⟩, .bool true]) ?_ rfl ⟨by rw [HSB.out.1, HSB.out.2], hf2⟩
          exact res_block _ w.heap.size ⟨3, z, 0, 0, 0, false⟩ true 102 _ rfl rfl hf1
/-- What the document says of a block by itself. -/
theorem rlooked_any {base : Nat} {w : World} {d : DS} {P : Nat} {c : CS} (h : Dv base w d P c) (hcl : ∀ b ∈ c.bks, b.clear) (n : Int) : Calls Tryz.prog 53 #[.pointer (some ⟨P, 0, none⟩), .int .i64 n] w (LookedPost w (sightV c.vw n)) := by
  cases hb : c.vw.bd n with
  | true => exact rlooked_bad h n hb
  | false => exact rlooked_no h hcl n hb
end Go.Proofs.YteoakhfofnocfaaGreatDoor
namespace Go.Proofs.YteoakhfofnocfaaGreatDoor
open Go.RowKit
set_option maxRecDepth 10000

/-- Is a block of the list newer than that one? -/
def newerB (i : Nat) (x : Bl) (k : Nat) (y : Bl) : Prop := k ≠ i ∧ y.st = 4 ∧ y.leb = x.leb ∧ (x.seq < y.seq ∨ (y.seq = x.seq ∧ k < i))
def OldPost (w : World) (l : List Bl) (i : Nat) (x : Bl) (e : Ending) (w' : World) : Prop := ∃ o : Bool, e = .returned (.bool o) ∧ (o = true ↔ olderP l i x) ∧ Below w.heap.size w w'
theorem older_more {l : List Bl} {i k : Nat} {x y : Bl} (h : ∀ (j : Nat) (y : Bl), j < k → l[j]? = some y → ¬ newerB i x j y) (hy : l[k]? = some y) (hn : ¬ newerB i x k y) : ∀ (j : Nat) (y : Bl), j < k + 1 → l[j]? = some y → ¬ newerB i x j y := by
  intro j z hj hz
  by_cases e : j = k
  · subst e
    rw [hy] at hz
    cases hz
    exact hn
  · exact h j z (by omega) hz
set_option maxHeartbeats 4000000 in
theorem older_any (a : Option Addr) (m cap : Nat) (l : List Bl) (w : World) (hm : m = l.length) (hl : m ≤ 256) (hr : LRow w a l) (i : Nat) (x : Bl) (hx : l[i]? = some x) :
    Calls Tryz.prog 54 #[.slice a m cap, .int .i64 (i : Int)] w (OldPost w l i x) := by
  have HM : Hid (m = l.length) := hm
  have him : i < m := by rw [hm]; exact (List.getElem?_eq_some_iff.1 hx).1
  obtain ⟨b, off, rfl, hc⟩ : ∃ b off, a = some ⟨b, off, none⟩ ∧ ∀ i x, l[i]? = some x → BlAt w b (off + i * 6) x := by
    rcases hr with e | h
    · subst e; simp at hx
    · exact h
  have HC : Hid (∀ i x, l[i]? = some x → ∀ W, Below w.heap.size w W → BlAt W b (off + i * 6) x) := fun i x hx W hW => (hc i x hx).below hW (hc i x hx).lt
  have HX : Hid (l[i]? = some x) := hx
  clear hm hr hc hx
  go_enter Tryz.func54, Tryz.ntmps54
  go_wp2
  go_loopw [5] (fun u wr => ∃ k : Nat, u = .int .i64 (k : Int) ∧ k ≤ m ∧ Hid (∀ (j : Nat) (y : Bl), j < k → l[j]? = some y → ¬ newerB i x j y) ∧ Hid (Below w.heap.size w wr)) (fun u _ => m - (intOf u).toNat)
  case atStart => exact ⟨0, rfl, by omega, fun j y h => by omega, Below.refl _ _⟩
  case round =>
    obtain ⟨k, rfl, hk, HN, HB⟩ := hrel
    by_cases hlt : k < m
    · obtain ⟨y, hy⟩ : ∃ y, l[k]? = some y := ⟨_, List.getElem?_eq_getElem (by have := HM.out; omega)⟩
      have HY : Hid (l[k]? = some y) := hy
      clear hy
      have hki : (k : Int) < (m : Int) := by omega
      have him' : (i : Int) < (m : Int) := by omega
      go_wp2
      have ne : Nonempty (Hd.Wd wr) := ⟨⟨wr, Below.refl _ _⟩⟩
      have z0 : ∀ p : Hd.Wd wr, p.v.cell? ⟨b, off + k * 6, none⟩ = some (.int .i64 y.st) := fun p => (HC.out k y HY.out p.v (Below.after HB.out p.h)).c0
      have z2 : ∀ p : Hd.Wd wr, p.v.cell? ⟨b, off + k * 6 + 2, none⟩ = some (.int .i64 y.leb) := fun p => (HC.out k y HY.out p.v (Below.after HB.out p.h)).c2
      have z4 : ∀ p : Hd.Wd wr, p.v.cell? ⟨b, off + k * 6 + 4, none⟩ = some (.int .u64 y.seq) := fun p => (HC.out k y HY.out p.v (Below.after HB.out p.h)).c4
      have t2 : ∀ p : Hd.Wd wr, p.v.cell? ⟨b, off + i * 6 + 2, none⟩ = some (.int .i64 x.leb) := fun p => (HC.out i x HX.out p.v (Below.after HB.out p.h)).c2
      have t4 : ∀ p : Hd.Wd wr, p.v.cell? ⟨b, off + i * 6 + 4, none⟩ = some (.int .u64 x.seq) := fun p => (HC.out i x HX.out p.v (Below.after HB.out p.h)).c4
      obtain ⟨yst, yc, yleb, yu, yseq, ycl⟩ := y
      obtain ⟨xst, xc, xleb, xu, xseq, xcl⟩ := x
      simp only at z0 z2 z4 t2 t4
      by_cases q1 : k = i
      · have HNo : Hid (¬ newerB i ⟨xst, xc, xleb, xu, xseq, xcl⟩ k ⟨yst, yc, yleb, yu, yseq, ycl⟩) := fun h => h.1 q1
        have e1 : ((k : Int) != (i : Int)) = false := by simp [q1]
        clear q1
        refine Hd.quiet_below (by kernel_rfl) ?_
        repeat (first | go_big_quiet_skip | go_big_quiet_step (fail))
        refine wpQuiet_nil ?_
        rintro _ ⟨p7, rfl⟩
        have HB7 : Hid (Below w.heap.size w p7.v) := Below.after HB.out p7.h
        clear z0 z2 z4 t2 t4 ne
        go_wp2
        go_roundw
        case rel => exact ⟨k + 1, by go_num, by omega, older_more HN.out HY.out HNo.out, HB7⟩
        case measure => simp [intOf]; omega
      · have e1 : ((k : Int) != (i : Int)) = true := by simp; omega
        by_cases q2 : yst = 4
        · have e2 : (yst == 4) = true := by simp [q2]
          by_cases q3 : yleb = xleb
          · have e3 : (yleb == xleb) = true := by simp [q3]
            by_cases q4 : xseq < yseq
            · have HYes : Hid (newerB i ⟨xst, xc, xleb, xu, xseq, xcl⟩ k ⟨yst, yc, yleb, yu, yseq, ycl⟩) := ⟨q1, q2, q3, .inl q4⟩
              clear q1 q2 q3
              refine Hd.quiet_below (by kernel_rfl) ?_
              repeat (first | go_big_quiet_skip | go_big_quiet_step (fail))
              refine wpQuiet_nil ?_
              rintro _ ⟨p7, rfl⟩
              have HB7 : Hid (Below w.heap.size w p7.v) := Below.after HB.out p7.h
              clear z0 z2 z4 t2 t4 ne
              go_wp2
              go_ret
              exact ⟨true, rfl, ⟨fun _ => ⟨k, _, HY.out, HYes.out.1, HYes.out.2.1, HYes.out.2.2.1, HYes.out.2.2.2⟩, fun _ => rfl⟩, HB7.out⟩
            · by_cases q5 : yseq = xseq
              · have e5 : (yseq == xseq) = true := by simp [q5]
                by_cases q6 : k < i
                · have HYes : Hid (newerB i ⟨xst, xc, xleb, xu, xseq, xcl⟩ k ⟨yst, yc, yleb, yu, yseq, ycl⟩) := ⟨q1, q2, q3, .inr ⟨q5, q6⟩⟩
                  have e6 : (k : Int) < (i : Int) := by omega
                  clear q1 q2 q3 q5
                  refine Hd.quiet_below (by kernel_rfl) ?_
                  repeat (first | go_big_quiet_skip | go_big_quiet_step (fail))
                  refine wpQuiet_nil ?_
                  rintro _ ⟨p7, rfl⟩
                  have HB7 : Hid (Below w.heap.size w p7.v) := Below.after HB.out p7.h
                  clear z0 z2 z4 t2 t4 ne
                  go_wp2
                  go_ret
                  exact ⟨true, rfl, ⟨fun _ => ⟨k, _, HY.out, HYes.out.1, HYes.out.2.1, HYes.out.2.2.1, HYes.out.2.2.2⟩, fun _ => rfl⟩, HB7.out⟩
                · have HNo : Hid (¬ newerB i ⟨xst, xc, xleb, xu, xseq, xcl⟩ k ⟨yst, yc, yleb, yu, yseq, ycl⟩) := fun h => by
                    rcases h.2.2.2 with h | ⟨_, h⟩
                    · exact q4 h
                    · exact q6 h
                  have e6 : ¬ (k : Int) < (i : Int) := by omega
                  clear q1 q2 q3 q5
                  refine Hd.quiet_below (by kernel_rfl) ?_
                  repeat (first | go_big_quiet_skip | go_big_quiet_step (fail))
                  refine wpQuiet_nil ?_
                  rintro _ ⟨p7, rfl⟩
                  have HB7 : Hid (Below w.heap.size w p7.v) := Below.after HB.out p7.h
                  clear z0 z2 z4 t2 t4 ne
                  go_wp2
                  go_roundw
                  case rel => exact ⟨k + 1, by go_num, by omega, older_more HN.out HY.out HNo.out, HB7⟩
                  case measure => simp [intOf]; omega
              · have e5 : (yseq == xseq) = false := by simpa using q5
                have HNo : Hid (¬ newerB i ⟨xst, xc, xleb, xu, xseq, xcl⟩ k ⟨yst, yc, yleb, yu, yseq, ycl⟩) := fun h => by
                  rcases h.2.2.2 with h | ⟨h, _⟩
                  · exact q4 h
                  · exact q5 h
                clear q1 q2 q3 q5
                refine Hd.quiet_below (by kernel_rfl) ?_
                repeat (first | go_big_quiet_skip | go_big_quiet_step (fail))
                refine wpQuiet_nil ?_
                rintro _ ⟨p7, rfl⟩
                have HB7 : Hid (Below w.heap.size w p7.v) := Below.after HB.out p7.h
                clear z0 z2 z4 t2 t4 ne
                go_wp2
                go_roundw
                case rel => exact ⟨k + 1, by go_num, by omega, older_more HN.out HY.out HNo.out, HB7⟩
                case measure => simp [intOf]; omega
          · have e3 : (yleb == xleb) = false := by simpa using q3
            have HNo : Hid (¬ newerB i ⟨xst, xc, xleb, xu, xseq, xcl⟩ k ⟨yst, yc, yleb, yu, yseq, ycl⟩) := fun h => q3 h.2.2.1
            clear q1 q2 q3
            refine Hd.quiet_below (by kernel_rfl) ?_
            repeat (first | go_big_quiet_skip | go_big_quiet_step (fail))
            refine wpQuiet_nil ?_
            rintro _ ⟨p7, rfl⟩
            have HB7 : Hid (Below w.heap.size w p7.v) := Below.after HB.out p7.h
            clear z0 z2 z4 t2 t4 ne
            go_wp2
            go_roundw
            case rel => exact ⟨k + 1, by go_num, by omega, older_more HN.out HY.out HNo.out, HB7⟩
            case measure => simp [intOf]; omega
        · have e2 : (yst == 4) = false := by simpa using q2
          have HNo : Hid (¬ newerB i ⟨xst, xc, xleb, xu, xseq, xcl⟩ k ⟨yst, yc, yleb, yu, yseq, ycl⟩) := fun h => q2 h.2.1
          clear q1 q2
          refine Hd.quiet_below (by kernel_rfl) ?_
          repeat (first | go_big_quiet_skip | go_big_quiet_step (fail))
          refine wpQuiet_nil ?_
          rintro _ ⟨p7, rfl⟩
          have HB7 : Hid (Below w.heap.size w p7.v) := Below.after HB.out p7.h
          clear z0 z2 z4 t2 t4 ne
          go_wp2
          go_roundw
          case rel => exact ⟨k + 1, by go_num, by omega, older_more HN.out HY.out HNo.out, HB7⟩
          case measure => simp [intOf]; omega
    · have hkm : k = m := by omega
      subst hkm
      go_wp2
      go_ret
      refine ⟨false, rfl, ⟨fun h => (by cases h), ?_⟩, HB.out⟩
      rintro ⟨j, y, hy, h1, h2, h3, h4⟩
      exact absurd ⟨h1, h2, h3, h4⟩ (HN.out j y (by rw [HM.out]; exact (List.getElem?_eq_some_iff.1 hy).1) hy)
end Go.Proofs.YteoakhfofnocfaaGreatDoor
namespace Go.Proofs.YteoakhfofnocfaaGreatDoor
open Go.RowKit
set_option maxRecDepth 10000

theorem infoRB : (Tryz.prog.info? 102).map (fun i => (i.zero, i.size, i.bytes)) = some (some (.agg #[.int .i64 0, .int .i64 0, .int .i64 0, .int .i64 0, .int .u64 0, .bool false]), 6, 48) := by kernel_rfl
theorem infoBo : (Tryz.prog.info? 4).map (fun i => (i.zero, i.size, i.bytes)) = some (some (.bool false), 1, 1) := by kernel_rfl
theorem lrow_ownsT {w : World} {base g cap : Nat} {t : TypeId} {l : List Bl} (h : w.ownsRow base t 6 (.slice (some ⟨g, 0, none⟩) l.length cap) l.length (l.flatMap blCells)) : LRow w (some ⟨g, 0, none⟩) l := by
  by_cases hl : l = []
  · exact .inl hl
  · obtain ⟨g', cap', hv, _, _, _, hr⟩ := Row.of_owns h (List.length_pos_iff.2 hl)
    simp only [Value.slice.injEq, Option.some.injEq, Addr.mk.injEq] at hv
    obtain rfl := hv.1.1
    refine .inr ⟨g, 0, rfl, fun i x hx => ?_⟩
    have key : ∀ k v, k < 6 → (blCells x)[k]? = some v → w.cell? ⟨g, 0 + i * 6 + k, none⟩ = some v := fun k v hk e => hr.cell (by rw [Nat.zero_add, flat_get blCells 6 bl_len k hk l i x hx]; exact e)
    exact ⟨key 0 _ (by omega) rfl, key 1 _ (by omega) rfl, key 2 _ (by omega) rfl, key 3 _ (by omega) rfl, key 4 _ (by omega) rfl, key 5 _ (by omega) rfl⟩
/-- A row in new memory stays while another of another type grows. -/
theorem owns_grown {w1 w2 : World} {base s1 s2 n1 n2 : Nat} {e1 e2 : TypeId} {v1 v2 : Value} {xs1 xs2 : List Value} (h1 : w1.ownsRow base e1 s1 v1 n1 xs1) (h2 : w1.ownsRow base e2 s2 v2 n2 xs2) (hne : e1 ≠ e2) (hg : w1.grownBy w2 v2.ownBlock) : w2.ownsRow base e1 s1 v1 n1 xs1 := by
  refine ⟨h1.1, ?_⟩
  rcases h1.2 with hn | ⟨g, cap, cur, rfl, hbg, hgg, rest⟩
  · exact .inl hn
  · refine .inr ⟨g, cap, cur, rfl, hbg, ?_, rest⟩
    have hlt := (Array.getElem?_eq_some_iff.1 hgg).1
    rw [hg.block g hlt ?_]
    · exact hgg
    · intro e
      rcases h2.2 with ⟨rfl, _⟩ | ⟨g2, cap2, cur2, rfl, _, hgg2, _⟩
      · cases e
      · have : g2 = g := by simp [Value.ownBlock] at e; exact e.symm
        subst this
        rw [hgg] at hgg2
        simp only [Option.some.injEq, Obj.cells.injEq] at hgg2
        exact hne hgg2.2.1
theorem row_grown {W0 W W2 : World} {B base s n : Nat} {cs xs : List Value} {t e : TypeId} {v : Value} (hr : Row W B cs t) (ho : W0.ownsRow base e s v n xs) (hB : W0.heap.size ≤ B) (hg : W.grownBy W2 v.ownBlock) : Row W2 B cs t := by
  refine hr.same (hg.block B hr.lt ?_)
  intro e
  have := (ho.lt B e.symm).2
  omega
theorem below_grown1 {w wr w2 : World} {v : Value} {xs : List Value} {n s : Nat} {e : TypeId} (h : Below w.heap.size w wr) (hg : wr.grownBy w2 v.ownBlock) (ho : wr.ownsRow w.heap.size e s v n xs) : Below w.heap.size w w2 :=
  h.grown hg h.size (fun k hk => (ho.lt k hk).1)
theorem bool_new (w : World) (x : Bool) (t : TypeId) (k : Nat) (hk : k = w.heap.size) : ∀ j u, [Value.bool x][j]? = some u → (w.alloc (.cells #[.bool x] t)).cell? ((⟨k, 0, none⟩ : Addr).add j) = some u := by
  subst hk
  exact one_new w _ t
/-- What lies on while the blocks are looked at. -/
structure S1 (w wr : World) (ao : Option Addr) (cp : Nat) (at' : Option Addr) (ct : Nat) (k : Nat) (L : List Bl) (T : List Bool) : Prop where
  out : wr.ownsRow w.heap.size 102 6 (.slice ao k cp) k (L.flatMap blCells)
  told : wr.ownsRow w.heap.size 4 1 (.slice at' k ct) k (T.map .bool)
  bel : Below w.heap.size w wr
theorem S1.later {w wr W : World} {ao : Option Addr} {cp : Nat} {at' : Option Addr} {ct k : Nat} {L : List Bl} {T : List Bool} (h : S1 w wr ao cp at' ct k L T) (hb : Below wr.heap.size wr W) : S1 w W ao cp at' ct k L T := ⟨owns_later h.out hb, owns_later h.told hb, Below.after h.bel hb⟩
theorem tells_cnt {s : Sg} (q : tells s = true) : (s.block 0).cnt = s.count := by
  obtain ⟨m, b, c, n, mp, lb, sq, pg, us, cl⟩ := s
  simp only [tells, Bool.and_eq_true, Bool.not_eq_true'] at q
  obtain ⟨rfl, rfl⟩ := q
  unfold Sg.block
  split
  · rename_i h
    unfold Sg.state at h
    simp only [Bool.false_eq_true, if_false] at h
    repeat' split at h
    all_goals cases h
  · split <;> rfl
theorem block_same (s : Sg) (m : Int) : (s.block m).st = (s.block 0).st ∧ (s.block m).leb = (s.block 0).leb ∧ (s.block m).seq = (s.block 0).seq := by
  unfold Sg.block
  split
  · exact ⟨rfl, rfl, rfl⟩
  · split
    · exact ⟨rfl, rfl, rfl⟩
    · exact ⟨rfl, rfl, rfl⟩
theorem older_same (sv : List Sg) (m : Int) (k : Nat) (b b' : Bl) (h1 : b'.leb = b.leb) (h2 : b'.seq = b.seq) : olderP (sv.map (fun s => s.block m)) k b' ↔ olderP (sv.map (fun s => s.block 0)) k b := by
  constructor
  · rintro ⟨j, x, hx, hj, h4, hl, hs⟩
    rw [List.getElem?_map] at hx
    rcases hsj : sv[j]? with _ | s
    · rw [hsj] at hx; cases hx
    · rw [hsj] at hx
      have hx : s.block m = x := by simpa using hx
      obtain ⟨e1, e2, e3⟩ := block_same s m
      subst hx
      exact ⟨j, s.block 0, by rw [List.getElem?_map, hsj]; rfl, hj, by rw [← e1]; exact h4, by rw [← e2, hl, h1], by rw [← e3, ← h2]; exact hs⟩
  · rintro ⟨j, x, hx, hj, h4, hl, hs⟩
    rw [List.getElem?_map] at hx
    rcases hsj : sv[j]? with _ | s
    · rw [hsj] at hx; cases hx
    · rw [hsj] at hx
      have hx : s.block 0 = x := by simpa using hx
      obtain ⟨e1, e2, e3⟩ := block_same s m
      subst hx
      exact ⟨j, s.block m, by rw [List.getElem?_map, hsj]; rfl, hj, by rw [e1]; exact h4, by rw [e2, hl, h1], by rw [e3, h2]; exact hs⟩
/-- What becomes of a block in the end. -/
inductive Fate (b0 : Bl) (t : Bool) (many mean : Int) (old : Prop) (bF : Bl) : Prop
  | keep (h4 : b0.st ≠ 4) (h : b0.st = 1 ∨ (b0.st ≠ 1 ∧ t = true) ∨ (b0.st ≠ 1 ∧ t = false ∧ ¬ 0 < many)) (e : bF = b0)
  | fill (h4 : b0.st ≠ 4) (h1 : b0.st ≠ 1) (ht : t = false) (hm : 0 < many) (e : bF = ⟨b0.st, mean, b0.leb, b0.used, b0.seq, b0.closed⟩)
  | map (h4 : b0.st = 4) (ht : t = true) (e1 : old → bF = spoilt b0) (e2 : ¬ old → bF = b0)
theorem fate (sv : List Sg) (k : Nat) (s : Sg) (many mean : Int) (hm0 : ¬ 0 < many → mean = 0) : Fate (s.block 0) (tells s) many mean (olderP (sv.map (fun s => s.block 0)) k (s.block 0)) (fin1 (sv.map (fun s => s.block mean)) k (s.block mean)) := by
  obtain ⟨e1, e2, e3⟩ := block_same s mean
  have ho := older_same sv mean k (s.block 0) (s.block mean) e2 e3
  by_cases hk : s.marked = true
  · have hb : ∀ m, s.block m = ⟨1, 0, 0, 0, 0, false⟩ := fun m => by unfold Sg.block Sg.state; simp [hk]
    have hf : fin1 (sv.map (fun s => s.block mean)) k (s.block mean) = s.block mean := fin1_neg (fun q => by rw [hb] at q; cases q.1)
    rw [hf, hb, hb]
    exact .keep (by decide) (.inl rfl) rfl
  · have hk : s.marked = false := by simpa using hk
    by_cases hc : s.counted = true
    · have ht : tells s = true := by unfold tells; simp [hk, hc]
      have hb : s.block mean = s.block 0 := by
        unfold Sg.block
        simp [hc]
      have hn1 : (s.block 0).st ≠ 1 := by
        unfold Sg.block Sg.state
        simp only [hk, Bool.false_eq_true, if_false, hc, Bool.true_and]
        repeat' split
        all_goals simp_all
      by_cases h4 : (s.block 0).st = 4
      · refine .map h4 ht (fun o => ?_) (fun o => ?_)
        · rw [fin1_pos (by rw [e1]; exact h4) (ho.2 o), hb]
        · rw [fin1_neg (fun q => o (ho.1 q.2)), hb]
      · refine .keep h4 (.inr (.inl ⟨hn1, ht⟩)) ?_
        rw [fin1_neg (fun q => h4 (by rw [← e1]; exact q.1)), hb]
    · have hc : s.counted = false := by simpa using hc
      have ht : tells s = false := by unfold tells; simp [hc]
      have hb : ∀ m, s.block m = ⟨3, m, 0, 0, 0, false⟩ := fun m => by unfold Sg.block Sg.state; simp [hk, hc]
      have hf : fin1 (sv.map (fun s => s.block mean)) k (s.block mean) = s.block mean := fin1_neg (fun q => by rw [hb] at q; exact absurd q.1 (show ¬ ((3 : Int) = 4) by decide))
      rw [hf, hb, hb]
      by_cases hm : 0 < many
      · exact .fill (by decide) (by decide) ht hm rfl
      · exact .keep (by decide) (.inr (.inr ⟨by decide, ht, hm⟩)) (by rw [hm0 hm])
noncomputable def outsV (v : Vw) : List Bl := (sightsV v).map (fun s => s.block 0)
noncomputable def toldV (v : Vw) : List Bool := (sightsV v).map tells
set_option maxHeartbeats 16000000 in
theorem rscan_on {base : Nat} {w : World} {d : DS} {P : Nat} {c : CS} (h : Dv base w d P c) (hcl : ∀ b ∈ c.bks, b.clear) (hon : c.on = true) :
    Calls Tryz.prog 15 #[.pointer (some ⟨P, 0, none⟩)] w fun e w' => ∃ a cap, e = .returned (.tuple #[.slice a c.gb cap, .int .i64 0]) ∧ LRow w' a (scanV c.vw) ∧ Below w.heap.size w w' := by
  obtain ⟨i0, hi, hz0, hz1, hz2⟩ := info_parts infoRB
  obtain ⟨j0, hj, hy0, hy1, hy2⟩ := info_parts infoBo
  have HD : Hid (∀ W, Below w.heap.size w W → Dv base W d P c) := fun W hW => h.later hW
  have HCL : Hid (∀ b ∈ c.bks, b.clear) := hcl
  have hgs := h.good.gs
  have cO := dv_on h
  rw [hon] at cO
  have cG := fun W (hW : Below w.heap.size w W) => dv_geo (HD.out W hW)
  have cK := fun W (hW : Below w.heap.size w W) (n : Int) => rlooked_any (HD.out W hW) HCL.out n
  obtain ⟨gb, hgb⟩ : ∃ x, x = c.gb := ⟨_, rfl⟩
  rw [← hgb] at hgs ⊢
  simp only [← hgb] at cG
  have HGB : Hid (gb = c.vw.gb) := hgb
  have fB := field_blocks
  clear h hcl hon hgb
  go_enter Tryz.func15, Tryz.ntmps15
  go_wp2_with (go_at_call 51; refine cO.mono ?_; rintro e w' ⟨rfl, rfl⟩)
  have hP : Hid (S1 w w none 0 none 0 0 ((outsV c.vw).take 0) ((toldV c.vw).take 0)) := ⟨by simpa using World.ownsRow_nil _ _ _ _, by simpa using World.ownsRow_nil _ _ _ _, Below.refl _ _⟩
  go_loopw [4, 5, 6, 7, 8] (fun o t s m i wr => ∃ (k : Nat) (ao : Option Addr) (cp : Nat) (at' : Option Addr) (ct : Nat), i = .int .i64 (k : Int) ∧ k ≤ gb ∧ o = .slice ao k cp ∧ t = .slice at' k ct ∧ s = .int .i64 (sumS ((sightsV c.vw).take k)) ∧ m = .int .i64 (manyS ((sightsV c.vw).take k)) ∧ Hid (S1 w wr ao cp at' ct k ((outsV c.vw).take k) ((toldV c.vw).take k))) (fun _ _ _ _ i _ => gb - (intOf i).toNat)
  case atStart => exact ⟨0, none, 0, none, 0, rfl, by omega, rfl, rfl, rfl, rfl, hP⟩
  case round =>
    clear hP
    obtain ⟨k, ao, cp, at', ct, rfl, hk, rfl, rfl, rfl, rfl, HS⟩ := hrel
    by_cases hlt : k < gb
    · have hsk : (sightsV c.vw)[k]? = some (sightV c.vw (k : Nat)) := by
        have : k < c.vw.gb := by rw [← HGB.out]; exact hlt
        simp [sightsV, this]
      have hok : (outsV c.vw)[k]? = some ((sightV c.vw (k : Nat)).block 0) := by simp [outsV, hsk]
      have htk : (toldV c.vw)[k]? = some (tells (sightV c.vw (k : Nat))) := by simp [toldV, hsk]
      have hsum : sumS ((sightsV c.vw).take (k + 1)) = sumS ((sightsV c.vw).take k) + (if tells (sightV c.vw (k : Nat)) then (sightV c.vw (k : Nat)).count else 0) := by rw [take_snoc hsk, sumS_snoc]
      have hman : manyS ((sightsV c.vw).take (k + 1)) = manyS ((sightsV c.vw).take k) + (if tells (sightV c.vw (k : Nat)) then 1 else 0) := by rw [take_snoc hsk, manyS_snoc]
      have hcnt := sights_count c.vw
      obtain ⟨b1, b2, b3, b4⟩ := sumS_le ((sightsV c.vw).take k) (fun s hs => hcnt s (List.mem_of_mem_take hs))
      have hlen : ((sightsV c.vw).take k).length ≤ 256 := by rw [List.length_take]; omega
      have hck := hcnt _ (List.mem_of_getElem? hsk)
      have hbc := fun q => tells_cnt (s := sightV c.vw (k : Nat)) q
      have cL := fun W (hW : Below w.heap.size w W) => cK W hW (k : Int)
      have hot : ((outsV c.vw).take (k + 1)).flatMap blCells = ((outsV c.vw).take k).flatMap blCells ++ blCells ((sightV c.vw (k : Nat)).block 0) := bl_take hok
      have htt : ((toldV c.vw).take (k + 1)).map Value.bool = ((toldV c.vw).take k).map Value.bool ++ [.bool (tells (sightV c.vw (k : Nat)))] := by rw [take_snoc htk, List.map_append]; rfl
      have hlx : ((toldV c.vw).take k).length = k := by
        have e : (toldV c.vw).length = c.vw.gb := by simp [toldV, sightsV_length]
        rw [List.length_take, e, ← HGB.out]; omega
      generalize hsg : sightV c.vw (k : Nat) = sg at *
      obtain ⟨bx, hbx⟩ : ∃ b, b = sg.block 0 := ⟨_, rfl⟩
      obtain ⟨tk, htk2⟩ : ∃ b, b = tells sg := ⟨_, rfl⟩
      have cL' : ∀ W, Below w.heap.size w W → Calls Tryz.prog 53 #[.pointer (some ⟨P, 0, none⟩), .int .i64 (k : Int)] W fun e w' => e = .returned (.tuple #[blV bx, .bool tk]) ∧ Below W.heap.size W w' := fun W hW => by rw [hbx, htk2]; exact cL W hW
      rw [← hbx] at hot hbc
      rw [← htk2] at hbc hsum hman htt
      obtain ⟨S0, hS0⟩ : ∃ x, x = sumS ((sightsV c.vw).take k) := ⟨_, rfl⟩
      obtain ⟨M0, hM0⟩ : ∃ x, x = manyS ((sightsV c.vw).take k) := ⟨_, rfl⟩
      rw [← hS0] at b1 b2 hsum ⊢
      rw [← hM0] at b3 b4 hman ⊢
      obtain ⟨O0, hO0⟩ : ∃ x, x = (outsV c.vw).take k := ⟨_, rfl⟩
      obtain ⟨T0, hT0⟩ : ∃ x, x = (toldV c.vw).take k := ⟨_, rfl⟩
      rw [← hO0] at HS hot
      rw [← hT0] at HS htt hlx
      have HOT : Hid (((outsV c.vw).take (k + 1)).flatMap blCells = O0.flatMap blCells ++ blCells bx) := hot
      have HTT : Hid (((toldV c.vw).take (k + 1)).map Value.bool = T0.map Value.bool ++ [.bool tk]) := htt
      have HSU : Hid (sumS ((sightsV c.vw).take (k + 1)) = S0 + (if tk then sg.count else 0)) := hsum
      have HMA : Hid (manyS ((sightsV c.vw).take (k + 1)) = M0 + (if tk then 1 else 0)) := hman
      have HBC : Hid (tk = true → bx.cnt = sg.count) := hbc
      have n1 : 0 ≤ S0 := b1
      have n2 : S0 ≤ 549755813888 := by
        have : (((sightsV c.vw).take k).length : Int) ≤ 256 := by omega
        omega
      have n3 : 0 ≤ M0 := b3
      have n4 : M0 ≤ 256 := by
        have : (((sightsV c.vw).take k).length : Int) ≤ 256 := by omega
        omega
      have n5 : 0 ≤ sg.count := hck.1
      have n6 : sg.count ≤ 2147483647 := hck.2
      have hki : (k : Int) < (gb : Int) := by omega
      have hg256 : gb ≤ 256 := hgs.2.1
      have M1 : Hid True := trivial
      clear hsk hok htk hsum hman hcnt b1 b2 b3 b4 hlen hck hbc hot htt cL hsg hbx htk2 hS0 hM0 hO0 hT0
      obtain ⟨st, cnt, leb, us, sq, cl⟩ := bx
      unfold blV at cL'
      simp only at cL' HBC
      cases tk with
      | true =>
        have hcn : cnt = sg.count := HBC.out rfl
        have n7 : 0 ≤ cnt := by omega
        have n8 : cnt ≤ 2147483647 := by omega
        have HS9 : Hid (sumS ((sightsV c.vw).take (k + 1)) = S0 + cnt) := by show _ = _; rw [HSU.out, hcn]; rfl
        clear hcn HSU n5 n6
        go_wp2_with (first
          | (go_at_call 52; refine (cG _ HS.out.bel).mono ?_; rintro e w1 ⟨rfl, hb1⟩; have HS1 : Hid (S1 w w1 ao cp at' ct k O0 T0) := HS.out.later hb1; clear hb1)
          | (go_at_call 53; refine (cL' _ HS1.out.bel).mono ?_; rintro e w2 ⟨rfl, hb2⟩; have HS2 : Hid (S1 w w2 ao cp at' ct k O0 T0) := HS1.out.later hb2; have HS3 : Hid (S1 w ((w2.alloc (.cells #[.int .i64 st, .int .i64 cnt, .int .i64 leb, .int .i64 us, .int .u64 sq, .bool cl] 102)).alloc (.cells #[.int .i64 st, .int .i64 cnt, .int .i64 leb, .int .i64 us, .int .u64 sq, .bool cl] 102)) ao cp at' ct k O0 T0) := HS2.out.later (Below.after (below_new _ _) (below_new _ _)); have HCE : Hid (∀ j u, (blCells ⟨st, cnt, leb, us, sq, cl⟩)[j]? = some u → ((w2.alloc (.cells #[.int .i64 st, .int .i64 cnt, .int .i64 leb, .int .i64 us, .int .u64 sq, .bool cl] 102)).alloc (.cells #[.int .i64 st, .int .i64 cnt, .int .i64 leb, .int .i64 us, .int .u64 sq, .bool cl] 102)).cell? ((⟨w2.heap.size + 1, 0, none⟩ : Addr).add j) = some u) := bl_newk _ ⟨st, cnt, leb, us, sq, cl⟩ _ _ (by simp); have HBX : Hid (Row ((w2.alloc (.cells #[.int .i64 st, .int .i64 cnt, .int .i64 leb, .int .i64 us, .int .u64 sq, .bool cl] 102)).alloc (.cells #[.int .i64 st, .int .i64 cnt, .int .i64 leb, .int .i64 us, .int .u64 sq, .bool cl] 102)) w2.heap.size [.int .i64 st, .int .i64 cnt, .int .i64 leb, .int .i64 us, .int .u64 sq, .bool cl] 102) := (Row.new w2 [_, _, _, _, _, _] _).alloc _; clear hb2)
          | (at_builtin; clear M1; refine wpList_append_own _ rfl _ _ 43 rfl w.heap.size 102 i0 (.agg #[.int .i64 0, .int .i64 0, .int .i64 0, .int .i64 0, .int .u64 0, .bool false]) 6 48 Tryz.underlying43 hi hz0 hz1 hz2 rfl (by decide) _ k (O0.flatMap blCells) rfl HS3.out.out ⟨w2.heap.size + 1, 0, none⟩ 1 1 (blCells ⟨st, cnt, leb, us, sq, cl⟩) rfl rfl HCE.out (bl_one _) (by unfold maxLen; omega) (by omega) HS3.out.bel.size ?_; intro v5 w5 hown5 hgrow5 _; obtain ⟨a5, cap5, rfl⟩ := own_form hown5; have HO5 : Hid (w5.ownsRow w.heap.size 102 6 (.slice a5 (k + 1) cap5) (k + 1) (O0.flatMap blCells ++ blCells ⟨st, cnt, leb, us, sq, cl⟩)) := hown5; have HT5 : Hid (w5.ownsRow w.heap.size 4 1 (.slice at' k ct) k (T0.map .bool)) := owns_grown HS3.out.told HS3.out.out (by decide) hgrow5; have HB5 : Hid (Below w.heap.size w w5) := below_grown1 HS3.out.bel hgrow5 HS3.out.out; have HX5 : Hid (Row w5 w2.heap.size [.int .i64 st, .int .i64 cnt, .int .i64 leb, .int .i64 us, .int .u64 sq, .bool cl] 102) := row_grown HBX.out HS2.out.out (Nat.le_refl _) hgrow5; clear hown5 hgrow5)
          | (at_builtin; refine wpList_append_own _ rfl _ _ 101 rfl w.heap.size 4 j0 (.bool false) 1 1 Tryz.underlying101 hj hy0 hy1 hy2 rfl (by decide) _ k (T0.map .bool) rfl (owns_later HT5.out (below_new w5 _)) ⟨w5.heap.size, 0, none⟩ 1 1 [.bool true] rfl rfl (bool_new _ _ _ _ rfl) (by intro u hu; simp at hu; subst hu; rfl) (by unfold maxLen; omega) (by omega) (Below.after HB5.out (below_new w5 _)).size ?_; intro v6 w6 hown6 hgrow6 _; obtain ⟨a6, cap6, rfl⟩ := own_form hown6; have HT6 : Hid (w6.ownsRow w.heap.size 4 1 (.slice a6 (k + 1) cap6) (k + 1) (T0.map .bool ++ [.bool true])) := hown6; have HO6 : Hid (w6.ownsRow w.heap.size 102 6 (.slice a5 (k + 1) cap5) (k + 1) (O0.flatMap blCells ++ blCells ⟨st, cnt, leb, us, sq, cl⟩)) := owns_grown (owns_later HO5.out (below_new w5 _)) (owns_later HT5.out (below_new w5 _)) (by decide) hgrow6; have HB6 : Hid (Below w.heap.size w w6) := below_grown1 (Below.after HB5.out (below_new w5 _)) hgrow6 (owns_later HT5.out (below_new w5 _)); have x1 := (row_grown (HX5.out.alloc _) HS2.out.told (Nat.le_refl _) hgrow6).cell (i := 1) rfl; clear hown6 hgrow6))
        go_roundw
        case rel => exact ⟨k + 1, a5, cap5, a6, cap6, by go_num, by omega, rfl, rfl, by rw [HS9.out], by rw [HMA.out]; rfl, ⟨by rw [HOT.out]; exact HO6.out, by rw [HTT.out]; exact HT6.out, HB6.out⟩⟩
        case measure => simp [intOf]; omega
      | false =>
        go_wp2_with (first
          | (go_at_call 52; refine (cG _ HS.out.bel).mono ?_; rintro e w1 ⟨rfl, hb1⟩; have HS1 : Hid (S1 w w1 ao cp at' ct k O0 T0) := HS.out.later hb1; clear hb1)
          | (go_at_call 53; refine (cL' _ HS1.out.bel).mono ?_; rintro e w2 ⟨rfl, hb2⟩; have HS2 : Hid (S1 w w2 ao cp at' ct k O0 T0) := HS1.out.later hb2; have HS3 : Hid (S1 w ((w2.alloc (.cells #[.int .i64 st, .int .i64 cnt, .int .i64 leb, .int .i64 us, .int .u64 sq, .bool cl] 102)).alloc (.cells #[.int .i64 st, .int .i64 cnt, .int .i64 leb, .int .i64 us, .int .u64 sq, .bool cl] 102)) ao cp at' ct k O0 T0) := HS2.out.later (Below.after (below_new _ _) (below_new _ _)); have HCE : Hid (∀ j u, (blCells ⟨st, cnt, leb, us, sq, cl⟩)[j]? = some u → ((w2.alloc (.cells #[.int .i64 st, .int .i64 cnt, .int .i64 leb, .int .i64 us, .int .u64 sq, .bool cl] 102)).alloc (.cells #[.int .i64 st, .int .i64 cnt, .int .i64 leb, .int .i64 us, .int .u64 sq, .bool cl] 102)).cell? ((⟨w2.heap.size + 1, 0, none⟩ : Addr).add j) = some u) := bl_newk _ ⟨st, cnt, leb, us, sq, cl⟩ _ _ (by simp); have HBX : Hid (Row ((w2.alloc (.cells #[.int .i64 st, .int .i64 cnt, .int .i64 leb, .int .i64 us, .int .u64 sq, .bool cl] 102)).alloc (.cells #[.int .i64 st, .int .i64 cnt, .int .i64 leb, .int .i64 us, .int .u64 sq, .bool cl] 102)) w2.heap.size [.int .i64 st, .int .i64 cnt, .int .i64 leb, .int .i64 us, .int .u64 sq, .bool cl] 102) := (Row.new w2 [_, _, _, _, _, _] _).alloc _; clear hb2)
          | (at_builtin; clear M1; refine wpList_append_own _ rfl _ _ 43 rfl w.heap.size 102 i0 (.agg #[.int .i64 0, .int .i64 0, .int .i64 0, .int .i64 0, .int .u64 0, .bool false]) 6 48 Tryz.underlying43 hi hz0 hz1 hz2 rfl (by decide) _ k (O0.flatMap blCells) rfl HS3.out.out ⟨w2.heap.size + 1, 0, none⟩ 1 1 (blCells ⟨st, cnt, leb, us, sq, cl⟩) rfl rfl HCE.out (bl_one _) (by unfold maxLen; omega) (by omega) HS3.out.bel.size ?_; intro v5 w5 hown5 hgrow5 _; obtain ⟨a5, cap5, rfl⟩ := own_form hown5; have HO5 : Hid (w5.ownsRow w.heap.size 102 6 (.slice a5 (k + 1) cap5) (k + 1) (O0.flatMap blCells ++ blCells ⟨st, cnt, leb, us, sq, cl⟩)) := hown5; have HT5 : Hid (w5.ownsRow w.heap.size 4 1 (.slice at' k ct) k (T0.map .bool)) := owns_grown HS3.out.told HS3.out.out (by decide) hgrow5; have HB5 : Hid (Below w.heap.size w w5) := below_grown1 HS3.out.bel hgrow5 HS3.out.out; have HX5 : Hid (Row w5 w2.heap.size [.int .i64 st, .int .i64 cnt, .int .i64 leb, .int .i64 us, .int .u64 sq, .bool cl] 102) := row_grown HBX.out HS2.out.out (Nat.le_refl _) hgrow5; clear hown5 hgrow5)
          | (at_builtin; refine wpList_append_own _ rfl _ _ 101 rfl w.heap.size 4 j0 (.bool false) 1 1 Tryz.underlying101 hj hy0 hy1 hy2 rfl (by decide) _ k (T0.map .bool) rfl (owns_later HT5.out (below_new w5 _)) ⟨w5.heap.size, 0, none⟩ 1 1 [.bool false] rfl rfl (bool_new _ _ _ _ rfl) (by intro u hu; simp at hu; subst hu; rfl) (by unfold maxLen; omega) (by omega) (Below.after HB5.out (below_new w5 _)).size ?_; intro v6 w6 hown6 hgrow6 _; obtain ⟨a6, cap6, rfl⟩ := own_form hown6; have HT6 : Hid (w6.ownsRow w.heap.size 4 1 (.slice a6 (k + 1) cap6) (k + 1) (T0.map .bool ++ [.bool false])) := hown6; have HO6 : Hid (w6.ownsRow w.heap.size 102 6 (.slice a5 (k + 1) cap5) (k + 1) (O0.flatMap blCells ++ blCells ⟨st, cnt, leb, us, sq, cl⟩)) := owns_grown (owns_later HO5.out (below_new w5 _)) (owns_later HT5.out (below_new w5 _)) (by decide) hgrow6; have HB6 : Hid (Below w.heap.size w w6) := below_grown1 (Below.after HB5.out (below_new w5 _)) hgrow6 (owns_later HT5.out (below_new w5 _)); have x1 := (row_grown (HX5.out.alloc _) HS2.out.told (Nat.le_refl _) hgrow6).cell (i := 1) rfl; clear hown6 hgrow6))
        go_roundw
        case rel => exact ⟨k + 1, a5, cap5, a6, cap6, by go_num, by omega, rfl, rfl, by rw [HSU.out]; simp, by rw [HMA.out]; simp, ⟨by rw [HOT.out]; exact HO6.out, by rw [HTT.out]; exact HT6.out, HB6.out⟩⟩
        case measure => simp [intOf]; omega
    · have hkm : k = gb := by omega
      subst hkm
      have hns : (sightsV c.vw).take k = sightsV c.vw := List.take_of_length_le (by rw [sightsV_length, ← HGB.out]; exact Nat.le_refl _)
      have hno : (outsV c.vw).take k = outsV c.vw := List.take_of_length_le (by simp [outsV, sightsV_length, ← HGB.out])
      have hnt : (toldV c.vw).take k = toldV c.vw := List.take_of_length_le (by simp [toldV, sightsV_length, ← HGB.out])
      rw [hno, hnt] at HS
      rw [hns]
      clear hns hno hnt
      have hcnt := sights_count c.vw
      obtain ⟨b1, b2, b3, b4⟩ := sumS_le (sightsV c.vw) hcnt
      rw [sightsV_length, ← HGB.out] at b2 b4
      obtain ⟨S0, hS0⟩ : ∃ x, x = sumS (sightsV c.vw) := ⟨_, rfl⟩
      obtain ⟨M0, hM0⟩ : ∃ x, x = manyS (sightsV c.vw) := ⟨_, rfl⟩
      obtain ⟨mean, hme⟩ : ∃ x, x = meanS (sightsV c.vw) := ⟨_, rfl⟩
      have hq : mean = if M0 = 0 then 0 else S0 / M0 := by rw [hme, hS0, hM0]; rfl
      rw [← hS0] at b1 b2 ⊢
      rw [← hM0] at b3 b4 ⊢
      have hm0 : ¬ 0 < M0 → mean = 0 := fun q => by rw [hq, if_pos (by omega)]
      have hmd : 0 < M0 → mean = S0 / M0 ∧ 0 ≤ mean ∧ mean ≤ S0 := fun q => by
        have e : mean = S0 / M0 := by rw [hq, if_neg (by omega)]
        refine ⟨e, ?_, ?_⟩
        · rw [e]; exact Int.ediv_nonneg b1 b3
        · rw [e]; exact Int.ediv_le_self _ b1
      have HRes : Hid (∀ (j : Nat) (s : Sg), (sightsV c.vw)[j]? = some s → (scanV c.vw)[j]? = some (fin1 ((sightsV c.vw).map (fun s => s.block mean)) j (s.block mean))) := by
        intro j s hs
        rw [scan_ref, refL_get]
        show ((((sightsV c.vw).map (fun s => s.block (meanS (sightsV c.vw))))[j]?).map _) = _
        rw [List.getElem?_map, hs, ← hme]
        show some (fin1 (blksV c.vw) j (s.block mean)) = _
        unfold blksV
        rw [← hme]
      have hrl : (scanV c.vw).length = k := by rw [scanV_length]; exact HGB.out.symm
      have HFa : Hid (∀ (j : Nat) (s : Sg), (sightsV c.vw)[j]? = some s → Fate (s.block 0) (tells s) M0 mean (olderP (outsV c.vw) j (s.block 0)) (fin1 ((sightsV c.vw).map (fun s => s.block mean)) j (s.block mean))) := fun j s _ => fate (sightsV c.vw) j s M0 mean hm0
      have hsl := sightsV_length c.vw
      rw [← HGB.out] at hsl
      have n1 : 0 ≤ S0 := b1
      have n2 : S0 ≤ 549755813888 := by have := hgs.2.1; omega
      have n3 : 0 ≤ M0 := b3
      have n4 : M0 ≤ 256 := by have := hgs.2.1; omega
      have hol : (outsV c.vw).length = k := by simp [outsV, hsl]
      have htl : (toldV c.vw).length = k := by simp [toldV, hsl]
      have hk1 : 1 ≤ k := hgs.1
      have hk2 : k ≤ 256 := hgs.2.1
      obtain ⟨sv, hsv⟩ : ∃ x, x = sightsV c.vw := ⟨_, rfl⟩
      have HOs : Hid (∀ (j : Nat) (s : Sg), sv[j]? = some s → (outsV c.vw)[j]? = some (s.block 0)) := fun j s hs => by rw [hsv] at hs; simp [outsV, hs]
      have HTs : Hid (∀ (j : Nat) (s : Sg), sv[j]? = some s → (toldV c.vw)[j]? = some (tells s)) := fun j s hs => by rw [hsv] at hs; simp [toldV, hs]
      rw [← hsv] at HRes HFa hsl
      generalize outsV c.vw = outs at *
      generalize toldV c.vw = told at *
      obtain ⟨res, hres⟩ : ∃ r, r = scanV c.vw := ⟨_, rfl⟩
      rw [← hres] at HRes hrl
      have HRE : Hid (res = scanV c.vw) := hres
      clear hres
      clear hS0 hM0 hme hq hcnt b1 b2 b3 b4 hsv hm0
      have HMD : Hid (0 < M0 → mean = S0 / M0 ∧ 0 ≤ mean ∧ mean ≤ S0) := hmd
      clear hmd
      go_wp2_with (go_at_call 52; refine (cG _ HS.out.bel).mono ?_; rintro e w1 ⟨rfl, hb1⟩; have HS1 : Hid (S1 w w1 ao cp at' ct k outs told) := HS.out.later hb1; clear hb1)
      obtain ⟨g, cpo, hvo, _, _, hgo, hro⟩ := Row.of_owns HS1.out.out (by omega)
      obtain ⟨gt, cpt, hvt, _, _, hgt, hrt⟩ := Row.of_owns HS1.out.told (by omega)
      simp only [Value.slice.injEq] at hvo hvt
      obtain ⟨rfl, _, rfl⟩ := hvo
      obtain ⟨rfl, _, rfl⟩ := hvt
      have HLR : Hid (LRow w1 (some ⟨g, 0, none⟩) outs) := by
        have := HS1.out.out
        rw [← hol] at this
        exact lrow_ownsT this
      have HOC : Hid (∀ W, Below w1.heap.size w1 W → ∀ (j : Nat) (x : Bl), outs[j]? = some x → BlAt W g (j * 6) x) := by
        intro W hW j x hx
        rcases HLR.out.later hW with e | ⟨b, off, e, hc⟩
        · rw [e] at hx; simp at hx
        · cases e
          have := hc j x hx
          rwa [Nat.zero_add] at this
      have HTC : Hid (∀ W, Below w1.heap.size w1 W → ∀ (j : Nat) (t : Bool), told[j]? = some t → W.cell? ⟨gt, j, none⟩ = some (.bool t)) := fun W hW j t ht => (hrt.later hW).cell (by rw [List.getElem?_map, ht]; rfl)
      have HB1 : Hid (Below w.heap.size w w1) := HS1.out.bel
      have hg1 : g < w1.heap.size := hro.lt
      have hg2 : gt < w1.heap.size := hrt.lt
      have hN : Hid (w1.ownsRow w1.heap.size 102 6 (.slice none 0 0) 0 ((res.take 0).flatMap blCells)) := by show World.ownsRow _ _ _ _ _ _ _; simpa using World.ownsRow_nil _ _ _ _
      clear HS HS1 hro hrt cK cG hgo hgt
      go_loopw [11, 12] (fun o i wr => ∃ (j : Nat) (aa : Option Addr) (ca : Nat), i = .int .i64 (j : Int) ∧ j ≤ k ∧ o = .slice aa j ca ∧ Hid (wr.ownsRow w1.heap.size 102 6 (.slice aa j ca) j ((res.take j).flatMap blCells)) ∧ Hid (Below w1.heap.size w1 wr)) (fun _ i _ => k - (intOf i).toNat)
      case atStart => exact ⟨0, none, 0, rfl, by omega, rfl, hN, Below.refl _ _⟩
      case round =>
        clear hN
        obtain ⟨j, aa, ca, rfl, hj, rfl, HA, HBr⟩ := hrel
        by_cases hjk : j < k
        · obtain ⟨s, hs⟩ : ∃ s, sv[j]? = some s := ⟨_, List.getElem?_eq_getElem (by rw [hsl]; exact hjk)⟩
          have hfa := HFa.out j s hs
          have hrj := HRes.out j s hs
          have hoj := HOs.out j s hs
          have htj := HTs.out j s hs
          have HAt : Hid ((res.take (j + 1)).flatMap blCells = (res.take j).flatMap blCells ++ blCells (fin1 (sv.map (fun s => s.block mean)) j (s.block mean))) := bl_take hrj
          have HOL : Hid (∀ W, Below w1.heap.size w1 W → Calls Tryz.prog 54 #[.slice (some ⟨g, 0, none⟩) k cp, .int .i64 (j : Int)] W (OldPost W outs j (s.block 0))) := fun W hW => older_any _ k cp outs W hol.symm hk2 (HLR.out.later hW) j _ hoj
          have HBA : Hid (∀ W, Below w1.heap.size w1 W → BlAt W g (j * 6) (s.block 0)) := fun W hW => HOC.out W hW j _ hoj
          have HTA : Hid (∀ W, Below w1.heap.size w1 W → W.cell? ⟨gt, j, none⟩ = some (.bool (tells s))) := fun W hW => HTC.out W hW j _ htj
          generalize fin1 (sv.map (fun s => s.block mean)) j (s.block mean) = bF at hfa HAt
          generalize s.block 0 = b0 at hfa HOL HBA
          generalize tells s = t at hfa HTA
          clear hs hrj hoj htj
          obtain ⟨st, cnt, leb, us, sq, cl⟩ := b0
          obtain ⟨g0, g1, g2, g3, g4, g5⟩ := HBA.out wr HBr.out
          have hji : (j : Int) < (k : Int) := by omega
          have hgw : g < wr.heap.size := Nat.lt_of_lt_of_le hg1 HBr.out.size
          have t0 := HTA.out wr HBr.out
          have hgtw : gt < wr.heap.size := Nat.lt_of_lt_of_le hg2 HBr.out.size
          rcases hfa with ⟨h4, h, e⟩ | ⟨h4, h1, ht, hm, e⟩ | ⟨h4, ht, e1, e2⟩
          · simp only at h4 h
            have HE : Hid (bF = ⟨st, cnt, leb, us, sq, cl⟩) := e
            have k4 : (st == 4) = false := by simpa using h4
            clear e h4
            have hbW : Below wr.heap.size wr ((wr.alloc (.cells #[.int .i64 st, .int .i64 cnt, .int .i64 leb, .int .i64 us, .int .u64 sq, .bool cl] 102)).alloc (.cells #[.int .i64 st, .int .i64 cnt, .int .i64 leb, .int .i64 us, .int .u64 sq, .bool cl] 102)) := Below.after (below_new _ _) (below_new _ _)
            have HAW : Hid (((wr.alloc (.cells #[.int .i64 st, .int .i64 cnt, .int .i64 leb, .int .i64 us, .int .u64 sq, .bool cl] 102)).alloc (.cells #[.int .i64 st, .int .i64 cnt, .int .i64 leb, .int .i64 us, .int .u64 sq, .bool cl] 102)).ownsRow w1.heap.size 102 6 (.slice aa j ca) j ((res.take j).flatMap blCells)) := owns_later HA.out hbW
            have HBW : Hid (Below w1.heap.size w1 ((wr.alloc (.cells #[.int .i64 st, .int .i64 cnt, .int .i64 leb, .int .i64 us, .int .u64 sq, .bool cl] 102)).alloc (.cells #[.int .i64 st, .int .i64 cnt, .int .i64 leb, .int .i64 us, .int .u64 sq, .bool cl] 102))) := Below.after HBr.out hbW
            have HCE : Hid (∀ j u, (blCells ⟨st, cnt, leb, us, sq, cl⟩)[j]? = some u → ((wr.alloc (.cells #[.int .i64 st, .int .i64 cnt, .int .i64 leb, .int .i64 us, .int .u64 sq, .bool cl] 102)).alloc (.cells #[.int .i64 st, .int .i64 cnt, .int .i64 leb, .int .i64 us, .int .u64 sq, .bool cl] 102)).cell? ((⟨wr.heap.size + 1, 0, none⟩ : Addr).add j) = some u) := bl_newk _ ⟨st, cnt, leb, us, sq, cl⟩ _ _ (by simp)
            clear hbW
            rcases h with h | ⟨h, h'⟩ | ⟨h, h', h''⟩
            · have k1 : (st != 1) = false := by simp [h]
              clear h
              go_wp2_with ((at_builtin; refine wpList_append_own _ rfl _ _ 43 rfl w1.heap.size 102 i0 (.agg #[.int .i64 0, .int .i64 0, .int .i64 0, .int .i64 0, .int .u64 0, .bool false]) 6 48 Tryz.underlying43 hi hz0 hz1 hz2 rfl (by decide) _ j ((res.take j).flatMap blCells) rfl HAW.out ⟨wr.heap.size + 1, 0, none⟩ 1 1 (blCells ⟨st, cnt, leb, us, sq, cl⟩) rfl rfl HCE.out (bl_one _) (by unfold maxLen; omega) (by omega) HBW.out.size ?_; intro v5 w9 hown5 hgrow5 _; obtain ⟨a5, cap5, rfl⟩ := own_form hown5; have HO9 : Hid (w9.ownsRow w1.heap.size 102 6 (.slice a5 (j + 1) cap5) (j + 1) ((res.take j).flatMap blCells ++ blCells ⟨st, cnt, leb, us, sq, cl⟩)) := hown5; have HB9 : Hid (Below w1.heap.size w1 w9) := below_grown1 HBW.out hgrow5 HAW.out; clear hown5 hgrow5))
              go_roundw
              case rel => exact ⟨j + 1, a5, cap5, by go_num, by omega, rfl, by rw [HAt.out, HE.out]; exact HO9.out, HB9⟩
              case measure => simp [intOf]; omega
            · have k1 : (st != 1) = true := by simpa using h
              subst h'
              clear h
              go_wp2_with ((at_builtin; refine wpList_append_own _ rfl _ _ 43 rfl w1.heap.size 102 i0 (.agg #[.int .i64 0, .int .i64 0, .int .i64 0, .int .i64 0, .int .u64 0, .bool false]) 6 48 Tryz.underlying43 hi hz0 hz1 hz2 rfl (by decide) _ j ((res.take j).flatMap blCells) rfl HAW.out ⟨wr.heap.size + 1, 0, none⟩ 1 1 (blCells ⟨st, cnt, leb, us, sq, cl⟩) rfl rfl HCE.out (bl_one _) (by unfold maxLen; omega) (by omega) HBW.out.size ?_; intro v5 w9 hown5 hgrow5 _; obtain ⟨a5, cap5, rfl⟩ := own_form hown5; have HO9 : Hid (w9.ownsRow w1.heap.size 102 6 (.slice a5 (j + 1) cap5) (j + 1) ((res.take j).flatMap blCells ++ blCells ⟨st, cnt, leb, us, sq, cl⟩)) := hown5; have HB9 : Hid (Below w1.heap.size w1 w9) := below_grown1 HBW.out hgrow5 HAW.out; clear hown5 hgrow5))
              go_roundw
              case rel => exact ⟨j + 1, a5, cap5, by go_num, by omega, rfl, by rw [HAt.out, HE.out]; exact HO9.out, HB9⟩
              case measure => simp [intOf]; omega
            · have k1 : (st != 1) = true := by simpa using h
              subst h'
              clear h
              go_wp2_with ((at_builtin; refine wpList_append_own _ rfl _ _ 43 rfl w1.heap.size 102 i0 (.agg #[.int .i64 0, .int .i64 0, .int .i64 0, .int .i64 0, .int .u64 0, .bool false]) 6 48 Tryz.underlying43 hi hz0 hz1 hz2 rfl (by decide) _ j ((res.take j).flatMap blCells) rfl HAW.out ⟨wr.heap.size + 1, 0, none⟩ 1 1 (blCells ⟨st, cnt, leb, us, sq, cl⟩) rfl rfl HCE.out (bl_one _) (by unfold maxLen; omega) (by omega) HBW.out.size ?_; intro v5 w9 hown5 hgrow5 _; obtain ⟨a5, cap5, rfl⟩ := own_form hown5; have HO9 : Hid (w9.ownsRow w1.heap.size 102 6 (.slice a5 (j + 1) cap5) (j + 1) ((res.take j).flatMap blCells ++ blCells ⟨st, cnt, leb, us, sq, cl⟩)) := hown5; have HB9 : Hid (Below w1.heap.size w1 w9) := below_grown1 HBW.out hgrow5 HAW.out; clear hown5 hgrow5))
              go_roundw
              case rel => exact ⟨j + 1, a5, cap5, by go_num, by omega, rfl, by rw [HAt.out, HE.out]; exact HO9.out, HB9⟩
              case measure => simp [intOf]; omega
          · simp only at h4 h1
            have HE : Hid (bF = ⟨st, mean, leb, us, sq, cl⟩) := e
            have k4 : (st == 4) = false := by simpa using h4
            have k1 : (st != 1) = true := by simpa using h1
            subst ht
            obtain ⟨d1, d2, d3⟩ := HMD.out hm
            have d4 : S0.tdiv M0 = mean := by rw [d1]; exact Int.tdiv_eq_ediv_of_nonneg n1
            have d5 : ¬ M0 = 0 := by omega
            clear e h4 h1 d1
            have fzb := (Row.new wr [.int .i64 st, .int .i64 cnt, .int .i64 leb, .int .i64 us, .int .u64 sq, .bool cl] 102).frozen
            have hbW : Below wr.heap.size wr ((wr.alloc (.cells #[.int .i64 st, .int .i64 mean, .int .i64 leb, .int .i64 us, .int .u64 sq, .bool cl] 102)).alloc (.cells #[.int .i64 st, .int .i64 mean, .int .i64 leb, .int .i64 us, .int .u64 sq, .bool cl] 102)) := Below.after (below_new _ _) (below_new _ _)
            have HAW : Hid (((wr.alloc (.cells #[.int .i64 st, .int .i64 mean, .int .i64 leb, .int .i64 us, .int .u64 sq, .bool cl] 102)).alloc (.cells #[.int .i64 st, .int .i64 mean, .int .i64 leb, .int .i64 us, .int .u64 sq, .bool cl] 102)).ownsRow w1.heap.size 102 6 (.slice aa j ca) j ((res.take j).flatMap blCells)) := owns_later HA.out hbW
            have HBW : Hid (Below w1.heap.size w1 ((wr.alloc (.cells #[.int .i64 st, .int .i64 mean, .int .i64 leb, .int .i64 us, .int .u64 sq, .bool cl] 102)).alloc (.cells #[.int .i64 st, .int .i64 mean, .int .i64 leb, .int .i64 us, .int .u64 sq, .bool cl] 102))) := Below.after HBr.out hbW
            have HCE : Hid (∀ j u, (blCells ⟨st, mean, leb, us, sq, cl⟩)[j]? = some u → ((wr.alloc (.cells #[.int .i64 st, .int .i64 mean, .int .i64 leb, .int .i64 us, .int .u64 sq, .bool cl] 102)).alloc (.cells #[.int .i64 st, .int .i64 mean, .int .i64 leb, .int .i64 us, .int .u64 sq, .bool cl] 102)).cell? ((⟨wr.heap.size + 1, 0, none⟩ : Addr).add j) = some u) := bl_newk _ ⟨st, mean, leb, us, sq, cl⟩ _ _ (by simp)
            clear hbW
            go_wp2_with ((at_builtin; refine wpList_append_own _ rfl _ _ 43 rfl w1.heap.size 102 i0 (.agg #[.int .i64 0, .int .i64 0, .int .i64 0, .int .i64 0, .int .u64 0, .bool false]) 6 48 Tryz.underlying43 hi hz0 hz1 hz2 rfl (by decide) _ j ((res.take j).flatMap blCells) rfl HAW.out ⟨wr.heap.size + 1, 0, none⟩ 1 1 (blCells ⟨st, mean, leb, us, sq, cl⟩) rfl rfl HCE.out (bl_one _) (by unfold maxLen; omega) (by omega) HBW.out.size ?_; intro v5 w9 hown5 hgrow5 _; obtain ⟨a5, cap5, rfl⟩ := own_form hown5; have HO9 : Hid (w9.ownsRow w1.heap.size 102 6 (.slice a5 (j + 1) cap5) (j + 1) ((res.take j).flatMap blCells ++ blCells ⟨st, mean, leb, us, sq, cl⟩)) := hown5; have HB9 : Hid (Below w1.heap.size w1 w9) := below_grown1 HBW.out hgrow5 HAW.out; clear hown5 hgrow5))
            go_roundw
            case rel => exact ⟨j + 1, a5, cap5, by go_num, by omega, rfl, by rw [HAt.out, HE.out]; exact HO9.out, HB9⟩
            case measure => simp [intOf]; omega
          · simp only at h4
            subst ht
            have k4 : (st == 4) = true := by simp [h4]
            have k1 : (st != 1) = true := by rw [h4]; rfl
            have HE1 : Hid (olderP outs j ⟨st, cnt, leb, us, sq, cl⟩ → bF = ⟨3, cnt, 0, 0, 0, false⟩) := e1
            have HE2 : Hid (¬ olderP outs j ⟨st, cnt, leb, us, sq, cl⟩ → bF = ⟨st, cnt, leb, us, sq, cl⟩) := e2
            clear e1 e2 h4
            by_cases hold : olderP outs j ⟨st, cnt, leb, us, sq, cl⟩
            · have HE : Hid (bF = ⟨3, cnt, 0, 0, 0, false⟩) := HE1.out hold
              have cOl : ∀ W, Below w1.heap.size w1 W → Calls Tryz.prog 54 #[.slice (some ⟨g, 0, none⟩) k cp, .int .i64 (j : Int)] W fun e w' => e = .returned (.bool true) ∧ Below W.heap.size W w' := fun W hW => (HOL.out W hW).mono (by rintro e w' ⟨o, rfl, ho, hb⟩; have : o = true := ho.2 hold; subst this; exact ⟨rfl, hb⟩)
              clear hold
              go_wp2_with (first
                | (go_at_call 54; refine (cOl _ (Below.after HBr.out (below_new wr _))).mono ?_; rintro e w5 ⟨rfl, hb5⟩; have HBx : Hid (Below wr.heap.size wr w5) := Below.after (below_new wr _) hb5; have hx5 := (Row.new wr [.int .i64 st, .int .i64 cnt, .int .i64 leb, .int .i64 us, .int .u64 sq, .bool cl] 102).later hb5; have x0 := hx5.cell (i := 0) rfl; have x1 := hx5.cell (i := 1) rfl; have x2 := hx5.cell (i := 2) rfl; have x3 := hx5.cell (i := 3) rfl; have x4 := hx5.cell (i := 4) rfl; have x5 := hx5.cell (i := 5) rfl; have fz := hx5.frozen; have HAW : Hid ((((((((w5.setCell ⟨wr.heap.size, 0, none⟩ (.int .i64 3)).setCell ⟨wr.heap.size, 1, none⟩ (.int .i64 cnt)).setCell ⟨wr.heap.size, 2, none⟩ (.int .i64 0)).setCell ⟨wr.heap.size, 3, none⟩ (.int .i64 0)).setCell ⟨wr.heap.size, 4, none⟩ (.int .u64 0)).setCell ⟨wr.heap.size, 5, none⟩ (.bool false)).alloc (.cells #[.int .i64 3, .int .i64 cnt, .int .i64 0, .int .i64 0, .int .u64 0, .bool false] 102)).ownsRow w1.heap.size 102 6 (.slice aa j ca) j ((res.take j).flatMap blCells)) := owns_later HA.out (Below.alloc (((((((HBx.out.setCell (Nat.le_refl _) _).setCell (Nat.le_refl _) _).setCell (Nat.le_refl _) _).setCell (Nat.le_refl _) _).setCell (Nat.le_refl _) _).setCell (Nat.le_refl _) _)) (by have := HBx.out.size; simpa [World.setCell] using this) _); have HBW : Hid (Below w1.heap.size w1 (((((((w5.setCell ⟨wr.heap.size, 0, none⟩ (.int .i64 3)).setCell ⟨wr.heap.size, 1, none⟩ (.int .i64 cnt)).setCell ⟨wr.heap.size, 2, none⟩ (.int .i64 0)).setCell ⟨wr.heap.size, 3, none⟩ (.int .i64 0)).setCell ⟨wr.heap.size, 4, none⟩ (.int .u64 0)).setCell ⟨wr.heap.size, 5, none⟩ (.bool false)).alloc (.cells #[.int .i64 3, .int .i64 cnt, .int .i64 0, .int .i64 0, .int .u64 0, .bool false] 102))) := Below.after HBr.out (Below.alloc (((((((HBx.out.setCell (Nat.le_refl _) _).setCell (Nat.le_refl _) _).setCell (Nat.le_refl _) _).setCell (Nat.le_refl _) _).setCell (Nat.le_refl _) _).setCell (Nat.le_refl _) _)) (by have := HBx.out.size; simpa [World.setCell] using this) _); have HCE : Hid (∀ j u, (blCells ⟨3, cnt, 0, 0, 0, false⟩)[j]? = some u → (((((((w5.setCell ⟨wr.heap.size, 0, none⟩ (.int .i64 3)).setCell ⟨wr.heap.size, 1, none⟩ (.int .i64 cnt)).setCell ⟨wr.heap.size, 2, none⟩ (.int .i64 0)).setCell ⟨wr.heap.size, 3, none⟩ (.int .i64 0)).setCell ⟨wr.heap.size, 4, none⟩ (.int .u64 0)).setCell ⟨wr.heap.size, 5, none⟩ (.bool false)).alloc (.cells #[.int .i64 3, .int .i64 cnt, .int .i64 0, .int .i64 0, .int .u64 0, .bool false] 102)).cell? ((⟨w5.heap.size, 0, none⟩ : Addr).add j) = some u) := bl_newk _ ⟨3, cnt, 0, 0, 0, false⟩ _ _ (by simp [World.setCell]); clear hb5 hx5)
                | (at_builtin; skip; refine wpList_append_own _ rfl _ _ 43 rfl w1.heap.size 102 i0 (.agg #[.int .i64 0, .int .i64 0, .int .i64 0, .int .i64 0, .int .u64 0, .bool false]) 6 48 Tryz.underlying43 hi hz0 hz1 hz2 rfl (by decide) _ j ((res.take j).flatMap blCells) rfl HAW.out ⟨w5.heap.size, 0, none⟩ 1 1 (blCells ⟨3, cnt, 0, 0, 0, false⟩) rfl rfl HCE.out (bl_one _) (by unfold maxLen; omega) (by omega) HBW.out.size ?_; intro v5 w9 hown5 hgrow5 _; obtain ⟨a5, cap5, rfl⟩ := own_form hown5; have HO9 : Hid (w9.ownsRow w1.heap.size 102 6 (.slice a5 (j + 1) cap5) (j + 1) ((res.take j).flatMap blCells ++ blCells ⟨3, cnt, 0, 0, 0, false⟩)) := hown5; have HB9 : Hid (Below w1.heap.size w1 w9) := below_grown1 HBW.out hgrow5 HAW.out; clear hown5 hgrow5))
              go_roundw
              case rel => exact ⟨j + 1, a5, cap5, by go_num, by omega, rfl, by rw [HAt.out, HE.out]; exact HO9.out, HB9⟩
              case measure => simp [intOf]; omega
            · have HE : Hid (bF = ⟨st, cnt, leb, us, sq, cl⟩) := HE2.out hold
              have cOl : ∀ W, Below w1.heap.size w1 W → Calls Tryz.prog 54 #[.slice (some ⟨g, 0, none⟩) k cp, .int .i64 (j : Int)] W fun e w' => e = .returned (.bool false) ∧ Below W.heap.size W w' := fun W hW => (HOL.out W hW).mono (by rintro e w' ⟨o, rfl, ho, hb⟩; have : o = false := Bool.eq_false_iff.2 (fun q => hold (ho.1 q)); subst this; exact ⟨rfl, hb⟩)
              clear hold
              go_wp2_with (first
                | (go_at_call 54; refine (cOl _ (Below.after HBr.out (below_new wr _))).mono ?_; rintro e w5 ⟨rfl, hb5⟩; have HBx : Hid (Below wr.heap.size wr w5) := Below.after (below_new wr _) hb5; have hx5 := (Row.new wr [.int .i64 st, .int .i64 cnt, .int .i64 leb, .int .i64 us, .int .u64 sq, .bool cl] 102).later hb5; have x0 := hx5.cell (i := 0) rfl; have x1 := hx5.cell (i := 1) rfl; have x2 := hx5.cell (i := 2) rfl; have x3 := hx5.cell (i := 3) rfl; have x4 := hx5.cell (i := 4) rfl; have x5 := hx5.cell (i := 5) rfl; have fz := hx5.frozen; have HAW : Hid ((w5.alloc (.cells #[.int .i64 st, .int .i64 cnt, .int .i64 leb, .int .i64 us, .int .u64 sq, .bool cl] 102)).ownsRow w1.heap.size 102 6 (.slice aa j ca) j ((res.take j).flatMap blCells)) := owns_later HA.out (Below.after HBx.out (below_new _ _)); have HBW : Hid (Below w1.heap.size w1 (w5.alloc (.cells #[.int .i64 st, .int .i64 cnt, .int .i64 leb, .int .i64 us, .int .u64 sq, .bool cl] 102))) := Below.after HBr.out (Below.after HBx.out (below_new _ _)); have HCE : Hid (∀ j u, (blCells ⟨st, cnt, leb, us, sq, cl⟩)[j]? = some u → (w5.alloc (.cells #[.int .i64 st, .int .i64 cnt, .int .i64 leb, .int .i64 us, .int .u64 sq, .bool cl] 102)).cell? ((⟨w5.heap.size, 0, none⟩ : Addr).add j) = some u) := bl_newk _ ⟨st, cnt, leb, us, sq, cl⟩ _ _ (rfl); clear hb5 hx5)
                | (at_builtin; skip; refine wpList_append_own _ rfl _ _ 43 rfl w1.heap.size 102 i0 (.agg #[.int .i64 0, .int .i64 0, .int .i64 0, .int .i64 0, .int .u64 0, .bool false]) 6 48 Tryz.underlying43 hi hz0 hz1 hz2 rfl (by decide) _ j ((res.take j).flatMap blCells) rfl HAW.out ⟨w5.heap.size, 0, none⟩ 1 1 (blCells ⟨st, cnt, leb, us, sq, cl⟩) rfl rfl HCE.out (bl_one _) (by unfold maxLen; omega) (by omega) HBW.out.size ?_; intro v5 w9 hown5 hgrow5 _; obtain ⟨a5, cap5, rfl⟩ := own_form hown5; have HO9 : Hid (w9.ownsRow w1.heap.size 102 6 (.slice a5 (j + 1) cap5) (j + 1) ((res.take j).flatMap blCells ++ blCells ⟨st, cnt, leb, us, sq, cl⟩)) := hown5; have HB9 : Hid (Below w1.heap.size w1 w9) := below_grown1 HBW.out hgrow5 HAW.out; clear hown5 hgrow5))
              go_roundw
              case rel => exact ⟨j + 1, a5, cap5, by go_num, by omega, rfl, by rw [HAt.out, HE.out]; exact HO9.out, HB9⟩
              case measure => simp [intOf]; omega
        · have hjk' : j = k := by omega
          subst hjk'
          have HLf : Hid (LRow wr aa res ∧ Below w.heap.size w wr) := by
            have h := HA.out
            rw [List.take_of_length_le (by rw [hrl]; exact Nat.le_refl _)] at h
            refine ⟨?_, Below.after HB1.out HBr.out⟩
            obtain ⟨g', c', hv, _⟩ := Row.of_owns h (by omega)
            simp only [Value.slice.injEq] at hv
            obtain ⟨rfl, _, _⟩ := hv
            rw [← hrl] at h
            exact lrow_ownsT h
          go_wp2
          go_ret2
          exact ⟨aa, ca, rfl, by rw [← HRE.out]; exact HLf.out.1, HLf.out.2⟩
set_option maxHeartbeats 2000000 in
theorem rscan_off {base : Nat} {w : World} {d : DS} {P : Nat} {c : CS} (h : Dv base w d P c) (hon : c.on = false) :
    Calls Tryz.prog 15 #[.pointer (some ⟨P, 0, none⟩)] w fun e w' => e = .returned (.tuple #[.slice none 0 0, .int .i64 6]) ∧ w = w' := by
  have cO := dv_on h
  rw [hon] at cO
  clear h
  go_enter Tryz.func15, Tryz.ntmps15
  go_wp2_with (go_at_call 51; refine cO.mono ?_; rintro e w' ⟨rfl, rfl⟩)
  go_ret2
  exact ⟨rfl, rfl⟩
end Go.Proofs.YteoakhfofnocfaaGreatDoor
namespace Go.Proofs.YteoakhfofnocfaaGreatDoor
open Go.RowKit
set_option maxRecDepth 10000

theorem neq_bl (w : World) (st cnt leb us sq : Int) (cl : Bool) :
    (binOp .neq 57 (.agg #[.int .i64 st, .int .i64 cnt, .int .i64 leb, .int .i64 us, .int .u64 sq, .bool cl]) (.agg #[.int .i64 st, .int .i64 cnt, .int .i64 leb, .int .i64 us, .int .u64 sq, .bool cl])).run Tryz.prog w = .ok (.bool false) w := by
  have hu := Tryz.underlying57
  have hi := Tryz.underlying3
  have hv := Tryz.underlying55
  have hb := Tryz.underlying4
  have hp : Tryz.prog.stoodInHeld 57 = false := by kernel_rfl
  rw [run_neq_struct, run_equalIn_struct w 9999 _ _ _ (by rw [Program.fieldsOf, hu]) hp]
  simp [go_sem, hu, hi, hv, hb]
set_option maxHeartbeats 4000000 in
theorem bsame_any (a b : Option Addr) (m ca cb : Nat) (l : List Bl) (w : World) (hm : m = l.length) (hl : m ≤ 256) (ha : LRow w a l) (hb : LRow w b l) :
    Calls Tryz.prog 16 #[.slice a m ca, .slice b m cb] w fun e w' => e = .returned (.bool true) ∧ Below w.heap.size w w' := by
  have HM : Hid (m = l.length) := hm
  have HA : Hid (LRow w a l) := ha
  have cO := own_any b m cb l w hm (by omega) hb
  clear hm ha hb
  go_enter Tryz.func16, Tryz.ntmps16
  go_wp2_with (go_at_call 18; refine cO.mono ?_; rintro e w1 ⟨a1, k1, rfl, hr1, _, hb1⟩; have HR1 : Hid (LRow w1 a1 l) := hr1; have HB1 : Hid (Below w.heap.size w w1) := hb1; have HA1 : Hid (LRow w1 a l) := HA.out.later hb1; clear hr1 hb1)
  clear cO
  go_loopw [6] (fun i wr => ∃ k : Nat, i = .int .i64 (k : Int) ∧ k ≤ m ∧ Hid (Below w1.heap.size w1 wr)) (fun i _ => m - (intOf i).toNat)
  case atStart => exact ⟨0, rfl, by omega, Below.refl _ _⟩
  case round =>
    obtain ⟨k, rfl, hk, HB⟩ := hrel
    by_cases hlt : k < m
    · obtain ⟨x, hx⟩ : ∃ x, l[k]? = some x := ⟨_, List.getElem?_eq_getElem (by have := HM.out; omega)⟩
      obtain ⟨b1, o1, rfl, hc1⟩ : ∃ b off, a = some ⟨b, off, none⟩ ∧ ∀ i x, l[i]? = some x → ∀ p : Hd.Wd wr, BlAt p.v b (off + i * 6) x := by
        rcases HA1.out.later HB.out with e | ⟨b, off, e, h⟩
        · subst e; simp at hx
        · exact ⟨b, off, e, fun i x hx p => (h i x hx).below p.h (h i x hx).lt⟩
      obtain ⟨b2, o2, rfl, hc2⟩ : ∃ b off, a1 = some ⟨b, off, none⟩ ∧ ∀ i x, l[i]? = some x → ∀ p : Hd.Wd wr, BlAt p.v b (off + i * 6) x := by
        rcases HR1.out.later HB.out with e | ⟨b, off, e, h⟩
        · subst e; simp at hx
        · exact ⟨b, off, e, fun i x hx p => (h i x hx).below p.h (h i x hx).lt⟩
      have g0 := fun p : Hd.Wd wr => (hc1 k x hx p).c0
      have f0 := fun p : Hd.Wd wr => (hc2 k x hx p).c0
      have g1 := fun p : Hd.Wd wr => (hc1 k x hx p).c1
      have f1 := fun p : Hd.Wd wr => (hc2 k x hx p).c1
      have g2 := fun p : Hd.Wd wr => (hc1 k x hx p).c2
      have f2 := fun p : Hd.Wd wr => (hc2 k x hx p).c2
      have g3 := fun p : Hd.Wd wr => (hc1 k x hx p).c3
      have f3 := fun p : Hd.Wd wr => (hc2 k x hx p).c3
      have g4 := fun p : Hd.Wd wr => (hc1 k x hx p).c4
      have f4 := fun p : Hd.Wd wr => (hc2 k x hx p).c4
      have g5 := fun p : Hd.Wd wr => (hc1 k x hx p).c5
      have f5 := fun p : Hd.Wd wr => (hc2 k x hx p).c5
      have ne : Nonempty (Hd.Wd wr) := ⟨⟨wr, Below.refl _ _⟩⟩
      have hki : (k : Int) < (m : Int) := by omega
      have hne := fun W => neq_bl W x.st x.cnt x.leb x.used x.seq x.closed
      clear hx hc1 hc2
      go_wp2
      refine Hd.quiet_below (by kernel_rfl) ?_
      repeat (first | go_big_quiet_skip | go_big_quiet_step (fail))
      refine wpQuiet_nil ?_
      rintro _ ⟨p7, rfl⟩
      have HB7 : Hid (Below w1.heap.size w1 p7.v) := Below.after HB.out p7.h
      clear g0 g1 g2 g3 g4 g5 f0 f1 f2 f3 f4 f5 ne
      go_wp2
      go_roundw
      case rel => exact ⟨k + 1, by go_num, by omega, HB7⟩
      case measure => simp [intOf]; omega
    · go_wp2
      go_ret
      exact ⟨rfl, Below.after HB1.out HB.out⟩
end Go.Proofs.YteoakhfofnocfaaGreatDoor
