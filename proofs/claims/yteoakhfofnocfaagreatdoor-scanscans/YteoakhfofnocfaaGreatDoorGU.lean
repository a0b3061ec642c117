/-
  The statement's own Own, and what the document's Find, Least and Good answer.
  What the document's Least answers.
  A list of blocks that comes in.
-/
import Derived.Test.YteoakhfofnocfaaGreatDoorGQ
import Derived.Test.YteoakhfofnocfaaGreatDoorGR
import Derived.Test.YteoakhfofnocfaaGreatDoorGG
import Derived.Laws.AppendOwn
import Derived.Deep.LoopGhost
import Derived.BigQuiet
import Derived.Deep.QuietTactic
import Derived.Deep.Slices
import Derived.Deep.SlicePairs
import Derived.SizedLaws
namespace Go.Proofs.YteoakhfofnocfaaGreatDoor
open Go.RowKit
set_option maxRecDepth 10000

/-- Blocks in new memory. -/
def OwnPost (w : World) (l : List Bl) (m : Nat) (e : Ending) (w' : World) : Prop := ∃ a cap, e = .returned (.slice a m cap) ∧ LRow w' a l ∧ (l = [] ∨ ∀ b o, a = some ⟨b, o, none⟩ → w.heap.size ≤ b) ∧ Below w.heap.size w w'
theorem own_post {w w' : World} {v : Value} {l : List Bl} {m : Nat} (hm : m = l.length) (h : w'.ownsRow w.heap.size 57 6 v m (l.flatMap blCells)) (hb : Below w.heap.size w w') : OwnPost w l m (.returned v) w' := by
  subst hm
  rcases h.2 with ⟨rfl, hn⟩ | ⟨g, cap, cur, rfl, hbg, _⟩
  · have : l = [] := List.eq_nil_of_length_eq_zero hn
    subst this
    exact ⟨none, 0, rfl, .inl rfl, .inl rfl, hb⟩
  · exact ⟨_, cap, rfl, lrow_owns h, .inr (fun b o e => by cases e; exact hbg), hb⟩
theorem bl_take {l : List Bl} {k : Nat} {x : Bl} (h : l[k]? = some x) : (l.take (k + 1)).flatMap blCells = (l.take k).flatMap blCells ++ blCells x := by
  obtain ⟨h1, h2⟩ := List.getElem?_eq_some_iff.1 h
  rw [List.take_succ_eq_append_getElem h1, h2]
  simp
theorem grown_b {w wr w2 : World} {v : Value} {xs : List Value} {n : Nat} (h : Below w.heap.size w wr) (hg : wr.grownBy w2 v.ownBlock) (ho : wr.ownsRow w.heap.size 57 6 v n xs) : Below w.heap.size w w2 :=
  h.grown hg h.size (fun k hk => (ho.lt k hk).1)
set_option maxHeartbeats 4000000 in
theorem own_any (a : Option Addr) (m cap : Nat) (l : List Bl) (w : World) (hm : m = l.length) (hsz : m * 48 ≤ 140737488351232) (hr : LRow w a l) :
    Calls Tryz.prog 18 #[.slice a m cap] w (OwnPost w l m) := by
  obtain ⟨i0, hi, hz0, hz1, hz2⟩ := info_parts infoBl
  have HM : Hid (m = l.length) := hm
  have HR : Hid (LRow w a l) := hr
  have hlow := hr.low
  have HLW : Hid (∀ b off, a = some ⟨b, off, none⟩ → l ≠ [] → b < w.heap.size) := hlow
  clear hm hr hlow
  go_enter Tryz.func18, Tryz.ntmps18
  go_wp2
  go_loopw [3, 4] (fun s i wr => ∃ (k : Nat) (ao : Option Addr) (cp : Nat), i = .int .i64 (k : Int) ∧ k ≤ m ∧ s = .slice ao k cp ∧ Hid (wr.ownsRow w.heap.size 57 6 (.slice ao k cp) k ((l.take k).flatMap blCells)) ∧ Hid (Below w.heap.size w wr)) (fun _ i _ => m - (intOf i).toNat)
  case atStart => exact ⟨0, none, 0, rfl, by omega, rfl, by show World.ownsRow _ _ _ _ _ _ _; simpa using World.ownsRow_nil _ _ _ _, Below.refl _ _⟩
  case round =>
    obtain ⟨k, ao, cp, rfl, hk, rfl, HO, HB⟩ := hrel
    by_cases hlt : k < m
    · have hkl : k < l.length := by have := HM.out; omega
      obtain ⟨x, hx⟩ : ∃ x, l[k]? = some x := ⟨_, List.getElem?_eq_getElem hkl⟩
      obtain ⟨b, off, rfl, hc⟩ : ∃ b off, a = some ⟨b, off, none⟩ ∧ ∀ i x, l[i]? = some x → BlAt w b (off + i * 6) x := by
        rcases HR.out with e | h
        · subst e; simp at hkl
        · exact h
      obtain ⟨g0, g1, g2, g3, g4, g5⟩ := (hc k x hx).below HB.out (hc k x hx).lt
      have hbw : b < wr.heap.size := World.block_lt_of_cell? wr _ g0
      have HT : Hid ((l.take (k + 1)).flatMap blCells = (l.take k).flatMap blCells ++ blCells x) := bl_take hx
      have HOW : Hid (((wr.alloc (.cells #[.int .i64 x.st, .int .i64 x.cnt, .int .i64 x.leb, .int .i64 x.used, .int .u64 x.seq, .bool x.closed] 102)).alloc (.cells #[.int .i64 x.st, .int .i64 x.cnt, .int .i64 x.leb, .int .i64 x.used, .int .u64 x.seq, .bool x.closed] 57)).ownsRow w.heap.size 57 6 (.slice ao k cp) k ((l.take k).flatMap blCells)) := owns_later HO.out (Below.after (below_new _ _) (below_new _ _))
      have HBW : Hid (Below w.heap.size w ((wr.alloc (.cells #[.int .i64 x.st, .int .i64 x.cnt, .int .i64 x.leb, .int .i64 x.used, .int .u64 x.seq, .bool x.closed] 102)).alloc (.cells #[.int .i64 x.st, .int .i64 x.cnt, .int .i64 x.leb, .int .i64 x.used, .int .u64 x.seq, .bool x.closed] 57))) := Below.after HB.out (Below.after (below_new _ _) (below_new _ _))
      have HCE : Hid (∀ j u, (blCells x)[j]? = some u → ((wr.alloc (.cells #[.int .i64 x.st, .int .i64 x.cnt, .int .i64 x.leb, .int .i64 x.used, .int .u64 x.seq, .bool x.closed] 102)).alloc (.cells #[.int .i64 x.st, .int .i64 x.cnt, .int .i64 x.leb, .int .i64 x.used, .int .u64 x.seq, .bool x.closed] 57)).cell? ((⟨wr.heap.size + 1, 0, none⟩ : Addr).add j) = some u) := bl_newk _ x _ _ (by simp)
      clear hx hc HO
      go_wp2_with (at_builtin; refine wpList_append_own _ rfl _ _ 40 rfl w.heap.size 57 i0 (.agg #[.int .i64 0, .int .i64 0, .int .i64 0, .int .i64 0, .int .u64 0, .bool false]) 6 48 Tryz.underlying40 hi hz0 hz1 hz2 rfl (by decide) _ k ((l.take k).flatMap blCells) rfl HOW.out ⟨wr.heap.size + 1, 0, none⟩ 1 1 (blCells x) rfl rfl HCE.out (bl_one x) (by unfold maxLen; omega) (by omega) HBW.out.size ?_; intro v' w5 hown' hgrow _; obtain ⟨a5, cap5, rfl⟩ := own_form hown'; have HO5 : Hid (w5.ownsRow w.heap.size 57 6 (.slice a5 (k + 1) cap5) (k + 1) ((l.take k).flatMap blCells ++ blCells x)) := hown'; have HB5 : Hid (Below w.heap.size w w5) := grown_b HBW.out hgrow HOW.out; clear hown' hgrow)
      go_roundw
      case rel => exact ⟨k + 1, a5, cap5, by go_num, by omega, rfl, by rw [HT.out]; exact HO5.out, HB5⟩
      case measure => simp [intOf]; omega
    · have hkm : k = m := by omega
      subst hkm
      go_wp2
      go_ret
      have h1 := HO.out
      rw [List.take_of_length_le (by rw [← HM.out]; exact Nat.le_refl _)] at h1
      exact own_post HM.out h1 HB.out
theorem sel_upto {st : Int} {l : List Bl} {k : Nat} {x : Bl} (h : l[k]? = some x) : sel st 0 (l.take (k + 1)) = sel st 0 (l.take k) ++ (if x.st = st then [(k, x)] else []) := by
  obtain ⟨h1, h2⟩ := List.getElem?_eq_some_iff.1 h
  rw [sel_take h1, h2]
/-- Nothing found among the first k. -/
theorem find_skip {l : List Bl} {leb : Int} {k : Nat} {x : Bl} (h : l[k]? = some x) (hn : ∀ y ∈ sel 4 0 (l.take k), y.2.leb ≠ leb) (hx : ¬ (x.st = 4 ∧ x.leb = leb)) : ∀ y ∈ sel 4 0 (l.take (k + 1)), y.2.leb ≠ leb := by
  intro y hy
  rw [sel_upto h, List.mem_append] at hy
  rcases hy with hy | hy
  · exact hn y hy
  · split at hy
    · rename_i hs
      simp at hy
      subst hy
      exact fun e => hx ⟨hs, e⟩
    · simp at hy
theorem find_here {l : List Bl} {leb : Int} {k : Nat} {x : Bl} (h : l[k]? = some x) (hn : ∀ y ∈ sel 4 0 (l.take k), y.2.leb ≠ leb) (h1 : x.st = 4) (h2 : x.leb = leb) : findI l leb = k := by
  unfold findI
  rw [sel_split (k + 1), sel_upto h, if_pos h1, List.append_assoc]
  exact firstL_snoc (x := (k, x)) h2 _ hn
set_option maxHeartbeats 4000000 in
theorem rfind_any (a : Option Addr) (m cap : Nat) (l : List Bl) (leb : Int) (w : World) (hm : m = l.length) (hl : m ≤ 281474976710656) (hr : LRow w a l) :
    Calls Tryz.prog 20 #[.slice a m cap, .int .i64 leb] w fun e w' => e = .returned (.int .i64 (findI l leb)) ∧ w = w' := by
  have HM : Hid (m = l.length) := hm
  have HR : Hid (LRow w a l) := hr
  clear hm hr
  go_enter Tryz.func20, Tryz.ntmps20
  go_wp2
  go_loop [5] (fun i => ∃ k : Nat, i = .int .i64 (k : Int) ∧ k ≤ m ∧ Hid (∀ y ∈ sel 4 0 (l.take k), y.2.leb ≠ leb)) (fun i => m - (intOf i).toNat)
  case atStart => exact ⟨0, rfl, by omega, fun y hy => by simp [sel] at hy⟩
  case round =>
    obtain ⟨k, rfl, hk, HN⟩ := hrel
    by_cases hlt : k < m
    · have hkl : k < l.length := by have := HM.out; omega
      obtain ⟨x, hx⟩ : ∃ x, l[k]? = some x := ⟨_, List.getElem?_eq_getElem hkl⟩
      obtain ⟨b, off, rfl, hc⟩ : ∃ b off, a = some ⟨b, off, none⟩ ∧ ∀ i x, l[i]? = some x → BlAt w b (off + i * 6) x := by
        rcases HR.out with e | h
        · subst e; simp at hkl
        · exact h
      obtain ⟨g0, g1, g2, g3, g4, g5⟩ := hc k x hx
      have HX : Hid (l[k]? = some x) := hx
      clear hx hc
      by_cases h1 : x.st = 4
      · have e1 : (x.st == 4) = true := by simp [h1]
        by_cases h2 : x.leb = leb
        · have e2 : (x.leb == leb) = true := by simp [h2]
          have HE : Hid (findI l leb = k) := find_here HX.out HN.out h1 h2
          clear h1 h2
          go_wp2
          go_ret
          exact ⟨by rw [HE.out]; rfl, rfl⟩
        · have e2 : (x.leb == leb) = false := by simp [h2]
          have HS : Hid (∀ y ∈ sel 4 0 (l.take (k + 1)), y.2.leb ≠ leb) := find_skip HX.out HN.out (fun h => h2 h.2)
          clear h1 h2
          go_wp2
          go_round
          case rel => exact ⟨k + 1, by go_num, by omega, HS⟩
          case measure => simp [intOf]; omega
      · have e1 : (x.st == 4) = false := by simp [h1]
        have HS : Hid (∀ y ∈ sel 4 0 (l.take (k + 1)), y.2.leb ≠ leb) := find_skip HX.out HN.out (fun h => h1 h.1)
        clear h1
        go_wp2
        go_round
        case rel => exact ⟨k + 1, by go_num, by omega, HS⟩
        case measure => simp [intOf]; omega
    · have hkm : k = m := by omega
      subst hkm
      go_wp2
      go_ret
      have h1 := HN.out
      rw [List.take_of_length_le (by rw [← HM.out]; exact Nat.le_refl _)] at h1
      have : findI l leb = -1 := by unfold findI; exact firstL_none h1
      exact ⟨by rw [this]; rfl, rfl⟩
set_option maxHeartbeats 4000000 in
theorem rgood_any (a : Option Addr) (m cap : Nat) (l : List Bl) (w : World) (hm : m = l.length) (hl : m ≤ 281474976710656) (hr : LRow w a l) :
    Calls Tryz.prog 24 #[.slice a m cap] w fun e w' => e = .returned (.int .i64 (goodI l)) ∧ w = w' := by
  have HM : Hid (m = l.length) := hm
  have HR : Hid (LRow w a l) := hr
  clear hm hr
  go_enter Tryz.func24, Tryz.ntmps24
  go_wp2
  go_loop [3, 4] (fun s i => ∃ k q : Nat, i = .int .i64 (k : Int) ∧ k ≤ m ∧ s = .int .i64 (q : Int) ∧ q ≤ k ∧ Hid (q + (sel 1 0 (l.take k)).length = k)) (fun _ i => m - (intOf i).toNat)
  case atStart => exact ⟨0, 0, rfl, by omega, rfl, by omega, by show _ = _; simp [sel]⟩
  case round =>
    obtain ⟨k, q, rfl, hk, rfl, hq, HQ⟩ := hrel
    by_cases hlt : k < m
    · have hkl : k < l.length := by have := HM.out; omega
      obtain ⟨x, hx⟩ : ∃ x, l[k]? = some x := ⟨_, List.getElem?_eq_getElem hkl⟩
      obtain ⟨b, off, rfl, hc⟩ : ∃ b off, a = some ⟨b, off, none⟩ ∧ ∀ i x, l[i]? = some x → BlAt w b (off + i * 6) x := by
        rcases HR.out with e | h
        · subst e; simp at hkl
        · exact h
      obtain ⟨g0, g1, g2, g3, g4, g5⟩ := hc k x hx
      have HX : Hid (l[k]? = some x) := hx
      clear hx hc
      by_cases h1 : x.st = 1
      · have e1 : (x.st != 1) = false := by simp [h1]
        have HS : Hid (q + (sel 1 0 (l.take (k + 1))).length = k + 1) := by show _ = _; rw [sel_upto HX.out, if_pos h1]; have := HQ.out; simp; omega
        clear h1
        go_wp2
        go_round
        case rel => exact ⟨k + 1, q, by go_num, by omega, rfl, by omega, HS⟩
        case measure => simp [intOf]; omega
      · have e1 : (x.st != 1) = true := by simp [h1]
        have HS : Hid ((q + 1) + (sel 1 0 (l.take (k + 1))).length = k + 1) := by show _ = _; rw [sel_upto HX.out, if_neg h1]; have := HQ.out; simp; omega
        clear h1
        go_wp2
        go_round
        case rel => exact ⟨k + 1, q + 1, by go_num, by omega, by go_num, by omega, HS⟩
        case measure => simp [intOf]; omega
    · have hkm : k = m := by omega
      subst hkm
      go_wp2
      go_ret
      have h1 := HQ.out
      rw [List.take_of_length_le (by rw [← HM.out]; exact Nat.le_refl _)] at h1
      have : goodI l = q := by unfold goodI; rw [← HM.out]; omega
      exact ⟨by rw [this]; rfl, rfl⟩
end Go.Proofs.YteoakhfofnocfaaGreatDoor
namespace Go.Proofs.YteoakhfofnocfaaGreatDoor
open Go.RowKit
set_option maxRecDepth 10000

theorem least_at {l : List Bl} {k : Nat} {z : Nat × Bl} (h : leastO (sel 2 0 (l.take k)) = some z) : l[z.1]? = some z.2 ∧ z.1 < l.length := by
  rcases leastO_mem _ _ _ h with h | h
  · obtain ⟨_, h2, _⟩ := sel_fst (l.take k) 0 z h
    simp only [Nat.sub_zero] at h2
    have h3 : l[z.1]? = some z.2 := by
      rw [List.getElem?_take] at h2
      split at h2
      · exact h2
      · cases h2
    exact ⟨h3, (List.getElem?_eq_some_iff.1 h3).1⟩
  · cases h
set_option maxHeartbeats 4000000 in
theorem rleast_any (a : Option Addr) (m cap : Nat) (l : List Bl) (w : World) (hm : m = l.length) (hl : m ≤ 281474976710656) (hr : LRow w a l) :
    Calls Tryz.prog 22 #[.slice a m cap] w fun e w' => e = .returned (.int .i64 (leastI l)) ∧ Below w.heap.size w w' := by
  have HM : Hid (m = l.length) := hm
  have HR : Hid (LRow w a l) := hr
  clear hm hr
  go_enter Tryz.func22, Tryz.ntmps22
  go_wp2
  go_loopw [3, 4] (fun s i wr => ∃ k q : Nat, i = .int .i64 (k : Int) ∧ k ≤ m ∧ s = .int .i64 (numO (leastO (sel 2 0 (l.take k)))) ∧ wr = w.drewN q) (fun _ i _ => m - (intOf i).toNat)
  case atStart => exact ⟨0, 0, rfl, by omega, rfl, rfl⟩
  case round =>
    obtain ⟨k, q, rfl, hk, rfl, rfl⟩ := hrel
    obtain ⟨o, ho⟩ : ∃ o, o = leastO (sel 2 0 (l.take k)) := ⟨_, rfl⟩
    rw [← ho]
    by_cases hlt : k < m
    · have hkl : k < l.length := by have := HM.out; omega
      obtain ⟨x, hx⟩ : ∃ x, l[k]? = some x := ⟨_, List.getElem?_eq_getElem hkl⟩
      obtain ⟨b, off, rfl, hc⟩ : ∃ b off, a = some ⟨b, off, none⟩ ∧ ∀ i x, l[i]? = some x → BlAt w b (off + i * 6) x := by
        rcases HR.out with e | h
        · subst e; simp at hkl
        · exact h
      have HT : Hid (leastO (sel 2 0 (l.take (k + 1))) = if x.st = 2 then lessO o (k, x) else o) := by
        show _ = _
        rw [sel_upto hx, ho]
        split
        · rw [leastO_snoc]
        · rw [List.append_nil]
      obtain ⟨g0, g1, g2, g3, g4, g5⟩ := hc k x hx
      have hzz : ∀ z, o = some z → w.cell? ⟨b, off + z.1 * 6 + 1, none⟩ = some (.int .i64 z.2.cnt) ∧ z.1 < m := fun z hz => by
        obtain ⟨h1, h2⟩ := least_at (ho.symm.trans hz)
        exact ⟨(hc z.1 z.2 h1).c1, by rw [HM.out]; exact h2⟩
      clear hx hc ho
      by_cases h1 : x.st = 2
      · have e1 : (x.st == 2) = true := by simp [h1]
        have HT2 : Hid (leastO (sel 2 0 (l.take (k + 1))) = lessO o (k, x)) := by show _ = _; rw [HT.out, if_pos h1]
        clear h1 HT
        cases o with
        | none =>
          rw [show numO none = -1 from rfl]
          have HT3 : Hid (numO (leastO (sel 2 0 (l.take (k + 1)))) = (k : Int)) := by show _ = _; rw [HT2.out]; rfl
          clear hzz HT2
          go_wp2
          go_quiet (fail)
          go_wp2
          go_roundw
          case rel => exact ⟨k + 1, _, by go_num, by omega, by rw [HT3.out], rfl⟩
          case measure => simp [intOf]; omega
        | some z =>
          obtain ⟨q1, q2⟩ := hzz z rfl
          rw [show numO (some z) = (z.1 : Int) from rfl]
          have HTy : Hid (z.2.cnt > x.cnt → numO (leastO (sel 2 0 (l.take (k + 1)))) = (k : Int)) := fun h => by rw [HT2.out]; show numO (if x.cnt < z.2.cnt then _ else _) = _; rw [if_pos h]; rfl
          have HTn : Hid (¬ z.2.cnt > x.cnt → numO (leastO (sel 2 0 (l.take (k + 1)))) = (z.1 : Int)) := fun h => by rw [HT2.out]; show numO (if x.cnt < z.2.cnt then _ else _) = _; rw [if_neg h]; rfl
          obtain ⟨zi, hzi⟩ : ∃ zi, zi = z.1 := ⟨_, rfl⟩
          obtain ⟨zc, hzc⟩ : ∃ zc, zc = z.2.cnt := ⟨_, rfl⟩
          rw [← hzi] at q1 q2 HTn ⊢
          rw [← hzc] at q1 HTy HTn
          have n0 : ¬ (zi : Int) < 0 := by omega
          have n1 : (zi : Int) < (m : Int) := by omega
          clear hzz HT2 hzi hzc
          by_cases hlt2 : x.cnt < zc
          · go_wp2
            go_quiet (fail)
            go_wp2
            go_roundw
            case rel => exact ⟨k + 1, _, by go_num, by omega, by rw [HTy.out hlt2], rfl⟩
            case measure => simp [intOf]; omega
          · go_wp2
            go_quiet (fail)
            go_wp2
            go_roundw
            case rel => exact ⟨k + 1, _, by go_num, by omega, by rw [HTn.out hlt2], rfl⟩
            case measure => simp [intOf]; omega
      · have e1 : (x.st == 2) = false := by simp [h1]
        have HT2 : Hid (leastO (sel 2 0 (l.take (k + 1))) = o) := by show _ = _; rw [HT.out, if_neg h1]
        clear h1 HT hzz
        go_wp2
        go_quiet (fail)
        go_wp2
        go_roundw
        case rel => exact ⟨k + 1, _, by go_num, by omega, by rw [HT2.out], rfl⟩
        case measure => simp [intOf]; omega
    · have hkm : k = m := by omega
      subst hkm
      have HE : Hid (o = leastO (sel 2 0 l)) := by
        show _ = _
        rw [ho, List.take_of_length_le (by rw [← HM.out]; exact Nat.le_refl _)]
      clear ho
      go_wp2
      go_ret
      exact ⟨by unfold leastI; rw [← HE.out]; rfl, below_drawn w q⟩
end Go.Proofs.YteoakhfofnocfaaGreatDoor
namespace Go.Proofs.YteoakhfofnocfaaGreatDoor
open Go.ChangeShapes Go.WideShapes Go.ChangeAt Go.RowKit Go.Deep

theorem add_plain2 (b off i : Nat) : (⟨b, off, none⟩ : Addr).add i = ⟨b, off + i, none⟩ := by unfold Addr.add; split <;> simp_all
/-- The slice's elements are the blocks l. -/
structure LArg (w : World) (a : Option Addr) (len cap : Nat) (l : List Bl) : Prop where
  len_eq : len = l.length
  le : len ≤ cap
  max : cap ≤ maxLen
  row : LRow w a l
set_option maxRecDepth 100000 in
theorem larg_open {H : Type} {enc : TypeId × Value → H} {w : World} {a : Option Addr} {len cap fuel : Nat} {x : DataW H × List MemPlace}
    (hf : DataW.trod enc Tryz.prog w 0 (fun _ => true) true fuel 43 [.slice a len cap] = some x) : ∃ l, LArg w a len cap l ∧ (cap = 0 ∨ ∃ elems spare, x.1 = .slice elems spare ∧ elems.length + spare.length = cap) := by
  rcases open_slice Tryz.underlying43 hf with ⟨hcs, _⟩ | ⟨ad, len', cap', m, n, D, Pl, hcs, hx1, hl, hm, hmm, hx2, hx⟩
  · simp at hcs
    obtain ⟨rfl, rfl, rfl⟩ := hcs
    exact ⟨[], ⟨rfl, Nat.le_refl _, by decide, .inl rfl⟩, .inl rfl⟩
  · simp at hcs
    obtain ⟨rfl, rfl, rfl⟩ := hcs
    have hmm' : m = cap := by simpa using hmm
    subst hmm'
    have each : ∀ i, ∃ f : Bl, i < len → w.cell? (ad.add (i * 6)) = some (.int .i64 f.st) ∧ w.cell? (ad.add (i * 6 + 1)) = some (.int .i64 f.cnt) ∧ w.cell? (ad.add (i * 6 + 2)) = some (.int .i64 f.leb) ∧ w.cell? (ad.add (i * 6 + 3)) = some (.int .i64 f.used) ∧ w.cell? (ad.add (i * 6 + 4)) = some (.int .u64 f.seq) ∧ w.cell? (ad.add (i * 6 + 5)) = some (.bool f.closed) := by
      intro i
      by_cases hi : i < len
      · obtain ⟨cs', h1, h2⟩ := hx i (by omega)
        rw [show Tryz.prog.cellsOf 102 = 6 by kernel_rfl] at h1
        obtain ⟨_, hlen, hcell⟩ := World.cells?_some h1
        obtain ⟨xs, k, hk, hxy, _, hxl, hff⟩ := DataW.trod_struct Tryz.underlying102 h2
        match xs, hxl, cs', hlen with
        | [y0, y1, y2, y3, y4, y5], _, [v0, v1, v2, v3, v4, v5], _ =>
          have g0 := hff 0 _ rfl
          have g1 := hff 1 _ rfl
          have g2 := hff 2 _ rfl
          have g3 := hff 3 _ rfl
          have g4 := hff 4 _ rfl
          have g5 := hff 5 _ rfl
          have ci : Tryz.prog.cellsOf 3 = 1 := by kernel_rfl
          have cu : Tryz.prog.cellsOf 55 = 1 := by kernel_rfl
          have cb : Tryz.prog.cellsOf 4 = 1 := by kernel_rfl
          simp [ci, cu, cb] at g0 g1 g2 g3 g4 g5
          obtain ⟨z0, e0, _, _⟩ := DataW.trod_int Tryz.underlying3 g0
          obtain ⟨z1, e1, _, _⟩ := DataW.trod_int Tryz.underlying3 g1
          obtain ⟨z2, e2, _, _⟩ := DataW.trod_int Tryz.underlying3 g2
          obtain ⟨z3, e3, _, _⟩ := DataW.trod_int Tryz.underlying3 g3
          obtain ⟨z4, e4, _, _⟩ := DataW.trod_int Tryz.underlying55 g4
          obtain ⟨z5, e5, _⟩ := DataW.trod_bool Tryz.underlying4 g5
          have c0 := hcell 0 (by omega)
          have c1 := hcell 1 (by omega)
          have c2 := hcell 2 (by omega)
          have c3 := hcell 3 (by omega)
          have c4 := hcell 4 (by omega)
          have c5 := hcell 5 (by omega)
          rw [add_add] at c0 c1 c2 c3 c4 c5
          simp at e0 e1 e2 e3 e4 e5
          subst e0 e1 e2 e3 e4 e5
          exact ⟨⟨z0, z1, z2, z3, z4, z5⟩, fun _ => ⟨by simpa using c0, by simpa using c1, by simpa using c2, by simpa using c3, by simpa using c4, by simpa using c5⟩⟩
      · exact ⟨⟨0, 0, 0, 0, 0, false⟩, fun h => absurd h hi⟩
    obtain ⟨F, hF⟩ := Classical.axiomOfChoice each
    refine ⟨(List.range len).map F, ⟨by simp, hl, hm, ?_⟩, ?_⟩
    · by_cases h0 : len = 0
      · exact .inl (by simp [h0])
      · obtain ⟨b, off, spot⟩ := ad
        have hspot : spot = none := by
          have := World.cell?_spot (hF 0 (by omega)).1
          simpa [Addr.add] using this
        subst hspot
        refine .inr ⟨b, off, rfl, fun i f hf => ?_⟩
        have hil : i < len := by
          have := (List.getElem?_eq_some_iff.1 hf).1
          simpa using this
        have hfi : F i = f := by simpa [hil] using hf
        have := hF i hil
        rw [hfi, add_plain2, add_plain2, add_plain2, add_plain2, add_plain2, add_plain2] at this
        obtain ⟨t0, t1, t2, t3, t4, t5⟩ := this
        exact ⟨t0, t1, t2, t3, t4, t5⟩
    · exact .inr ⟨_, _, by rw [hx2], by simp; omega⟩
theorem bytesRB : Tryz.prog.bytesOf 102 = 48 := by kernel_rfl
end Go.Proofs.YteoakhfofnocfaaGreatDoor
