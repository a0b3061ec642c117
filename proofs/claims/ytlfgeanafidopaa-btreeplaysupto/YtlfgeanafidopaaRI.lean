/-
  The document's levels: the walk.
-/
import Derived.Test.YtlfgeanafidopaaRH
import Derived.Deep.RegionLaw
namespace Go.Proofs.Ytlfgeanafidopaa.Bt
open Go.RowKit Go.Shelf
set_option maxRecDepth 10000

theorem row2 (W0 : World) (o : Obj) (u : Value) : ((W0.alloc o).alloc (.cells #[u] 42)).cell? ⟨W0.heap.size + 1, 0, none⟩ = some u := by
  have := Row.new (W0.alloc o) [u] 42
  rw [World.size_alloc] at this
  exact this.cell (i := 0) rfl
theorem size2 (W0 : World) (o o2 : Obj) (b : Nat) (h : b ≤ W0.heap.size) : b ≤ ((W0.alloc o).alloc o2).heap.size := by
  rw [World.size_alloc, World.size_alloc]; omega
set_option maxHeartbeats 8000000 in
theorem levels_any {w0 w : World} {a : Option Addr} {n c : Nat} {S : List Shc} (h : RSh w0 w (.slice a n c) S) {top : Nat} {RR : List (List Shc)} (hF : Fall S top RR) (hl : S.length ≤ 100000000) :
    Calls Try.prog 39 #[.slice a n c] w fun e w' => ∃ G cap, e = .returned (.tuple #[.slice (some ⟨G, 0, none⟩) RR.length cap, .bool true]) ∧ LvAt w' G cap RR ∧ Below w.heap.size w w' := by
  have hn : n = S.length := by
    rcases h.own.2 with ⟨e, e0⟩ | ⟨g, cap, cur, e, _⟩
    · cases e; exact e0.symm
    · cases e; rfl
  obtain ⟨i0, hinf, hz0, hz1, hz2⟩ := info_parts infoRSh
  have HC : Hid (∀ (i : Nat) (s : Shc), S[i]? = some s → ∃ g, a = some ⟨g, 0, none⟩ ∧ ∀ X, Below w.heap.size w X → X.cell? ⟨g, i * 3, none⟩ = some (.int .i64 (s.s.lv : Int)) ∧ X.cell? ⟨g, i * 3 + 1, none⟩ = some (.slice (some ⟨s.B, 0, none⟩) s.s.ks.length s.s.ks.length) ∧ X.cell? ⟨g, i * 3 + 2, none⟩ = some (.bool s.s.d)) := fun i s hs => by
    obtain ⟨g, e, hr⟩ := h.cells hs
    exact ⟨g, e, fun X hX => (hr.later hX).cells hs⟩
  have HL : Hid (∀ i, i < S.length → ∃ s, S[i]? = some s) := fun i hi => ⟨_, List.getElem?_eq_getElem hi⟩
  have HF : Hid (Fall S top RR) := hF
  have HN : Hid (n = S.length) := hn
  rw [← hn] at HL hl
  clear h hn hF
  go_enter Try.func39, Try.ntmps39
  go_wp2
  go_loopg [4, 5] n (fun kx s4 s5 wr => ∃ (i : Nat) (a4 : Option Addr) (n4 c4 : Nat), i + kx = n ∧ s4 = .slice a4 n4 c4 ∧ s5 = .int .i64 (i : Nat) ∧ Hid (LvI w S RR i (.slice a4 n4 c4) wr))
  case atStart => exact ⟨0, none, 0, 0, by omega, rfl, rfl, (.inl ⟨rfl, rfl, rfl⟩ : LvI w S RR 0 (.slice none 0 0) w)⟩
  case round =>
    obtain ⟨i, a4, n4, c4, hi, rfl, rfl, I⟩ := hrel
    by_cases hlt : i < n
    · obtain ⟨s, hs⟩ := HL.out i hlt
      obtain ⟨g, rfl, hcs⟩ := HC.out i s hs
      have HQ : Hid (∀ X, Below w.heap.size w X → X.cell? ⟨g, i * 3, none⟩ = some (.int .i64 (s.s.lv : Int)) ∧ X.cell? ⟨g, i * 3 + 1, none⟩ = some (.slice (some ⟨s.B, 0, none⟩) s.s.ks.length s.s.ks.length) ∧ X.cell? ⟨g, i * 3 + 2, none⟩ = some (.bool s.s.d)) := hcs
      have HS : Hid (S[i]? = some s) := hs
      have hi1 : (i : Int) < (n : Int) := by omega
      rcases I.out with ⟨rfl, ev, rfl⟩ | ⟨j, m, rf, ps, G, cap, b, c5, Bb, ev, hrf, hm, hml, hd, hLS⟩
      · obtain ⟨q0, q1, q2⟩ := hcs wr (Below.refl _ _)
        cases ev
        have HSt : Hid (∀ k G' cap' W', W'.ownsRow wr.heap.size 42 1 (.slice (some ⟨G', 0, none⟩) 1 cap') 1 [.slice (some ⟨wr.heap.size, 0, none⟩) 1 1] → (((wr.drewN k).alloc (.cells #[.int .i64 (s.s.lv : Int), .slice (some ⟨s.B, 0, none⟩) s.s.ks.length s.s.ks.length, .bool s.s.d] 86)).alloc (.cells #[.slice (some ⟨wr.heap.size, 0, none⟩) 1 1] 42)).grownBy W' none → LvI wr S RR 1 (.slice (some ⟨G', 0, none⟩) 1 cap') W') := fun k G' cap' W' ho hg =>
          LvI.start HF.out HS.out (LvS.first (bafter (bafter (below_drawn wr k) (below_new (wr.drewN k) _)) (below_new _ _)) (Nat.le_refl _) (own_lat (sh_row (wr.drewN k) s) (below_new _ _)) ho hg)
        clear hs hcs I
        go_wp2
        go_quiet (fail)
        go_wp2
        go_quiet (fail)
        go_wp2_with (at_builtin; refine wpList_append_row rfl (.tmp 66) (.tmp 72) rfl wr.heap.size (.slice none 0 0) 0 [] rfl (World.ownsRow_nil _ _ _ 1) (wr.heap.size + 1) (.slice (some ⟨wr.heap.size, 0, none⟩) 1 1) rfl (row2 _ _ _) rfl (by omega) (size2 _ _ _ wr.heap.size (Nat.le_refl _)) ?_; intro v' W' ho hg; obtain ⟨G', cap', ev'⟩ := ownsRow_succ ho; subst ev'; have HI1 : Hid (LvI wr S RR 1 (.slice (some ⟨G', 0, none⟩) 1 cap') W') := HSt.out _ G' cap' W' ho hg; clear ho hg)
        go_roundg (n - (0 + 1))
        case measure => omega
        case rel => exact ⟨0 + 1, _, 1, cap', by omega, rfl, by go_num, HI1.out⟩
      · obtain ⟨q0, q1, q2⟩ := hcs wr hLS.below
        obtain ⟨s0, hs0, hcase⟩ := Fall.next HF.out hrf hm hml hd HS.out
        obtain ⟨o1, o2, o3, o4⟩ := hLS.at_last
        have o5 := hLS.head hs0
        obtain ⟨RL, hRL⟩ : ∃ RL, RL = (RR.take j).length := ⟨_, rfl⟩
        have hn4 : n4 = RL + 1 := by cases ev; rw [hRL]
        have ea4 : a4 = some ⟨G, 0, none⟩ := by cases ev; rfl
        have ec4 : c4 = cap := by cases ev; rfl
        subst ea4 ec4
        clear ev
        have hml2 : (rf.take m).length = m := by rw [List.length_take, Nat.min_eq_left hml]
        rw [← hRL] at o1 o2 o3
        rw [hml2] at o1
        have hRLb : RL ≤ 100000000 := by
          have e1 := HF.out.rows_le
          have e2 := HN.out
          rw [hRL, List.length_take]
          omega
        have hmb : m ≤ 100000000 := by
          have e1 := HF.out.row_le hrf
          have e2 := HN.out
          omega
        have hjw : IntKind.i64.wrap ((n4 : Int) - 1) = (RL : Int) := by rw [IntKind.wrap_i64, hn4]; omega
        have r1 : (RL : Int) < (n4 : Int) := by omega
        have r2 : (0 : Int) ≤ (RL : Int) := by omega
        have r3 : ¬ (RL : Int) < 0 := by omega
        have r4 : (0 : Int) < (m : Int) := by omega
        have HBw : Hid (Below w.heap.size w wr) := hLS.below
        have HLS : Hid (LvS w (RR.take j) ps (rf.take m) G c4 b c5 Bb wr) := hLS
        have HRL : Hid (RL = (RR.take j).length) := hRL
        have HN4 : Hid (n4 = RL + 1) := hn4
        have HRF : Hid (RR[j]? = some rf) := hrf
        have HMl : Hid ((rf.take m).length = m ∧ 1 ≤ m ∧ m ≤ rf.length) := ⟨hml2, hm, hml⟩
        obtain ⟨LV, hLV⟩ : ∃ LV, LV = (s.s.lv : Int) := ⟨_, rfl⟩
        obtain ⟨KN, hKN⟩ : ∃ KN, KN = s.s.ks.length := ⟨_, rfl⟩
        have HSV : Hid (shcv s = [.int .i64 LV, .slice (some ⟨s.B, 0, none⟩) KN KN, .bool s.s.d]) := by show shcv s = _; rw [hLV, hKN]; rfl
        rcases hcase with ⟨hlt2, htk, hlv, hdn⟩ | ⟨r', hr', htk, hr1, hr2, hlv, hdn⟩
        · have HPush : Hid (∀ X, Below wr.heap.size wr X → ∀ b2 c2 W', W'.ownsRow Bb 86 3 (.slice (some ⟨b2, 0, none⟩) (m + 1) c2) (m + 1) ((rf.take m).flatMap shcv ++ shcv s) → X.grownBy W' (Value.slice (some ⟨b, 0, none⟩) m c5).ownBlock → W'.cell? ⟨G, RL, none⟩ = some (.slice (some ⟨b, 0, none⟩) m c5) ∧ W'.frozen? ⟨G, RL, none⟩ = false ∧ LvI w S RR (i + 1) (.slice (some ⟨G, 0, none⟩) n4 c4) (W'.setCell ⟨G, RL, none⟩ (.slice (some ⟨b2, 0, none⟩) (m + 1) c2))) := fun X hX b2 c2 W' ho hg => by
            have hp := HLS.out.push hX (s := s) (b2 := b2) (c2 := c2) (by rw [HMl.out.1]; exact ho) (by rw [HMl.out.1]; exact hg)
            rw [HMl.out.1, ← HRL.out] at hp
            refine ⟨hp.1, hp.2.1, .inr ⟨j, m + 1, rf, ps, G, c4, b2, c2, Bb, by rw [← HRL.out, HN4.out], HRF.out, by omega, by omega, hdn, ?_⟩⟩
            rw [htk]
            exact hp.2.2
          rw [← hlv, ← hLV] at o5
          rw [← hLV] at q0
          rw [← hKN] at q1
          have g0 := World.new_ne wr _ q0
          have HV : Hid (∀ X, Below w.heap.size w X → X.cell? ⟨g, i * 3, none⟩ = some (.int .i64 LV) ∧ X.cell? ⟨g, i * 3 + 1, none⟩ = some (.slice (some ⟨s.B, 0, none⟩) KN KN) ∧ X.cell? ⟨g, i * 3 + 2, none⟩ = some (.bool s.s.d)) := by rw [hLV, hKN]; exact HQ.out
          have HBel : Hid (∀ X W', Below wr.heap.size wr X → X.grownBy W' (Value.slice (some ⟨b, 0, none⟩) m c5).ownBlock → Below w.heap.size w W') := fun X W' hX hg => by
            have hb := bafter HBw.out hX
            refine hb.grown hg hb.size (fun k ek => Nat.le_trans HLS.out.base (HLS.out.last.lt k ?_).1)
            rw [← ek]
            unfold rowV
            rfl
          have HOwn : Hid (wr.ownsRow Bb 86 3 (.slice (some ⟨b, 0, none⟩) m c5) m ((rf.take m).flatMap shcv)) := by
            have := hLS.last
            rw [hml2] at this
            unfold rowV at this
            rw [hml2] at this
            exact this
          clear hs hcs I hrf hd hLS hs0 hRL hn4 hml2 hLV hKN htk hlv hdn hml
          go_wp2
          go_quiet (fail)
          go_wp2
          rename_i nq
          have k0 := HV.out (wr.drewN nq) (bafter HBw.out (below_drawn wr nq))
          obtain ⟨k1, k2, k3⟩ := k0
          have k4 : (wr.drewN nq).cell? ⟨G, RL, none⟩ = some (.slice (some ⟨b, 0, none⟩) m c5) := o1
          have k5 : (wr.drewN nq).frozen? ⟨G, RL, none⟩ = false := o2
          obtain ⟨Wq, hWq⟩ : ∃ Wq, Wq = wr.drewN nq := ⟨_, rfl⟩
          have HBq : Hid (Below wr.heap.size wr Wq) := by rw [hWq]; exact below_drawn wr nq
          have HOq : Hid (Wq.ownsRow Bb 86 3 (.slice (some ⟨b, 0, none⟩) m c5) m ((rf.take m).flatMap shcv)) := by
            show Wq.ownsRow _ _ _ _ _ _
            rw [hWq]; exact own_lat HOwn.out (below_drawn wr nq)
          rw [← hWq] at k1 k2 k3 k4 k5 ⊢
          clear hWq
          have g1 := World.new_ne Wq _ k1
          have g4 := World.new_ne Wq _ k4
          have l4 := World.block_lt_of_cell? Wq _ k4
          have lg := World.block_lt_of_cell? Wq _ k1
          have HBb : Hid (Bb ≤ Wq.heap.size + 1) := by
            show Bb ≤ _
            have e1 := HOq.out.lt b rfl
            omega
          go_region_law
            ((refine step_append_lies _ (by rfl) _ _ _ (by rfl) Bb 86 i0 _ 3 40 Try.underlying42 hinf hz0 hz1 hz2 rfl (by omega) (.slice (some ⟨b, 0, none⟩) m c5) m _ (by rfl) ((HOq.out.alloc _).drew) ⟨Wq.heap.size, 0, none⟩ 1 1 [.int .i64 LV, .slice (some ⟨s.B, 0, none⟩) KN KN, .bool s.s.d] (by rfl) (by rfl) (World.news_of_block (cs := #[.int .i64 LV, .slice (some ⟨s.B, 0, none⟩) KN KN, .bool s.s.d]) (t := 86) (fr := (0, 0)) (heap_alloc_new Wq _)) (by simp [Value.oneCell']) (by omega) (by unfold maxLen; omega) (by omega) (by simpa using HBb.out) (Wq.heap.size + 1) (by simp) ?_; intro gg cap9 w1 hown1 hgrow hat hlt2; obtain ⟨p1, p2, p3⟩ := HPush.out _ (bafter HBq.out (Below.drew (below_new Wq _))) gg cap9 w1 (by rw [HSV.out]; exact hown1) hgrow; have HI1 : Hid (LvI w S RR (i + 1) (.slice (some ⟨G, 0, none⟩) n4 c4) (w1.setCell ⟨G, RL, none⟩ (.slice (some ⟨gg, 0, none⟩) (m + 1) cap9))) := p3; obtain ⟨v1, v2, v3⟩ := HV.out w1 (HBel.out _ w1 (bafter HBq.out (Below.drew (below_new Wq _))) hgrow); clear p3 hown1))
          go_wp2
          iterate 3
            go_roundg (n - (i + 1))
            case measure => omega
            case rel => exact ⟨i + 1, _, n4, c4, by omega, rfl, by go_num, HI1.out⟩
        · obtain ⟨LV0, hLV0⟩ : ∃ LV0, LV0 = (s0.s.lv : Int) := ⟨_, rfl⟩
          obtain ⟨VS, hVS⟩ : ∃ VS, VS = (List.zipWith rowV ps (RR.take j)) ++ [rowV (b, c5) (rf.take m)] := ⟨_, rfl⟩
          have hb0 : s0.s.lv ≤ 100000000 := by
            have e1 := (HF.out.lv j rf hrf).2 s0 (List.mem_of_mem_take (List.mem_of_getElem? hs0))
            have e2 := HF.out.len
            have e3 := HF.out.rows_le
            have e4 := HN.out
            omega
          have hc1 : ¬ LV = LV0 := by omega
          have hc2 : IntKind.i64.wrap (LV0 - 1) = LV := by rw [IntKind.wrap_i64]; omega
          have hn4b : n4 ≤ 1000000000 := by omega
          have HRow : Hid (∀ k G' cap' W', W'.ownsRow w.heap.size 42 1 (.slice (some ⟨G', 0, none⟩) (n4 + 1) cap') (n4 + 1) (VS ++ [.slice (some ⟨wr.heap.size, 0, none⟩) 1 1]) → (((wr.drewN k).alloc (.cells #[.int .i64 LV, .slice (some ⟨s.B, 0, none⟩) KN KN, .bool s.s.d] 86)).alloc (.cells #[.slice (some ⟨wr.heap.size, 0, none⟩) 1 1] 42)).grownBy W' (Value.slice (some ⟨G, 0, none⟩) n4 c4).ownBlock → LvI w S RR (i + 1) (.slice (some ⟨G', 0, none⟩) (n4 + 1) cap') W') := fun k G' cap' W' ho hg => by
            have en : n4 = (RR.take j).length + 1 := by rw [HN4.out, HRL.out]
            rw [en, hVS] at ho
            rw [en, hLV, hKN] at hg
            rw [en]
            exact LvI.row HRF.out hr' htk hr1 hr2 hdn HLS.out (bafter (bafter (below_drawn wr k) (below_new (wr.drewN k) _)) (below_new _ _)) (Nat.le_refl _) (own_lat (sh_row (wr.drewN k) s) (below_new _ _)) ho hg
          have HOut : Hid (∀ k, (((wr.drewN k).alloc (.cells #[.int .i64 LV, .slice (some ⟨s.B, 0, none⟩) KN KN, .bool s.s.d] 86)).alloc (.cells #[.slice (some ⟨wr.heap.size, 0, none⟩) 1 1] 42)).ownsRow w.heap.size 42 1 (.slice (some ⟨G, 0, none⟩) n4 c4) n4 VS) := fun k => by
            have en : n4 = (RR.take j).length + 1 := by rw [HN4.out, HRL.out]
            rw [en, hVS]
            exact own_lat HLS.out.outer (bafter (bafter (below_drawn wr k) (below_new (wr.drewN k) _)) (below_new _ _))
          have HSz : Hid (w.heap.size ≤ wr.heap.size) := HBw.out.size
          rw [← hLV0] at o5
          rw [← hLV] at q0
          rw [← hKN] at q1
          clear hs hcs I hrf hd hLS hs0 hRL hn4 hml2 hLV hKN htk hlv hdn hml hLV0 hVS hb0 hr' hr1 hr2
          go_wp2
          go_quiet (fail)
          go_wp2
          have r7 : ¬ (RL : Int) < 0 := by omega
          have k1 : (wr.drewN nq).cell? ⟨g, i * 3, none⟩ = some (.int .i64 LV) := q0
          have k4 : (wr.drewN nq).cell? ⟨G, RL, none⟩ = some (.slice (some ⟨b, 0, none⟩) m c5) := o1
          have k6 : (wr.drewN nq).cell? ⟨b, 0, none⟩ = some (.int .i64 LV0) := o5
          have r6 : 0 < m := by omega
          go_quiet (fail)
          go_wp2_with (at_builtin; refine wpList_append_row rfl (.tmp 66) (.tmp 72) rfl w.heap.size (.slice (some ⟨G, 0, none⟩) n4 c4) n4 VS rfl (HOut.out _) (wr.heap.size + 1) (.slice (some ⟨wr.heap.size, 0, none⟩) 1 1) rfl (row2 _ _ _) rfl hn4b (size2 _ _ _ w.heap.size HSz.out) ?_; intro v' W' ho hg; obtain ⟨G', cap', ev'⟩ := ownsRow_succ ho; subst ev'; have HI1 : Hid (LvI w S RR (i + 1) (.slice (some ⟨G', 0, none⟩) (n4 + 1) cap') W') := HRow.out _ G' cap' W' ho hg; clear ho hg)
          go_roundg (n - (i + 1))
          case measure => omega
          case rel => exact ⟨i + 1, _, n4 + 1, cap', by omega, rfl, by go_num, HI1.out⟩
    · have ein : i = n := by omega
      subst ein
      have HI : Hid (LvI w S RR S.length (.slice a4 n4 c4) wr) := by show LvI _ _ _ _ _ _; rw [← HN.out]; exact I.out
      obtain ⟨G, cap, b, c5, m, b0, c0, ev, hat, hbl, x1, x2, x3, x4⟩ := HI.out.fin HF.out
      have hrl := HF.out.len
      have hrl2 := HF.out.rows_le
      have hnn := HN.out
      have HA : Hid (LvAt wr G cap RR) := hat
      have HBl : Hid (Below w.heap.size w wr) := hbl
      have HRL : Hid (RR.length = top + 1) := hrl
      have ht : top ≤ 100000000 := by omega
      have en : n4 = top + 1 := by cases ev; rfl
      have ea : a4 = some ⟨G, 0, none⟩ := by cases ev; rfl
      have ec : c4 = cap := by cases ev; rfl
      subst en ea ec
      have hjw : IntKind.i64.wrap (((top + 1 : Nat) : Int) - 1) = (top : Int) := by rw [IntKind.wrap_i64]; omega
      have r0 : ¬ ((top + 1 : Nat) : Int) = 0 := by omega
      have r1 : (top : Int) < ((top + 1 : Nat) : Int) := by omega
      have r2 : (0 : Int) ≤ (top : Int) := by omega
      have r3 : ¬ (top : Int) < 0 := by omega
      have r4 : (0 : Int) < (m : Int) := by omega
      have r5 : (0 : Int) < ((top + 1 : Nat) : Int) := by omega
      clear hat hbl hrl hrl2 hnn ev I HI
      go_wp2
      go_ret2
      exact ⟨G, c4, by rw [HRL.out]; rfl, HA.out, HBl.out⟩
end Go.Proofs.Ytlfgeanafidopaa.Bt
