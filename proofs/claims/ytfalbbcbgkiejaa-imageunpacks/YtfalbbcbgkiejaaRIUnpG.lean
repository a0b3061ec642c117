/-
  The document's Unpack, the walk.
-/
import Derived.Test.YtfalbbcbgkiejaaRIUnp
namespace Go.Proofs.Ytfalbbcbgkiejaa
open Go.RowKit M
set_option maxRecDepth 10000

set_option maxHeartbeats 16000000 in
theorem runp_go (a : Option Addr) (n cap : Nat) (L : List Nat) (w : World) (hn : n = L.length) (hnc : n ≤ cap) (hcm : cap ≤ maxLen) (hb : ∀ x ∈ L, x < 256) (hr : BRow w a L) (h47 : n ≤ 140737488355328) (h3 : 3 ≤ n) (h84 : upM (u8s L) = 84) :
    Calls Try.prog 18 #[.slice a n cap] w fun e w' => UnpPost w (upk (u8s L)) e w' := by
  unfold maxLen at hcm
  obtain ⟨r, er⟩ : ∃ r, r = u8s L := ⟨_, rfl⟩
  have hrl : r.length = n := by rw [er, u8s_length, hn]
  obtain ⟨_, v1, v2, v3⟩ := up_long (r := r) (by omega)
  obtain ⟨lv, elv⟩ : ∃ x, x = L.getD 1 0 := ⟨_, rfl⟩
  obtain ⟨ct, ect⟩ : ∃ x, x = L.getD 2 0 := ⟨_, rfl⟩
  have hlv : upL r = lv := by unfold upL; rw [v1, er, one_at hb 1 (by omega), elv]
  have hct : upC r = ct := by unfold upC; rw [v2, er, one_at hb 2 (by omega), ect]
  have HU : Hid (upk r = if rdF ct (r.drop 3) false then none else if (rdR ct (r.drop 3)).isEmpty && imgOk lv (rdS ct (r.drop 3)) then some (lv, rdS ct (r.drop 3)) else none) := by
    show _ = _
    rw [← rupk_upk]
    unfold rupk
    rw [if_neg (by omega), hlv, hct, v3, if_neg (by rw [er, h84]; decide)]
  have hlt256 : ct < 256 := by rw [ect]; exact hb _ (by simp [List.getD, show 2 < L.length by omega])
  have hlv256 : lv < 256 := by rw [elv]; exact hb _ (by simp [List.getD, show 1 < L.length by omega])
  obtain ⟨b, off, rfl, hc⟩ : ∃ b off, a = some ⟨b, off, none⟩ ∧ ∀ i, i < L.length → w.cell? ⟨b, off + i, none⟩ = some (.int .u8 ((L.getD i 0 : Nat) : Int)) := by
    rcases hr with e | h
    · rw [e] at hn; simp at hn; omega
    · exact h
  have HRow : Hid (BRow w (some ⟨b, off, none⟩) L) := hr
  have HCell : Hid (∀ W, Below w.heap.size w W → ∀ i, i < n → W.cell? ⟨b, off + i, none⟩ = some (.int .u8 ((L.getD i 0 : Nat) : Int))) := fun W hW i hi => by
    have q := hc i (by omega)
    exact (hW.cell (p := ⟨b, off + i, none⟩) (World.block_lt_of_cell? w _ q)).trans q
  have c0 := hc 0 (by omega)
  have c1 := hc 1 (by omega)
  have c2 := hc 2 (by omega)
  rw [Nat.add_zero] at c0
  have hx0 : L.getD 0 0 = 84 := by
    have := one_at hb 0 (by omega)
    rw [List.drop_zero] at this
    rw [← this]; exact h84
  rw [hx0] at c0
  rw [← elv] at c1
  rw [← ect] at c2
  have hbw : b < w.heap.size := World.block_lt_of_cell? w _ c0
  have i3 : ¬ (n : Int) < 3 := by omega
  have h84b : (((84 : Nat) : Int) != 84) = false := rfl
  have HB256 : Hid (∀ x ∈ L, x < 256) := hb
  have HN : Hid (n = L.length) := hn
  have HE : Hid (r = u8s L) := er
  have HCt : Hid (ct = L.getD 2 0) := ect
  rw [← er]
  clear hr hc er hb hn elv ect h84 hx0 v1 v2 v3 hlv hct hrl
  obtain ⟨i0, hinf, hz0, hz1, hz2⟩ := info_parts infoRZ
  go_enter Try.func18, Try.ntmps18
  go_wp2
  have U0 : Hid (RU w ((w.alloc (.cells #[.int .i64 0, .slice none 0 0] 24)).alloc (.cells #[.int .i64 (lv : Int), .slice none 0 0] 24)) (lv : Int) (.slice none 0 0) []) := by
    obtain ⟨q1, q2, q3⟩ := two_boxes w [.int .i64 0, .slice none 0 0] [.int .i64 (lv : Int), .slice none 0 0] 24 24 _ rfl
    exact ⟨q1, q2, World.ownsRow_nil _ _ _ 4, q3⟩
  obtain ⟨R0, eR0⟩ : ∃ R0, R0 = r.drop 3 := ⟨_, rfl⟩
  rw [← eR0] at HU
  have HR0 : Hid (r.drop 3 = R0) := eR0.symm
  have hrl : Hid (r.length = n) := by show _ = _; rw [HE.out, u8s_length, HN.out]
  clear eR0 c0 c1 i3 h84b
  go_loopg [5, 6] ct (fun kx s5 s6 wr => ∃ (k at_ : Nat) (a3 : Option Addr) (n3 c3 : Nat) (acc : List St), k + kx = ct ∧ s6 = .int .i64 (k : Nat) ∧ s5 = .int .i64 (at_ : Nat) ∧ Hid (RU w wr (lv : Int) (.slice a3 n3 c3) acc ∧ acc.length = k ∧ at_ ≤ n ∧ acc ++ rdS (ct - k) (r.drop at_) = rdS ct R0 ∧ rdR (ct - k) (r.drop at_) = rdR ct R0 ∧ rdF (ct - k) (r.drop at_) false = rdF ct R0 false))
  case atStart => exact ⟨0, 3, none, 0, 0, [], by omega, rfl, rfl, by show _ ∧ _; rw [HR0.out]; exact ⟨U0.out, rfl, h3, rfl, rfl, rfl⟩⟩
  case round =>
    obtain ⟨k, at_, a3, n3, c3, acc, hk, rfl, rfl, I⟩ := hrel
    obtain ⟨u, u1, u2, u3, u4, u5⟩ := I.out
    have HU1 : Hid (RU w wr (lv : Int) (.slice a3 n3 c3) acc) := u
    have c2' := HCell.out wr u.bel 2 (by omega)
    rw [← HCt.out] at c2'
    obtain ⟨m0, m1, f0, f1⟩ := u.zero
    by_cases hlt : k < ct
    · have hi1 : (k : Int) < (ct : Int) := by omega
      obtain ⟨d, hd⟩ : ∃ d, ct - k = d + 1 := ⟨ct - k - 1, by omega⟩
      have hd2 : ct - (k + 1) = d := by omega
      rw [hd, rdS] at u3
      rw [hd, rdR] at u4
      rw [hd, rdF] at u5
      have hdl : (r.drop at_).length = n - at_ := by rw [List.length_drop, hrl.out]
      by_cases hat : n ≤ at_
      · have HF : Hid (upk r = none) := by
          have hsh : slS (r.drop at_) false = true := slS_short (by omega) false
          rw [hsh, rdF_true] at u5
          show _ = _
          rw [HU.out, ← u5]; rfl
        have i4 : (n : Int) ≤ (at_ : Int) := by omega
        have i5 : ¬ (at_ : Int) < (n : Int) := by omega
        clear u u1 u2 u3 u4 u5 I hdl hat hlt hd hd2
        go_wp2
        (try simp only [Exit.inBlock, Exit.then])
        refine bodyPost_ret (v := .tuple #[.agg #[.int .i64 0, .slice none 0 0], .bool false]) ?_ rfl (UnpPost.no HF.out (below_set2 HU1.out.bel (Nat.le_refl _) _ _))
        rw [results_cell_tmp rfl]
        go_simp
      · have hx : slK (r.drop at_) = L.getD at_ 0 := by rw [HE.out]; exact one_at HB256.out at_ (by have := HN.out; omega)
        have cx := HCell.out wr u.bel at_ (by omega)
        obtain ⟨x, ex⟩ : ∃ x, x = L.getD at_ 0 := ⟨_, rfl⟩
        have hx256 : x < 256 := by rw [ex]; exact HB256.out _ (by simp [List.getD, show at_ < L.length by have := HN.out; omega])
        rw [← ex] at cx hx
        have i4 : ¬ (n : Int) ≤ (at_ : Int) := by omega
        have i5 : (at_ : Int) < (n : Int) := by omega
        have b1 : (-9223372036854775808 : Int) ≤ (at_ : Int) + 1 + (x : Int) := by omega
        have b2 : (at_ : Int) + 1 + (x : Int) ≤ 9223372036854775807 := by omega
        have b3 : (-9223372036854775808 : Int) ≤ (at_ : Int) + 1 + (x : Int) + 7 := by omega
        have b4 : (at_ : Int) + 1 + (x : Int) + 7 ≤ 9223372036854775807 := by omega
        by_cases hsh : n < at_ + 1 + x + 7
        · have HF : Hid (upk r = none) := by
            have hsh : slS (r.drop at_) false = true := slS_short (by omega) false
            rw [hsh, rdF_true] at u5
            show _ = _
            rw [HU.out, ← u5]; rfl
          have i6 : (n : Int) < (at_ : Int) + 1 + (x : Int) + 7 := by omega
          clear u u1 u2 u3 u4 u5 I hdl hat hlt hd hd2 ex hx
          go_wp2
          (try simp only [Exit.inBlock, Exit.then])
          refine bodyPost_ret (v := .tuple #[.agg #[.int .i64 0, .slice none 0 0], .bool false]) ?_ rfl (UnpPost.no HF.out (below_set2 HU1.out.bel (Nat.le_refl _) _ _))
          rw [results_cell_tmp rfl]
          go_simp
        · have hlen8 : 8 + slK (r.drop at_) ≤ (r.drop at_).length := by omega
          obtain ⟨g0, g1, g2, g3, g4, g5⟩ := sl_long hlen8 false
          rw [hx, List.drop_drop] at g2 g3 g4 g5
          rw [List.drop_drop] at g1
          rw [g0, g5] at u5
          rw [g5] at u3 u4
          have hNL := HN.out
          have hV : slV (r.drop at_) = ⟨bs (u8s ((L.drop (at_ + 1)).take x)), (getL (((L.drop (at_ + (1 + x))).take 2).take 8) : Nat), (getL (((L.drop (at_ + (1 + x + 2))).take 3).take 8) : Nat), (getL (((L.drop (at_ + (1 + x + 5))).take 2).take 8) : Nat)⟩ := by
            unfold slV
            rw [hx, g1, g2, g3, g4, HE.out, num_at HB256.out _ 2 (by omega) (by decide), num_at HB256.out _ 3 (by omega) (by decide), num_at HB256.out _ 2 (by omega) (by decide), (tx_long (n := x) (r := (u8s L).drop (at_ + 1)) (by rw [List.length_drop, u8s_length]; omega) false).1, u8s_drop, u8s_take]
          rw [hV] at u3
          have HSub : Hid (∀ W, Below w.heap.size w W → ∀ i j, BRow W (some ⟨b, off + i, none⟩) ((L.drop i).take j)) := fun W hW i j => (HRow.out.later hW).sub i j
          have HG : Hid (∀ W, Below w.heap.size w W → ∀ i j c, i + j ≤ n → j ≤ 7 → Calls Try.prog 43 #[.slice (some ⟨b, off + i, none⟩) j c] W fun e w' => e = .returned (.int .i64 (getL (((L.drop i).take j).take 8) : Nat)) ∧ W = w') := fun W hW i j c h1 h2 => rget_any _ j c _ W (by rw [List.length_take, List.length_drop]; omega) h2 (fun x hx => HB256.out x (List.mem_of_mem_drop (List.mem_of_mem_take hx))) (HSub.out W hW i j)
          have HCv : Hid (∀ W, Below w.heap.size w W → ∀ c, (convert 25 9 (.slice (some ⟨b, off + (at_ + 1), none⟩) x c)).run Try.prog W = .ok (.string (bs (u8s ((L.drop (at_ + 1)).take x)))) W) := fun W hW c => by
            have := conv_row (l := (L.drop (at_ + 1)).take x) c (HSub.out W hW (at_ + 1) x)
            rw [List.length_take, List.length_drop, Nat.min_eq_left (by omega)] at this
            exact this
          obtain ⟨KB, eKB⟩ : ∃ K, K = bs (u8s ((L.drop (at_ + 1)).take x)) := ⟨_, rfl⟩
          obtain ⟨P1, eP1⟩ : ∃ P, P = getL (((L.drop (at_ + (1 + x))).take 2).take 8) := ⟨_, rfl⟩
          obtain ⟨P2, eP2⟩ : ∃ P, P = getL (((L.drop (at_ + (1 + x + 2))).take 3).take 8) := ⟨_, rfl⟩
          obtain ⟨P3, eP3⟩ : ∃ P, P = getL (((L.drop (at_ + (1 + x + 5))).take 2).take 8) := ⟨_, rfl⟩
          obtain ⟨q, eq⟩ : ∃ q, q = at_ + 1 + x := ⟨_, rfl⟩
          have k1 : ∀ W, Below w.heap.size w W → ∀ c, Calls Try.prog 43 #[.slice (some ⟨b, off + q, none⟩) 2 c] W fun e w' => e = .returned (.int .i64 (P1 : Int)) ∧ W = w' := fun W hW c => by
            have := HG.out W hW q 2 c (by omega) (by decide)
            rwa [show q = at_ + (1 + x) by omega, ← eP1, show at_ + (1 + x) = q by omega] at this
          have k2 : ∀ W, Below w.heap.size w W → ∀ c, Calls Try.prog 43 #[.slice (some ⟨b, off + q + 2, none⟩) 3 c] W fun e w' => e = .returned (.int .i64 (P2 : Int)) ∧ W = w' := fun W hW c => by
            have := HG.out W hW (q + 2) 3 c (by omega) (by decide)
            rwa [show q + 2 = at_ + (1 + x + 2) by omega, ← eP2, show off + (at_ + (1 + x + 2)) = off + q + 2 by omega] at this
          have k3 : ∀ W, Below w.heap.size w W → ∀ c, Calls Try.prog 43 #[.slice (some ⟨b, off + q + 5, none⟩) 2 c] W fun e w' => e = .returned (.int .i64 (P3 : Int)) ∧ W = w' := fun W hW c => by
            have := HG.out W hW (q + 5) 2 c (by omega) (by decide)
            rwa [show q + 5 = at_ + (1 + x + 5) by omega, ← eP3, show off + (at_ + (1 + x + 5)) = off + q + 5 by omega] at this
          obtain ⟨G, m1, m2, m3, kk⟩ : ∃ G : Nat → Nat → Nat → Prop, G (off + q) 2 P1 ∧ G (off + q + 2) 3 P2 ∧ G (off + q + 5) 2 P3 ∧ ∀ W, Below w.heap.size w W → ∀ o j P c, G o j P → Calls Try.prog 43 #[.slice (some ⟨b, o, none⟩) j c] W fun e w' => e = .returned (.int .i64 (P : Int)) ∧ W = w' := by
            refine ⟨fun o j P => (o = off + q ∧ j = 2 ∧ P = P1) ∨ (o = off + q + 2 ∧ j = 3 ∧ P = P2) ∨ (o = off + q + 5 ∧ j = 2 ∧ P = P3), .inl ⟨rfl, rfl, rfl⟩, .inr (.inl ⟨rfl, rfl, rfl⟩), .inr (.inr ⟨rfl, rfl, rfl⟩), ?_⟩
            rintro W hW o j P c (⟨rfl, rfl, rfl⟩ | ⟨rfl, rfl, rfl⟩ | ⟨rfl, rfl, rfl⟩)
            · exact k1 W hW c
            · exact k2 W hW c
            · exact k3 W hW c
          clear k1 k2 k3
          rw [← eKB] at HCv u3
          rw [← eP1, ← eP2, ← eP3] at u3
          have hkb : k < 256 := by omega
          have HT : Hid (acc.length = k ∧ at_ + (8 + x) ≤ n ∧ (acc ++ [(⟨KB, (P1 : Int), (P2 : Int), (P3 : Int)⟩ : St)]) ++ rdS d (r.drop (at_ + (8 + x))) = rdS ct R0 ∧ rdR d (r.drop (at_ + (8 + x))) = rdR ct R0 ∧ rdF d (r.drop (at_ + (8 + x))) false = rdF ct R0 false) := ⟨u1, by omega, by rw [← u3]; simp, u4, u5⟩
          have ho0 := u.own
          rw [u1] at ho0
          have hn3 : n3 = k := by
            rcases ho0.2 with ⟨e, e0⟩ | ⟨g, cap, cur, e, _⟩
            · cases e; exact e0.symm
            · cases e; rfl
          subst hn3
          obtain ⟨y0, y1, y2, y3⟩ := u.seen
          have HA : Hid (∀ W1 W2 gg cc, RU w W1 (lv : Int) (.slice a3 n3 c3) acc → W1.grownBy W2 (Value.slice a3 n3 c3).ownBlock → W2.ownsRow (w.heap.size + 2) 62 4 (.slice (some ⟨gg, 0, none⟩) (n3 + 1) cc) (n3 + 1) (acc.flatMap stv ++ [.string KB, .int .i64 (P1 : Int), .int .i64 (P2 : Int), .int .i64 (P3 : Int)]) → RU w (W2.setCell ⟨w.heap.size + 1, 1, none⟩ (.slice (some ⟨gg, 0, none⟩) (n3 + 1) cc)) (lv : Int) (.slice (some ⟨gg, 0, none⟩) (n3 + 1) cc) (acc ++ [⟨KB, (P1 : Int), (P2 : Int), (P3 : Int)⟩]) ∧ W2.cell? ⟨w.heap.size + 1, 1, none⟩ = some (.slice a3 n3 c3) ∧ W2.frozen? ⟨w.heap.size + 1, 1, none⟩ = false) := fun W1 W2 gg cc hU hg ho => by
            have h3 := hU.img.grown4 hU.own hg (by decide)
            refine ⟨hU.app (s := ⟨KB, (P1 : Int), (P2 : Int), (P3 : Int)⟩) ?_ hg, h3.cell (i := 1) rfl, h3.frozen 1⟩
            rw [u1, List.flatMap_append]
            exact ho
          have hcx : ¬ cap = q := by omega
          have hcx1 : ¬ cap = at_ + 1 := by omega
          have hq5 : ¬ cap - q = 5 := by omega
          have hq2 : ¬ cap - q = 2 := by omega
          have hqI : (at_ : Int) + 1 + (x : Int) = (q : Int) := by omega
          have hqn : q + 7 ≤ n := by omega
          have i6 : ¬ (n : Int) < (q : Int) + 7 := by omega
          have hdw : Below w.heap.size w wr := u.bel
          have HQ : Hid (q = at_ + 1 + x) := eq
          have b5 : (q : Int) + 7 ≤ 9223372036854775807 := by omega
          have b6 : (q : Int) ≤ (n : Int) := by omega
          have b7 : (q : Int) ≤ 9223372036854775807 := by omega
          have HD2 : Hid (ct - (n3 + 1) = d) := hd2
          clear eq b1 b2 b3 b4 hNL hd hd2
          clear u u1 u2 u3 u4 u5 I hV g0 g1 g2 g3 g4 g5 hlen8 eKB eP1 eP2 eP3 ho0 hdl hat hlt ex hx hsh HG HSub
          go_wp2
          obtain ⟨PN, hPN⟩ : ∃ PN, PN = n - q := ⟨_, rfl⟩
          obtain ⟨PC, hPC⟩ : ∃ PC, PC = cap - q := ⟨_, rfl⟩
          rw [← hPN, ← hPC]
          rw [← hPC] at hq5 hq2
          have hq5' : ¬ PC = 5 := hq5
          have hq2' : ¬ PC = 2 := hq2
          have hp1 : (7 : Int) ≤ (PN : Int) := by omega
          have hp2 : (7 : Int) ≤ (PC : Int) := by omega
          have hp3 : (PN : Int) ≤ (PC : Int) := by omega
          have hp5 : (2 : Int) ≤ (PC : Int) := by omega
          have hp6 : (5 : Int) ≤ (PC : Int) := by omega
          have hp7 : (5 : Int) ≤ (PN : Int) := by omega
          have hp4 : (PC : Int) ≤ 9223372036854775807 := by omega
          have hqx : q - (at_ + 1) = x := by have := HQ.out; omega
          have e1 : IntKind.i64.wrap ((at_ : Int) + 1) = (at_ : Int) + 1 := by rw [IntKind.wrap_i64]; omega
          have e7 : IntKind.i64.wrap (q : Int) = (q : Int) := by rw [IntKind.wrap_i64]; omega
          have e3 : (at_ : Int) + 1 ≤ (q : Int) := by have := HQ.out; omega
          have e4 : (q : Int) ≤ (cap : Int) := by omega
          have e5 : (0 : Int) ≤ (at_ : Int) + 1 := by omega
          have e6 : (0 : Int) ≤ (q : Int) := by omega
          have HBw : Hid (Below w.heap.size w wr.drew) := hdw.drew
          have hcv := HCv.out wr.drew HBw.out
          have HU2 : Hid (RU w wr.drew (lv : Int) (.slice a3 n3 c3) acc) := HU1.out.later (below_drawn wr 1)
          clear hPN hPC hq5 hq2
          go_region_law (first
            | (refine step_append_lies _ (by rfl) _ _ _ (by rfl) (w.heap.size + 2) 62 i0 _ 4 40 Try.underlying22 hinf hz0 hz1 hz2 rfl (by omega) (.slice a3 n3 c3) n3 (acc.flatMap stv) (by rfl) (by have := (HU2.out.later (below_new w4 (.cells #[.string KB, .int .i64 (P1 : Int), .int .i64 (P2 : Int), .int .i64 (P3 : Int)] 62))).own; rwa [HT.out.1] at this) ⟨w4.heap.size, 0, none⟩ 1 1 [.string KB, .int .i64 (P1 : Int), .int .i64 (P2 : Int), .int .i64 (P3 : Int)] (by rfl) (by rfl) (World.news_of_block (cs := #[.string KB, .int .i64 (P1 : Int), .int .i64 (P2 : Int), .int .i64 (P3 : Int)]) (t := 62) (fr := (0, 0)) (heap_new w4 _)) (by simp [Value.oneCell']) (by omega) (by unfold maxLen; omega) (by omega) (by have := HU2.out.img.lt; simp at this ⊢; omega) (w4.heap.size + 1) (by simp) ?_; intro gg cc w5 hown5 hgrow hat hlt2; obtain ⟨hu5, z1, z2⟩ := HA.out _ w5 gg cc (HU2.out.later (below_new w4 (.cells #[.string KB, .int .i64 (P1 : Int), .int .i64 (P2 : Int), .int .i64 (P3 : Int)] 62))) hgrow hown5; have HU5 : Hid (RU w (w5.setCell ⟨w.heap.size + 1, 1, none⟩ (.slice (some ⟨gg, 0, none⟩) (n3 + 1) cc)) (lv : Int) (.slice (some ⟨gg, 0, none⟩) (n3 + 1) cc) (acc ++ [⟨KB, (P1 : Int), (P2 : Int), (P3 : Int)⟩])) := hu5; clear hu5 hown5 hgrow hat hlt2)
            | (go_simp; refine (kk _ HBw.out _ _ _ _ (by first | exact m1 | exact m2 | exact m3)).mono ?_; rintro e w4 ⟨rfl, hw⟩; have HBw : Hid (Below w.heap.size w w4) := hw ▸ HBw; have HU2 : Hid (RU w w4 (lv : Int) (.slice a3 n3 c3) acc) := hw ▸ HU2; clear hw; have y1 := HU2.out.seen.2.1; have hcv := HCv.out w4 HBw.out; have y2 := fun o => Lib.cell?_alloc_some (W := w4) o y1; go_simp))
          all_goals
            have HN2 : Hid (RU w (w5.setCell ⟨w.heap.size + 1, 1, none⟩ (.slice (some ⟨gg, 0, none⟩) (n3 + 1) cc)) (lv : Int) (.slice (some ⟨gg, 0, none⟩) (n3 + 1) cc) (acc ++ [(⟨KB, (P1 : Int), (P2 : Int), (P3 : Int)⟩ : St)]) ∧ (acc ++ [(⟨KB, (P1 : Int), (P2 : Int), (P3 : Int)⟩ : St)]).length = n3 + 1 ∧ at_ + (8 + x) ≤ n ∧ (acc ++ [(⟨KB, (P1 : Int), (P2 : Int), (P3 : Int)⟩ : St)]) ++ rdS (ct - (n3 + 1)) (r.drop (at_ + (8 + x))) = rdS ct R0 ∧ rdR (ct - (n3 + 1)) (r.drop (at_ + (8 + x))) = rdR ct R0 ∧ rdF (ct - (n3 + 1)) (r.drop (at_ + (8 + x))) false = rdF ct R0 false) := by
              rw [HD2.out]
              exact ⟨HU5.out, by rw [List.length_append, HT.out.1]; rfl, HT.out.2.1, HT.out.2.2.1, HT.out.2.2.2.1, HT.out.2.2.2.2⟩
            go_wp2
            go_roundg (ct - (n3 + 1))
            case measure => omega
            case rel => exact ⟨n3 + 1, at_ + (8 + x), some ⟨gg, 0, none⟩, n3 + 1, cc, acc ++ [(⟨KB, (P1 : Int), (P2 : Int), (P3 : Int)⟩ : St)], by omega, by go_num, by first | exact congrArg (Value.int .i64) (by have := HQ.out; omega) | go_num, HN2⟩
    · have hkc : k = ct := by omega
      have u4' := u4
      have u5' := u5
      rw [hkc, Nat.sub_self, rdS, List.append_nil] at u3
      rw [hkc, Nat.sub_self, rdR] at u4'
      rw [hkc, Nat.sub_self, rdF] at u5'
      have HKS : Hid (∀ s ∈ rdS ct R0, s.key.size ≤ maxLen) := fun s hs => by have := rdS_keys ct R0 s hs; rw [← HR0.out, List.length_drop, hrl.out] at this; unfold maxLen; omega
      rw [← u3, ← u4', ← u5'] at HU
      rw [← u3] at HKS
      have ho0 := u.own
      have hn3 : n3 = acc.length := by
        rcases ho0.2 with ⟨e, e0⟩ | ⟨g, cap, cur, e, _⟩
        · cases e; exact e0.symm
        · cases e; rfl
      rw [← hn3] at ho0
      obtain ⟨a', c', e', z1, z3, z4⟩ := rzown_row hn3 ho0
      cases e'
      have HZ : Hid (ZArg wr a3 n3 c3 acc) := ⟨hn3, z3, z4, HKS.out, z1⟩
      have HNe : Hid (∀ b off, a3 = some ⟨b, off, none⟩ → b ≠ w.heap.size) := fun b off e => by
        have := (ho0.lt b (by rw [e]; rfl)).1
        omega
      have kr := rright_any (lv : Int) a3 n3 c3 acc wr HZ.out
      obtain ⟨x0, x1, x2, x3⟩ := u.seen
      have hdl : (r.drop at_).length = n - at_ := by rw [List.length_drop, hrl.out]
      obtain ⟨O, eO⟩ : ∃ O, O = imgOk (lv : Int) acc := ⟨_, rfl⟩
      rw [← eO] at kr HU
      have hi1 : ¬ (k : Int) < (ct : Int) := by omega
      by_cases hat : at_ = n
      · have hem : (r.drop at_).isEmpty = true := by rw [List.isEmpty_iff]; exact List.eq_nil_of_length_eq_zero (by omega)
        rw [hem] at HU
        have hne : ((at_ : Int) != (n : Int)) = false := by simp; omega
        clear u u1 u2 u3 u4 u5 u4' u5' I ho0 hn3 z1 z3 z4 eO hlt hkc hem hdl hat
        cases O with
        | false =>
          have HU2 : Hid (upk r = none) := HU.out
          go_wp2_with (go_at_call 13; refine kr.mono ?_; rintro e w7 ⟨rfl, hb7⟩; have HU7 : Hid (RU w w7 (lv : Int) (.slice a3 n3 c3) acc) := HU1.out.later hb7; have p0 := HU7.out.zero.1; have p1 := HU7.out.zero.2.1; have p2 := HU7.out.zero.2.2.1; have p3 := HU7.out.zero.2.2.2; clear hb7)
          (try simp only [Exit.inBlock, Exit.then])
          refine bodyPost_ret (v := .tuple #[.agg #[.int .i64 0, .slice none 0 0], .bool false]) ?_ rfl (UnpPost.no HU2.out (below_set2 HU7.out.bel (Nat.le_refl _) _ _))
          rw [results_cell_tmp rfl]
          go_simp
        | true =>
          have HU2 : Hid (upk r = some (lv, acc)) := HU.out
          go_wp2_with (go_at_call 13; refine kr.mono ?_; rintro e w7 ⟨rfl, hb7⟩; have HU7 : Hid (RU w w7 (lv : Int) (.slice a3 n3 c3) acc) := HU1.out.later hb7; have HZ7 : Hid (ZArg w7 a3 n3 c3 acc) := HZ.out.later hb7; have p0 := HU7.out.zero.1; have p1 := HU7.out.zero.2.1; have p2 := HU7.out.zero.2.2.1; have p3 := HU7.out.zero.2.2.2; have p4 := HU7.out.seen.1; have p5 := HU7.out.seen.2.1; clear hb7)
          (try simp only [Exit.inBlock, Exit.then])
          refine bodyPost_ret (v := .tuple #[.agg #[.int .i64 (lv : Int), .slice a3 n3 c3], .bool true]) ?_ rfl (UnpPost.yes HU2.out ((HZ7.out.set _ _ HNe.out).set _ _ HNe.out) (below_set2 HU7.out.bel (Nat.le_refl _) _ _))
          rw [results_cell_tmp rfl]
          go_simp
      · have hem : (r.drop at_).isEmpty = false := by
          cases h : (r.drop at_).isEmpty with
          | false => rfl
          | true => rw [List.isEmpty_iff] at h; rw [h] at hdl; simp at hdl; omega
        rw [hem] at HU
        have hne : ((at_ : Int) != (n : Int)) = true := by simp; omega
        have HU2 : Hid (upk r = none) := HU.out
        clear u u1 u2 u3 u4 u5 u4' u5' I ho0 hn3 z1 z3 z4 eO hlt hkc hem hdl
        have hatI : ¬ (at_ : Int) = (n : Int) := by omega
        go_wp2
        (try simp only [Exit.inBlock, Exit.then])
        refine bodyPost_ret (v := .tuple #[.agg #[.int .i64 0, .slice none 0 0], .bool false]) ?_ rfl (UnpPost.no HU2.out (below_set2 HU1.out.bel (Nat.le_refl _) _ _))
        rw [results_cell_tmp rfl]
        go_simp
end Go.Proofs.Ytfalbbcbgkiejaa
