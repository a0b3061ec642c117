/-
  What Unpack of package image answers: the walk through the slots.
-/
import Derived.Test.YtfalbbcbgkiejaaIUnpW
namespace Go.Proofs.Ytfalbbcbgkiejaa
open Go.RowKit M
set_option maxRecDepth 10000

set_option maxHeartbeats 8000000 in
theorem unp_go (a : Option Addr) (n cap : Nat) (L : List Nat) (w : World) (hn : n = L.length) (h : n ≤ 579) (hr : BRow w a L) (hbad : ((upM (u8s L) != 84) || decide (8 < upC (u8s L))) = false) :
    Calls Try.prog 17 #[.slice a n cap] w fun e w' => UnpPost w (upk (u8s L)) e w' := by
  have hl : (u8s L).length = n := by rw [u8s_length, hn]
  have HU : Hid (upk (u8s L) = if dn (rdR (upC (u8s L)) (upR (u8s L))) (rdF (upC (u8s L)) (upR (u8s L)) (upF (u8s L))) && imgOk (upL (u8s L)) (rdS (upC (u8s L)) (upR (u8s L))) then some (upL (u8s L), rdS (upC (u8s L)) (upR (u8s L))) else none) := by show _ = _; unfold upk; rw [if_neg (by omega), hbad]; rfl
  have HCV : Hid (∀ W, Below w.heap.size w W → (convert 25 9 (.slice a n cap)).run Try.prog W = .ok (.string (bs (u8s L))) W) := fun W hb => by rw [hn]; exact conv_row cap (hr.later hb)
  obtain ⟨r, er⟩ : ∃ r, r = u8s L := ⟨_, rfl⟩
  rw [← er] at hl HU HCV hbad ⊢
  have hcv := HCV.out (w.alloc (.cells #[.int .i64 0, .slice none 0 0] 31)) (below_new _ _)
  have hm : r.length ≤ maxLen := by unfold maxLen; omega
  have k1 : ∀ W, Hb w W r false → Calls Try.prog 40 #[.pointer (some ⟨w.heap.size + 1, 0, none⟩), .int .i64 1] W fun e w' => e = .returned (.int .i64 (upM r : Nat)) ∧ Hb w w' (txR 1 r) (txS 1 r false) := fun W hW => by
    refine (number_any _ _ 1 r false W hm (by decide) hW.rd).mono ?_
    rintro e w' ⟨rfl, p⟩
    exact ⟨rfl, hW.read p⟩
  have k2 : ∀ W sh, Hb w W (txR 1 r) sh → Calls Try.prog 40 #[.pointer (some ⟨w.heap.size + 1, 0, none⟩), .int .i64 1] W fun e w' => e = .returned (.int .i64 (upL r : Nat)) ∧ Hb w w' (txR 1 (txR 1 r)) (txS 1 (txR 1 r) sh) := fun W sh hW => by
    refine (number_any _ _ 1 (txR 1 r) sh W (Nat.le_trans (txR_len _ _) hm) (by decide) hW.rd).mono ?_
    rintro e w' ⟨rfl, p⟩
    exact ⟨rfl, hW.read p⟩
  have k3 : ∀ W sh, Hb w W (txR 1 (txR 1 r)) sh → Calls Try.prog 40 #[.pointer (some ⟨w.heap.size + 1, 0, none⟩), .int .i64 1] W fun e w' => e = .returned (.int .i64 (upC r : Nat)) ∧ Hb w w' (upR r) (txS 1 (txR 1 (txR 1 r)) sh) := fun W sh hW => by
    refine (number_any _ _ 1 (txR 1 (txR 1 r)) sh W (Nat.le_trans (txR_len _ _) (Nat.le_trans (txR_len _ _) hm)) (by decide) hW.rd).mono ?_
    rintro e w' ⟨rfl, p⟩
    exact ⟨rfl, hW.read p⟩
  have H2 : Hid (∀ W, Hb w W (txR 1 r) (txS 1 r false) → Calls Try.prog 40 #[.pointer (some ⟨w.heap.size + 1, 0, none⟩), .int .i64 1] W fun e w' => e = .returned (.int .i64 (upL r : Nat)) ∧ Hb w w' (txR 1 (txR 1 r)) (txS 1 (txR 1 r) (txS 1 r false))) := fun W hW => k2 W _ hW
  have H3 : Hid (∀ W, Hb w W (txR 1 (txR 1 r)) (txS 1 (txR 1 r) (txS 1 r false)) → Calls Try.prog 40 #[.pointer (some ⟨w.heap.size + 1, 0, none⟩), .int .i64 1] W fun e w' => e = .returned (.int .i64 (upC r : Nat)) ∧ Hb w w' (upR r) (upF r)) := fun W hW => k3 W _ hW
  obtain ⟨mk, emk⟩ : ∃ m, m = upM r := ⟨_, rfl⟩
  obtain ⟨lv, elv⟩ : ∃ m, m = upL r := ⟨_, rfl⟩
  obtain ⟨ct, ect⟩ : ∃ m, m = upC r := ⟨_, rfl⟩
  rw [← emk] at k1 hbad
  rw [← elv] at H2 HU
  rw [← ect] at H3 hbad HU
  have H1 : Hid (∀ W, Hb w W r false → Calls Try.prog 40 #[.pointer (some ⟨w.heap.size + 1, 0, none⟩), .int .i64 1] W fun e w' => e = .returned (.int .i64 (mk : Int)) ∧ Hb w w' (txR 1 r) (txS 1 r false)) := k1
  obtain ⟨W, hW⟩ : ∃ W, W = (w.alloc (.cells #[.int .i64 0, .slice none 0 0] 31)).alloc (.cells #[.string (bs r), .bool false] 77) := ⟨_, rfl⟩
  have G0 : Hid (Hb w W r false) := by obtain ⟨q1, q2, q3⟩ := head_boxes w r W hW; exact ⟨q1, q2, q3⟩
  have hmk : ((mk : Int) != 84) = false ∧ ct ≤ 8 := by
    rw [Bool.or_eq_false_iff] at hbad
    obtain ⟨h1, h2⟩ := hbad
    have e1 : mk = 84 := by simpa using h1
    subst e1
    exact ⟨rfl, by simpa using h2⟩
  obtain ⟨hc, hc2⟩ := hmk
  have hc3 : ¬ (8 : Int) < (ct : Int) := by omega
  have hn1 : ¬ (579 : Int) < (n : Int) := by omega
  have hRl : (upR r).length ≤ 579 := Nat.le_trans (txR_len _ _) (Nat.le_trans (txR_len _ _) (Nat.le_trans (txR_len _ _) (by omega)))
  obtain ⟨R0, eR0⟩ : ∃ R0, R0 = upR r := ⟨_, rfl⟩
  obtain ⟨F0, eF0⟩ : ∃ F0, F0 = upF r := ⟨_, rfl⟩
  rw [← eR0] at H3 HU hRl
  rw [← eF0] at H3 HU
  have HKS : Hid (∀ s ∈ rdS ct R0, s.key.size ≤ maxLen) := fun s hs => by have := rdS_keys ct R0 s hs; unfold maxLen; omega
  obtain ⟨i0, hinf, hz0, hz1, hz2⟩ := info_parts infoZ
  clear er hn hr hl emk elv ect k1 k2 k3 hbad h HCV hm eR0 eF0
  have M1 : Hid True := trivial
  have M2 : Hid True := trivial
  go_enter Try.func17, Try.ntmps17
  go_wp2_with fail
  rw [← hW]
  clear hW hcv
  go_wp2_with (first
    | (clear M1; go_at_call 40; refine (H1.out _ G0.out).mono ?_; rintro e w1 ⟨rfl, p⟩; have G1 : Hid (Hb w w1 _ _) := p; clear p)
    | (clear M2; go_at_call 40; refine (H2.out _ G1.out).mono ?_; rintro e w2 ⟨rfl, p⟩; have G2 : Hid (Hb w w2 _ _) := p; clear p)
    | (go_at_call 40; refine (H3.out _ G2.out).mono ?_; rintro e w3 ⟨rfl, p⟩; have G3 : Hid (Hb w w3 R0 F0) := p; clear p))
  have U0 : Hid (Up w (w3.alloc (.cells #[.int .i64 (lv : Int), .slice none 0 0] 31)) w3.heap.size (lv : Int) (.slice none 0 0) [] R0 F0) :=
    ⟨G3.out.res.alloc _, Row.alloc G3.out.rd _, Row.new w3 _ _, World.ownsRow_nil _ _ _ 4, by have := Row.lt G3.out.rd; omega, bafter G3.out.bel (below_new _ _)⟩
  obtain ⟨IB, hIB⟩ : ∃ IB, IB = w3.heap.size := ⟨_, rfl⟩
  rw [← hIB] at U0
  rw [← hIB]
  clear hIB
  go_loopg [33] ct (fun kx s33 wr => ∃ (k : Nat) (a3 : Option Addr) (n3 c3 : Nat) (acc : List St) (rr : List UInt8) (sh : Bool), k + kx = ct ∧ s33 = .int .i64 (k : Nat) ∧ Hid (Up w wr IB (lv : Int) (.slice a3 n3 c3) acc rr sh ∧ acc.length = k ∧ rr.length ≤ 579 ∧ acc ++ rdS (ct - k) rr = rdS ct R0 ∧ rdR (ct - k) rr = rdR ct R0 ∧ rdF (ct - k) rr sh = rdF ct R0 F0))
  case atStart => exact ⟨0, none, 0, 0, [], R0, F0, by omega, rfl, (⟨U0.out, rfl, hRl, rfl, rfl, rfl⟩ : _ ∧ _ ∧ _ ∧ _ ∧ _ ∧ _)⟩
  case round =>
    obtain ⟨k, a3, n3, c3, acc, rr, sh, hk, rfl, I⟩ := hrel
    obtain ⟨u, u1, u2, u3, u4, u5⟩ := I.out
    by_cases hlt : k < ct
    · have hi1 : (k : Int) < (ct : Int) := by omega
      obtain ⟨d, hd⟩ : ∃ d, ct - k = d + 1 := ⟨ct - k - 1, by omega⟩
      have hd2 : ct - (k + 1) = d := by omega
      rw [hd, rdS] at u3
      rw [hd, rdR] at u4
      rw [hd, rdF] at u5
      have HU1 : Hid (Up w wr IB (lv : Int) (.slice a3 n3 c3) acc rr sh) := u
      have HSl : Hid (∀ W, Up w W IB (lv : Int) (.slice a3 n3 c3) acc rr sh → Calls Try.prog 41 #[.pointer (some ⟨w.heap.size + 1, 0, none⟩)] W fun e w' => e = .returned (.agg #[.string (slV rr).key, .int .i64 (slV rr).leb, .int .i64 (slV rr).pos, .int .i64 (slV rr).size]) ∧ Up w w' IB (lv : Int) (.slice a3 n3 c3) acc (sl5 rr) (slS rr sh)) := fun W hW => by
        refine (slot_any _ _ rr sh W (by unfold maxLen; omega) hW.rd).mono ?_
        rintro e w' ⟨rfl, p⟩
        exact ⟨rfl, hW.read p⟩
      obtain ⟨V, hV⟩ : ∃ V, V = slV rr := ⟨_, rfl⟩
      obtain ⟨rr2, hrr2⟩ : ∃ V, V = sl5 rr := ⟨_, rfl⟩
      obtain ⟨sh2, hsh2⟩ : ∃ V, V = slS rr sh := ⟨_, rfl⟩
      have hrl : (sl5 rr).length ≤ 579 := Nat.le_trans (sl5_len rr) u2
      rw [← hV] at u3 HSl
      rw [← hrr2] at u3 u4 u5 HSl hrl
      rw [← hsh2] at u5 HSl
      have HT : Hid (acc.length = k ∧ rr2.length ≤ 579 ∧ (acc ++ [V]) ++ rdS d rr2 = rdS ct R0 ∧ rdR d rr2 = rdR ct R0 ∧ rdF d rr2 sh2 = rdF ct R0 F0) := ⟨u1, hrl, by rw [← u3]; simp, u4, u5⟩
      have hkb : k ≤ 8 := by omega
      have ho0 := u.own
      rw [u1] at ho0
      have hn3 : n3 = k := by
        rcases ho0.2 with ⟨e, e0⟩ | ⟨g, cap, cur, e, _⟩
        · cases e; exact e0.symm
        · cases e; rfl
      subst hn3
      obtain ⟨vk, vl, vp, vs⟩ := V
      dsimp only at HSl
      obtain ⟨x0, x1, x2, x3⟩ := u.seen
      have HA : Hid (∀ W1 W2 gg cc, Up w W1 IB (lv : Int) (.slice a3 n3 c3) acc rr2 sh2 → W1.grownBy W2 (Value.slice a3 n3 c3).ownBlock → W2.ownsRow (w.heap.size + 2) 69 4 (.slice (some ⟨gg, 0, none⟩) (n3 + 1) cc) (n3 + 1) (acc.flatMap stv ++ [.string vk, .int .i64 vl, .int .i64 vp, .int .i64 vs]) → Up w (W2.setCell ⟨IB, 1, none⟩ (.slice (some ⟨gg, 0, none⟩) (n3 + 1) cc)) IB (lv : Int) (.slice (some ⟨gg, 0, none⟩) (n3 + 1) cc) (acc ++ [⟨vk, vl, vp, vs⟩]) rr2 sh2 ∧ W2.cell? ⟨IB, 1, none⟩ = some (.slice a3 n3 c3) ∧ W2.frozen? ⟨IB, 1, none⟩ = false) := fun W1 W2 gg cc hU hg ho => by
        have h3 := hU.img.grown4 hU.own hg (by decide)
        refine ⟨hU.app (s := ⟨vk, vl, vp, vs⟩) ?_ hg, h3.cell (i := 1) rfl, h3.frozen 1⟩
        rw [u1, List.flatMap_append]
        exact ho
      clear u u1 u2 u3 u4 u5 I hV hrr2 hsh2 hrl ho0 hlt
      go_wp2
      go_region_law (first
        | (refine step_append_lies _ (by rfl) _ _ _ (by rfl) (w.heap.size + 2) 69 i0 _ 4 40 Try.underlying29 hinf hz0 hz1 hz2 rfl (by omega) (.slice a3 n3 c3) n3 (acc.flatMap stv) (by rfl) (by have := (HU4.out.later (below_new w4 (.cells #[.string vk, .int .i64 vl, .int .i64 vp, .int .i64 vs] 69))).own; rwa [HT.out.1] at this) ⟨w4.heap.size, 0, none⟩ 1 1 [.string vk, .int .i64 vl, .int .i64 vp, .int .i64 vs] (by rfl) (by rfl) (World.news_of_block (cs := #[.string vk, .int .i64 vl, .int .i64 vp, .int .i64 vs]) (t := 69) (fr := (0, 0)) (heap_new w4 _)) (by simp [Value.oneCell']) (by omega) (by unfold maxLen; omega) (by omega) (by have := HU4.out.ib; have := HU4.out.img.lt; simp; omega) (w4.heap.size + 1) (by simp) ?_; intro gg cc w5 hown5 hgrow hat hlt2; obtain ⟨hu5, z1, z2⟩ := HA.out _ w5 gg cc (HU4.out.later (below_new w4 (.cells #[.string vk, .int .i64 vl, .int .i64 vp, .int .i64 vs] 69))) hgrow hown5; have HU5 : Hid (Up w (w5.setCell ⟨IB, 1, none⟩ (.slice (some ⟨gg, 0, none⟩) (n3 + 1) cc)) IB (lv : Int) (.slice (some ⟨gg, 0, none⟩) (n3 + 1) cc) (acc ++ [⟨vk, vl, vp, vs⟩]) rr2 sh2) := hu5; clear hu5 hown5 hgrow hat hlt2)
        | (go_simp; go_wp2_with (go_at_call 41; refine (HSl.out _ (HU1.out.later (below_drawn wr 1))).mono ?_; rintro e w4 ⟨rfl, hu4⟩; have HU4 : Hid (Up w w4 IB (lv : Int) (.slice a3 n3 c3) acc rr2 sh2) := hu4; have y1 := hu4.seen.2.1; have y3 := hu4.seen.2.2.2; clear hu4)))
      all_goals
        have HN : Hid (Up w (w5.setCell ⟨IB, 1, none⟩ (.slice (some ⟨gg, 0, none⟩) (n3 + 1) cc)) IB (lv : Int) (.slice (some ⟨gg, 0, none⟩) (n3 + 1) cc) (acc ++ [(⟨vk, vl, vp, vs⟩ : St)]) rr2 sh2 ∧ (acc ++ [(⟨vk, vl, vp, vs⟩ : St)]).length = n3 + 1 ∧ rr2.length ≤ 579 ∧ (acc ++ [(⟨vk, vl, vp, vs⟩ : St)]) ++ rdS (ct - (n3 + 1)) rr2 = rdS ct R0 ∧ rdR (ct - (n3 + 1)) rr2 = rdR ct R0 ∧ rdF (ct - (n3 + 1)) rr2 sh2 = rdF ct R0 F0) := by
          rw [hd2]
          exact ⟨HU5.out, by rw [List.length_append, HT.out.1]; rfl, HT.out.2.1, HT.out.2.2.1, HT.out.2.2.2.1, HT.out.2.2.2.2⟩
        go_wp2
        go_roundg (ct - (n3 + 1))
        case measure => omega
        case rel => exact ⟨n3 + 1, some ⟨gg, 0, none⟩, n3 + 1, cc, acc ++ [⟨vk, vl, vp, vs⟩], rr2, sh2, by omega, by go_num, HN⟩
    · have hkc : k = ct := by omega
      subst hkc
      rw [Nat.sub_self, rdS, List.append_nil] at u3
      rw [Nat.sub_self, rdR] at u4
      rw [Nat.sub_self, rdF] at u5
      rw [← u3, ← u4, ← u5] at HU
      rw [← u3] at HKS
      have ho0 := u.own
      have hn3 : n3 = acc.length := by
        rcases ho0.2 with ⟨e, e0⟩ | ⟨g, cap, cur, e, _⟩
        · cases e; exact e0.symm
        · cases e; rfl
      rw [← hn3] at ho0
      obtain ⟨a', c', e', z1, _, z3, z4⟩ := zown_row hn3 ho0
      cases e'
      have HZ : Hid (ZArg wr a3 n3 c3 acc) := ⟨hn3, z3, z4, HKS.out, z1⟩
      have HNe : Hid (∀ b off, a3 = some ⟨b, off, none⟩ → b ≠ w.heap.size) := fun b off e => by
        have := (ho0.lt b (by rw [e]; rfl)).1
        omega
      have kd := done_any _ _ rr sh wr u.rd
      have kr := right_any (lv : Int) a3 n3 c3 acc wr HZ.out
      have HU1 : Hid (Up w wr IB (lv : Int) (.slice a3 n3 c3) acc rr sh) := u
      obtain ⟨x0, x1, x2, x3⟩ := u.seen
      have m0 : wr.cell? ⟨w.heap.size, 0, none⟩ = some (.int .i64 0) := u.res.cell (i := 0) rfl
      have m1 : wr.cell? ⟨w.heap.size, 1, none⟩ = some (.slice none 0 0) := u.res.cell (i := 1) rfl
      have f0 := u.res.frozen 0
      have f1 := u.res.frozen 1
      obtain ⟨D, eD⟩ : ∃ D, D = dn rr sh := ⟨_, rfl⟩
      obtain ⟨O, eO⟩ : ∃ O, O = imgOk (lv : Int) acc := ⟨_, rfl⟩
      rw [← eD] at kd HU
      rw [← eO] at kr HU
      have hi1 : ¬ (k : Int) < (k : Int) := by omega
      clear u u1 u2 u3 u4 u5 I ho0 hn3 z1 z3 z4 eD eO hlt
      cases D with
      | false =>
        have HU2 : Hid (upk r = none) := HU.out
        go_wp2_with (go_at_call 42; refine kd.mono ?_; rintro e w6 ⟨rfl, rfl⟩)
        (try simp only [Exit.inBlock, Exit.then])
        refine bodyPost_ret (v := .tuple #[.agg #[.int .i64 0, .slice none 0 0], .bool false]) ?_ rfl (UnpPost.no HU2.out (below_set2 HU1.out.bel (Nat.le_refl _) _ _))
        rw [results_cell_tmp rfl]
        go_simp
      | true =>
        cases O with
        | false =>
          have HU2 : Hid (upk r = none) := HU.out
          go_wp2_with (first
            | (go_at_call 42; refine kd.mono ?_; rintro e w6 ⟨rfl, rfl⟩)
            | (go_at_call 12; refine kr.mono ?_; rintro e w7 ⟨rfl, hb7⟩; have HU7 : Hid (Up w w7 IB (lv : Int) (.slice a3 n3 c3) acc rr sh) := HU1.out.later hb7; have p0 : w7.cell? ⟨w.heap.size, 0, none⟩ = some (.int .i64 0) := HU7.out.res.cell (i := 0) rfl; have p1 : w7.cell? ⟨w.heap.size, 1, none⟩ = some (.slice none 0 0) := HU7.out.res.cell (i := 1) rfl; have p2 := HU7.out.res.frozen 0; have p3 := HU7.out.res.frozen 1; clear hb7))
          (try simp only [Exit.inBlock, Exit.then])
          refine bodyPost_ret (v := .tuple #[.agg #[.int .i64 0, .slice none 0 0], .bool false]) ?_ rfl (UnpPost.no HU2.out (below_set2 HU7.out.bel (Nat.le_refl _) _ _))
          rw [results_cell_tmp rfl]
          go_simp
        | true =>
          have HU2 : Hid (upk r = some (lv, acc)) := HU.out
          go_wp2_with (first
            | (go_at_call 42; refine kd.mono ?_; rintro e w6 ⟨rfl, rfl⟩)
            | (go_at_call 12; refine kr.mono ?_; rintro e w7 ⟨rfl, hb7⟩; have HU7 : Hid (Up w w7 IB (lv : Int) (.slice a3 n3 c3) acc rr sh) := HU1.out.later hb7; have HZ7 : Hid (ZArg w7 a3 n3 c3 acc) := HZ.out.later hb7; have p0 : w7.cell? ⟨w.heap.size, 0, none⟩ = some (.int .i64 0) := HU7.out.res.cell (i := 0) rfl; have p1 : w7.cell? ⟨w.heap.size, 1, none⟩ = some (.slice none 0 0) := HU7.out.res.cell (i := 1) rfl; have p2 := HU7.out.res.frozen 0; have p3 := HU7.out.res.frozen 1; have p4 := HU7.out.seen.1; have p5 := HU7.out.seen.2.1; clear hb7))
          (try simp only [Exit.inBlock, Exit.then])
          refine bodyPost_ret (v := .tuple #[.agg #[.int .i64 (lv : Int), .slice a3 n3 c3], .bool true]) ?_ rfl (UnpPost.yes HU2.out ((HZ7.out.set _ _ HNe.out).set _ _ HNe.out) (below_set2 HU7.out.bel (Nat.le_refl _) _ _))
          rw [results_cell_tmp rfl]
          go_simp
theorem unpack_any (a : Option Addr) (n cap : Nat) (L : List Nat) (w : World) (hn : n = L.length) (hm : n ≤ maxLen) (hr : BRow w a L) :
    Calls Try.prog 17 #[.slice a n cap] w fun e w' => UnpPost w (upk (u8s L)) e w' := by
  by_cases h : 579 < n
  · exact unp_long a n cap (u8s L) w (by rw [u8s_length, hn]) h hm
  · cases hb : ((upM (u8s L) != 84) || decide (8 < upC (u8s L))) with
    | true => exact unp_bad a n cap L w hn (by omega) hr hb
    | false => exact unp_go a n cap L w hn (by omega) hr hb
end Go.Proofs.Ytfalbbcbgkiejaa
