/-
  A tree's Shapes.
-/
import Derived.Test.YtlfgeanafidopaaQU
import Derived.Test.YtlfgeanafidopaaQV
import Derived.OwnWalk
namespace Go.Proofs.Ytlfgeanafidopaa.Bt
open Go.RowKit Go.Shelf
set_option maxRecDepth 10000

theorem own_base {b b' : Nat} {ty : TypeId} {sz : Nat} {w : World} {v : Value} {n : Nat} {xs : List Value} (h : w.ownsRow b ty sz v n xs) (hb : b' ≤ b) : w.ownsRow b' ty sz v n xs := by
  refine ⟨h.1, ?_⟩
  rcases h.2 with q | ⟨g, cap, cur, q1, q2, q3⟩
  · exact .inl q
  · exact .inr ⟨g, cap, cur, q1, Nat.le_trans hb q2, q3⟩
theorem shps_len (m : Nat) (l : List (El (m + 1))) : l.length ≤ (shps m l).length := by
  cases m with
  | zero => simp [shps]
  | succ m => show _ ≤ (l.map _ ++ _).length; rw [List.length_append, List.length_map]; omega
theorem pks_len (m : Nat) (ks : List (En (m + 1))) : (ks.flatMap (pks m)).length ≤ (restOf m ks).length := by
  cases m with
  | zero =>
    have : ks.flatMap (pks 0) = [] := by
      induction ks with
      | nil => rfl
      | cons a l ih => rw [List.flatMap_cons, ih]; rfl
    rw [this]; exact Nat.zero_le _
  | succ m =>
    refine Nat.le_trans (Nat.le_of_eq ?_) (shps_len m _)
    rw [List.length_map, List.length_flatMap, List.length_flatMap]
    congr 1
    exact List.map_congr_left fun e _ => List.length_map _
theorem take_flat {α β : Type} (f : α → List β) (l : List α) (j : Nat) : ((l.take j).flatMap f).length ≤ (l.flatMap f).length := by
  conv => rhs; rw [← List.take_append_drop j l, List.flatMap_append, List.length_append]
  omega
theorem own_slice' {W : World} {base : Nat} {e : TypeId} {size : Nat} {v : Value} {k : Nat} {xs : List Value} (h : W.ownsRow base e size v k xs) : ∃ a n cap, v = .slice a n cap := by
  obtain ⟨a, c, e⟩ := own_slice h
  exact ⟨a, k, c, e⟩
def OutS (F : Nat) (w : World) (tot : List Shp) (kx : Nat) (vl vr : Value) (W : World) : Prop :=
  (∃ S a c, vr = .slice a 0 c ∧ S.map Shc.s = tot ∧ ShRow w W vl S ∧ Below w.heap.size w W) ∨
  (∃ (m : Nat) (ks : List (En (m + 1))) (S : List Shc), m < kx ∧ 0 < ks.length ∧ (∀ e ∈ ks, Nds F w m e) ∧ W.ownsRow w.heap.size 65 1 vr ks.length (ks.map fun e => ptrV e.h.p) ∧ ShRow w W vl S ∧ Below w.heap.size w W ∧ S.map Shc.s ++ shps m (ks.map (abs (m + 1))) = tot)
theorem InS.fin {F : Nat} (hF : 4 ≤ F) {w W0 : World} {tot : List Shp} {m : Nat} {ks : List (En (m + 1))} {vr : Value} {N : Nat} {vl vb : Value} {W : World} (h : InS w W0 tot m ks vr N N vl vb W) (hN : N = ks.length) (h0 : 0 < ks.length) (hk : ∀ e ∈ ks, Nds F w m e) : OutS F w tot m vl vb W := by
  obtain ⟨S, hS, hE⟩ := h.sh
  have hb := own_base h.bel h.base
  rw [List.take_of_length_le (by omega)] at hb
  rw [List.drop_eq_nil_of_le (by omega)] at hE
  cases m with
  | zero =>
    have e0 : ks.flatMap (pks 0) = [] := List.eq_nil_of_length_eq_zero (by have := pks_len 0 ks; have e : (restOf 0 ks).length = 0 := rfl; omega)
    rw [e0] at hb
    obtain ⟨a, c, e⟩ := own_slice hb
    refine .inl ⟨S, a, c, e, ?_, hS, h.below⟩
    simpa [restOf] using hE
  | succ m =>
    refine .inr ⟨m, ks.flatMap En.l, S, by omega, ?_, fun e he => ?_, ?_, hS, h.below, ?_⟩
    · obtain ⟨e, r, rfl⟩ : ∃ e r, ks = e :: r := by
        cases ks with
        | nil => simp at h0
        | cons e r => exact ⟨e, r, rfl⟩
      have := (hk e (by simp)).pos (by omega)
      rw [List.flatMap_cons, List.length_append]; omega
    · obtain ⟨y, hy, he⟩ := List.mem_flatMap.1 he
      exact (hk y hy).kid hF he
    · have e1 : (ks.flatMap (pks (m + 1))) = (ks.flatMap En.l).map fun e => e.h.p := by
        rw [List.map_flatMap]; rfl
      rw [e1, List.length_map, List.map_map] at hb
      exact hb
    · simpa [restOf] using hE
theorem InS.start {F : Nat} {w W : World} {tot : List Shp} {m : Nat} {ks : List (En (m + 1))} {S : List Shc} {vl vr : Value} (hr : W.ownsRow w.heap.size 65 1 vr ks.length (ks.map fun e => ptrV e.h.p)) (hS : ShRow w W vl S) (hb : Below w.heap.size w W) (hE : S.map Shc.s ++ shps m (ks.map (abs (m + 1))) = tot) (_ : 4 ≤ F) : InS w W tot m ks vr 0 0 vl (.slice none 0 0) W :=
  ⟨⟨S, hS, by rw [List.drop_zero, ← shps_rest]; exact hE⟩, hr, fun g hg => (hr.lt g hg).2, by rw [List.take_zero]; exact World.ownsRow_nil _ _ _ 1, hb, hb.size, Nat.le_refl _⟩
theorem shcv_eq (m : Nat) (e : En (m + 1)) (B : Nat) : shcv ⟨shp m (abs (m + 1) e), B⟩ = [.int .i64 ((m : Nat) : Int), .slice (some ⟨B, 0, none⟩) e.l.length e.l.length, .bool e.h.d] := by
  have : (shp m (abs (m + 1) e)).ks.length = e.l.length := by
    show ((abs (m + 1) e).l.map (ek m)).length = _
    rw [List.length_map, abs_l, List.length_map]
  unfold shcv
  rw [this]
  rfl
theorem sh_new (w : World) (a b c : Value) : ∀ j u, ([a, b, c] : List Value)[j]? = some u → (w.alloc (.cells #[a, b, c] 48)).cell? ((⟨w.heap.size, 0, none⟩ : Addr).add j) = some u := by
  intro j u hj
  rw [show (⟨w.heap.size, 0, none⟩ : Addr).add j = ⟨w.heap.size, j, none⟩ by unfold Addr.add; split <;> simp_all]
  exact (Row.new w [a, b, c] 48).cell hj
theorem wpList_append_sh {w : World} {ops : Array Oper} {rest : List Oper} {o : Oper} {a : Act} {Q : Exit → Act → World → Prop} (hgd : o.guard = none) (s x : Operand)
    (ho : o.op = .call { callee := .builtin .append, args := #[s, x], argTypes := #[44, 44] })
    (base : Nat) (v : Value) (n : Nat) (S : List Shc) (hs : a.eval s = v) (hn : S.length = n) (hown : w.ownsRow base 48 3 v S.length (S.flatMap shcv))
    (g : Nat) (c : Shc) (hx : a.eval x = .slice (some ⟨g, 0, none⟩) 1 1) (hu : ∀ j u, (shcv c)[j]? = some u → w.cell? ((⟨g, 0, none⟩ : Addr).add j) = some u) (hb : (n + 1) * 40 ≤ 140737488355328) (hbase : base ≤ w.heap.size)
    (h : ∀ v' w', w'.ownsRow base 48 3 v' (S.length + 1) (S.flatMap shcv ++ shcv c) → w.grownBy w' v.ownBlock → wpList Try.prog ops Q rest (a.put o.dst v') w') : wpList Try.prog ops Q (o :: rest) a w := by
  obtain ⟨i0, hi, hz0, hz1, hz2⟩ := info_parts infoSh
  subst hn
  refine wpList_append_own w hgd s x 44 ho base 48 i0 _ 3 40 Try.underlying44 hi hz0 hz1 hz2 rfl (by omega) v S.length _ hs hown ⟨g, 0, none⟩ 1 1 (shcv c) hx rfl hu ?_ (by unfold maxLen; omega) hb hbase (fun v' w' h1 h2 _ => h v' w' h1 h2)
  intro u hu'
  exact shcv_one [c] u (by simpa using hu')
set_option maxHeartbeats 8000000 in
theorem shapes_any {w : World} {p F : Nat} {x : Tre} {fs : List Nat} (h : Live w p F x fs) (hsz : (shps x.n [x.T]).length ≤ 3518437208880) :
    Calls Try.prog 20 #[.pointer (some ⟨p, 0, none⟩)] w fun e w' => ∃ a n c S, e = .returned (.slice a n c) ∧ ShRow w w' (.slice a n c) S ∧ S.map Shc.s = shps x.n [x.T] ∧ Below w.heap.size w w' := by
  obtain ⟨t, h1, _⟩ := h.tr
  have hI := h.inv.of h1
  have hF := h.lo
  have hF2 := h.hi
  have d2 : w.cell? ⟨p, 2, none⟩ = some (.pointer (some ⟨t.h.p, 0, none⟩)) := h1.row.cell (i := 2) rfl
  obtain ⟨tot, htot⟩ : ∃ tot, tot = shps x.n [x.T] := ⟨_, rfl⟩
  have HS0 : Hid (OutS F w tot (x.n + 1) (.slice none 0 0) (.slice (some ⟨w.heap.size, 0, none⟩) 1 1) (w.alloc (.cells #[.pointer (some ⟨t.h.p, 0, none⟩)] 65))) := by
    refine .inr ⟨x.n, [t], [], by omega, by simp, fun e he => ?_, ?_, ⟨World.ownsRow_nil _ _ _ 3, fun c hc => (by cases hc)⟩, below_new w _, ?_⟩
    · rw [List.mem_singleton.1 he]
      exact ⟨h1.lies, by have := hI.le; rwa [abs_l, List.length_map] at this, fun hn => by have := hI.two hn; rw [abs_l, List.length_map] at this; omega, hI.good.kids⟩
    · exact ⟨rfl, .inr ⟨w.heap.size, 1, #[.pointer (some ⟨t.h.p, 0, none⟩)], rfl, Nat.le_refl _, World.alloc_heap_new w _, Nat.le_refl _, by unfold maxLen; omega, rfl, rfl⟩⟩
    · rw [htot, ← h1.abs]; rfl
  have HSz : Hid (tot.length ≤ 3518437208880) := by show tot.length ≤ _; rw [htot]; exact hsz
  rw [← htot]
  clear h1 hI h hsz htot
  generalize t.h.p = tp at *
  go_enter Try.func20, Try.ntmps20
  go_wp2
  go_loopg [3, 4] (x.n + 1) (fun kx s3 s4 wr => ∃ a3 n3 c3 a4 n4 c4, s3 = .slice a3 n3 c3 ∧ s4 = .slice a4 n4 c4 ∧ Hid (OutS F w tot kx (.slice a3 n3 c3) (.slice a4 n4 c4) wr))
  case atStart => exact ⟨none, 0, 0, _, _, _, rfl, rfl, HS0.out⟩
  case round =>
    obtain ⟨a3, n3, c3, a4, n4, c4, rfl, rfl, I⟩ := hrel
    rcases I.out with ⟨S, a, c, e4, hS, hR, hb⟩ | ⟨m, ks, S, hm, h0, hk, hrow, hR, hb, hE⟩
    · cases e4
      have HD : Hid (ShRow w wr (.slice a3 n3 c3) S ∧ S.map Shc.s = tot ∧ Below w.heap.size w wr) := ⟨hR, hS, hb⟩
      clear hS hR hb I
      go_wp2
      go_ret
      exact ⟨a3, n3, c3, S, rfl, HD.out⟩
    · have hn4 : n4 = ks.length := by
        rcases hrow.2 with ⟨e, e0⟩ | ⟨g, cap, cur, e, _⟩
        · cases e; exact e0.symm
        · cases e; rfl
      have HI0 := InS.start hrow hR hb hE hF
      have HI : Hid (InS w wr tot m ks (.slice a4 n4 c4) 0 0 (.slice a3 n3 c3) (.slice none 0 0) wr) := HI0
      have HK : Hid (∀ e ∈ ks, Nds F w m e) := hk
      have HN4 : Hid (n4 = ks.length) := hn4
      have hn0 : (0 : Int) < (n4 : Int) := by omega
      have hn5 : 0 < n4 := by omega
      have hgm : m < gk := hm
      have hn4b : n4 ≤ 3518437208880 := by
        have q1 := congrArg List.length hE
        have q2 := shps_len m (ks.map (abs (m + 1)))
        rw [List.length_map] at q2
        simp only [List.length_append, List.length_map] at q1
        have := HSz.out
        omega
      clear I hrow hR hb hE HI0 hk hn4 h0
      obtain ⟨WO, hWO⟩ : ∃ WO, WO = wr := ⟨_, rfl⟩
      subst hWO
      go_wp2
      go_loopg [3, 5, 20] n4 (fun kx s3 s5 s20 wr2 => ∃ i a3 n3 c3 a5 n5 c5, i + kx = n4 ∧ s3 = .slice a3 n3 c3 ∧ s5 = .slice a5 n5 c5 ∧ s20 = .int .i64 (i : Nat) ∧ Hid (InS w WO tot m ks (.slice a4 n4 c4) i i (.slice a3 n3 c3) (.slice a5 n5 c5) wr2))
      case atStart => exact ⟨0, a3, n3, c3, none, 0, 0, by omega, rfl, rfl, rfl, HI.out⟩
      case round =>
        obtain ⟨i, a3, n3, c3, a5, n5, c5, hi, rfl, rfl, rfl, J⟩ := hrel
        by_cases hlt : i < n4
        · obtain ⟨e, he⟩ : ∃ e, ks[i]? = some e := ⟨_, List.getElem?_eq_getElem (by have := HN4.out; omega)⟩
          obtain ⟨g, cap, hvr, q1⟩ := J.out.cell he
          have ea4 : a4 = some ⟨g, 0, none⟩ := by cases hvr; rfl
          subst ea4
          clear hvr
          have hNd := HK.out e (List.mem_of_getElem? he)
          obtain ⟨S, hR, hE⟩ := J.out.sh
          have hbw := J.out.below
          have kS := shape_any e.h m _ wr (hNd.lies.1.later hbw) (by have := hNd.le; rw [List.length_map]; omega)
          rw [List.length_map] at kS
          unfold shV at kS
          have hSl : S.length = n3 := by
            rcases hR.own.2 with ⟨e, e0⟩ | ⟨g, cap, cur, e, _⟩
            · cases e; exact e0
            · cases e; rfl
          have hLen : S.length + 1 ≤ tot.length := by
            have := congrArg List.length hE
            have hdl : 1 ≤ (ks.drop i).length := by rw [List.length_drop]; have := HN4.out; omega
            simp only [List.length_append, List.length_map] at this
            omega
          have hPk : ((ks.take i).flatMap (pks m)).length + (pks m e).length ≤ tot.length := by
            have a1 := pks_len m ks
            have a2 := take_flat (pks m) ks (i + 1)
            have et : ks.take (i + 1) = ks.take i ++ [e] := by rw [List.take_add_one, he]; rfl
            rw [et, List.flatMap_append, List.flatMap_singleton, List.length_append] at a2
            have := congrArg List.length hE
            simp only [List.length_append, List.length_map] at this
            omega
          have hn5 : n5 = ((ks.take i).flatMap (pks m)).length := by
            rcases J.out.bel.2 with ⟨e, e0⟩ | ⟨g, cap, cur, e, _⟩
            · cases e; exact e0.symm
            · cases e; rfl
          have HR : Hid (ShRow w wr (.slice a3 n3 c3) S) := hR
          have HEq : Hid (S.map Shc.s ++ (((ks.drop i).map (abs (m + 1))).map (shp m) ++ restOf m ks) = tot) := hE
          have HE1 : Hid (ks[i]? = some e) := he
          have HNd : Hid (Nds F w m e) := hNd
          have HB3 : Hid ((n3 + 1) * 40 ≤ 140737488355328) := by show (n3 + 1) * 40 ≤ _; have := HSz.out; omega
          have HB5 : Hid (((ks.take i).flatMap (pks m)).length + (pks m e).length ≤ 3600000000000) := by show _ + _ ≤ _; have := HSz.out; omega
          have HS3 : Hid (S.length = n3) := hSl
          have HN5 : Hid (n5 = ((ks.take i).flatMap (pks m)).length) := hn5
          have HBw : Hid (Below w.heap.size w wr) := hbw
          have hi1 : (i : Int) < (n4 : Int) := by omega
          have A1 : Hid True := trivial
          have A2 : Hid True := trivial
          clear he hNd hR hE hSl hLen hPk hn5 hbw
          go_wp2_with (first
            | (go_at_call 44; refine kS.mono ?_; rintro e' W1 ⟨rfl, hb1, hw1⟩; have Hb1 : Hid (Below wr.heap.size wr W1) := hb1; have Hw1 : Hid (Whole W1 (wr.heap.size + 1) ((e.l.map (slE m)).map keyV) 9) := hw1; clear hb1 hw1)
            | (at_builtin; clear A1; refine wpList_append_sh rfl (.tmp 24) (.tmp 27) rfl w.heap.size (.slice a3 n3 c3) n3 S rfl HS3.out (own_lat HR.out.own (bafter Hb1.out (below_new W1 _))) W1.heap.size ⟨shp m (abs (m + 1) e), wr.heap.size + 1⟩ rfl (by rw [shcv_eq]; exact sh_new W1 _ _ _) HB3.out ((bafter HBw.out (bafter Hb1.out (below_new W1 (.cells #[.int .i64 ((m : Nat) : Int), .slice (some ⟨wr.heap.size + 1, 0, none⟩) e.l.length e.l.length, .bool e.h.d] 48)))).size) ?_; intro x1 W3 ho1 hg1; have HJ1 : Hid (InS w WO tot m ks (.slice (some ⟨g, 0, none⟩) n4 c4) (i + 1) i x1 (.slice a5 n5 c5) W3) := J.out.push HR.out HEq.out HE1.out (wr.heap.size + 1) (bafter Hb1.out (below_new W1 _)) (Hw1.out.later (below_new W1 _)) ho1 hg1; obtain ⟨Sx, hSx, _⟩ := HJ1.out.sh; obtain ⟨ax, nx, cx, ex⟩ := own_slice' hSx.own; subst ex; clear ho1 hg1 hSx)
            | (go_at_call 45; refine (kids_row hF2 m e HNd.out W3 HJ1.out.below).mono ?_; rintro e' W4 ⟨ak, nk, ck, rfl, hkr, hb4⟩; have HJ2 : Hid (InS w WO tot m ks (.slice (some ⟨g, 0, none⟩) n4 c4) (i + 1) i (.slice ax nx cx) (.slice a5 n5 c5) W4) := HJ1.out.later hb4; have HKr : Hid (KidR W4 (.slice ak nk ck) (pks m e)) := hkr; clear hkr hb4)
            | (at_builtin; clear A2; refine wpList_append_ps rfl (.tmp 29) (.tmp 31) rfl WO.heap.size (.slice a5 n5 c5) n5 ((ks.take i).flatMap (pks m)) rfl HN5.out (by have := HJ2.out.bel; rw [← HN5.out] at this; exact this) (.slice ak nk ck) (pks m e) rfl HKr.out HB5.out HJ2.out.size ?_; intro x2 W5 ho2 hg2; have HJ3 : Hid (InS w WO tot m ks (.slice (some ⟨g, 0, none⟩) n4 c4) (i + 1) (i + 1) (.slice ax nx cx) x2 W5) := HJ2.out.kids HE1.out ho2 hg2; obtain ⟨ay, ny, cy, ey⟩ := own_slice' HJ3.out.bel; subst ey; clear ho2 hg2))
          go_roundg (n4 - (i + 1))
          case measure => omega
          case rel => exact ⟨i + 1, ax, nx, cx, ay, ny, cy, by omega, rfl, rfl, by go_num, HJ3.out⟩
        · have hin : i = n4 := by omega
          subst hin
          have HO : Hid (OutS F w tot m (.slice a3 n3 c3) (.slice a5 n5 c5) wr) := J.out.fin hF HN4.out (by have := HN4.out; omega) HK.out
          go_wp2
          go_roundg m
          case measure => exact hgm
          case rel => exact ⟨a3, n3, c3, a5, n5, c5, rfl, rfl, HO.out⟩
end Go.Proofs.Ytlfgeanafidopaa.Bt
