/-
  Proved: the statement that parting slots loses and turns none, and how long the lists are (ImageSplit), for every input.
-/
import Derived.Test.YtfalbbcbgkiejabIEq
import Derived.Test.YtfalbbcbgkiejabISplM
import Derived.Test.YtfalbbcbgkiejabIArg
import Derived.OwnWalk
namespace Go.Proofs.Ytfalbbcbgkiejab.imageSplit
open Go.ChangeShapes Go.WideShapes Go.ChangeAt Go.RowKit M
set_option maxRecDepth 10000

theorem lrow_at {w : World} {a : Option Addr} {ls : List (List St)} (h : LRow w a ls) {i : Nat} {y : List St} (hy : ls[i]? = some y) :
    ∃ b off, a = some ⟨b, off, none⟩ ∧ ∀ j z, ls[j]? = some z → ∃ ya yc, w.cell? ⟨b, off + j, none⟩ = some (.slice ya z.length yc) ∧ ZRow w ya z ∧ z.length ≤ yc ∧ yc ≤ maxLen := by
  rcases h with e | ⟨b, off, e, hc⟩
  · rw [e] at hy; simp at hy
  · exact ⟨b, off, e, hc⟩
theorem flat_take {ls : List (List St)} {i : Nat} {y : List St} (h : ls[i]? = some y) : (ls.take (i + 1)).flatten = (ls.take i).flatten ++ y := by
  obtain ⟨hi, e⟩ := List.getElem?_eq_some_iff.1 h
  rw [List.take_succ_eq_append_getElem hi, e]
  simp
theorem flat_len_le (ls : List (List St)) (i : Nat) : (ls.take i).flatten.length ≤ ls.flatten.length := by
  conv => rhs; rw [← List.take_append_drop i ls, List.flatten_append, List.length_append]
  omega
theorem own_slice {W : World} {base : Nat} {e : TypeId} {size : Nat} {v : Value} {k : Nat} {xs : List Value} (h : W.ownsRow base e size v k xs) : ∃ a cap, v = .slice a k cap := by
  rcases h.2 with ⟨rfl, h0⟩ | ⟨g, cap, _, rfl, _⟩
  · exact ⟨none, 0, by rw [h0]⟩
  · exact ⟨_, cap, rfl⟩
set_option maxHeartbeats 8000000 in
theorem walk (a : Option Addr) (len cap : Nat) (l : List St) (w : World) (hA : ZIn w a len cap l) (hs : cap * 40 ≤ 140737488351232) :
    Calls Try.prog 3 #[.slice a len cap] w fun e w' => e = .returned (.bool true) ∧ Below w.heap.size w w' := by
  have hlc := hA.arg.le
  have hk := hA.arg.keys
  have k1 : ∀ W, Below w.heap.size w W → Calls Try.prog 6 #[.slice a len cap] W fun e w' => ∃ a1 c1, e = .returned (.slice a1 len c1) ∧ ZArg w' a1 len c1 l ∧ (a1 = none → c1 = 0) ∧ Below W.heap.size W w' := fun W hb => by
    refine (slots_any a len cap l W (hA.arg.later hb) (by omega)).mono ?_
    rintro e w' ⟨a1, n1, c1, rfl, hn, hz⟩
    obtain rfl : n1 = len := by rw [hn, hA.arg.len_eq]
    refine ⟨a1, c1, rfl, hz.arg hn hk, ?_, hz.2⟩
    have h1 := hz.1
    rw [← hn] at h1
    obtain ⟨a', c', e, _, q, _⟩ := zown_row hn h1
    cases e
    exact fun e => (q e).2
  have k2 : ∀ W a1 c1, ZArg W a1 len c1 l → (a1 = none → c1 = 0) → Calls Try.prog 5 #[.slice a1 len c1] W fun e w' => ∃ la n c, e = .returned (.slice la n c) ∧ LArg w' la n c (spl l) ∧ Below W.heap.size W w' := fun W a1 c1 h1 h2 => split_any a1 len c1 l W h1 (by omega) h2
  obtain ⟨ls, hls⟩ : ∃ ls, ls = spl l := ⟨_, rfl⟩
  have HFl : Hid (ls.flatten = l) := by rw [hls]; exact spl_flat l
  have HSz : Hid (∀ (i : Nat) (y : List St), ls[i]? = some y → 1 ≤ y.length ∧ y.length ≤ 8 ∧ ∀ (j : Nat) (z : List St), ls[j]? = some z → j ≤ i → y.length ≤ z.length ∧ z.length ≤ y.length + 1) := fun i y h => by rw [hls] at h ⊢; exact spl_sizes h
  have hN : ls.length = (len + 7) / 8 := by rw [hls, spl_len, ← hA.arg.len_eq]
  rw [← hls] at k2
  have HLe : Hid (∀ i, (ls.take i).flatten.length ≤ len) := fun i => by
    have := flat_len_le ls i
    rw [HFl.out, ← hA.arg.len_eq] at this
    exact this
  have HK : Hid (∀ s ∈ l, s.key.size ≤ maxLen) := hk
  have HLen : Hid (len = l.length) := hA.arg.len_eq
  have hcm := hA.arg.max
  unfold maxLen at hcm
  have M1 : Hid True := trivial
  clear hls hk
  go_enter Try.func3, Try.ntmps3
  go_wp2_with (first
    | (clear M1; go_at_call 6; refine (k1 _ (Below.refl _ _)).mono ?_; rintro e w1 ⟨a1, c1, rfl, hz1, hn1, hb1⟩; have HB1 : Hid (Below w.heap.size w w1) := hb1; have HZ1 : Hid (ZArg w1 a1 len c1 l ∧ (a1 = none → c1 = 0)) := ⟨hz1, hn1⟩; clear hz1 hn1 hb1)
    | (go_at_call 5; refine (k2 _ _ _ HZ1.out.1 HZ1.out.2).mono ?_; rintro e w2 ⟨la, m, lc, rfl, hL, hb2⟩; have HB2 : Hid (Below w.heap.size w w2) := bafter HB1.out hb2; have HL2 : Hid (LArg w2 la m lc ls) := hL; clear hL hb2))
  have hmL : m = ls.length := HL2.out.len_eq
  have hmc := HL2.out.le
  have hmx := HL2.out.max
  unfold maxLen at hmx
  have HM : Hid (m = ls.length) := hmL
  rw [← hmL] at hN
  have HN8 : Hid (m = (len + 7) / 8) := hN
  clear hmL HB1 HZ1 hN
  go_loopg [4, 5] m (fun kx s4 s5 wr => ∃ (i : Nat) (v : Value) (n3 : Nat), i + kx = m ∧ v = s4 ∧ s5 = .int .i64 (i : Nat) ∧ Hid (n3 = (ls.take i).flatten.length ∧ wr.ownsRow w2.heap.size 39 4 v n3 ((ls.take i).flatten.flatMap stv) ∧ Below w2.heap.size w2 wr))
  case atStart => exact ⟨0, _, 0, by omega, rfl, rfl, (⟨by simp, by simpa using World.ownsRow_nil _ _ _ 4, Below.refl _ _⟩ : _ ∧ _ ∧ _)⟩
  case round =>
    obtain ⟨i, v, n3, hi, rfl, rfl, I⟩ := hrel
    obtain ⟨j1, j2, j3⟩ := I.out
    by_cases hlt : i < m
    · obtain ⟨y, hy⟩ : ∃ y, ls[i]? = some y := ⟨_, List.getElem?_eq_getElem (by have := HM.out; omega)⟩
      obtain ⟨y0, hy0⟩ : ∃ y, ls[0]? = some y := ⟨_, List.getElem?_eq_getElem (by have := HM.out; omega)⟩
      obtain ⟨b, off, rfl, hc⟩ := lrow_at (HL2.out.row.later j3) hy
      obtain ⟨ya, yc, q0, q1, q2, q3⟩ := hc i y hy
      obtain ⟨ya0, yc0, r0, _, r2, r3⟩ := hc 0 y0 hy0
      obtain ⟨s1, s2, s3⟩ := HSz.out i y hy
      obtain ⟨t1, t2⟩ := s3 0 y0 hy0 (by omega)
      have HT : Hid ((ls.take (i + 1)).flatten = (ls.take i).flatten ++ y) := flat_take hy
      have hn3 : n3 + y.length ≤ len := by have := HLe.out (i + 1); rw [HT.out, List.length_append] at this; omega
      have HO : Hid (wr.ownsRow w2.heap.size 39 4 v n3 ((ls.take i).flatten.flatMap stv)) := j2
      have HB : Hid (Below w2.heap.size w2 wr) := j3
      have HJ : Hid (n3 = (ls.take i).flatten.length) := j1
      have HZ : Hid (ZRow wr ya y ∧ (ya = none → y.length = 0 ∧ yc = 0)) := ⟨q1, fun e => by
        exfalso
        rcases q1 with q | ⟨_, _, q, _⟩
        · rw [q] at s1; simp at s1
        · rw [e] at q; cases q⟩
      rw [Nat.add_zero] at r0
      unfold maxLen at q3 r3
      obtain ⟨X, hX⟩ : ∃ X, X = y.length := ⟨_, rfl⟩
      obtain ⟨X0, hX0⟩ : ∃ X, X = y0.length := ⟨_, rfl⟩
      rw [← hX] at q0 q2 s1 s2 t1 t2 hn3 HZ
      rw [← hX0] at r0 r2 t1 t2
      have HX : Hid (X = y.length) := hX
      have HN : Hid (1 ≤ X ∧ X ≤ 8 ∧ X ≤ X0 ∧ X0 ≤ X + 1) := ⟨s1, s2, t1, t2⟩
      have hi1 : (i : Int) < (m : Int) := by omega
      have HQ : Hid (n3 + X ≤ maxLen ∧ (n3 + X) * 40 ≤ 140737488355328) := ⟨by unfold maxLen; omega, by omega⟩
      have hfin : ∀ q W v', (wr.drewN q).grownBy W v.ownBlock → W.ownsRow w2.heap.size 39 4 v' (n3 + X) (((ls.take i).flatten ++ y).flatMap stv) → Hid (n3 + X = (ls.take (i + 1)).flatten.length ∧ W.ownsRow w2.heap.size 39 4 v' (n3 + X) ((ls.take (i + 1)).flatten.flatMap stv) ∧ Below w2.heap.size w2 W) := fun q W v' hg ho => by
        refine (⟨?_, ?_, grown_own (bafter HB.out (below_drawn wr q)) hg (bafter HB.out (below_drawn wr q)).size (owns_later HO.out (below_drawn wr q))⟩ : _ ∧ _ ∧ _)
        · rw [HT.out, List.length_append, HX.out, HJ.out]
        · rw [HT.out]; exact ho
      have HFin : Hid (∀ q W v', (wr.drewN q).grownBy W v.ownBlock → W.ownsRow w2.heap.size 39 4 v' (n3 + X) (((ls.take i).flatten ++ y).flatMap stv) → Hid (n3 + X = (ls.take (i + 1)).flatten.length ∧ W.ownsRow w2.heap.size 39 4 v' (n3 + X) ((ls.take (i + 1)).flatten.flatMap stv) ∧ Below w2.heap.size w2 W)) := hfin
      clear hfin hs
      cases i with
      | zero =>
        rw [Nat.add_zero] at q0
        clear I j1 j2 j3 hy hy0 hc s3 hX hX0 hlt s1 s2 t1 t2 r0
        go_wp2
        have e1 : ¬ (X : Int) < 1 := by have := HN.out; omega
        have e2 : ¬ (8 : Int) < (X : Int) := by have := HN.out; omega
        have e3 : ¬ (X : Int) < (X : Int) := by omega
        have e4 : ¬ (X : Int) < (X : Int) - 1 := by omega
        have e6 : IntKind.i64.wrap ((X : Int) - 1) = (X : Int) - 1 := by rw [IntKind.wrap_i64]; have := HN.out; omega
        have h0 : ¬ (0 : Int) < (0 : Int) := by omega
        have h1 : (0 : Int) < (m : Int) := by omega
        go_quiet (fail)
        go_wp2_with (at_builtin; refine wpList_append_sts rfl (.tmp 72) (.tmp 76) rfl w2.heap.size v n3 _ rfl (owns_later HO.out (below_drawn wr _)) ya X yc y rfl HX.out (HZ.out.1.later (below_drawn wr _)) HZ.out.2 HQ.out.1 HQ.out.2 (bafter HB.out (below_drawn wr _)).size ?_; intro v5 w5 ho5 hg5; have H5 := HFin.out _ w5 v5 hg5 ho5; clear ho5 hg5)
        go_roundg (m - 1)
        case measure => omega
        case rel => exact ⟨1, v5, n3 + X, by omega, rfl, rfl, H5.out⟩
      | succ j =>
        obtain ⟨yp, hyp⟩ : ∃ y, ls[j]? = some y := ⟨_, List.getElem?_eq_getElem (by have := HM.out; omega)⟩
        obtain ⟨yap, ycp, p0, _, p2, p3⟩ := hc j yp hyp
        obtain ⟨t3, t4⟩ := s3 j yp hyp (by omega)
        obtain ⟨XP, hXP⟩ : ∃ X, X = yp.length := ⟨_, rfl⟩
        rw [← hXP] at p0 p2 t3 t4
        unfold maxLen at p3
        have HNP : Hid (X ≤ XP) := by rw [HX.out]; exact t3
        have HLT : Hid (j + 1 < m) := hlt
        clear I j1 j2 j3 hy hy0 hc s3 hX hX0 hXP hyp t3 t4 hlt s1 s2 t1 t2
        go_wp2
        have e1 : ¬ (X : Int) < 1 := by have := HN.out; omega
        have e2 : ¬ (8 : Int) < (X : Int) := by have := HN.out; omega
        have e3 : ¬ (X0 : Int) < (X : Int) := by have := HN.out; omega
        have e4 : ¬ (X : Int) < (X0 : Int) - 1 := by have := HN.out; omega
        have e6 : IntKind.i64.wrap ((X0 : Int) - 1) = (X0 : Int) - 1 := by rw [IntKind.wrap_i64]; have := HN.out; omega
        have e5 : ¬ (XP : Int) < (X : Int) := by have := HNP.out; omega
        have hj0 : (0 : Int) < (j : Int) + 1 := by omega
        have hj1 : (j : Int) + 1 < (m : Int) := by have := HLT.out; omega
        have hj2 : (j : Int) < (m : Int) := by have := HLT.out; omega
        have hj3 : IntKind.i64.wrap ((j : Int) + 1 - 1) = (j : Int) := by rw [IntKind.wrap_i64]; have := HLT.out; omega
        have h1 : (0 : Int) < (m : Int) := by have := HLT.out; omega
        go_quiet (fail)
        go_wp2_with (at_builtin; refine wpList_append_sts rfl (.tmp 72) (.tmp 76) rfl w2.heap.size v n3 _ rfl (owns_later HO.out (below_drawn wr _)) ya X yc y rfl HX.out (HZ.out.1.later (below_drawn wr _)) HZ.out.2 HQ.out.1 HQ.out.2 (bafter HB.out (below_drawn wr _)).size ?_; intro v5 w5 ho5 hg5; have H5 := HFin.out _ w5 v5 hg5 ho5; clear ho5 hg5)
        go_roundg (m - (j + 2))
        case measure => omega
        case rel => exact ⟨j + 2, v5, n3 + X, by omega, rfl, by go_num, H5.out⟩
    · have him : i = m := by omega
      subst him
      have hfull : ls.take i = ls := List.take_of_length_le (by have := HM.out; omega)
      rw [hfull, HFl.out] at j1 j2
      rw [← HLen.out] at j1
      subst j1
      obtain ⟨fa, fc, rfl, f1, _, f3, f4⟩ := zown_row HLen.out j2
      have HF : Hid (ZArg wr fa n3 fc l) := ⟨HLen.out, f3, f4, HK.out, f1⟩
      have HB : Hid (Below w.heap.size w wr) := bafter HB2.out j3
      have k3 : ∀ W b d, ZArg W fa n3 fc l → ZArg W b n3 d l → Calls Try.prog 7 #[.slice fa n3 fc, .slice b n3 d] W fun e w' => e = .returned (.bool true) ∧ Below W.heap.size W w' := fun W b d h1 h2 => by
        have := equal_any fa b n3 n3 fc d l l W h1 h2
        rwa [eqL_iff.2 rfl] at this
      have HS : Hid (∀ W, Below w.heap.size w W → Calls Try.prog 6 #[.slice a n3 cap] W fun e w' => ∃ a1 c1, e = .returned (.slice a1 n3 c1) ∧ ZArg w' a1 n3 c1 l ∧ (a1 = none → c1 = 0) ∧ Below W.heap.size W w') := k1
      have HCnt : Hid (i = 0 ∨ ((i : Int) - 1) * 8 < (n3 : Int)) := by have := HN8.out; show _ ∨ _; omega
      have hib : i ≤ 140737488351232 := by have := HN8.out; omega
      clear j2 j3 I f1 f3 f4 hfull hs k1 k2 hA
      rcases HCnt.out with e0 | e0
      · subst e0
        go_wp2_with (first
          | (go_at_call 6; refine (HS.out _ HB.out).mono ?_; rintro e w3 ⟨a3, c3, rfl, hz3, _, hb3⟩; have HZ3 : Hid (ZArg w3 a3 n3 c3 l) := hz3; have HF3 : Hid (ZArg w3 fa n3 fc l) := HF.out.later hb3; have HB3 : Hid (Below w.heap.size w w3) := bafter HB.out hb3; clear hz3 hb3)
          | (go_at_call 7; refine (k3 _ _ _ HF3.out HZ3.out).mono ?_; rintro e w4 ⟨rfl, hb4⟩; have HB4 : Hid (Below w.heap.size w w4) := bafter HB3.out hb4; clear hb4)
          | (go_at_call 8; refine (alive_any _).mono ?_; rintro e w5 ⟨rfl, hb5⟩; have HB5 : Hid (Below w.heap.size w w5) := bafter HB4.out hb5; clear hb5))
        go_ret
        exact ⟨rfl, HB5.out⟩
      · by_cases h0 : i = 0
        · subst h0
          go_wp2_with (first
            | (go_at_call 6; refine (HS.out _ HB.out).mono ?_; rintro e w3 ⟨a3, c3, rfl, hz3, _, hb3⟩; have HZ3 : Hid (ZArg w3 a3 n3 c3 l) := hz3; have HF3 : Hid (ZArg w3 fa n3 fc l) := HF.out.later hb3; have HB3 : Hid (Below w.heap.size w w3) := bafter HB.out hb3; clear hz3 hb3)
            | (go_at_call 7; refine (k3 _ _ _ HF3.out HZ3.out).mono ?_; rintro e w4 ⟨rfl, hb4⟩; have HB4 : Hid (Below w.heap.size w w4) := bafter HB3.out hb4; clear hb4)
            | (go_at_call 8; refine (alive_any _).mono ?_; rintro e w5 ⟨rfl, hb5⟩; have HB5 : Hid (Below w.heap.size w w5) := bafter HB4.out hb5; clear hb5))
          go_ret
          exact ⟨rfl, HB5.out⟩
        · have h1 : ((i : Int) == 0) = false := by simpa using h0
          go_wp2_with (first
            | (go_at_call 6; refine (HS.out _ HB.out).mono ?_; rintro e w3 ⟨a3, c3, rfl, hz3, _, hb3⟩; have HZ3 : Hid (ZArg w3 a3 n3 c3 l) := hz3; have HF3 : Hid (ZArg w3 fa n3 fc l) := HF.out.later hb3; have HB3 : Hid (Below w.heap.size w w3) := bafter HB.out hb3; clear hz3 hb3)
            | (go_at_call 7; refine (k3 _ _ _ HF3.out HZ3.out).mono ?_; rintro e w4 ⟨rfl, hb4⟩; have HB4 : Hid (Below w.heap.size w w4) := bafter HB3.out hb4; clear hb4)
            | (go_at_call 8; refine (alive_any _).mono ?_; rintro e w5 ⟨rfl, hb5⟩; have HB5 : Hid (Below w.heap.size w w5) := bafter HB4.out hb5; clear hb5))
          go_ret
          exact ⟨rfl, HB5.out⟩
set_option maxRecDepth 100000 in
theorem lifted (os : Os) (started : os.Started) (H : Type) (enc : TypeId × Value → H) :
    ReturnsInHanded {} Try.checked os 3 .any (Rows.imageSplitSpec.pre6 enc Try.prog Try.f3 Rows.imageSplitRow.domain false) (Rows.imageSplitSpec.post enc Try.prog Try.f3 false true false false) := by
  refine returnsInHanded_of_change_sized (C := Try.checked) own started (by kernel_rfl) Try.func3
    (ChangeSpec.witness6 (enc := enc) (C := Try.checked) false ⟨#[], #[.slice none 0 0], []⟩ 8 (by kernel_rfl) (by kernel_rfl) (by kernel_rfl) (by kernel_rfl)) ?_
  intro W base args ds gs before hval0 hW hcnd hsz0 _
  have hval : ∀ (j : Nat) t v, Try.f3.params[j]? = some t → args[j]? = some v → Value.okWide Try.prog W .any base t v := hval0
  have hsz : (DataW.weightsEach Try.prog (Try.f3.params.toList ++ Rows.imageSplitSpec.plain.varTypes Try.prog) (ds ++ gs)).all (· ≤ reachBytes) = true := hsz0
  have hW' := hW
  obtain ⟨p, q, hA0, hV, rfl, hfz, hnd⟩ := hW
  have hA : DataW.TrodAll enc Try.prog W 0 (fun _ => true) true Try.f3.params.toList args.toList ds p := hA0
  rw [Try.params3] at hA hval hsz
  obtain ⟨v0, vs0, d0, ds0, p0, q0, hargs, rfl, rfl, h0, r0⟩ := trodAll_cons hA
  obtain ⟨rfl, rfl, rfl⟩ := trodAll_nil r0
  obtain rfl : args = #[v0] := by cases args; simp_all
  obtain ⟨rfl, rfl⟩ := trodVars_none hV
  obtain ⟨a0, len0, cap0, rfl⟩ := okWide_slice Try.underlying22 (hval 0 22 v0 rfl rfl)
  have k0 := h0
  have lt0 : ∀ x ∈ p0, x.block < W.heap.size := by obtain ⟨m, hm⟩ := k0; exact DataW.trod_lt m _ _ _ hm
  obtain ⟨l0, w0, s0⟩ : ∃ l, ZIn W a0 len0 cap0 l ∧ cap0 * 40 ≤ 140737488351232 := by
    obtain ⟨fuel, hf⟩ := h0
    obtain ⟨l, hl, hd⟩ := zarg_open hf
    refine ⟨l, hl, ?_⟩
    rcases hd with h | ⟨elems, spare, rfl, hc⟩
    · omega
    have := sized_slice hsz (j := 0) (t := 22) (e := 42) rfl rfl Try.underlying22
    rw [bytesZ, hc] at this
    simp only [reachBytes] at this
    omega
  clear hA0 hval0
  refine (walk a0 len0 cap0 l0 W w0 s0).mono fun e W' ⟨he, bel⟩ => ?_
  subst he
  exact ⟨_, rfl, _, _, _, [], _, [], hW', trodAll_mk1 (shut_bool Try.underlying4 _), (trodAll_cons_mk (Below.trod laidOut (by kernel_rfl) (of_decide_eq_true (by kernel_rfl)) k0 bel lt0) trodAll_mk0), rfl, bel.frame _, fun h => by cases h⟩

theorem over : Rows.imageSplitRow.holds Try.pinned (OpenSpec.ofChange Rows.imageSplitSpec) :=
  OpenClaim.holds_of_wide 3 Try.f3 rfl rfl rfl rfl rfl rfl rfl ⟨rfl, rfl, rfl, rfl, rfl⟩ rfl rfl rfl rfl rfl (by kernel_rfl) Try.func3 (by kernel_rfl)
    (of_decide_eq_true (by kernel_rfl)) (by unfold Func.isWrapper; first | (rw [if_pos (by decide +kernel)]; kernel_rfl) | (rw [if_neg (by decide +kernel)]; exact ⟨rfl, rfl⟩))
    (fun os started H enc _ => lifted os started H enc)
end Go.Proofs.Ytfalbbcbgkiejab.imageSplit

namespace Go.Proofs.Ytfalbbcbgkiejab
theorem imageSplit_holds : Rows.ImageSplitSaid := imageSplit.over
#print axioms imageSplit_holds
end Go.Proofs.Ytfalbbcbgkiejab
