/-
  Proved: the statement on a key's own child, on keys below the first, and that children do not fall (ImageChild), for every input.
-/
import Derived.Test.YtfalbbcbgkiejaaIChildM
import Derived.Test.YtfalbbcbgkiejaaIAlive
import Derived.OwnWalk
namespace Go.Proofs.Ytfalbbcbgkiejaa.imageChild
open Go.ChangeShapes Go.WideShapes Go.ChangeAt Go.RowKit M
set_option maxRecDepth 10000

set_option maxHeartbeats 8000000 in
theorem walk_no (lv : Int) (a : Option Addr) (len cap : Nat) (l : List St) (x y : K) (w : World) (hA : ZIn w a len cap l) (hs : cap * 40 ≤ 140737488351232) (hi : imgOk lv l = false) :
    Calls Try.prog 8 #[.agg #[.int .i64 lv, .slice a len cap], .string x, .string y] w fun e w' => e = .returned (.bool true) ∧ Below w.heap.size w w' := by
  have hlc := hA.arg.le
  have km := mine_any lv a len cap l (w.alloc (.cells #[.int .i64 lv, .slice a len cap] 24)) (hA.arg.later (below_new _ _)) (by omega)
  have kr : ∀ W a1 n1 c1, ZArg W a1 n1 c1 l → Calls Try.prog 12 #[.agg #[.int .i64 lv, .slice a1 n1 c1]] W fun e w' => e = .returned (.bool false) ∧ Below W.heap.size W w' := fun W a1 n1 c1 h => by
    have := right_any lv a1 n1 c1 l W h
    rwa [hi] at this
  clear hA hs hi
  go_enter Try.func8, Try.ntmps8
  go_wp2_with (first
    | (go_at_call 10; refine km.mono ?_; rintro e w1 ⟨a1, n1, c1, rfl, hz1, _, hb1⟩; have HZ1 : Hid (ZArg w1 a1 n1 c1 l) := hz1; have HB1 : Hid (Below w.heap.size w w1) := bafter (below_new _ _) hb1; clear hz1 hb1)
    | (go_at_call 12; refine (kr _ _ _ _ HZ1.out).mono ?_; rintro e w2 ⟨rfl, hb2⟩; have HB2 : Hid (Below w.heap.size w w2) := bafter HB1.out hb2; clear hb2)
    | (go_at_call 16; refine (alive_any _).mono ?_; rintro e w5 ⟨rfl, hb5⟩; have HB5 : Hid (Below w.heap.size w w5) := bafter HB2.out hb5; clear hb5))
  go_ret
  exact ⟨rfl, HB5.out⟩
set_option maxHeartbeats 8000000 in
theorem walk_yes (lv : Int) (a : Option Addr) (len cap : Nat) (l : List St) (x y : K) (w : World) (hA : ZIn w a len cap l) (hi : imgOk lv l = true) :
    Calls Try.prog 8 #[.agg #[.int .i64 lv, .slice a len cap], .string x, .string y] w fun e w' => e = .returned (.bool true) ∧ Below w.heap.size w w' := by
  have hlc := hA.arg.le
  have hln := hA.arg.len_eq
  obtain ⟨_, ⟨i2, i3⟩, i4⟩ := imgOk_iff hi
  have HM : Hid (∀ W, Bx w W w.heap.size lv a len cap l → Calls Try.prog 10 #[.agg #[.int .i64 lv, .slice a len cap]] W fun e w' => ∃ a1 n1 c1, e = .returned (.agg #[.int .i64 lv, .slice a1 n1 c1]) ∧ ZArg w' a1 n1 c1 l ∧ Bx w w' w.heap.size lv a len cap l) := fun W h => by
    refine (mine_any lv a len cap l W h.arg (by omega)).mono ?_
    rintro e w' ⟨a1, n1, c1, rfl, hz, _, hb⟩
    exact ⟨a1, n1, c1, rfl, hz, h.later hb⟩
  have HCh : Hid (∀ W a1 n1 c1 key, ZArg W a1 n1 c1 l → Calls Try.prog 20 #[.agg #[.int .i64 lv, .slice a1 n1 c1], .string key] W fun e w' => e = .returned (.int .i64 (chl l key)) ∧ Below W.heap.size W w') := fun W a1 n1 c1 key h => child_any lv a1 n1 c1 l key W h (by have := h.len_eq; omega)
  have kr : ∀ W a1 n1 c1, ZArg W a1 n1 c1 l → Calls Try.prog 12 #[.agg #[.int .i64 lv, .slice a1 n1 c1]] W fun e w' => e = .returned (.bool true) ∧ Below W.heap.size W w' := fun W a1 n1 c1 h => by
    have := right_any lv a1 n1 c1 l W h
    rwa [hi] at this
  have HRi : Hid (rises ⟨#[]⟩ l = true) := i4
  have hl8 : len ≤ 8 := by omega
  have hl1 : 1 ≤ len := by omega
  have HL : Hid (len = l.length) := hln
  have G0 : Hid (Bx w (w.alloc (.cells #[.int .i64 lv, .slice a len cap] 24)) w.heap.size lv a len cap l) := Bx.new hA.arg
  clear hA hi i2 i3 i4 hln
  go_enter Try.func8, Try.ntmps8
  go_wp2_with (first
    | (go_at_call 10; refine (HM.out _ G0.out).mono ?_; rintro e w1 ⟨a1, n1, c1, rfl, hz1, hb1⟩; have HZ1 : Hid (ZArg w1 a1 n1 c1 l) := hz1; have G1 : Hid (Bx w w1 w.heap.size lv a len cap l) := hb1; clear hz1 hb1)
    | (go_at_call 12; refine (kr _ _ _ _ HZ1.out).mono ?_; rintro e w2 ⟨rfl, hb2⟩; have G2 : Hid (Bx w w2 w.heap.size lv a len cap l) := G1.out.later hb2; clear hb2))
  clear kr G0 HZ1 G1
  go_loopg [7] len (fun kx s7 wr => ∃ (k : Nat), k + kx = len ∧ s7 = .int .i64 (k : Nat) ∧ Hid (Bx w wr w.heap.size lv a len cap l))
  case atStart => exact ⟨0, by omega, rfl, G2.out⟩
  case round =>
    obtain ⟨k, hk, rfl, I⟩ := hrel
    obtain ⟨x0, x1⟩ := I.out.seen
    by_cases hlt : k < len
    · obtain ⟨b, off, s, rfl, hsk, _, q0, _, _, _⟩ := zrow_at I.out.arg.row (k := k) (by have := HL.out; omega)
      have HE : Hid (chl l s.key = (k : Int)) := chl_own HRi.out hsk
      have hi1 : (k : Int) < (len : Int) := by omega
      have HCk : Hid (∀ W, Bx w W w.heap.size lv (some ⟨b, off, none⟩) len cap l → W.cell? ⟨b, off + k * 4, none⟩ = some (.string s.key)) := fun W h => by
        rcases h.arg.row with e | ⟨b', o', e, hc⟩
        · rw [e] at hsk; simp at hsk
        · cases e; exact (hc k s hsk).1
      have HC2 : Hid (∀ W a1 n1 c1, ZArg W a1 n1 c1 l → Calls Try.prog 20 #[.agg #[.int .i64 lv, .slice a1 n1 c1], .string s.key] W fun e w' => e = .returned (.int .i64 (k : Int)) ∧ Below W.heap.size W w') := fun W a1 n1 c1 h => by
        have := HCh.out W a1 n1 c1 s.key h
        rwa [HE.out] at this
      obtain ⟨sk, hsk2⟩ : ∃ sk, sk = s.key := ⟨_, rfl⟩
      rw [← hsk2] at q0 HCk HC2
      clear hsk hsk2 HE
      go_wp2
      go_region_held3 (fun w' => w'.cell? ⟨w.heap.size, 0, none⟩ = some (.int .i64 lv) ∧ w'.cell? ⟨w.heap.size, 1, none⟩ = some (.slice (some ⟨b, off, none⟩) len cap) ∧ w'.cell? ⟨b, off + k * 4, none⟩ = some (.string sk)) (first | assumption | go_keep) (first
        | (go_at_call 10; refine (HM.out wr.drew I.out.drew).mono ?_; rintro e w1 ⟨a1, n1, c1, rfl, hz1, hb1⟩; have HZ1 : Hid (ZArg w1 a1 n1 c1 l) := hz1; have G1 : Hid (Bx w w1 w.heap.size lv (some ⟨b, off, none⟩) len cap l) := hb1; have y0 := hb1.seen.1; have y1 := hb1.seen.2; have y2 := HCk.out w1 hb1; clear hz1 hb1)
        | (go_at_call 20; refine (HC2.out _ _ _ _ HZ1.out).mono ?_; rintro e w2 ⟨rfl, hb2⟩; have G2 : Hid (Bx w w2 w.heap.size lv (some ⟨b, off, none⟩) len cap l) := G1.out.later hb2; have z0 := G2.out.seen.1; have z1 := G2.out.seen.2; have z2 := HCk.out w2 G2.out; clear hb2))
      go_wp2
      go_roundg (len - (k + 1))
      case measure => omega
      case rel => exact ⟨k + 1, by omega, by go_num, G2.out⟩
    · obtain ⟨b, off, s, rfl, hsk, _, q0, _, _, _⟩ := zrow_at I.out.arg.row (k := 0) (by have := HL.out; omega)
      have HCk : Hid (∀ W, Bx w W w.heap.size lv (some ⟨b, off, none⟩) len cap l → W.cell? ⟨b, off, none⟩ = some (.string s.key)) := fun W h => by
        rcases h.arg.row with e | ⟨b', o', e, hc⟩
        · rw [e] at hsk; simp at hsk
        · cases e; have := (hc 0 s hsk).1; rwa [Nat.zero_mul, Nat.add_zero] at this
      have e1 : Op.bytesLess x.toList s.key.toList = (chl l x == -1) := chl_none HRi.out hsk x
      have e2 : klt y x = false → chl l x ≤ chl l y := fun h => chl_mono l h
      have e3 := lst_ge (noG l x) l.length
      rw [← HL.out] at e3
      have e3' : chl l x < (len : Int) := by unfold chl; rw [← HL.out]; exact e3.2
      have HC1 : Hid (∀ W a1 n1 c1, ZArg W a1 n1 c1 l → Calls Try.prog 20 #[.agg #[.int .i64 lv, .slice a1 n1 c1], .string x] W fun e w' => e = .returned (.int .i64 (chl l x)) ∧ Below W.heap.size W w') := fun W a1 n1 c1 h => HCh.out W a1 n1 c1 x h
      have HC2 : Hid (∀ W a1 n1 c1, ZArg W a1 n1 c1 l → Calls Try.prog 20 #[.agg #[.int .i64 lv, .slice a1 n1 c1], .string y] W fun e w' => e = .returned (.int .i64 (chl l y)) ∧ Below W.heap.size W w') := fun W a1 n1 c1 h => HCh.out W a1 n1 c1 y h
      obtain ⟨sk, hsk2⟩ : ∃ sk, sk = s.key := ⟨_, rfl⟩
      obtain ⟨X, hX⟩ : ∃ X, X = chl l x := ⟨_, rfl⟩
      obtain ⟨Y, hY⟩ : ∃ Y, Y = chl l y := ⟨_, rfl⟩
      rw [← hsk2] at HCk e1
      rw [← hX] at e1 e2 e3' HC1
      rw [← hY] at e2 HC2
      rw [← kgt x y] at e2
      have hi1 : ¬ (k : Int) < (len : Int) := by omega
      clear hsk hsk2 hX hY e3 HCh q0 hlt hk
      have hcase : (X ≤ Y ∧ Op.bytesLess x.toList y.toList = true) ∨ (X ≤ Y ∧ Op.bytesLess x.toList y.toList = false ∧ (x.toList == y.toList) = true) ∨ (Op.bytesLess x.toList y.toList = false ∧ (x.toList == y.toList) = false) := by
        cases h1 : Op.bytesLess x.toList y.toList <;> cases h2 : (x.toList == y.toList)
        · exact .inr (.inr ⟨rfl, rfl⟩)
        · exact .inr (.inl ⟨e2 (by rw [h1, h2]; rfl), rfl, rfl⟩)
        · exact .inl ⟨e2 (by rw [h1]; rfl), rfl⟩
        · exact .inl ⟨e2 (by rw [h1]; rfl), rfl⟩
      clear e2
      have e3'' : X < (len : Int) := e3'
      clear e3'
      cases hX1 : (X == -1)
      all_goals
        rw [hX1] at e1
        have hXX : (X = -1) ∨ ¬ X = -1 := Classical.em _
        rcases hcase with ⟨t1, t2⟩ | ⟨t1, t2, t3⟩ | ⟨t2, t3⟩
        all_goals
          have M1 : Hid True := trivial
          have M2 : Hid True := trivial
          go_wp2
          go_region_held3 (fun w' => w'.cell? ⟨w.heap.size, 0, none⟩ = some (.int .i64 lv) ∧ w'.cell? ⟨w.heap.size, 1, none⟩ = some (.slice (some ⟨b, off, none⟩) len cap)) (first | assumption | go_keep) (first
            | (clear M1; go_at_call 10; refine (HM.out wr.drew I.out.drew).mono ?_; rintro e w1 ⟨a1, n1, c1, rfl, hz1, hb1⟩; have HZ1 : Hid (ZArg w1 a1 n1 c1 l) := hz1; have G1 : Hid (Bx w w1 w.heap.size lv (some ⟨b, off, none⟩) len cap l) := hb1; have y0 := hb1.seen.1; have y1 := hb1.seen.2; clear hz1 hb1)
            | (clear M2; go_at_call 20; refine (HC1.out _ _ _ _ HZ1.out).mono ?_; rintro e w2 ⟨rfl, hb2⟩; have G2 : Hid (Bx w w2 w.heap.size lv (some ⟨b, off, none⟩) len cap l) := G1.out.later hb2; have z0 := G2.out.seen.1; have z1 := G2.out.seen.2; clear hb2)
            | (go_at_call 10; refine (HM.out w2 G2.out).mono ?_; rintro e w3 ⟨a3, n3, c3, rfl, hz3, hb3⟩; have HZ3 : Hid (ZArg w3 a3 n3 c3 l) := hz3; have G3 : Hid (Bx w w3 w.heap.size lv (some ⟨b, off, none⟩) len cap l) := hb3; have v0 := hb3.seen.1; have v1 := hb3.seen.2; clear hz3 hb3)
            | (go_at_call 20; refine (HC2.out _ _ _ _ HZ3.out).mono ?_; rintro e w4 ⟨rfl, hb4⟩; have G4 : Hid (Bx w w4 w.heap.size lv (some ⟨b, off, none⟩) len cap l) := G3.out.later hb4; have u0 := G4.out.seen.1; have u1 := G4.out.seen.2; have u2 := HCk.out w4 G4.out; clear hb4))
          go_wp2_with (go_at_call 16; refine (alive_any _).mono ?_; rintro e w5 ⟨rfl, hb5⟩; have HB5 : Hid (Below w.heap.size w w5) := bafter G4.out.bel hb5; clear hb5)
          go_ret
          exact ⟨rfl, HB5.out⟩
theorem walk (lv : Int) (a : Option Addr) (len cap : Nat) (l : List St) (x y : K) (w : World) (_ : i64B lv) (hA : ZIn w a len cap l) (hs : cap * 40 ≤ 140737488351232) (_ : x.size ≤ maxLen) (_ : y.size ≤ maxLen) :
    Calls Try.prog 8 #[.agg #[.int .i64 lv, .slice a len cap], .string x, .string y] w fun e w' => e = .returned (.bool true) ∧ Below w.heap.size w w' := by
  cases hi : imgOk lv l with
  | false => exact walk_no lv a len cap l x y w hA hs hi
  | true => exact walk_yes lv a len cap l x y w hA hi
set_option maxRecDepth 100000 in
theorem lifted (os : Os) (started : os.Started) (H : Type) (enc : TypeId × Value → H) :
    ReturnsInHanded {} Try.checked os 8 .any (Rows.imageChildSpec.pre6 enc Try.prog Try.f8 Rows.imageChildRow.domain false) (Rows.imageChildSpec.post enc Try.prog Try.f8 false true false false) := by
  refine returnsInHanded_of_change_sized (C := Try.checked) own started (by kernel_rfl) Try.func8
    (ChangeSpec.witness6 (enc := enc) (C := Try.checked) false ⟨#[], #[.agg #[.int .i64 0, .slice none 0 0], .string ⟨#[]⟩, .string ⟨#[]⟩], []⟩ 8 (by kernel_rfl) (by kernel_rfl) (by kernel_rfl) (by kernel_rfl)) ?_
  intro W base args ds gs before hval0 hW hcnd hsz0 _
  have hval : ∀ (j : Nat) t v, Try.f8.params[j]? = some t → args[j]? = some v → Value.okWide Try.prog W .any base t v := hval0
  have hsz : (DataW.weightsEach Try.prog (Try.f8.params.toList ++ Rows.imageChildSpec.plain.varTypes Try.prog) (ds ++ gs)).all (· ≤ reachBytes) = true := hsz0
  have hW' := hW
  obtain ⟨p, q, hA0, hV, rfl, hfz, hnd⟩ := hW
  have hA : DataW.TrodAll enc Try.prog W 0 (fun _ => true) true Try.f8.params.toList args.toList ds p := hA0
  rw [Try.params8] at hA hval hsz
  obtain ⟨v0, vs0, d0, ds0, p0, q0, hargs, rfl, rfl, h0, r0⟩ := trodAll_cons hA
  obtain ⟨v1, vs1, d1, ds1, p1, q1, rfl, rfl, rfl, h1, r1⟩ := trodAll_cons r0
  obtain ⟨v2, vs2, d2, ds2, p2, q2, rfl, rfl, rfl, h2, r2⟩ := trodAll_cons r1
  obtain ⟨rfl, rfl, rfl⟩ := trodAll_nil r2
  obtain rfl : args = #[v0, v1, v2] := by cases args; simp_all
  obtain ⟨rfl, rfl⟩ := trodVars_none hV
  obtain ⟨cs0, rfl, sz0⟩ := okWide_struct Try.underlying24 (hval 0 24 v0 rfl rfl)
  have k0 := h0
  have lt0 : ∀ x ∈ p0, x.block < W.heap.size := by obtain ⟨m, hm⟩ := k0; exact DataW.trod_lt m _ _ _ hm
  obtain ⟨lv0, a0, len0, cap0, l0, rfl, b0, w0, s0⟩ : ∃ lv a len cap l, cs0 = #[.int .i64 lv, .slice a len cap] ∧ i64B lv ∧ ZIn W a len cap l ∧ cap * 40 ≤ 140737488351232 := by
    obtain ⟨fuel, hf⟩ := h0
    obtain ⟨lv, a, len, cap, l, e, hb, hl, hd⟩ := iarg_open sz0 hf
    refine ⟨lv, a, len, cap, l, e, hb, hl, ?_⟩
    rcases hd with h | ⟨d0, elems, spare, rfl, hc⟩
    · omega
    have := sized_img hsz (j := 0) rfl rfl
    rw [hc] at this
    simp only [reachBytes] at this
    omega
  obtain ⟨a1, rfl, rfl, rfl, w1⟩ := Go.ChangeMaps.open_string Try.underlying9 (hval 1 9 v1 rfl rfl) h1
  obtain ⟨a2, rfl, rfl, rfl, w2⟩ := Go.ChangeMaps.open_string Try.underlying9 (hval 2 9 v2 rfl rfl) h2
  clear hA0 hval0
  refine (walk lv0 a0 len0 cap0 l0 a1 a2 W b0 w0 s0 w1 w2).mono fun e W' ⟨he, bel⟩ => ?_
  subst he
  exact ⟨_, rfl, _, _, _, [], _, [], hW', trodAll_mk1 (shut_bool Try.underlying4 _), (trodAll_cons_mk (Below.trod laidOut (by kernel_rfl) (of_decide_eq_true (by kernel_rfl)) k0 bel lt0) (trodAll_cons_mk (Go.ChangeMaps.shut_string Try.underlying9 w1) (trodAll_cons_mk (Go.ChangeMaps.shut_string Try.underlying9 w2) trodAll_mk0))), rfl, bel.frame _, fun h => by cases h⟩

theorem over : Rows.imageChildRow.holds Try.pinned (OpenSpec.ofChange Rows.imageChildSpec) :=
  OpenClaim.holds_of_wide 8 Try.f8 rfl rfl rfl rfl rfl rfl rfl ⟨rfl, rfl, rfl, rfl, rfl⟩ rfl rfl rfl rfl rfl (by kernel_rfl) Try.func8 (by kernel_rfl)
    (of_decide_eq_true (by kernel_rfl)) (by unfold Func.isWrapper; first | (rw [if_pos (by decide +kernel)]; kernel_rfl) | (rw [if_neg (by decide +kernel)]; exact ⟨rfl, rfl⟩))
    (fun os started H enc _ => lifted os started H enc)
end Go.Proofs.Ytfalbbcbgkiejaa.imageChild

namespace Go.Proofs.Ytfalbbcbgkiejaa
theorem imageChild_holds : Rows.ImageChildSaid := imageChild.over
#print axioms imageChild_holds
end Go.Proofs.Ytfalbbcbgkiejaa
