/-
  Proved: the statement that a range is both its parts, one behind the other (BtreeParts), where what comes in is of bulk at most 1048576.
-/
import Derived.Test.YtpflacbinankmaaBAppN
import Derived.OwnWalk
import Derived.JoinedCond
namespace Go.Proofs.Ytpflacbinankmaa.btreeParts
open Go.ChangeShapes Go.WideShapes Go.ChangeAt Go.RowKit Bt
set_option maxRecDepth 10000

theorem fan_nat {f : Int} (h : okFan f = true) : ∃ F : Nat, f = (F : Int) ∧ 4 ≤ F ∧ F ≤ 64 := by
  unfold okFan at h
  simp at h
  exact ⟨f.toNat, by omega, by omega, by omega⟩
theorem bld_inv {F : Nat} (hF : 4 ≤ F) : ∀ (l : List Nw) (x : Tre), InvT F x → InvT F (bld F l x).1 ∧ (bld F l x).1.all.length ≤ x.all.length + l.length ∧ ((bld F l x).2 = 0 ∨ (bld F l x).2 = 22)
  | [], x, h => ⟨h, Nat.le_refl _, .inl rfl⟩
  | y :: l, x, h => by
    rw [bld]
    split
    · obtain ⟨a, b⟩ := delS_len hF y.k h
      obtain ⟨i1, i2, i3⟩ := bld_inv hF l _ b
      exact ⟨i1, by simp only [List.length_cons]; omega, i3⟩
    · split
      · obtain ⟨a, b⟩ := putR_len hF y.k y.v h
        obtain ⟨i1, i2, i3⟩ := bld_inv hF l _ b
        exact ⟨i1, by simp only [List.length_cons]; omega, i3⟩
      · rename_i hE
        refine ⟨h, by simp only [List.length_cons]; omega, .inr ?_⟩
        unfold putE at hE ⊢
        split at hE
        · exact absurd rfl hE
        · rename_i q; rw [if_neg q]
set_option maxHeartbeats 4000000 in
theorem walk_bad (f : Int) (a : Option Addr) (len cap : Nat) (fr at_ to : K) (w : World) (h : okFan f = false) :
    Calls Try.prog 7 #[.int .i64 f, .slice a len cap, .string fr, .string at_, .string to] w fun e w' => e = .returned (.bool true) ∧ Below w.heap.size w w' := by
  have kB := build_bad f a len cap w h
  clear h
  go_enter Try.func7, Try.ntmps7
  go_wp2_with (first
    | (go_at_call 9; refine kB.mono ?_; rintro e w' ⟨rfl, rfl⟩)
    | (go_at_call 11; refine (alive_any _).mono ?_; rintro e W2 ⟨rfl, hb2⟩))
  go_ret
  exact ⟨rfl, hb2⟩
set_option maxHeartbeats 4000000 in
theorem walk_err (F : Nat) (h1 : 4 ≤ F) (h2 : F ≤ 64) (a : Option Addr) (len cap : Nat) (fr at_ to : K) (l : List Nw) (w : World) (hA : NArg w a len cap l) (hsz : len < 2305843009213693000) (hE : (bld F l tre0).2 ≠ 0) :
    Calls Try.prog 7 #[.int .i64 (F : Nat), .slice a len cap, .string fr, .string at_, .string to] w fun e w' => e = .returned (.bool true) ∧ Below w.heap.size w w' := by
  have kB : Calls Try.prog 9 #[.int .i64 (F : Nat), .slice a len cap] w fun e w' => e = .returned (.tuple #[.pointer none, .int .i64 22]) ∧ Below w.heap.size w w' := by
    refine (build_any F h1 h2 a len cap l w hA hsz).mono ?_
    rintro e w' ⟨p, rfl, hb, _⟩
    refine ⟨?_, hb⟩
    unfold bltV
    rw [if_neg hE]
    rcases (bld_inv h1 l tre0 inv0).2.2 with q | q
    · exact absurd q hE
    · rw [q]
  clear hA hE
  go_enter Try.func7, Try.ntmps7
  go_wp2_with (first
    | (go_at_call 9; refine kB.mono ?_; rintro e W1 ⟨rfl, hb1⟩)
    | (go_at_call 11; refine (alive_any _).mono ?_; rintro e W2 ⟨rfl, hb2⟩))
  go_ret
  exact ⟨rfl, bafter hb1 hb2⟩
theorem own_empty0 (w : World) : (w.alloc (.cells #[] 54)).ownsRow w.heap.size 54 3 (.slice (some ⟨w.heap.size, 0, none⟩) 0 0) 0 (([] : List KV).flatMap ndv) :=
  ⟨rfl, .inr ⟨w.heap.size, 0, #[], rfl, Nat.le_refl _, World.alloc_heap_new w _, Nat.le_refl _, Nat.zero_le _, rfl, rfl⟩⟩
theorem nd_of {B : Nat} {w : World} {v : Value} {l : List KV} (h : w.ownsRow B 54 3 v l.length (l.flatMap ndv)) : NdAt w v l := by
  refine ⟨h.1, ?_⟩
  rcases h.2 with q | ⟨g, cap, cur, q1, q2, q3⟩
  · exact .inl q
  · exact .inr ⟨g, cap, cur, q1, Nat.zero_le _, q3⟩
set_option maxHeartbeats 8000000 in
theorem walk_ok (F : Nat) (h1 : 4 ≤ F) (h2 : F ≤ 64) (a : Option Addr) (len cap : Nat) (fr at_ to : K) (l : List Nw) (w : World) (hA : NArg w a len cap l) (hsz : len ≤ 1048576) (hE : (bld F l tre0).2 = 0) :
    Calls Try.prog 7 #[.int .i64 (F : Nat), .slice a len cap, .string fr, .string at_, .string to] w fun e w' => e = .returned (.bool true) ∧ Below w.heap.size w w' := by
  obtain ⟨i1, i2, _⟩ := bld_inv h1 l tre0 inv0
  have hlen : (bld F l tre0).1.all.length ≤ 1048576 := by
    have e0 : tre0.all.length = 0 := rfl
    have := hA.len_eq; omega
  obtain ⟨X, hX⟩ : ∃ X, X = (bld F l tre0).1 := ⟨_, rfl⟩
  have kB : Calls Try.prog 9 #[.int .i64 (F : Nat), .slice a len cap] w fun e w' => ∃ p, e = .returned (.tuple #[.pointer (some ⟨p, 0, none⟩), .int .i64 0]) ∧ Blt w p F X w' := by
    refine (build_any F h1 h2 a len cap l w hA (by omega)).mono ?_
    rintro e w' ⟨p, rfl, hb, hB⟩
    refine ⟨p, ?_, by rw [hX]; exact hB hE⟩
    unfold bltV
    rw [if_pos hE]
  rw [← hX] at i1 hlen
  have hs : Srt X.all := i1.good.srt
  obtain ⟨L, hL⟩ : ∃ L, L = X.all := ⟨_, rfl⟩
  have HR : Hid (∀ p W1, Blt w p F X W1 → ∀ (k to : K) W, Below W1.heap.size W1 W → Calls Try.prog 17 #[.pointer (some ⟨p, 0, none⟩), .string k, .string to, .int .i64 1073741824] W fun e w' => ∃ v, e = .returned v ∧ Bt.Told W w' v (rng k to 1073741824 L)) := fun p W1 hB k to W hb => by
    obtain ⟨fs, q1, _⟩ := hB.live
    rw [hL]
    exact (q1.later hb).range k to 1073741824 (by decide) (by decide) (.inl (by decide))
  rw [← hL] at hlen hs
  have HLe : Hid (∀ k to, (rng k to 1073741824 L).length ≤ 1048576) := fun k to => by
    rw [rng_filter hs (by omega)]
    exact Nat.le_trans (List.length_filter_le _ _) hlen
  have HP : Hid (klt at_ fr = false → at_.toList.isEmpty = false → (to.toList.isEmpty = true ∨ klt to at_ = false) → rng fr at_ 1073741824 L ++ rng at_ to 1073741824 L = rng fr to 1073741824 L) := fun q1 q2 q3 => rng_parts hs (by omega) q1 q2 q3
  clear hA hE i1 i2 hX hL hs hlen hsz
  have hgt : ∀ x y : K, klt y x = (!Op.bytesLess x.toList y.toList && !(x.toList == y.toList)) := fun x y => by rw [← Bool.not_or]; exact (kgt x y).symm
  by_cases ha : at_.toList = []
  · have ha2 : at_.toList.isEmpty = true := by simp [ha]
    go_enter Try.func7, Try.ntmps7
    go_wp2_with (first
      | (go_at_call 9; refine kB.mono ?_; rintro e W1 ⟨p, rfl, hB⟩; have HB : Hid (Blt w p F X W1) := hB; clear hB)
      | (go_at_call 11; refine (alive_any _).mono ?_; rintro e W2 ⟨rfl, hb2⟩))
    go_ret
    exact ⟨rfl, bafter HB.out.below hb2⟩
  · have ha2 : at_.toList.isEmpty = false := by simpa using ha
    cases hf : klt at_ fr with
    | true =>
      rw [hgt, Bool.and_eq_true, Bool.not_eq_true', Bool.not_eq_true'] at hf
      obtain ⟨e1, e2⟩ := hf
      have e3 : ¬ fr.toList = at_.toList := by simpa using e2
      clear hgt HP HR HLe
      go_enter Try.func7, Try.ntmps7
      go_wp2_with (first
        | (go_at_call 9; refine kB.mono ?_; rintro e W1 ⟨p, rfl, hB⟩; have HB : Hid (Blt w p F X W1) := hB; clear hB)
        | (go_at_call 11; refine (alive_any _).mono ?_; rintro e W9 ⟨rfl, hb9⟩))
      go_ret
      exact ⟨rfl, bafter HB.out.below hb9⟩
    | false =>
    have hf1 := hf
    rw [hgt, Bool.and_eq_false_iff, Bool.not_eq_false', Bool.not_eq_false'] at hf1
    by_cases hto : to.toList.isEmpty = false ∧ klt to at_ = true
    · obtain ⟨t1, t2⟩ := hto
      rw [hgt, Bool.and_eq_true, Bool.not_eq_true', Bool.not_eq_true'] at t2
      obtain ⟨t2, t3⟩ := t2
      have t4 : ¬ at_.toList = to.toList := by simpa using t3
      have t5 : ¬ to.toList = [] := by simpa using t1
      clear hgt HP HR HLe hf
      rcases hf1 with e1 | e1
      all_goals
        go_enter Try.func7, Try.ntmps7
        go_wp2_with (first
          | (go_at_call 9; refine kB.mono ?_; rintro e W1 ⟨p, rfl, hB⟩; have HB : Hid (Blt w p F X W1) := hB; clear hB)
          | (go_at_call 11; refine (alive_any _).mono ?_; rintro e W9 ⟨rfl, hb9⟩))
        go_ret
        exact ⟨rfl, bafter HB.out.below hb9⟩
    have hcase : to.toList.isEmpty = true ∨ (to.toList.isEmpty = false ∧ Op.bytesLess at_.toList to.toList = true) ∨ (to.toList.isEmpty = false ∧ (at_.toList == to.toList) = true) := by
      cases ht : to.toList.isEmpty with
      | true => exact .inl rfl
      | false =>
        have hk : klt to at_ = false := by
          cases hk : klt to at_ with
          | false => rfl
          | true => exact absurd ⟨ht, hk⟩ hto
        rw [hgt, Bool.and_eq_false_iff, Bool.not_eq_false', Bool.not_eq_false'] at hk
        rcases hk with q | q
        · exact .inr (.inl ⟨rfl, q⟩)
        · exact .inr (.inr ⟨rfl, q⟩)
    have hto2 : to.toList.isEmpty = true ∨ klt to at_ = false := by
      cases ht : to.toList.isEmpty with
      | true => exact .inl rfl
      | false =>
        cases hk : klt to at_ with
        | false => exact .inr rfl
        | true => exact absurd ⟨ht, hk⟩ hto
    have HPP : Hid (rng fr at_ 1073741824 L ++ rng at_ to 1073741824 L = rng fr to 1073741824 L) := HP.out hf ha2 hto2
    clear hgt HP hf hto hto2
    rcases hf1 with e1 | e1 <;> rcases hcase with t1 | ⟨t1, t2⟩ | ⟨t1, t2⟩
    all_goals
      have M1 : Hid True := trivial
      have M2 : Hid True := trivial
      have M3 : Hid True := trivial
      have A1 : Hid True := trivial
      have A2 : Hid True := trivial
      go_enter Try.func7, Try.ntmps7
      go_wp2_with (first
        | (go_at_call 9; refine kB.mono ?_; rintro e W1 ⟨p, rfl, hB⟩; have HB : Hid (Blt w p F X W1) := hB; clear hB)
        | (clear M1; go_at_call 17; refine (HR.out p W1 HB.out fr at_ W1 (Below.refl _ _)).mono ?_; rintro e W2 ⟨v1, rfl, hv1⟩; have Hv1 : Hid (Bt.Told W1 W2 v1 (rng fr at_ 1073741824 L)) := hv1; clear hv1)
        | (clear M2; go_at_call 17; refine (HR.out p W1 HB.out at_ to W2 Hv1.out.2).mono ?_; rintro e W3 ⟨v2, rfl, hv2⟩; have Hv2 : Hid (Bt.Told W2 W3 v2 (rng at_ to 1073741824 L)) := hv2; clear hv2)
        | (at_builtin; clear A1; refine wpList_append_nds rfl (.tmp 49) (.tmp 50) rfl W3.heap.size (.slice (some ⟨W3.heap.size, 0, none⟩) 0 0) 0 [] rfl rfl (own_empty0 W3) v1 (rng fr at_ 1073741824 L) rfl ((Hv1.out.at.later Hv2.out.2).later (below_new W3 _)) (by have := HLe.out fr at_; simp; omega) (by simp) ?_; intro x1 W4 ho1 hg1; rw [List.nil_append] at ho1; have HO1 : Hid (W4.ownsRow W3.heap.size 54 3 x1 (rng fr at_ 1073741824 L).length ((rng fr at_ 1073741824 L).flatMap ndv)) := ho1; have HB4 : Hid (Below W3.heap.size W3 W4) := ((below_new W3 (.cells #[] 54)).grown hg1 (by simp) (fun k e => by cases e; exact Nat.le_refl _)); clear ho1 hg1)
        | (at_builtin; clear A2; refine wpList_append_nds rfl (.tmp 51) (.tmp 52) rfl W3.heap.size x1 _ (rng fr at_ 1073741824 L) rfl rfl HO1.out v2 (rng at_ to 1073741824 L) rfl (Hv2.out.at.later HB4.out) (by have := HLe.out fr at_; have := HLe.out at_ to; omega) HB4.out.size ?_; intro x2 W5 ho2 hg2; rw [HPP.out] at ho2; have HB5 : Hid (Below W3.heap.size W3 W5) := HB4.out.grown hg2 HB4.out.size (fun k e => (HO1.out.lt k e).1); have HN2 : Hid (NdAt W5 x2 (rng fr to 1073741824 L)) := nd_of ho2; clear ho2 hg2)
        | (clear M3; go_at_call 17; refine (HR.out p W1 HB.out fr to W5 (bafter (bafter Hv1.out.2 Hv2.out.2) HB5.out)).mono ?_; rintro e W6 ⟨v3, rfl, hv3⟩; have Hv3 : Hid (Bt.Told W5 W6 v3 (rng fr to 1073741824 L)) := hv3; clear hv3)
        | (go_at_call 16; refine (same_yes _ _ _ _ (HN2.out.later Hv3.out.2) Hv3.out.at (by have := HLe.out fr to; omega)).mono ?_; rintro e W7 ⟨rfl, hb7⟩)
        | (go_at_call 11; refine (alive_any _).mono ?_; rintro e W9 ⟨rfl, hb9⟩))
      go_ret
      exact ⟨rfl, bafter (bafter (bafter (bafter (bafter (bafter HB.out.below Hv1.out.2) Hv2.out.2) HB5.out) Hv3.out.2) hb7) hb9⟩
theorem walk (f : Int) (a : Option Addr) (len cap : Nat) (l : List Nw) (fr at_ to : K) (w : World) (_ : (Lit.int .i64 f).wf = true) (hA : NArg w a len cap l) (_ : fr.size ≤ maxLen) (_ : at_.size ≤ maxLen) (_ : to.size ≤ maxLen) (hs : len ≤ 1048576) :
    Calls Try.prog 7 #[.int .i64 f, .slice a len cap, .string fr, .string at_, .string to] w fun e w' => e = .returned (.bool true) ∧ Below w.heap.size w w' := by
  cases h : okFan f with
  | false => exact walk_bad f a len cap fr at_ to w h
  | true =>
    obtain ⟨F, rfl, h1, h2⟩ := fan_nat h
    by_cases hE : (bld F l tre0).2 = 0
    · exact walk_ok F h1 h2 a len cap fr at_ to l w hA hs hE
    · exact walk_err F h1 h2 a len cap fr at_ to l w hA (by omega) hE
set_option maxRecDepth 100000 in
theorem contract (H : Type) (enc : TypeId × Value → H) (W : World) (base : Nat) (args : Array Value) (ds gs : List (DataW H)) (before : List MemPlace)
    (hval : ∀ (j : Nat) t v, Try.f7.params[j]? = some t → args[j]? = some v → Value.okWide Try.prog W .any base t v)
    (hW : DataW.Whole enc Try.prog Try.f7.params.toList Rows.btreePartsSpec.vars false W args.toList ds gs before) (hk : Rows.uptoSmall H (ds ++ gs) = true) :
    Calls Try.prog 7 args W fun e W' => ∃ v, e = .returned v ∧ Rows.btreePartsSpec.post enc Try.prog Try.f7 false true false false W args v W' := by
  have hW' := hW
  obtain ⟨p, q, hA0, hV, rfl, hfz, hnd⟩ := hW
  have hA : DataW.TrodAll enc Try.prog W 0 (fun _ => true) true Try.f7.params.toList args.toList ds p := hA0
  rw [Try.params7] at hA hval
  obtain ⟨v0, vs0, d0, ds0, p0, q0, hargs, rfl, rfl, h0, r0⟩ := trodAll_cons hA
  obtain ⟨v1, vs1, d1, ds1, p1, q1, rfl, rfl, rfl, h1, r1⟩ := trodAll_cons r0
  obtain ⟨v2, vs2, d2, ds2, p2, q2, rfl, rfl, rfl, h2, r2⟩ := trodAll_cons r1
  obtain ⟨v3, vs3, d3, ds3, p3, q3, rfl, rfl, rfl, h3, r3⟩ := trodAll_cons r2
  obtain ⟨v4, vs4, d4, ds4, p4, q4, rfl, rfl, rfl, h4, r4⟩ := trodAll_cons r3
  obtain ⟨rfl, rfl, rfl⟩ := trodAll_nil r4
  obtain rfl : args = #[v0, v1, v2, v3, v4] := by cases args; simp_all
  obtain ⟨rfl, rfl⟩ := trodVars_none hV
  simp only [List.append_nil] at hk
  have hb : Rows.uptoBulkAll ([d0, d1, d2, d3, d4] : List (DataW H)) ≤ 1048576 := of_decide_eq_true hk
  simp only [Rows.uptoBulkAll] at hb
  obtain ⟨a0, rfl, rfl, rfl, w0⟩ := open_int Try.underlying3 (hval 0 3 v0 rfl rfl) h0
  obtain ⟨a1, len1, cap1, rfl⟩ := okWide_slice Try.underlying22 (hval 1 22 v1 rfl rfl)
  have k1 := h1
  have lt1 : ∀ x ∈ p1, x.block < W.heap.size := by obtain ⟨m, hm⟩ := k1; exact DataW.trod_lt m _ _ _ hm
  obtain ⟨l1, w1, b1⟩ : ∃ l, NArg W a1 len1 cap1 l ∧ cap1 ≤ Rows.uptoBulk d1 := by
    obtain ⟨fuel, hf⟩ := h1
    obtain ⟨l, hl, hd⟩ := narg_open hf
    refine ⟨l, hl, ?_⟩
    rcases hd with h | ⟨elems, spare, rfl, hc⟩
    · omega
    · have q1 := bulk_len elems
      have q2 := bulk_len spare
      simp only [Rows.uptoBulk]
      omega
  obtain ⟨a2, rfl, rfl, rfl, w2⟩ := Go.ChangeMaps.open_string Try.underlying9 (hval 2 9 v2 rfl rfl) h2
  obtain ⟨a3, rfl, rfl, rfl, w3⟩ := Go.ChangeMaps.open_string Try.underlying9 (hval 3 9 v3 rfl rfl) h3
  obtain ⟨a4, rfl, rfl, rfl, w4⟩ := Go.ChangeMaps.open_string Try.underlying9 (hval 4 9 v4 rfl rfl) h4
  clear hA0
  refine (walk a0 a1 len1 cap1 l1 a2 a3 a4 W w0 w1 w2 w3 w4 (by have := w1.le; omega)).mono fun e W' ⟨he, bel⟩ => ?_
  subst he
  exact ⟨_, rfl, _, _, _, [], _, [], hW', trodAll_mk1 (shut_bool Try.underlying4 _), (trodAll_cons_mk (shut_int Try.underlying3 w0) (trodAll_cons_mk (Below.trod laidOut (by kernel_rfl) (of_decide_eq_true (by kernel_rfl)) k1 bel lt1) (trodAll_cons_mk (Go.ChangeMaps.shut_string Try.underlying9 w2) (trodAll_cons_mk (Go.ChangeMaps.shut_string Try.underlying9 w3) (trodAll_cons_mk (Go.ChangeMaps.shut_string Try.underlying9 w4) trodAll_mk0))))), rfl, bel.frame _, fun h => by cases h⟩

set_option maxRecDepth 100000 in
theorem lifted (os : Os) (started : os.Started) (H : Type) (enc : TypeId × Value → H) (F : Stop.Interp) :
    ReturnsInHanded {} Try.checked os 7 .any ((Rows.OpenSpec.upto Rows.btreePartsSpec).pre6 enc Try.prog Try.f7 Rows.btreePartsUptoRow.domain false) (((Rows.OpenSpec.upto Rows.btreePartsSpec).at F).post enc Try.prog Try.f7 false true false false) := by
  refine returnsInHanded_of_cond (C := Try.checked) (s := Rows.OpenSpec.upto Rows.btreePartsSpec) (k := Rows.uptoSmall) rfl own started (by kernel_rfl) Try.func7
    (OpenSpec.witness (enc := enc) (C := Try.checked) (s := Rows.OpenSpec.upto Rows.btreePartsSpec) (k := Rows.uptoSmall) rfl false ⟨#[], #[.int .i64 0, .slice none 0 0, .string ⟨#[]⟩, .string ⟨#[]⟩, .string ⟨#[]⟩], []⟩ 8 (by kernel_rfl) (by kernel_rfl) (by kernel_rfl)
      (x := ([.lit (.int .i64 0), .nil, .lit (.string []), .lit (.string []), .lit (.string [])], [], [])) (by kernel_rfl) rfl (by kernel_rfl)) ?_
  intro W base args ds gs before hval hW _ hk _
  exact contract H enc W base args ds gs before hval hW hk

theorem over : Rows.BtreePartsUptoSaid :=
  OpenClaim.holds_of_cond 7 Try.f7 rfl rfl rfl rfl rfl rfl rfl ⟨rfl, rfl, rfl, rfl, rfl⟩ rfl rfl rfl rfl rfl (by kernel_rfl) Try.func7 (by kernel_rfl)
    (of_decide_eq_true (by kernel_rfl)) (by unfold Func.isWrapper; first | (rw [if_pos (by decide +kernel)]; kernel_rfl) | (rw [if_neg (by decide +kernel)]; exact ⟨rfl, rfl⟩))
    (fun os started H enc _ F => lifted os started H enc F)
end Go.Proofs.Ytpflacbinankmaa.btreeParts

namespace Go.Proofs.Ytpflacbinankmaa
theorem btreePartsUpto_holds : Rows.BtreePartsUptoSaid := btreeParts.over
#print axioms btreePartsUpto_holds
end Go.Proofs.Ytpflacbinankmaa
