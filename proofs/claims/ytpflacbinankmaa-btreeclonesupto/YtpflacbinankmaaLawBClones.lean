/-
  Proved: the statement that what is done with a copy changes nothing of the tree (BtreeClones), where what comes in is of bulk at most 1048576.
-/
import Derived.Test.YtpflacbinankmaaBAppN
import Derived.Test.YtpflacbinankmaaBOneN
import Derived.Test.YtpflacbinankmaaBOpArg
import Derived.OwnWalk
import Derived.JoinedCond
namespace Go.Proofs.Ytpflacbinankmaa.btreeClones
open Go.ChangeShapes Go.WideShapes Go.ChangeAt Go.RowKit Bt
set_option maxRecDepth 10000

theorem fan_nat {f : Int} (h : okFan f = true) : ∃ F : Nat, f = (F : Int) ∧ 4 ≤ F ∧ F ≤ 64 := by
  unfold okFan at h
  simp at h
  exact ⟨f.toNat, by omega, by omega, by omega⟩
theorem bld_inv {F : Nat} (hF : 4 ≤ F) : ∀ (l : List Nw) (x : Tre), InvT F x → InvT F (bld F l x).1 ∧ (bld F l x).1.all.length ≤ x.all.length + l.length ∧ ((bld F l x).2 = 0 ∨ (bld F l x).2 = 22)
  | [], x, h => ⟨h, Nat.le_refl _, .inl rfl⟩
  | y :: l, x, h => by
    rw [bld]
    split
    · obtain ⟨a, b⟩ := delS_len hF y.k h
      obtain ⟨i1, i2, i3⟩ := bld_inv hF l _ b
      exact ⟨i1, by simp only [List.length_cons]; omega, i3⟩
    · split
      · obtain ⟨a, b⟩ := putR_len hF y.k y.v h
        obtain ⟨i1, i2, i3⟩ := bld_inv hF l _ b
        exact ⟨i1, by simp only [List.length_cons]; omega, i3⟩
      · rename_i hE
        refine ⟨h, by simp only [List.length_cons]; omega, .inr ?_⟩
        unfold putE at hE ⊢
        split at hE
        · exact absurd rfl hE
        · rename_i q; rw [if_neg q]
theorem rng_full {L : List KV} {m : Nat} (h : L.length ≤ m) : rng ⟨#[]⟩ ⟨#[]⟩ m L = L := by
  have e0 : ∀ x : KV, klt x.1 ⟨#[]⟩ = false := fun x => by
    unfold klt
    have : ((⟨#[]⟩ : K)).toList = [] := by rw [ByteArray.toList_eq]
    rw [this]
    cases x.1.toList <;> rfl
  have e1 : (L.filter fun x => !klt x.1 ⟨#[]⟩) = L := by
    rw [List.filter_eq_self]
    intro x _
    rw [e0]; rfl
  have e2 : ∀ l : List KV, l.takeWhile (okT ⟨#[]⟩) = l := fun l => by
    induction l with
    | nil => rfl
    | cons a l ih =>
      have : okT ⟨#[]⟩ a = true := by unfold okT; rw [show ((⟨#[]⟩ : K)).toList = [] by rw [ByteArray.toList_eq]]; rfl
      rw [List.takeWhile_cons, this, if_pos rfl, ih]
  unfold rng
  rw [e1, e2, List.take_of_length_le h]
theorem one_nil {w : World} {p F : Nat} {x : Tre} {fs : List Nat} (h : Live w p F x fs) (y : Opn) (hlen : x.all.length < 1073741824) (hn : y.n < 9223372036854775808) :
    Calls Try.prog 13 #[.pointer (some ⟨p, 0, none⟩), .pointer none, .agg #[.int .i64 y.k, .string y.key, .string y.val, .string y.to, .int .i64 y.n]] w fun e w' => ∃ b, e = .returned (.bool b) ∧ Lft w p F fs x w' := by
  obtain ⟨k, key, val, to, n⟩ := y
  by_cases h1 : k = 1
  · subst h1; exact one1_nil h key val to n hlen
  by_cases h2 : k = 2
  · subst h2; exact one2_nil h key val to n hlen
  by_cases h3 : k = 3
  · subst h3; exact one3_nil h key val to n hlen
  by_cases h4 : k = 4
  · subst h4; exact one4_nil h key val to n hlen hn
  by_cases h5 : k = 5
  · subst h5; exact one5_nil h key val to n hlen
  by_cases h6 : k = 6
  · subst h6; exact one6_nil h key val to n hlen
  · exact one7_nil h key val to n hlen k h1 h2 h3 h4 h5 h6
set_option maxHeartbeats 4000000 in
theorem walk_bad (f : Int) (a : Option Addr) (len cap : Nat) (a2 : Option Addr) (len2 cap2 : Nat) (w : World) (h : okFan f = false) :
    Calls Try.prog 6 #[.int .i64 f, .slice a len cap, .slice a2 len2 cap2] w fun e w' => e = .returned (.bool true) ∧ Below w.heap.size w w' := by
  have kB := build_bad f a len cap w h
  clear h
  go_enter Try.func6, Try.ntmps6
  go_wp2_with (first
    | (go_at_call 9; refine kB.mono ?_; rintro e w' ⟨rfl, rfl⟩)
    | (go_at_call 11; refine (alive_any _).mono ?_; rintro e W2 ⟨rfl, hb2⟩))
  go_ret
  exact ⟨rfl, hb2⟩
set_option maxHeartbeats 4000000 in
theorem walk_err (F : Nat) (h1 : 4 ≤ F) (h2 : F ≤ 64) (a : Option Addr) (len cap : Nat) (a2 : Option Addr) (len2 cap2 : Nat) (l : List Nw) (w : World) (hA : NArg w a len cap l) (hsz : len < 2305843009213693000) (hE : (bld F l tre0).2 ≠ 0) :
    Calls Try.prog 6 #[.int .i64 (F : Nat), .slice a len cap, .slice a2 len2 cap2] w fun e w' => e = .returned (.bool true) ∧ Below w.heap.size w w' := by
  have kB : Calls Try.prog 9 #[.int .i64 (F : Nat), .slice a len cap] w fun e w' => e = .returned (.tuple #[.pointer none, .int .i64 22]) ∧ Below w.heap.size w w' := by
    refine (build_any F h1 h2 a len cap l w hA hsz).mono ?_
    rintro e w' ⟨p, rfl, hb, _⟩
    refine ⟨?_, hb⟩
    unfold bltV
    rw [if_neg hE]
    rcases (bld_inv h1 l tre0 inv0).2.2 with q | q
    · exact absurd q hE
    · rw [q]
  clear hA hE
  go_enter Try.func6, Try.ntmps6
  go_wp2_with (first
    | (go_at_call 9; refine kB.mono ?_; rintro e W1 ⟨rfl, hb1⟩)
    | (go_at_call 11; refine (alive_any _).mono ?_; rintro e W2 ⟨rfl, hb2⟩))
  go_ret
  exact ⟨rfl, bafter hb1 hb2⟩
/-- The copy, as it is while operations are done with it. -/
def Cpy (W3 : World) (q F k : Nat) (wr : World) : Prop := ∃ x, Blt W3 q F x wr ∧ x.all.length ≤ 1048576 + k
theorem Cpy.one {W3 : World} {q F k : Nat} {wr : World} (h : Cpy W3 q F k wr) (hk : k ≤ 1048576) (y : Opn) (hn : y.n < 9223372036854775808) :
    Calls Try.prog 13 #[.pointer (some ⟨q, 0, none⟩), .pointer none, .agg #[.int .i64 y.k, .string y.key, .string y.val, .string y.to, .int .i64 y.n]] wr fun e w' => ∃ b, e = .returned (.bool b) ∧ Cpy W3 q F (k + 1) w' := by
  obtain ⟨x, hB, hl⟩ := h
  obtain ⟨fs, h1, h2⟩ := hB.live
  refine (one_nil h1 y (by omega) hn).mono ?_
  rintro e w' ⟨b, rfl, x', hL, hx⟩
  exact ⟨b, rfl, x', Blt.step hB.p hB.below h2 hL, by omega⟩
set_option maxHeartbeats 8000000 in
theorem walk_ok (F : Nat) (h1 : 4 ≤ F) (h2 : F ≤ 64) (a : Option Addr) (len cap : Nat) (a2 : Option Addr) (len2 cap2 : Nat) (l : List Nw) (ol : List Opn) (w : World) (hA : NArg w a len cap l) (hO : OpArg w a2 len2 cap2 ol) (hsz : len ≤ 1048576) (hsz2 : len2 ≤ 1048576) (hE : (bld F l tre0).2 = 0) :
    Calls Try.prog 6 #[.int .i64 (F : Nat), .slice a len cap, .slice a2 len2 cap2] w fun e w' => e = .returned (.bool true) ∧ Below w.heap.size w w' := by
  obtain ⟨i1, i2, _⟩ := bld_inv h1 l tre0 inv0
  have hlen : (bld F l tre0).1.all.length ≤ 1048576 := by
    have e0 : tre0.all.length = 0 := rfl
    have := hA.len_eq; omega
  obtain ⟨X, hX⟩ : ∃ X, X = (bld F l tre0).1 := ⟨_, rfl⟩
  have kB : Calls Try.prog 9 #[.int .i64 (F : Nat), .slice a len cap] w fun e w' => ∃ p, e = .returned (.tuple #[.pointer (some ⟨p, 0, none⟩), .int .i64 0]) ∧ Blt w p F X w' := by
    refine (build_any F h1 h2 a len cap l w hA (by omega)).mono ?_
    rintro e w' ⟨p, rfl, hb, hB⟩
    refine ⟨p, ?_, by rw [hX]; exact hB hE⟩
    unfold bltV
    rw [if_pos hE]
  rw [← hX] at i1 hlen
  have HR : Hid (∀ p W1, Blt w p F X W1 → ∀ W, Below W1.heap.size W1 W → Calls Try.prog 17 #[.pointer (some ⟨p, 0, none⟩), .string ⟨#[]⟩, .string ⟨#[]⟩, .int .i64 1073741824] W fun e w' => ∃ a5 c5, e = .returned (.slice a5 X.all.length c5) ∧ NdAt w' (.slice a5 X.all.length c5) X.all ∧ Below W.heap.size W w') := fun p W1 hB W hb => by
    obtain ⟨fs, q1, _⟩ := hB.live
    refine ((q1.later hb).range ⟨#[]⟩ ⟨#[]⟩ 1073741824 (by decide) (by decide) (.inl (by decide))).mono ?_
    rintro e w' ⟨v, rfl, ht⟩
    rw [rng_full (by omega)] at ht
    obtain ⟨a5, c5, e5⟩ := own_slice ht.at.own
    subst e5
    exact ⟨a5, c5, rfl, ht.at, ht.2⟩
  have HH : Hid (∀ p W1, Blt w p F X W1 → ∀ W, Below W1.heap.size W1 W → Calls Try.prog 21 #[.pointer (some ⟨p, 0, none⟩)] W fun e w' => e = .returned (.int .i64 ((X.n + 1 : Nat) : Int)) ∧ W = w') := fun p W1 hB W hb => by
    obtain ⟨fs, q1, _⟩ := hB.live
    exact height_any (q1.later hb) (by omega)
  have HN : Hid (∀ p W1, Blt w p F X W1 → ∀ W, Below W1.heap.size W1 W → Calls Try.prog 14 #[.pointer (some ⟨p, 0, none⟩)] W fun e w' => e = .returned (.int .i64 ((X.all.length : Nat) : Int)) ∧ W = w') := fun p W1 hB W hb => by
    obtain ⟨fs, q1, _⟩ := hB.live
    exact len_any (q1.later hb)
  have HC : Hid (∀ p W1, Blt w p F X W1 → ∀ W, Below W1.heap.size W1 W → Calls Try.prog 12 #[.pointer (some ⟨p, 0, none⟩)] W fun e w' => ∃ q, e = .returned (.pointer (some ⟨q, 0, none⟩)) ∧ Cpy W q F 0 w') := fun p W1 hB W hb => by
    obtain ⟨fs, q1, _⟩ := hB.live
    refine (cloneT_any (q1.later hb)).mono ?_
    rintro e w' ⟨q, rfl, hq⟩
    exact ⟨q, rfl, X, hq, by omega⟩
  have HO : Hid (OpArg w a2 len2 cap2 ol) := hO
  have HOL : Hid (len2 = ol.length) := hO.len_eq
  have hcap := hO.le
  have hcm := hO.max
  unfold maxLen at hcm
  have HXL : Hid (X.all.length ≤ 1048576) := hlen
  clear hA hE i1 i2 hX hsz hO hlen
  generalize ((X.n + 1 : Nat) : Int) = HT at *
  obtain ⟨XL, hXL⟩ : ∃ XL, XL = X.all := ⟨_, rfl⟩
  rw [← hXL] at HR HN HXL
  clear hXL
  have M1 : Hid True := trivial
  have M2 : Hid True := trivial
  go_enter Try.func6, Try.ntmps6
  go_wp2_with (first
    | (go_at_call 9; refine kB.mono ?_; rintro e W1 ⟨p, rfl, hB⟩; have HB : Hid (Blt w p F X W1) := hB; clear hB)
    | (clear M1; go_at_call 17; refine (HR.out p W1 HB.out W1 (Below.refl _ _)).mono ?_; rintro e W2 ⟨a5, c5, rfl, hv1, hb2⟩; have Hv1 : Hid (NdAt W2 (.slice a5 XL.length c5) XL) := hv1; have Hb2 : Hid (Below W1.heap.size W1 W2) := hb2; clear hv1 hb2)
    | (clear M2; go_at_call 21; refine (HH.out p W1 HB.out W2 Hb2.out).mono ?_; rintro e W3 ⟨rfl, rfl⟩)
    | (go_at_call 12; refine (HC.out p W1 HB.out W2 Hb2.out).mono ?_; rintro e W4 ⟨q, rfl, hq⟩; have HQ : Hid (Cpy W2 q F 0 W4) := hq; clear hq))
  go_loopg [12] len2 (fun kx s wr => ∃ k : Nat, k + kx = len2 ∧ s = .int .i64 (k : Nat) ∧ Hid (Cpy W2 q F k wr))
  case atStart => exact ⟨0, by omega, rfl, HQ.out⟩
  case round =>
    obtain ⟨k, hk, rfl, I⟩ := hrel
    have HBw : Hid (Below w.heap.size w wr) := by
      obtain ⟨x, hx, _⟩ := I.out
      exact bafter (bafter HB.out.below Hb2.out) hx.below
    have HB1 : Hid (Below W1.heap.size W1 wr) := by
      obtain ⟨x, hx, _⟩ := I.out
      exact bafter Hb2.out hx.below
    by_cases hlt : k < len2
    · obtain ⟨y, hy⟩ : ∃ y, ol[k]? = some y := ⟨_, List.getElem?_eq_getElem (by have := HOL.out; omega)⟩
      rcases (HO.out.row.later HBw.out) with e | ⟨b, off, rfl, hc⟩
      · exfalso; have := HOL.out; rw [e] at this; simp at this; omega
      obtain ⟨q0, q1, q2, q3, q4, q5⟩ := hc k y hy
      have hi1 : (k : Int) < (len2 : Int) := by omega
      have kO := I.out.one (by omega) y q5
      clear hc hy
      go_wp2_with (go_at_call 13; refine kO.mono ?_; rintro e W5 ⟨b5, rfl, h5⟩; have H5 : Hid (Cpy W2 q F (k + 1) W5) := h5; clear h5)
      go_roundg (len2 - (k + 1))
      case measure => omega
      case rel => exact ⟨k + 1, by omega, by go_num, H5.out⟩
    · have hkl : k = len2 := by omega
      subst hkl
      have Hx : Hid (Below W2.heap.size W2 wr) := by
        obtain ⟨x, hx, _⟩ := I.out
        exact hx.below
      go_wp2_with (first
        | (go_at_call 17; refine (HR.out p W1 HB.out wr HB1.out).mono ?_; rintro e W6 ⟨a6, c6, rfl, hv6, hb6⟩; have Hv6 : Hid (NdAt W6 (.slice a6 XL.length c6) XL) := hv6; have Hb6 : Hid (Below wr.heap.size wr W6) := hb6; clear hv6 hb6)
        | (go_at_call 16; refine (same_yes _ _ _ _ Hv6.out ((Hv1.out.later Hx.out).later Hb6.out) (by have := HXL.out; omega)).mono ?_; rintro e W7 ⟨rfl, hb7⟩; have Hb7 : Hid (Below W6.heap.size W6 W7) := hb7; clear hb7)
        | (go_at_call 21; refine (HH.out p W1 HB.out W7 (bafter (bafter HB1.out Hb6.out) Hb7.out)).mono ?_; rintro e W8 ⟨rfl, rfl⟩)
        | (go_at_call 14; refine (HN.out p W1 HB.out W7 (bafter (bafter HB1.out Hb6.out) Hb7.out)).mono ?_; rintro e W8 ⟨rfl, rfl⟩)
        | (go_at_call 11; refine (alive_any _).mono ?_; rintro e W9 ⟨rfl, hb9⟩))
      go_ret
      exact ⟨rfl, bafter (bafter (bafter HBw.out Hb6.out) Hb7.out) hb9⟩
theorem walk (f : Int) (a : Option Addr) (len cap : Nat) (l : List Nw) (a2 : Option Addr) (len2 cap2 : Nat) (ol : List Opn) (w : World) (_ : (Lit.int .i64 f).wf = true) (hA : NArg w a len cap l) (hO : OpArg w a2 len2 cap2 ol) (hs : len ≤ 1048576) (hs2 : len2 ≤ 1048576) :
    Calls Try.prog 6 #[.int .i64 f, .slice a len cap, .slice a2 len2 cap2] w fun e w' => e = .returned (.bool true) ∧ Below w.heap.size w w' := by
  cases h : okFan f with
  | false => exact walk_bad f a len cap a2 len2 cap2 w h
  | true =>
    obtain ⟨F, rfl, h1, h2⟩ := fan_nat h
    by_cases hE : (bld F l tre0).2 = 0
    · exact walk_ok F h1 h2 a len cap a2 len2 cap2 l ol w hA hO hs hs2 hE
    · exact walk_err F h1 h2 a len cap a2 len2 cap2 l w hA (by omega) hE
set_option maxRecDepth 100000 in
theorem contract (H : Type) (enc : TypeId × Value → H) (W : World) (base : Nat) (args : Array Value) (ds gs : List (DataW H)) (before : List MemPlace)
    (hval : ∀ (j : Nat) t v, Try.f6.params[j]? = some t → args[j]? = some v → Value.okWide Try.prog W .any base t v)
    (hW : DataW.Whole enc Try.prog Try.f6.params.toList Rows.btreeClonesSpec.vars false W args.toList ds gs before) (hk : Rows.uptoSmall H (ds ++ gs) = true) :
    Calls Try.prog 6 args W fun e W' => ∃ v, e = .returned v ∧ Rows.btreeClonesSpec.post enc Try.prog Try.f6 false true false false W args v W' := by
  have hW' := hW
  obtain ⟨p, q, hA0, hV, rfl, hfz, hnd⟩ := hW
  have hA : DataW.TrodAll enc Try.prog W 0 (fun _ => true) true Try.f6.params.toList args.toList ds p := hA0
  rw [Try.params6] at hA hval
  obtain ⟨v0, vs0, d0, ds0, p0, q0, hargs, rfl, rfl, h0, r0⟩ := trodAll_cons hA
  obtain ⟨v1, vs1, d1, ds1, p1, q1, rfl, rfl, rfl, h1, r1⟩ := trodAll_cons r0
  obtain ⟨v2, vs2, d2, ds2, p2, q2, rfl, rfl, rfl, h2, r2⟩ := trodAll_cons r1
  obtain ⟨rfl, rfl, rfl⟩ := trodAll_nil r2
  obtain rfl : args = #[v0, v1, v2] := by cases args; simp_all
  obtain ⟨rfl, rfl⟩ := trodVars_none hV
  simp only [List.append_nil] at hk
  have hb : Rows.uptoBulkAll ([d0, d1, d2] : List (DataW H)) ≤ 1048576 := of_decide_eq_true hk
  simp only [Rows.uptoBulkAll] at hb
  obtain ⟨a0, rfl, rfl, rfl, w0⟩ := open_int Try.underlying3 (hval 0 3 v0 rfl rfl) h0
  obtain ⟨a1, len1, cap1, rfl⟩ := okWide_slice Try.underlying22 (hval 1 22 v1 rfl rfl)
  have k1 := h1
  have lt1 : ∀ x ∈ p1, x.block < W.heap.size := by obtain ⟨m, hm⟩ := k1; exact DataW.trod_lt m _ _ _ hm
  obtain ⟨l1, w1, b1⟩ : ∃ l, NArg W a1 len1 cap1 l ∧ cap1 ≤ Rows.uptoBulk d1 := by
    obtain ⟨fuel, hf⟩ := h1
    obtain ⟨l, hl, hd⟩ := narg_open hf
    refine ⟨l, hl, ?_⟩
    rcases hd with h | ⟨elems, spare, rfl, hc⟩
    · omega
    · have q1 := bulk_len elems
      have q2 := bulk_len spare
      simp only [Rows.uptoBulk]
      omega
  obtain ⟨a2, len2, cap2, rfl⟩ := okWide_slice Try.underlying23 (hval 2 23 v2 rfl rfl)
  have k2 := h2
  have lt2 : ∀ x ∈ p2, x.block < W.heap.size := by obtain ⟨m, hm⟩ := k2; exact DataW.trod_lt m _ _ _ hm
  obtain ⟨l2, w2, b2⟩ : ∃ l, OpArg W a2 len2 cap2 l ∧ cap2 ≤ Rows.uptoBulk d2 := by
    obtain ⟨fuel, hf⟩ := h2
    obtain ⟨l, hl, hd⟩ := oparg_open hf
    refine ⟨l, hl, ?_⟩
    rcases hd with h | ⟨elems, spare, rfl, hc⟩
    · omega
    · have q1 := bulk_len elems
      have q2 := bulk_len spare
      simp only [Rows.uptoBulk]
      omega
  clear hA0
  refine (walk a0 a1 len1 cap1 l1 a2 len2 cap2 l2 W w0 w1 w2 (by have := w1.le; omega) (by have := w2.le; omega)).mono fun e W' ⟨he, bel⟩ => ?_
  subst he
  exact ⟨_, rfl, _, _, _, [], _, [], hW', trodAll_mk1 (shut_bool Try.underlying4 _), (trodAll_cons_mk (shut_int Try.underlying3 w0) (trodAll_cons_mk (Below.trod laidOut (by kernel_rfl) (of_decide_eq_true (by kernel_rfl)) k1 bel lt1) (trodAll_cons_mk (Below.trod laidOut (by kernel_rfl) (of_decide_eq_true (by kernel_rfl)) k2 bel lt2) trodAll_mk0))), rfl, bel.frame _, fun h => by cases h⟩

set_option maxRecDepth 100000 in
theorem lifted (os : Os) (started : os.Started) (H : Type) (enc : TypeId × Value → H) (F : Stop.Interp) :
    ReturnsInHanded {} Try.checked os 6 .any ((Rows.OpenSpec.upto Rows.btreeClonesSpec).pre6 enc Try.prog Try.f6 Rows.btreeClonesUptoRow.domain false) (((Rows.OpenSpec.upto Rows.btreeClonesSpec).at F).post enc Try.prog Try.f6 false true false false) := by
  refine returnsInHanded_of_cond (C := Try.checked) (s := Rows.OpenSpec.upto Rows.btreeClonesSpec) (k := Rows.uptoSmall) rfl own started (by kernel_rfl) Try.func6
    (OpenSpec.witness (enc := enc) (C := Try.checked) (s := Rows.OpenSpec.upto Rows.btreeClonesSpec) (k := Rows.uptoSmall) rfl false ⟨#[], #[.int .i64 0, .slice none 0 0, .slice none 0 0], []⟩ 8 (by kernel_rfl) (by kernel_rfl) (by kernel_rfl)
      (x := ([.lit (.int .i64 0), .nil, .nil], [], [])) (by kernel_rfl) rfl (by kernel_rfl)) ?_
  intro W base args ds gs before hval hW _ hk _
  exact contract H enc W base args ds gs before hval hW hk

theorem over : Rows.BtreeClonesUptoSaid :=
  OpenClaim.holds_of_cond 6 Try.f6 rfl rfl rfl rfl rfl rfl rfl ⟨rfl, rfl, rfl, rfl, rfl⟩ rfl rfl rfl rfl rfl (by kernel_rfl) Try.func6 (by kernel_rfl)
    (of_decide_eq_true (by kernel_rfl)) (by unfold Func.isWrapper; first | (rw [if_pos (by decide +kernel)]; kernel_rfl) | (rw [if_neg (by decide +kernel)]; exact ⟨rfl, rfl⟩))
    (fun os started H enc _ F => lifted os started H enc F)
end Go.Proofs.Ytpflacbinankmaa.btreeClones

namespace Go.Proofs.Ytpflacbinankmaa
theorem btreeClonesUpto_holds : Rows.BtreeClonesUptoSaid := btreeClones.over
#print axioms btreeClonesUpto_holds
end Go.Proofs.Ytpflacbinankmaa
