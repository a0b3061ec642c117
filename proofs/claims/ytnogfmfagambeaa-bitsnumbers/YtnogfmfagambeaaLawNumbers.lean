/-
  Proved: the statement on numbers as bytes (BitsNumbers): Put, Get, Blank and Fill answer what the document says, for every input; no condition.
-/
import Derived.Test.YtnogfmfagambeaaArg
import Derived.Test.YtnogfmfagambeaaRefA
namespace Go.Proofs.Ytnogfmfagambeaa.bitsNumbers
open Go.ChangeShapes Go.WideShapes Go.ChangeAt Go.RowKit M

theorem fillL_lt {l : List Nat} (h : ∀ x ∈ l, x < 256) (n : Nat) : ∀ x ∈ fillL l n, x < 256 := by
  intro x hx
  simp only [fillL, List.mem_append, List.mem_replicate] at hx
  rcases hx with hx | ⟨_, rfl⟩
  · exact h x (List.mem_of_mem_take hx)
  · decide
theorem num_get {w wr : World} {a : Option Addr} {len cap : Nat} {l : List Nat} (h : BArg w a len cap l) (hb : Below w.heap.size w wr) {z : Nat} (hz : z = getL (l.take 8)) : Calls Try.prog 11 #[.slice a len cap] wr fun e w' => e = .returned (.int .u64 (z : Int)) ∧ wr = w' := by
  have h1 := h.len_eq
  subst h1
  subst hz
  exact get_any a cap l wr (Nat.le_trans h.le h.max) h.lt (h.row.later hb)
theorem num_rget {w wr : World} {a : Option Addr} {len cap : Nat} {l : List Nat} (h : BArg w a len cap l) (hb : Below w.heap.size w wr) {z : Nat} (hz : z = getL (l.take 8)) : Calls Try.prog 12 #[.slice a len cap] wr fun e w' => e = .returned (.int .u64 (z : Int)) ∧ wr = w' := by
  have h1 := h.len_eq
  subst h1
  subst hz
  exact ref_get a cap l wr (Nat.le_trans h.le h.max) h.lt (h.row.later hb)
theorem num_blank {w wr : World} {a : Option Addr} {len cap : Nat} {l : List Nat} (h : BArg w a len cap l) (hb : Below w.heap.size w wr) {q : Bool} (hq : q = l.all (· == 255)) : Calls Try.prog 13 #[.slice a len cap] wr fun e w' => e = .returned (.bool q) ∧ wr = w' := by
  have h1 := h.len_eq
  subst h1
  subst hq
  exact blank_any a cap l wr (Nat.le_trans h.le h.max) (h.row.later hb)
theorem num_rblank {w wr : World} {a : Option Addr} {len cap : Nat} {l : List Nat} (h : BArg w a len cap l) (hb : Below w.heap.size w wr) {q : Bool} (hq : q = l.all (· == 255)) : Calls Try.prog 14 #[.slice a len cap] wr fun e w' => e = .returned (.bool q) ∧ wr = w' := by
  have h1 := h.len_eq
  subst h1
  subst hq
  exact ref_blank a cap l wr (Nat.le_trans h.le h.max) (h.row.later hb)
theorem num_fill {w wr : World} {a : Option Addr} {len cap : Nat} {l : List Nat} (h : BArg w a len cap l) (hb : Below w.heap.size w wr) {s : Nat} (hs : s ≤ 1048576) : Calls Try.prog 15 #[.slice a len cap, .int .i64 s] wr fun e w' => e = .returned (.slice (some ⟨wr.heap.size, 0, none⟩) s s) ∧ Own wr w' (.slice (some ⟨wr.heap.size, 0, none⟩) s s) (fillL l s) := by
  have h1 := h.len_eq
  subst h1
  exact fill_any a cap l s (by omega) wr (h.row.later hb)
theorem num_rfill {w wr : World} {a : Option Addr} {len cap : Nat} {l : List Nat} (h : BArg w a len cap l) (hb : Below w.heap.size w wr) {s : Nat} (hs : s ≤ 1048576) : Calls Try.prog 16 #[.slice a len cap, .int .i64 s] wr fun e w' => ∃ v, e = .returned v ∧ Own wr w' v (fillL l s) := by
  have h1 := h.len_eq
  subst h1
  exact ref_fill a cap l s hs wr (Nat.le_trans h.le h.max) (h.row.later hb)
theorem num_fillB {w wr : World} {a : Option Addr} {len cap : Nat} {l : List Nat} (h : BArg w a len cap l) (hb : Below w.heap.size w wr) : Calls Try.prog 15 #[.slice a len cap, .int .i64 1048576] wr fun e w' => e = .returned (.slice (some ⟨wr.heap.size, 0, none⟩) 1048576 1048576) ∧ Own wr w' (.slice (some ⟨wr.heap.size, 0, none⟩) 1048576 1048576) (fillL l 1048576) :=
  num_fill h hb (s := 1048576) (Nat.le_refl _)
theorem num_rfillB {w wr : World} {a : Option Addr} {len cap : Nat} {l : List Nat} (h : BArg w a len cap l) (hb : Below w.heap.size w wr) : Calls Try.prog 16 #[.slice a len cap, .int .i64 1048576] wr fun e w' => ∃ v, e = .returned v ∧ Own wr w' v (fillL l 1048576) :=
  num_rfill h hb (s := 1048576) (Nat.le_refl _)

set_option maxHeartbeats 2000000 in
theorem walk_neg (n : Nat) (bytes : Int) (a : Option Addr) (len cap : Nat) (l : List Nat) (size : Int) (unit : Int) (w : World) (hn : n < 18446744073709551616) (w2 : BArg w a len cap l) (hs : size < 0) :
    Calls Try.prog 3 #[.int .u64 n, .int .i64 bytes, .slice a len cap, .int .i64 size, .int .i64 unit] w fun e w' => e = .returned (.bool true) ∧ Below w.heap.size w w' := by
  have W2 : Hid (BArg w a len cap l) := w2
  clear w2
  obtain ⟨m, hm⟩ : ∃ m, putN bytes = m := ⟨_, rfl⟩
  have HM : Hid (putN bytes = m) := hm
  have HM8 : Hid (m ≤ 8) := by show _ ≤ _; unfold putN at hm; omega
  clear hm
  have HPL : Hid (m = (putL m n).length) := (putL_length m n).symm
  obtain ⟨z, hz⟩ : ∃ z, z = getL (l.take 8) := ⟨_, rfl⟩
  have HZ : Hid (z = getL (l.take 8)) := hz
  obtain ⟨q, hq⟩ : ∃ q, q = l.all (· == 255) := ⟨_, rfl⟩
  have HQ : Hid (q = l.all (· == 255)) := hq
  clear hz hq
  have e1 : ((z : Int) == (z : Int)) = true := by simp
  have e2 : (q == q) = true := by simp
  have M1 : Hid True := trivial
  go_enter Try.func3, Try.ntmps3
  go_wp2_with (first
    | (go_at_call 9; go_must (refine (put_any n hn bytes m HM.out w).mono ?_); rintro e w1 ⟨rfl, ho1⟩; have hb1 := ho1.2; have hp1 := own_at ho1; clear ho1)
    | (go_at_call 10; go_must (refine (ref_put n hn bytes m HM.out w1).mono ?_); rintro e w2 ⟨v2, rfl, ho2⟩; have hb2 := Below.after hb1 ho2.2; have hp2 := hp1.later ho2.2; obtain ⟨a2, c2, hv2, hr2, _⟩ := ho2.row; rw [putL_length] at hv2; subst hv2; clear ho2 hp1 hb1)
    | (go_at_call 8; clear M1; go_must (refine (same_yes w2 _ _ _ _ (putL m n) m HPL.out (putL_lt _ _) hp2 hr2).mono ?_); rintro e w' ⟨rfl, rfl⟩)
    | (go_at_call 11; go_must (refine (num_get W2.out hb2 HZ.out).mono ?_); rintro e w' ⟨rfl, rfl⟩)
    | (go_at_call 12; go_must (refine (num_rget W2.out hb2 HZ.out).mono ?_); rintro e w' ⟨rfl, rfl⟩)
    | (go_at_call 13; go_must (refine (num_blank W2.out hb2 HQ.out).mono ?_); rintro e w' ⟨rfl, rfl⟩)
    | (go_at_call 14; go_must (refine (num_rblank W2.out hb2 HQ.out).mono ?_); rintro e w' ⟨rfl, rfl⟩)
    | (go_at_call 15; refine (fill_no _ _ _ _ (.inl hs) _).mono ?_; rintro e w' ⟨rfl, rfl⟩)
    | (go_at_call 16; refine (ref_fill_no _ _ _ _ hs _).mono ?_; rintro e w' ⟨rfl, rfl⟩; have hb4 := hb2)
    | (go_at_call 8; go_must (refine (same_yes w2 none none 0 0 [] 0 rfl (by simp) (.inl rfl) (.inl rfl)).mono ?_); rintro e w' ⟨rfl, rfl⟩)
    | (go_at_call 17; refine (alive_any _).mono ?_; rintro e w5 ⟨rfl, hb45⟩))
  go_ret
  exact ⟨rfl, Below.after hb4 hb45⟩

set_option maxHeartbeats 2000000 in
theorem walk_in (n : Nat) (bytes : Int) (a : Option Addr) (len cap : Nat) (l : List Nat) (s : Nat) (unit : Int) (w : World) (hn : n < 18446744073709551616) (w2 : BArg w a len cap l) (hs : s ≤ 1048576) :
    Calls Try.prog 3 #[.int .u64 n, .int .i64 bytes, .slice a len cap, .int .i64 s, .int .i64 unit] w fun e w' => e = .returned (.bool true) ∧ Below w.heap.size w w' := by
  have W2 : Hid (BArg w a len cap l) := w2
  clear w2
  obtain ⟨m, hm⟩ : ∃ m, putN bytes = m := ⟨_, rfl⟩
  have HM : Hid (putN bytes = m) := hm
  have HM8 : Hid (m ≤ 8) := by show _ ≤ _; unfold putN at hm; omega
  clear hm
  have HPL : Hid (m = (putL m n).length) := (putL_length m n).symm
  obtain ⟨z, hz⟩ : ∃ z, z = getL (l.take 8) := ⟨_, rfl⟩
  have HZ : Hid (z = getL (l.take 8)) := hz
  obtain ⟨q, hq⟩ : ∃ q, q = l.all (· == 255) := ⟨_, rfl⟩
  have HQ : Hid (q = l.all (· == 255)) := hq
  clear hz hq
  have e1 : ((z : Int) == (z : Int)) = true := by simp
  have e2 : (q == q) = true := by simp
  have M1 : Hid True := trivial
  go_enter Try.func3, Try.ntmps3
  go_wp2_with (first
    | (go_at_call 9; go_must (refine (put_any n hn bytes m HM.out w).mono ?_); rintro e w1 ⟨rfl, ho1⟩; have hb1 := ho1.2; have hp1 := own_at ho1; clear ho1)
    | (go_at_call 10; go_must (refine (ref_put n hn bytes m HM.out w1).mono ?_); rintro e w2 ⟨v2, rfl, ho2⟩; have hb2 := Below.after hb1 ho2.2; have hp2 := hp1.later ho2.2; obtain ⟨a2, c2, hv2, hr2, _⟩ := ho2.row; rw [putL_length] at hv2; subst hv2; clear ho2 hp1 hb1)
    | (go_at_call 8; clear M1; go_must (refine (same_yes w2 _ _ _ _ (putL m n) m HPL.out (putL_lt _ _) hp2 hr2).mono ?_); rintro e w' ⟨rfl, rfl⟩)
    | (go_at_call 11; go_must (refine (num_get W2.out hb2 HZ.out).mono ?_); rintro e w' ⟨rfl, rfl⟩)
    | (go_at_call 12; go_must (refine (num_rget W2.out hb2 HZ.out).mono ?_); rintro e w' ⟨rfl, rfl⟩)
    | (go_at_call 13; go_must (refine (num_blank W2.out hb2 HQ.out).mono ?_); rintro e w' ⟨rfl, rfl⟩)
    | (go_at_call 14; go_must (refine (num_rblank W2.out hb2 HQ.out).mono ?_); rintro e w' ⟨rfl, rfl⟩)
    | (go_at_call 15; go_must (refine (num_fill W2.out hb2 hs).mono ?_); rintro e w3 ⟨rfl, ho3⟩; have hb3 := Below.after hb2 ho3.2; have hp3 := own_at ho3; clear ho3)
    | (go_at_call 16; go_must (refine (num_rfill W2.out hb3 hs).mono ?_); rintro e w4 ⟨v4, rfl, ho4⟩; have hb4 := Below.after hb3 ho4.2; have hp4 := hp3.later ho4.2; obtain ⟨a4, c4, hv4, hr4, _⟩ := ho4.row; rw [fillL_length] at hv4; subst hv4; clear ho4 hp3)
    | (go_at_call 8; go_must (refine (same_yes w4 _ _ _ _ (fillL l s) s (fillL_length _ _).symm (fillL_lt W2.out.lt _) hp4 hr4).mono ?_); rintro e w' ⟨rfl, rfl⟩)
    | (go_at_call 17; refine (alive_any _).mono ?_; rintro e w5 ⟨rfl, hb45⟩))
  go_ret
  exact ⟨rfl, Below.after hb4 hb45⟩

set_option maxHeartbeats 2000000 in
theorem walk_big (n : Nat) (bytes : Int) (a : Option Addr) (len cap : Nat) (l : List Nat) (size : Int) (unit : Int) (w : World) (hn : n < 18446744073709551616) (w2 : BArg w a len cap l) (hs : 1048576 < size) :
    Calls Try.prog 3 #[.int .u64 n, .int .i64 bytes, .slice a len cap, .int .i64 size, .int .i64 unit] w fun e w' => e = .returned (.bool true) ∧ Below w.heap.size w w' := by
  have W2 : Hid (BArg w a len cap l) := w2
  clear w2
  obtain ⟨m, hm⟩ : ∃ m, putN bytes = m := ⟨_, rfl⟩
  have HM : Hid (putN bytes = m) := hm
  have HM8 : Hid (m ≤ 8) := by show _ ≤ _; unfold putN at hm; omega
  clear hm
  have HPL : Hid (m = (putL m n).length) := (putL_length m n).symm
  obtain ⟨z, hz⟩ : ∃ z, z = getL (l.take 8) := ⟨_, rfl⟩
  have HZ : Hid (z = getL (l.take 8)) := hz
  obtain ⟨q, hq⟩ : ∃ q, q = l.all (· == 255) := ⟨_, rfl⟩
  have HQ : Hid (q = l.all (· == 255)) := hq
  clear hz hq
  have e1 : ((z : Int) == (z : Int)) = true := by simp
  have e2 : (q == q) = true := by simp
  have M1 : Hid True := trivial
  go_enter Try.func3, Try.ntmps3
  go_wp2_with (first
    | (go_at_call 9; go_must (refine (put_any n hn bytes m HM.out w).mono ?_); rintro e w1 ⟨rfl, ho1⟩; have hb1 := ho1.2; have hp1 := own_at ho1; clear ho1)
    | (go_at_call 10; go_must (refine (ref_put n hn bytes m HM.out w1).mono ?_); rintro e w2 ⟨v2, rfl, ho2⟩; have hb2 := Below.after hb1 ho2.2; have hp2 := hp1.later ho2.2; obtain ⟨a2, c2, hv2, hr2, _⟩ := ho2.row; rw [putL_length] at hv2; subst hv2; clear ho2 hp1 hb1)
    | (go_at_call 8; clear M1; go_must (refine (same_yes w2 _ _ _ _ (putL m n) m HPL.out (putL_lt _ _) hp2 hr2).mono ?_); rintro e w' ⟨rfl, rfl⟩)
    | (go_at_call 11; go_must (refine (num_get W2.out hb2 HZ.out).mono ?_); rintro e w' ⟨rfl, rfl⟩)
    | (go_at_call 12; go_must (refine (num_rget W2.out hb2 HZ.out).mono ?_); rintro e w' ⟨rfl, rfl⟩)
    | (go_at_call 13; go_must (refine (num_blank W2.out hb2 HQ.out).mono ?_); rintro e w' ⟨rfl, rfl⟩)
    | (go_at_call 14; go_must (refine (num_rblank W2.out hb2 HQ.out).mono ?_); rintro e w' ⟨rfl, rfl⟩)
    | (go_at_call 15; go_must (refine (num_fillB W2.out hb2).mono ?_); rintro e w3 ⟨rfl, ho3⟩; have hb3 := Below.after hb2 ho3.2; have hp3 := own_at ho3; clear ho3)
    | (go_at_call 16; go_must (refine (num_rfillB W2.out hb3).mono ?_); rintro e w4 ⟨v4, rfl, ho4⟩; have hb4 := Below.after hb3 ho4.2; have hp4 := hp3.later ho4.2; obtain ⟨a4, c4, hv4, hr4, _⟩ := ho4.row; rw [fillL_length] at hv4; subst hv4; clear ho4 hp3)
    | (go_at_call 8; go_must (refine (same_yes w4 _ _ _ _ (fillL l 1048576) 1048576 (fillL_length _ _).symm (fillL_lt W2.out.lt _) hp4 hr4).mono ?_); rintro e w' ⟨rfl, rfl⟩)
    | (go_at_call 17; refine (alive_any _).mono ?_; rintro e w5 ⟨rfl, hb45⟩))
  go_ret
  exact ⟨rfl, Below.after hb4 hb45⟩

theorem walk (a0 a1 : Int) (a2 : Option Addr) (len2 cap2 : Nat) (l2 : List Nat) (a3 a4 : Int) (w : World) (w0 : (Lit.int .u64 a0).wf = true) (_ : (Lit.int .i64 a1).wf = true) (w2 : BArg w a2 len2 cap2 l2) (_ : (Lit.int .i64 a3).wf = true) (_ : (Lit.int .i64 a4).wf = true) :
    Calls Try.prog 3 #[.int .u64 a0, .int .i64 a1, .slice a2 len2 cap2, .int .i64 a3, .int .i64 a4] w fun e w' => e = .returned (.bool true) ∧ Below w.heap.size w w' := by
  have b0 := bounds_u64 w0
  obtain ⟨n, rfl⟩ : ∃ n : Nat, a0 = (n : Int) := ⟨a0.toNat, by omega⟩
  have hn : n < 18446744073709551616 := by omega
  by_cases h1 : a3 < 0
  · exact walk_neg n a1 a2 len2 cap2 l2 a3 a4 w hn w2 h1
  · by_cases h2 : 1048576 < a3
    · exact walk_big n a1 a2 len2 cap2 l2 a3 a4 w hn w2 h2
    · obtain ⟨s, rfl⟩ : ∃ s : Nat, a3 = (s : Int) := ⟨a3.toNat, by omega⟩
      exact walk_in n a1 a2 len2 cap2 l2 s a4 w hn w2 (by omega)

set_option maxRecDepth 100000 in
theorem lifted (os : Os) (started : os.Started) (H : Type) (enc : TypeId × Value → H) :
    ReturnsInHanded {} Try.checked os 3 .any (Rows.bitsNumbersSpec.pre6 enc Try.prog Try.f3 Rows.bitsNumbersRow.domain false) (Rows.bitsNumbersSpec.post enc Try.prog Try.f3 false true false false) := by
  refine returnsInHanded_of_change (C := Try.checked) own started (by kernel_rfl) Try.func3
    (ChangeSpec.witness6 (enc := enc) (C := Try.checked) false ⟨#[], #[.int .u64 0, .int .i64 0, .slice none 0 0, .int .i64 0, .int .i64 0], []⟩ 8 (by kernel_rfl) (by kernel_rfl) (by kernel_rfl) (by kernel_rfl)) ?_
  intro W base args ds gs before hval0 hW hcnd _
  have hval : ∀ (j : Nat) t v, Try.f3.params[j]? = some t → args[j]? = some v → Value.okWide Try.prog W .any base t v := hval0
  have hW' := hW
  obtain ⟨p, q, hA0, hV, rfl, hfz, hnd⟩ := hW
  have hA : DataW.TrodAll enc Try.prog W 0 (fun _ => true) true Try.f3.params.toList args.toList ds p := hA0
  rw [Try.params3] at hA hval
  obtain ⟨v0, vs0, d0, ds0, p0, q0, hargs, rfl, rfl, h0, r0⟩ := trodAll_cons hA
  obtain ⟨v1, vs1, d1, ds1, p1, q1, rfl, rfl, rfl, h1, r1⟩ := trodAll_cons r0
  obtain ⟨v2, vs2, d2, ds2, p2, q2, rfl, rfl, rfl, h2, r2⟩ := trodAll_cons r1
  obtain ⟨v3, vs3, d3, ds3, p3, q3, rfl, rfl, rfl, h3, r3⟩ := trodAll_cons r2
  obtain ⟨v4, vs4, d4, ds4, p4, q4, rfl, rfl, rfl, h4, r4⟩ := trodAll_cons r3
  obtain ⟨rfl, rfl, rfl⟩ := trodAll_nil r4
  obtain rfl : args = #[v0, v1, v2, v3, v4] := by cases args; simp_all
  obtain ⟨rfl, rfl⟩ := trodVars_none hV
  obtain ⟨a0, rfl, rfl, rfl, w0⟩ := open_int Try.underlying22 (hval 0 22 v0 rfl rfl) h0
  obtain ⟨a1, rfl, rfl, rfl, w1⟩ := open_int Try.underlying3 (hval 1 3 v1 rfl rfl) h1
  obtain ⟨a2, len2, cap2, rfl⟩ := okWide_slice Try.underlying23 (hval 2 23 v2 rfl rfl)
  have k2 := h2
  have lt2 : ∀ x ∈ p2, x.block < W.heap.size := by obtain ⟨m, hm⟩ := k2; exact DataW.trod_lt m _ _ _ hm
  obtain ⟨l2, w2⟩ : ∃ l, BArg W a2 len2 cap2 l := by
    obtain ⟨fuel, hf⟩ := h2
    exact barg_open hf
  obtain ⟨a3, rfl, rfl, rfl, w3⟩ := open_int Try.underlying3 (hval 3 3 v3 rfl rfl) h3
  obtain ⟨a4, rfl, rfl, rfl, w4⟩ := open_int Try.underlying3 (hval 4 3 v4 rfl rfl) h4
  clear hA0 hval0
  refine (walk a0 a1 a2 len2 cap2 l2 a3 a4 W w0 w1 w2 w3 w4).mono fun e W' ⟨he, bel⟩ => ?_
  subst he
  exact ⟨_, rfl, _, _, _, [], _, [], hW', trodAll_mk1 (shut_bool Try.underlying4 _), (trodAll_cons_mk (shut_int Try.underlying22 w0) (trodAll_cons_mk (shut_int Try.underlying3 w1) (trodAll_cons_mk (Below.trod laidOut (by kernel_rfl) (of_decide_eq_true (by kernel_rfl)) k2 bel lt2) (trodAll_cons_mk (shut_int Try.underlying3 w3) (trodAll_cons_mk (shut_int Try.underlying3 w4) trodAll_mk0))))), rfl, bel.frame _, fun h => by cases h⟩

theorem over : Rows.bitsNumbersRow.holds Try.pinned (OpenSpec.ofChange Rows.bitsNumbersSpec) :=
  OpenClaim.holds_of_wide 3 Try.f3 rfl rfl rfl rfl rfl rfl rfl ⟨rfl, rfl, rfl, rfl, rfl⟩ rfl rfl rfl rfl rfl (by kernel_rfl) Try.func3 (by kernel_rfl)
    (of_decide_eq_true (by kernel_rfl)) (by unfold Func.isWrapper; first | (rw [if_pos (by decide +kernel)]; kernel_rfl) | (rw [if_neg (by decide +kernel)]; exact ⟨rfl, rfl⟩))
    (fun os started H enc _ => lifted os started H enc)
end Go.Proofs.Ytnogfmfagambeaa.bitsNumbers

namespace Go.Proofs.Ytnogfmfagambeaa
theorem bitsNumbers_holds : Rows.BitsNumbersSaid := bitsNumbers.over
#print axioms bitsNumbers_holds
end Go.Proofs.Ytnogfmfagambeaa
