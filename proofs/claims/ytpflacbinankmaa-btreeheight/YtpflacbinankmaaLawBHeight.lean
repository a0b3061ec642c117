/-
  Proved: the statement that a tree is as flat as its fan makes it (BtreeHeight): for every fan and every list of nodes; no condition.
-/
import Derived.Test.YtpflacbinankmaaBAlive
namespace Go.Proofs.Ytpflacbinankmaa.btreeHeight
open Go.ChangeShapes Go.WideShapes Go.ChangeAt Go.RowKit Bt
set_option maxRecDepth 10000

theorem fan_nat {f : Int} (h : okFan f = true) : ∃ F : Nat, f = (F : Int) ∧ 4 ≤ F ∧ F ≤ 64 := by
  unfold okFan at h
  simp at h
  exact ⟨f.toNat, by omega, by omega, by omega⟩
/-- How high a tree may be yet. -/
def Low (h half l n : Nat) : Prop := h + 1 ≤ l ∨ ∃ m, half ^ m ≤ n ∧ h + 1 ≤ l + m
theorem Low.step {h half l n : Nat} (hh : 2 ≤ half) (x : Low h half l n) : Low h half (l + 1) (n / half) := by
  rcases x with x | ⟨m, h1, h2⟩
  · exact .inl (by omega)
  · cases m with
    | zero => exact .inl (by omega)
    | succ m =>
      refine .inr ⟨m, ?_, by omega⟩
      rw [Nat.pow_succ] at h1
      exact (Nat.le_div_iff_mul_le (by omega)).2 h1
theorem Low.fin {h half l : Nat} (hh : 2 ≤ half) (x : Low h half l 0) : h + 1 ≤ l := by
  rcases x with x | ⟨m, h1, h2⟩
  · exact x
  · have : 0 < half ^ m := Nat.pow_pos (by omega)
    omega
theorem Low.start {F : Nat} (hF : 4 ≤ F) {x : Tre} (h : InvT F x) : Low x.n (F / 2) 1 x.all.length := by
  by_cases h0 : x.n = 0
  · exact .inl (by omega)
  · have := inv_deep hF h (by omega)
    refine .inr ⟨x.n, ?_, by omega⟩
    have e : 2 * (F / 2) ^ x.n ≤ x.all.length := this
    omega
theorem bld_inv {F : Nat} (hF : 4 ≤ F) : ∀ (l : List Nw) (x : Tre), InvT F x → InvT F (bld F l x).1 ∧ (bld F l x).1.all.length ≤ x.all.length + l.length ∧ ((bld F l x).2 = 0 ∨ (bld F l x).2 = 22)
  | [], x, h => ⟨h, Nat.le_refl _, .inl rfl⟩
  | y :: l, x, h => by
    rw [bld]
    split
    · obtain ⟨a, b⟩ := delS_len hF y.k h
      obtain ⟨i1, i2, i3⟩ := bld_inv hF l _ b
      exact ⟨i1, by simp only [List.length_cons]; omega, i3⟩
    · split
      · obtain ⟨a, b⟩ := putR_len hF y.k y.v h
        obtain ⟨i1, i2, i3⟩ := bld_inv hF l _ b
        exact ⟨i1, by simp only [List.length_cons]; omega, i3⟩
      · rename_i hE
        refine ⟨h, by simp only [List.length_cons]; omega, .inr ?_⟩
        unfold putE at hE ⊢
        split at hE
        · exact absurd rfl hE
        · rename_i q; rw [if_neg q]
set_option maxHeartbeats 4000000 in
theorem walk_bad (f : Int) (a : Option Addr) (len cap : Nat) (w : World) (h : okFan f = false) :
    Calls Try.prog 4 #[.int .i64 f, .slice a len cap] w fun e w' => e = .returned (.bool true) ∧ Below w.heap.size w w' := by
  have kB := build_bad f a len cap w h
  clear h
  go_enter Try.func4, Try.ntmps4
  go_wp2_with (first
    | (go_at_call 9; refine kB.mono ?_; rintro e w' ⟨rfl, rfl⟩)
    | (go_at_call 11; refine (alive_any _).mono ?_; rintro e W2 ⟨rfl, hb2⟩))
  go_ret
  exact ⟨rfl, hb2⟩
set_option maxHeartbeats 4000000 in
theorem walk_err (F : Nat) (h1 : 4 ≤ F) (h2 : F ≤ 64) (a : Option Addr) (len cap : Nat) (l : List Nw) (w : World) (hA : NArg w a len cap l) (hsz : len < 2305843009213693000) (hE : (bld F l tre0).2 ≠ 0) :
    Calls Try.prog 4 #[.int .i64 (F : Nat), .slice a len cap] w fun e w' => e = .returned (.bool true) ∧ Below w.heap.size w w' := by
  have kB : Calls Try.prog 9 #[.int .i64 (F : Nat), .slice a len cap] w fun e w' => e = .returned (.tuple #[.pointer none, .int .i64 22]) ∧ Below w.heap.size w w' := by
    refine (build_any F h1 h2 a len cap l w hA hsz).mono ?_
    rintro e w' ⟨p, rfl, hb, _⟩
    refine ⟨?_, hb⟩
    unfold bltV
    rw [if_neg hE]
    rcases (bld_inv h1 l tre0 inv0).2.2 with q | q
    · exact absurd q hE
    · rw [q]
  clear hA hE
  go_enter Try.func4, Try.ntmps4
  go_wp2_with (first
    | (go_at_call 9; refine kB.mono ?_; rintro e W1 ⟨rfl, hb1⟩)
    | (go_at_call 11; refine (alive_any _).mono ?_; rintro e W2 ⟨rfl, hb2⟩))
  go_ret
  exact ⟨rfl, bafter hb1 hb2⟩
set_option maxHeartbeats 8000000 in
theorem walk_ok (F : Nat) (h1 : 4 ≤ F) (h2 : F ≤ 64) (a : Option Addr) (len cap : Nat) (l : List Nw) (w : World) (hA : NArg w a len cap l) (hsz : len < 2305843009213693000) (hE : (bld F l tre0).2 = 0) :
    Calls Try.prog 4 #[.int .i64 (F : Nat), .slice a len cap] w fun e w' => e = .returned (.bool true) ∧ Below w.heap.size w w' := by
  obtain ⟨i1, i2, _⟩ := bld_inv h1 l tre0 inv0
  have hlen : (bld F l tre0).1.all.length < 2305843009213693952 := by
    have e0 : tre0.all.length = 0 := rfl
    have := hA.len_eq; omega
  have hlow := Low.start h1 i1
  obtain ⟨X, hX⟩ : ∃ X, X = (bld F l tre0).1 := ⟨_, rfl⟩
  have kB : Calls Try.prog 9 #[.int .i64 (F : Nat), .slice a len cap] w fun e w' => ∃ p, e = .returned (.tuple #[.pointer (some ⟨p, 0, none⟩), .int .i64 0]) ∧ Blt w p F X w' := by
    refine (build_any F h1 h2 a len cap l w hA hsz).mono ?_
    rintro e w' ⟨p, rfl, hb, hB⟩
    refine ⟨p, ?_, by rw [hX]; exact hB hE⟩
    unfold bltV
    rw [if_pos hE]
  rw [← hX] at i1 hlen hlow
  have HLow : Hid (Low X.n (F / 2) 1 X.all.length) := hlow
  obtain ⟨N, hN⟩ : ∃ N, N = X.all.length := ⟨_, rfl⟩
  have HLen : Hid (∀ p wr, Blt w p F X wr → Calls Try.prog 14 #[.pointer (some ⟨p, 0, none⟩)] wr fun e w' => e = .returned (.int .i64 (N : Nat)) ∧ wr = w') := fun p wr hB => by
    obtain ⟨fs, q1, _⟩ := hB.live
    have := len_any q1
    rwa [← hN] at this
  have HHt : Hid (∀ p wr, Blt w p F X wr → Calls Try.prog 21 #[.pointer (some ⟨p, 0, none⟩)] wr fun e w' => e = .returned (.int .i64 ((X.n : Int) + 1)) ∧ wr = w') := fun p wr hB => by
    obtain ⟨fs, q1, _⟩ := hB.live
    exact height_any q1 hlen
  rw [← hN] at HLow
  have hN2 : N < 2305843009213693952 := by omega
  obtain ⟨H, hH⟩ : ∃ H, H = F / 2 := ⟨_, rfl⟩
  rw [← hH] at HLow
  have hH2 : 2 ≤ H := by omega
  have hH3 : (F : Int) / 2 = (H : Int) := by omega
  have hHi : ¬ (H : Int) < 2 := by omega
  have hH64 : H ≤ 64 := by omega
  generalize X.n = hn at *
  clear hA hE hlow i1 i2 hlen hX hN hH hsz
  go_enter Try.func4, Try.ntmps4
  go_wp2_with (first
    | (go_at_call 9; refine kB.mono ?_; rintro e W1 ⟨p, rfl, hB⟩; have HB : Hid (Blt w p F X W1) := hB; clear hB)
    | (go_at_call 14; refine (HLen.out p W1 HB.out).mono ?_; rintro e w' ⟨rfl, rfl⟩))
  go_loopg [8, 9] N (fun kx s8 s9 wr => ∃ l n : Nat, n ≤ kx ∧ s8 = .int .i64 (l : Nat) ∧ s9 = .int .i64 (n : Nat) ∧ wr = W1 ∧ 1 ≤ l ∧ l + n ≤ N + 1 ∧ Hid (Low hn H l n))
  case atStart => exact ⟨1, N, Nat.le_refl _, rfl, rfl, rfl, Nat.le_refl _, by omega, HLow.out⟩
  case round =>
    obtain ⟨l, n, hnk, rfl, rfl, rfl, hl1, hln, I⟩ := hrel
    by_cases hn0 : 0 < n
    · have hpos : (0 : Int) < (n : Int) := by omega
      have hdv : ((n / H : Nat) : Int) = (n : Int) / (H : Int) := by simp
      have hlt : n / H < n := Nat.div_lt_self hn0 (by omega)
      have hHne : ¬ (H : Int) = 0 := by omega
      have HDv : Hid (((n / H : Nat) : Int) = (n : Int) / (H : Int)) := hdv
      have hq0 : (0 : Int) ≤ (n : Int) / (H : Int) := by rw [← hdv]; exact Int.natCast_nonneg _
      have hq1 : (n : Int) / (H : Int) ≤ (n : Int) := by rw [← hdv]; exact Int.ofNat_le.2 (Nat.div_le_self n H)
      clear hdv
      go_wp2
      go_roundg (n / H)
      case measure => omega
      case rel => exact ⟨l + 1, n / H, by omega, by go_num, by rw [HDv.out], rfl, by omega, by omega, I.out.step hH2⟩
    · have hz : n = 0 := by omega
      subst hz
      have hf := I.out.fin hH2
      have hf1 : (hn : Int) + 1 ≤ (l : Int) := by omega
      have hf2 : (1 : Int) ≤ (hn : Int) + 1 := by omega
      clear I hn0
      go_wp2_with (first
        | (go_at_call 21; refine (HHt.out p _ HB.out).mono ?_; rintro e w' ⟨rfl, rfl⟩)
        | (go_at_call 11; refine (alive_any _).mono ?_; rintro e W2 ⟨rfl, hb2⟩))
      go_ret
      exact ⟨rfl, bafter HB.out.below hb2⟩
theorem walk (f : Int) (a : Option Addr) (len cap : Nat) (l : List Nw) (w : World) (_ : (Lit.int .i64 f).wf = true) (hA : NArg w a len cap l) (hs : cap * 40 ≤ 140737488351232) :
    Calls Try.prog 4 #[.int .i64 f, .slice a len cap] w fun e w' => e = .returned (.bool true) ∧ Below w.heap.size w w' := by
  have hl := hA.le
  cases h : okFan f with
  | false => exact walk_bad f a len cap w h
  | true =>
    obtain ⟨F, rfl, h1, h2⟩ := fan_nat h
    by_cases hE : (bld F l tre0).2 = 0
    · exact walk_ok F h1 h2 a len cap l w hA (by omega) hE
    · exact walk_err F h1 h2 a len cap l w hA (by omega) hE
set_option maxRecDepth 100000 in
theorem lifted (os : Os) (started : os.Started) (H : Type) (enc : TypeId × Value → H) :
    ReturnsInHanded {} Try.checked os 4 .any (Rows.btreeHeightSpec.pre6 enc Try.prog Try.f4 Rows.btreeHeightRow.domain false) (Rows.btreeHeightSpec.post enc Try.prog Try.f4 false true false false) := by
  refine returnsInHanded_of_change_sized (C := Try.checked) own started (by kernel_rfl) Try.func4
    (ChangeSpec.witness6 (enc := enc) (C := Try.checked) false ⟨#[], #[.int .i64 0, .slice none 0 0], []⟩ 8 (by kernel_rfl) (by kernel_rfl) (by kernel_rfl) (by kernel_rfl)) ?_
  intro W base args ds gs before hval0 hW hcnd hsz0 _
  have hval : ∀ (j : Nat) t v, Try.f4.params[j]? = some t → args[j]? = some v → Value.okWide Try.prog W .any base t v := hval0
  have hsz : (DataW.weightsEach Try.prog (Try.f4.params.toList ++ Rows.btreeHeightSpec.plain.varTypes Try.prog) (ds ++ gs)).all (· ≤ reachBytes) = true := hsz0
  have hW' := hW
  obtain ⟨p, q, hA0, hV, rfl, hfz, hnd⟩ := hW
  have hA : DataW.TrodAll enc Try.prog W 0 (fun _ => true) true Try.f4.params.toList args.toList ds p := hA0
  rw [Try.params4] at hA hval hsz
  obtain ⟨v0, vs0, d0, ds0, p0, q0, hargs, rfl, rfl, h0, r0⟩ := trodAll_cons hA
  obtain ⟨v1, vs1, d1, ds1, p1, q1, rfl, rfl, rfl, h1, r1⟩ := trodAll_cons r0
  obtain ⟨rfl, rfl, rfl⟩ := trodAll_nil r1
  obtain rfl : args = #[v0, v1] := by cases args; simp_all
  obtain ⟨rfl, rfl⟩ := trodVars_none hV
  obtain ⟨a0, rfl, rfl, rfl, w0⟩ := open_int Try.underlying3 (hval 0 3 v0 rfl rfl) h0
  obtain ⟨a1, len1, cap1, rfl⟩ := okWide_slice Try.underlying22 (hval 1 22 v1 rfl rfl)
  have k1 := h1
  have lt1 : ∀ x ∈ p1, x.block < W.heap.size := by obtain ⟨m, hm⟩ := k1; exact DataW.trod_lt m _ _ _ hm
  obtain ⟨l1, w1, s1⟩ : ∃ l, NArg W a1 len1 cap1 l ∧ cap1 * 40 ≤ 140737488351232 := by
    obtain ⟨fuel, hf⟩ := h1
    obtain ⟨l, hl, hd⟩ := narg_open hf
    refine ⟨l, hl, ?_⟩
    rcases hd with h | ⟨elems, spare, rfl, hc⟩
    · omega
    have := sized_slice hsz (j := 1) (t := 22) (e := 54) rfl rfl Try.underlying22
    rw [bytesNd, hc] at this
    simp only [reachBytes] at this
    omega
  clear hA0 hval0
  refine (walk a0 a1 len1 cap1 l1 W w0 w1 s1).mono fun e W' ⟨he, bel⟩ => ?_
  subst he
  exact ⟨_, rfl, _, _, _, [], _, [], hW', trodAll_mk1 (shut_bool Try.underlying4 _), (trodAll_cons_mk (shut_int Try.underlying3 w0) (trodAll_cons_mk (Below.trod laidOut (by kernel_rfl) (of_decide_eq_true (by kernel_rfl)) k1 bel lt1) trodAll_mk0)), rfl, bel.frame _, fun h => by cases h⟩

theorem over : Rows.btreeHeightRow.holds Try.pinned (OpenSpec.ofChange Rows.btreeHeightSpec) :=
  OpenClaim.holds_of_wide 4 Try.f4 rfl rfl rfl rfl rfl rfl rfl ⟨rfl, rfl, rfl, rfl, rfl⟩ rfl rfl rfl rfl rfl (by kernel_rfl) Try.func4 (by kernel_rfl)
    (of_decide_eq_true (by kernel_rfl)) (by unfold Func.isWrapper; first | (rw [if_pos (by decide +kernel)]; kernel_rfl) | (rw [if_neg (by decide +kernel)]; exact ⟨rfl, rfl⟩))
    (fun os started H enc _ => lifted os started H enc)
end Go.Proofs.Ytpflacbinankmaa.btreeHeight

namespace Go.Proofs.Ytpflacbinankmaa
theorem btreeHeight_holds : Rows.BtreeHeightSaid := btreeHeight.over
#print axioms btreeHeight_holds
end Go.Proofs.Ytpflacbinankmaa
