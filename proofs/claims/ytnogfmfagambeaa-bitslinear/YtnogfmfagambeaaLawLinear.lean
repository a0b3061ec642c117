/-
  Proved: the statement on three check sums (BitsLinear): for any three lists of bytes of one length the sums, put together bit by bit, are the sum of the three put together bit by bit; no condition.
-/
import Derived.Test.YtnogfmfagambeaaArg
import Derived.Test.YtnogfmfagambeaaCrc
import Derived.Deep.RegionHeld3
import Derived.Deep.AppendLies
import Derived.StillTactics
namespace Go.Proofs.Ytnogfmfagambeaa.bitsLinear
open Go.ChangeShapes Go.WideShapes Go.ChangeAt Go.RowKit M

set_option maxHeartbeats 400000 in
theorem walk_out (a0 a1 a2 : Option Addr) (n0 n1 n2 c0 c1 c2 : Nat) (h : n0 ≠ n1 ∨ n1 ≠ n2) (w : World) :
    Calls Try.prog 7 #[.slice a0 n0 c0, .slice a1 n1 c1, .slice a2 n2 c2] w fun e w' => e = .returned (.bool true) ∧ Below w.heap.size w w' := by
  by_cases h1 : (n0 : Int) = (n1 : Int)
  · have h2 : ¬ (n1 : Int) = (n2 : Int) := by omega
    have e1 : ((n0 : Int) != (n1 : Int)) = false := by simpa using h1
    have e2 : ((n1 : Int) != (n2 : Int)) = true := by simpa using h2
    clear h h1 h2
    go_enter Try.func7, Try.ntmps7
    go_wp2_with (go_at_call 17; refine (alive_any _).mono ?_; rintro e w1 ⟨rfl, hb⟩)
    go_ret
    exact ⟨rfl, hb⟩
  · have e1 : ((n0 : Int) != (n1 : Int)) = true := by simpa using h1
    clear h h1
    go_enter Try.func7, Try.ntmps7
    go_wp2_with (go_at_call 17; refine (alive_any _).mono ?_; rintro e w1 ⟨rfl, hb⟩)
    go_ret
    exact ⟨rfl, hb⟩

theorem row_at {w : World} {a : Option Addr} {l : List Nat} {k : Nat} (h : BRow w a l) (hk : k < l.length) : ∃ b off, a = some ⟨b, off, none⟩ ∧ b < w.heap.size ∧ w.cell? ⟨b, off + k, none⟩ = some (.int .u8 ((l.getD k 0 : Nat) : Int)) := by
  rcases h with h | ⟨b, off, ha, hc⟩
  · subst h; simp at hk
  · exact ⟨b, off, ha, World.block_lt_of_cell? w _ (hc k hk), hc k hk⟩
theorem getD_lt {l : List Nat} (h : ∀ x ∈ l, x < 256) (k : Nat) : l.getD k 0 < 256 := by
  by_cases hk : k < l.length
  · exact h _ (by simp [List.getD, hk])
  · simp [List.getD, hk]

theorem keep_grown {W w1 : World} {v : Value} {B b0 b1 b2 o0 o1 o2 : Nat} {x0 x1 x2 : Value} (hg : W.grownBy w1 v.ownBlock) (hv : ∀ g, v.ownBlock = some g → B ≤ g) (hb : b0 < B ∧ b1 < B ∧ b2 < B)
    (h : W.cell? ⟨b0, o0, none⟩ = some x0 ∧ W.cell? ⟨b1, o1, none⟩ = some x1 ∧ W.cell? ⟨b2, o2, none⟩ = some x2) :
    w1.cell? ⟨b0, o0, none⟩ = some x0 ∧ w1.cell? ⟨b1, o1, none⟩ = some x1 ∧ w1.cell? ⟨b2, o2, none⟩ = some x2 :=
  ⟨hg.cell h.1 (fun e => by have := hv _ e.symm; simp at this; omega), hg.cell h.2.1 (fun e => by have := hv _ e.symm; simp at this; omega), hg.cell h.2.2 (fun e => by have := hv _ e.symm; simp at this; omega)⟩

theorem lin_sum {w wr : World} {a : Option Addr} {n c : Nat} {l : List Nat} (h : BArg w a n c l) (hb : Below w.heap.size w wr) :
    Calls Try.prog 22 #[.slice a n c] wr fun e w' => e = .returned (.int .u32 (sumL l : Nat)) ∧ wr = w' :=
  sum_at _ _ l _ n _ h.len_eq rfl (by rw [← h.len_eq]; exact Nat.le_trans h.le h.max) h.lt (h.row.later hb)
theorem lin_end {wr : World} {base n : Nat} {v : Value} {d : List Nat} (hn : n = d.length) (h : wr.ownsRow base 5 1 v n ((d.take n).map u8v)) : ∃ a cap, v = .slice a n cap ∧ BRow wr a d := by
  subst hn
  rw [List.take_length] at h
  obtain ⟨a, cap, h1, h2, _⟩ := owns_row h
  exact ⟨a, cap, h1, h2⟩

set_option maxHeartbeats 2000000 in
theorem walk_in (a0 a1 a2 : Option Addr) (n c0 c1 c2 : Nat) (l0 l1 l2 : List Nat) (w : World) (w0 : BArg w a0 n c0 l0) (w1 : BArg w a1 n c1 l1) (w2 : BArg w a2 n c2 l2) (s0 : n ≤ 140737488351232) :
    Calls Try.prog 7 #[.slice a0 n c0, .slice a1 n c1, .slice a2 n c2] w fun e w' => e = .returned (.bool true) ∧ Below w.heap.size w w' := by
  have W0 : Hid (BArg w a0 n c0 l0) := w0
  have W1 : Hid (BArg w a1 n c1 l1) := w1
  have W2 : Hid (BArg w a2 n c2 l2) := w2
  clear w0 w1 w2
  obtain ⟨i0, hi, hz0, hz1, hz2⟩ := info_parts info8
  have e1 : ((n : Int) != (n : Int)) = false := by simp
  obtain ⟨d, hd⟩ : ∃ d, d = xor3 l0 l1 l2 := ⟨_, rfl⟩
  have HD : Hid (d = xor3 l0 l1 l2) := hd
  have HL : Hid (n = d.length) := by
    show _ = _
    rw [hd, xor3_length l0 l1 l2 (by have := W0.out.len_eq; have := W1.out.len_eq; omega) (by have := W1.out.len_eq; have := W2.out.len_eq; omega)]
    exact W0.out.len_eq
  clear hd
  go_enter Try.func7, Try.ntmps7
  go_wp2
  go_loopw [7, 8] (fun v i wr => ∃ k : Nat, k ≤ n ∧ i = .int .i64 k ∧ Hid (wr.ownsRow w.heap.size 5 1 v k ((d.take k).map u8v)) ∧ Below w.heap.size w wr) (fun _ i _ => n - (intOf i).toNat)
  case atStart => exact ⟨0, by omega, rfl, World.ownsRow_nil _ _ _ _, Below.refl _ _⟩
  case round =>
    obtain ⟨k, hk, rfl, hown, hb⟩ := hrel
    by_cases hlt : k < n
    · obtain ⟨b0, o0, rfl, hb0, hc0⟩ := row_at (k := k) W0.out.row (by have := W0.out.len_eq; omega)
      obtain ⟨b1, o1, rfl, hb1, hc1⟩ := row_at (k := k) W1.out.row (by have := W1.out.len_eq; omega)
      obtain ⟨b2, o2, rfl, hb2, hc2⟩ := row_at (k := k) W2.out.row (by have := W2.out.len_eq; omega)
      obtain ⟨x0, hx0⟩ : ∃ x, x = l0.getD k 0 := ⟨_, rfl⟩
      obtain ⟨x1, hx1⟩ : ∃ x, x = l1.getD k 0 := ⟨_, rfl⟩
      obtain ⟨x2, hx2⟩ : ∃ x, x = l2.getD k 0 := ⟨_, rfl⟩
      have y0 : x0 < 256 := by rw [hx0]; exact getD_lt W0.out.lt k
      have y1 : x1 < 256 := by rw [hx1]; exact getD_lt W1.out.lt k
      have y2 : x2 < 256 := by rw [hx2]; exact getD_lt W2.out.lt k
      rw [← hx0] at hc0
      rw [← hx1] at hc1
      rw [← hx2] at hc2
      have hd0 := (hb.cell (p := ⟨b0, o0 + k, none⟩) hb0).trans hc0
      have hd1 := (hb.cell (p := ⟨b1, o1 + k, none⟩) hb1).trans hc1
      have hd2 := (hb.cell (p := ⟨b2, o2 + k, none⟩) hb2).trans hc2
      have hX1 := u8_xor_nat x0 x1 y0 y1
      have hX2 := u8_xor_nat (x0 ^^^ x1) x2 (xor_lt8 y0 y1) y2
      have HX : Hid (x0 ^^^ x1 ^^^ x2 = d.getD k 0) := by
        show _ = _
        rw [HD.out, xor3_getD l0 l1 l2 k (by have := W0.out.len_eq; have := W1.out.len_eq; omega) (by have := W1.out.len_eq; have := W2.out.len_eq; omega) (by have := W0.out.len_eq; omega), hx0, hx1, hx2]
      clear hx0 hx1 hx2 hc0 hc1 hc2
      have hkk : (0 : Int) ≤ (k : Int) := by omega
      have hkn : (k : Int) < (n : Int) := by omega
      have g0 := World.new_ne wr _ hd0
      have g1 := World.new_ne wr _ hd1
      have g2 := World.new_ne wr _ hd2
      have HV : Hid (∀ g, u7.ownBlock = some g → w.heap.size ≤ g) := fun g hg => (hown.out.lt g hg).1
      have HB0 : Hid (b0 < w.heap.size ∧ b1 < w.heap.size ∧ b2 < w.heap.size) := ⟨hb0, hb1, hb2⟩
      have HKM : Hid (k + 1 ≤ maxLen ∧ (k + 1) * 1 ≤ 140737488355328 ∧ w.heap.size ≤ wr.heap.size + 1) := ⟨by unfold maxLen; omega, by omega, by have := hb.size; omega⟩
      clear hb0 hb1 hb2
      go_wp2_with fail
      go_region_held3 (fun w' => w'.cell? ⟨b0, o0 + k, none⟩ = some (.int .u8 (x0 : Int)) ∧ w'.cell? ⟨b1, o1 + k, none⟩ = some (.int .u8 (x1 : Int)) ∧ w'.cell? ⟨b2, o2 + k, none⟩ = some (.int .u8 (x2 : Int))) (first | go_keep | exact keep_grown hgrow HV.out HB0.out ‹_ ∧ _ ∧ _›)
        ((refine step_append_lies _ (by rfl) _ _ _ (by rfl) w.heap.size 5 i0 _ 1 1 Try.underlying23 hi hz0 hz1 hz2 rfl (by omega) u7 k _ (by rfl) ((hown.out.alloc _).drew) ⟨wr.heap.size, 0, none⟩ 1 1 [.int .u8 ((x0 ^^^ x1 ^^^ x2 : Nat) : Int)] (by rfl) (by rfl) (World.news_of_block (cs := #[.int .u8 ((x0 ^^^ x1 ^^^ x2 : Nat) : Int)]) (t := 5) (fr := (0, 0)) (heap_alloc_new wr _)) (by simp [Value.oneCell']) (by omega) HKM.out.1 HKM.out.2.1 (by simpa using HKM.out.2.2) (wr.heap.size + 1) (by simp) ?_; intro gg cap w1 hown1 hgrow hat hlt2))
      have HO2 : Hid (w1.ownsRow w.heap.size 5 1 (.slice (some ⟨gg, 0, none⟩) (k + 1) cap) (k + 1) ((d.take (k + 1)).map u8v)) := by
        show World.ownsRow _ _ _ _ _ _ _
        rw [take_succ_getD d k (by have := HL.out; omega), ← HX.out, List.map_append]
        exact hown1
      have hb2 : Below w.heap.size w w1 := (((hb.alloc hb.size _).drew).grown hgrow (by simpa using HKM.out.2.2) HV.out)
      clear hown hb hown1 hgrow hat hlt2 hd0 hd1 hd2 hX1 hX2 g0 g1 g2
      go_wp2
      go_roundw
      case rel => exact ⟨k + 1, by omega, by go_num, HO2, hb2⟩
      case measure => simp [intOf]; omega
    · have hkn : k = n := by omega
      subst hkn
      obtain ⟨ad, cap, rfl, hrow⟩ := lin_end HL.out hown.out
      have HRD : Hid (BRow wr ad d) := hrow
      have L0 := lin_sum W0.out hb
      have L1 := lin_sum W1.out hb
      have L2 := lin_sum W2.out hb
      have LD : Calls Try.prog 22 #[.slice ad k cap] wr fun e w' => e = .returned (.int .u32 (sumL d : Nat)) ∧ wr = w' := sum_at _ _ d _ k _ HL.out rfl (by rw [← HL.out]; unfold maxLen; omega) (by rw [HD.out]; exact xor3_lt _ _ _ W0.out.lt W1.out.lt W2.out.lt) hrow
      have hp := sumL_lt l0
      have hq := sumL_lt l1
      have hr := sumL_lt l2
      have hX : sumL l0 ^^^ sumL l1 ^^^ sumL l2 = sumL d := by rw [HD.out]; exact sumL_xor3 _ _ _ (by have := W0.out.len_eq; have := W1.out.len_eq; omega) (by have := W1.out.len_eq; have := W2.out.len_eq; omega) W0.out.lt W1.out.lt W2.out.lt
      obtain ⟨P, hP⟩ : ∃ P, P = sumL l0 := ⟨_, rfl⟩
      obtain ⟨Q, hQ⟩ : ∃ Q, Q = sumL l1 := ⟨_, rfl⟩
      obtain ⟨R, hR⟩ : ∃ R, R = sumL l2 := ⟨_, rfl⟩
      obtain ⟨T, hT⟩ : ∃ T, T = sumL d := ⟨_, rfl⟩
      rw [← hP] at L0 hp hX
      rw [← hQ] at L1 hq hX
      rw [← hR] at L2 hr hX
      rw [← hT] at LD hX
      have x1 := u32_xor_nat P Q hp hq
      have x2 := u32_xor_nat (P ^^^ Q) R (xor_lt32 hp hq) hr
      rw [hX] at x2
      clear hP hQ hR hT hX hrow hown
      have M1 : Hid True := trivial
      have M2 : Hid True := trivial
      have M3 : Hid True := trivial
      go_wp2_with (first
        | (go_at_call 22; clear M1; refine L0.mono ?_; rintro e w' ⟨rfl, rfl⟩)
        | (go_at_call 22; clear M2; refine L1.mono ?_; rintro e w' ⟨rfl, rfl⟩)
        | (go_at_call 22; clear M3; refine L2.mono ?_; rintro e w' ⟨rfl, rfl⟩)
        | (go_at_call 22; refine LD.mono ?_; rintro e w' ⟨rfl, rfl⟩)
        | (go_at_call 17; refine (alive_any _).mono ?_; rintro e w3 ⟨rfl, hb3⟩))
      go_ret
      exact ⟨rfl, Below.after hb hb3⟩

theorem walk (a0 : Option Addr) (len0 cap0 : Nat) (l0 : List Nat) (a1 : Option Addr) (len1 cap1 : Nat) (l1 : List Nat) (a2 : Option Addr) (len2 cap2 : Nat) (l2 : List Nat) (w : World) (w0 : BArg w a0 len0 cap0 l0) (s0 : cap0 ≤ 140737488351232) (w1 : BArg w a1 len1 cap1 l1) (_ : cap1 ≤ 140737488351232) (w2 : BArg w a2 len2 cap2 l2) (_ : cap2 ≤ 140737488351232) :
    Calls Try.prog 7 #[.slice a0 len0 cap0, .slice a1 len1 cap1, .slice a2 len2 cap2] w fun e w' => e = .returned (.bool true) ∧ Below w.heap.size w w' := by
  by_cases h : len0 = len1 ∧ len1 = len2
  · obtain ⟨rfl, rfl⟩ := h
    exact walk_in a0 a1 a2 len0 cap0 cap1 cap2 l0 l1 l2 w w0 w1 w2 (Nat.le_trans w0.le s0)
  · exact walk_out a0 a1 a2 len0 len1 len2 cap0 cap1 cap2 (by omega) w

set_option maxRecDepth 100000 in
theorem lifted (os : Os) (started : os.Started) (H : Type) (enc : TypeId × Value → H) :
    ReturnsInHanded {} Try.checked os 7 .any (Rows.bitsLinearSpec.pre6 enc Try.prog Try.f7 Rows.bitsLinearRow.domain false) (Rows.bitsLinearSpec.post enc Try.prog Try.f7 false true false false) := by
  refine returnsInHanded_of_change_sized (C := Try.checked) own started (by kernel_rfl) Try.func7
    (ChangeSpec.witness6 (enc := enc) (C := Try.checked) false ⟨#[], #[.slice none 0 0, .slice none 0 0, .slice none 0 0], []⟩ 8 (by kernel_rfl) (by kernel_rfl) (by kernel_rfl) (by kernel_rfl)) ?_
  intro W base args ds gs before hval0 hW hcnd hsz0 _
  have hval : ∀ (j : Nat) t v, Try.f7.params[j]? = some t → args[j]? = some v → Value.okWide Try.prog W .any base t v := hval0
  have hsz : (DataW.weightsEach Try.prog (Try.f7.params.toList ++ Rows.bitsLinearSpec.plain.varTypes Try.prog) (ds ++ gs)).all (· ≤ reachBytes) = true := hsz0
  have hW' := hW
  obtain ⟨p, q, hA0, hV, rfl, hfz, hnd⟩ := hW
  have hA : DataW.TrodAll enc Try.prog W 0 (fun _ => true) true Try.f7.params.toList args.toList ds p := hA0
  rw [Try.params7] at hA hval hsz
  obtain ⟨v0, vs0, d0, ds0, p0, q0, hargs, rfl, rfl, h0, r0⟩ := trodAll_cons hA
  obtain ⟨v1, vs1, d1, ds1, p1, q1, rfl, rfl, rfl, h1, r1⟩ := trodAll_cons r0
  obtain ⟨v2, vs2, d2, ds2, p2, q2, rfl, rfl, rfl, h2, r2⟩ := trodAll_cons r1
  obtain ⟨rfl, rfl, rfl⟩ := trodAll_nil r2
  obtain rfl : args = #[v0, v1, v2] := by cases args; simp_all
  obtain ⟨rfl, rfl⟩ := trodVars_none hV
  obtain ⟨a0, len0, cap0, rfl⟩ := okWide_slice Try.underlying23 (hval 0 23 v0 rfl rfl)
  have k0 := h0
  have lt0 : ∀ x ∈ p0, x.block < W.heap.size := by obtain ⟨m, hm⟩ := k0; exact DataW.trod_lt m _ _ _ hm
  obtain ⟨l0, w0, s0⟩ : ∃ l, BArg W a0 len0 cap0 l ∧ cap0 ≤ 140737488351232 := by
    obtain ⟨fuel, hf⟩ := h0
    obtain ⟨l, hl, hd⟩ := barg_open_sized hf
    refine ⟨l, hl, ?_⟩
    rcases hd with h | ⟨elems, spare, rfl, hcap⟩
    · omega
    have := sized_slice hsz (j := 0) (t := 23) (e := 5) rfl rfl Try.underlying23
    rw [bytes8] at this
    simp only [reachBytes] at this
    omega
  obtain ⟨a1, len1, cap1, rfl⟩ := okWide_slice Try.underlying23 (hval 1 23 v1 rfl rfl)
  have k1 := h1
  have lt1 : ∀ x ∈ p1, x.block < W.heap.size := by obtain ⟨m, hm⟩ := k1; exact DataW.trod_lt m _ _ _ hm
  obtain ⟨l1, w1, s1⟩ : ∃ l, BArg W a1 len1 cap1 l ∧ cap1 ≤ 140737488351232 := by
    obtain ⟨fuel, hf⟩ := h1
    obtain ⟨l, hl, hd⟩ := barg_open_sized hf
    refine ⟨l, hl, ?_⟩
    rcases hd with h | ⟨elems, spare, rfl, hcap⟩
    · omega
    have := sized_slice hsz (j := 1) (t := 23) (e := 5) rfl rfl Try.underlying23
    rw [bytes8] at this
    simp only [reachBytes] at this
    omega
  obtain ⟨a2, len2, cap2, rfl⟩ := okWide_slice Try.underlying23 (hval 2 23 v2 rfl rfl)
  have k2 := h2
  have lt2 : ∀ x ∈ p2, x.block < W.heap.size := by obtain ⟨m, hm⟩ := k2; exact DataW.trod_lt m _ _ _ hm
  obtain ⟨l2, w2, s2⟩ : ∃ l, BArg W a2 len2 cap2 l ∧ cap2 ≤ 140737488351232 := by
    obtain ⟨fuel, hf⟩ := h2
    obtain ⟨l, hl, hd⟩ := barg_open_sized hf
    refine ⟨l, hl, ?_⟩
    rcases hd with h | ⟨elems, spare, rfl, hcap⟩
    · omega
    have := sized_slice hsz (j := 2) (t := 23) (e := 5) rfl rfl Try.underlying23
    rw [bytes8] at this
    simp only [reachBytes] at this
    omega
  clear hA0 hval0
  refine (walk a0 len0 cap0 l0 a1 len1 cap1 l1 a2 len2 cap2 l2 W w0 s0 w1 s1 w2 s2).mono fun e W' ⟨he, bel⟩ => ?_
  subst he
  exact ⟨_, rfl, _, _, _, [], _, [], hW', trodAll_mk1 (shut_bool Try.underlying4 _), (trodAll_cons_mk (Below.trod laidOut (by kernel_rfl) (of_decide_eq_true (by kernel_rfl)) k0 bel lt0) (trodAll_cons_mk (Below.trod laidOut (by kernel_rfl) (of_decide_eq_true (by kernel_rfl)) k1 bel lt1) (trodAll_cons_mk (Below.trod laidOut (by kernel_rfl) (of_decide_eq_true (by kernel_rfl)) k2 bel lt2) trodAll_mk0))), rfl, bel.frame _, fun h => by cases h⟩

theorem over : Rows.bitsLinearRow.holds Try.pinned (OpenSpec.ofChange Rows.bitsLinearSpec) :=
  OpenClaim.holds_of_wide 7 Try.f7 rfl rfl rfl rfl rfl rfl rfl ⟨rfl, rfl, rfl, rfl, rfl⟩ rfl rfl rfl rfl rfl (by kernel_rfl) Try.func7 (by kernel_rfl)
    (of_decide_eq_true (by kernel_rfl)) (by unfold Func.isWrapper; first | (rw [if_pos (by decide +kernel)]; kernel_rfl) | (rw [if_neg (by decide +kernel)]; exact ⟨rfl, rfl⟩))
    (fun os started H enc _ => lifted os started H enc)
end Go.Proofs.Ytnogfmfagambeaa.bitsLinear

namespace Go.Proofs.Ytnogfmfagambeaa
theorem bitsLinear_holds : Rows.BitsLinearSaid := bitsLinear.over
#print axioms bitsLinear_holds
end Go.Proofs.Ytnogfmfagambeaa
