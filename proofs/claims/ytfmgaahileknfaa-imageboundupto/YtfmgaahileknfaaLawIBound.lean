/-
  Proved: the statement on how many bytes a whole index has at the least and at the most (ImageBound), in its second form: for every input whose bulk is at most 1048576.
-/
import Derived.Test.YtfmgaahileknfaaIBndM
import Derived.Test.YtfmgaahileknfaaIArgL
import Derived.OwnWalk
namespace Go.Proofs.Ytfmgaahileknfaa.imageBound
open Go.ChangeShapes Go.WideShapes Go.ChangeAt Go.RowKit M
set_option maxRecDepth 10000

theorem szs_app (l m : List K) : szs (l ++ m) = szs l + szs m := by
  induction l with
  | nil => simp [szs]
  | cons k l ih => simp only [List.cons_append, szs, ih]; omega
theorem szs_le (l : List K) : szs l ≤ weigh l := by
  induction l with
  | nil => exact Nat.le_refl _
  | cons k l ih => rw [weigh_cons, szs]; omega
theorem szs_take_le (l : List K) (k : Nat) : szs (l.take k) ≤ szs l := by
  conv => rhs; rw [← List.take_append_drop k l, szs_app]
  omega
theorem klt_nil {y : K} (h : 1 ≤ y.size) : klt ⟨#[]⟩ y = true := by
  unfold klt
  have e : (⟨#[]⟩ : K).toList = [] := by rw [ByteArray.toList_eq]
  rw [e, ByteArray.toList_eq]
  cases q : y.data.toList with
  | nil =>
    have : y.data.toList.length = 0 := by rw [q]; rfl
    rw [Array.length_toList] at this
    have h2 : y.data.size = y.size := rfl
    omega
  | cons a b => rfl
theorem size0 {y : K} (h : y.size = 0) : y = ⟨#[]⟩ := by
  obtain ⟨d⟩ := y
  have : d.size = 0 := h
  rw [Array.eq_empty_of_size_eq_zero this]
theorem ne_nil {y : K} (h : 1 ≤ y.size) : ¬ y.toList = [] := fun e => by
  rw [ByteArray.toList_eq] at e
  have h2 : y.data.toList.length = y.size := Array.length_toList
  rw [e] at h2
  simp at h2
  omega
/-- The key ahead of the place i. -/
def Pre (l : List K) (i : Nat) (x : K) : Prop := (i = 0 ∧ x = ⟨#[]⟩) ∨ ∃ j, i = j + 1 ∧ l[j]? = some x
set_option maxHeartbeats 4000000 in
theorem walk (a : Option Addr) (len cap : Nat) (l : List K) (w : World) (hA : SArg w a len cap l) (hb : weigh l + cap ≤ len + 1048576) :
    Calls Try.prog 4 #[.slice a len cap] w fun e w' => e = .returned (.bool true) ∧ Below w.heap.size w w' := by
  have hlc := hA.le
  have hwl := weigh_length l
  rw [← hA.len_eq] at hwl
  have hlen : len ≤ 1048576 := by omega
  have HW : Hid (szs l ≤ 1048576) := by have := szs_le l; show _ ≤ _; omega
  have k1 := bound_any a len cap l w hA (by omega)
  have k2 := fun W => levels_any (len : Nat) (by omega) W
  have HL : Hid (len = l.length) := hA.len_eq
  have HZ : Hid (SRow w a l) := hA.row
  have HK : Hid (∀ y ∈ l, y.size ≤ maxLen) := hA.lt
  obtain ⟨R, hR⟩ : ∃ R, R = riseK ⟨#[]⟩ l := ⟨_, rfl⟩
  obtain ⟨B, hB⟩ : ∃ B, B = bnd l := ⟨_, rfl⟩
  have HR : Hid (R = riseK ⟨#[]⟩ l) := hR
  have HB0 : Hid (R = false → B = 0) := fun e => by rw [hB]; unfold bnd; rw [← hR, e]; rfl
  have HB1 : Hid (R = true → 8 * len + szs l ≤ B ∧ B ≤ 90 * len + 81 * levZ (len : Nat) ∧ (len = 0 → B = 0)) := fun e => by
    rw [hR] at e
    refine ⟨?_, ?_, fun e0 => ?_⟩
    · rw [hB, hA.len_eq]; exact bnd_least e
    · rw [hB, hA.len_eq]; exact bnd_most e
    · have : l = [] := List.eq_nil_of_length_eq_zero (by rw [← hA.len_eq, e0])
      rw [hB, this]; unfold bnd; rw [if_pos (show riseK ⟨#[]⟩ [] = true from rfl), List.map_nil, bndL_nil]
  have hlv : levZ (len : Nat) ≤ len := by
    unfold levZ
    split
    · omega
    · rw [Int.toNat_natCast]; exact lev_le _ (by omega)
  obtain ⟨V, hV⟩ : ∃ V, V = levZ (len : Nat) := ⟨_, rfl⟩
  rw [← hV] at HB1 k2 hlv
  rw [← hB] at k1
  have hBm : B ≤ 171 * len := by
    cases hq : R with
    | false => rw [HB0.out hq]; omega
    | true => have := (HB1.out hq).2.1; omega
  have HBM : Hid (B ≤ 171 * len) := hBm
  clear hA hR hB hb hwl hlc hBm hV
  go_enter Try.func4, Try.ntmps4
  go_wp2_with (go_at_call 11; refine k1.mono ?_; rintro e w1 ⟨rfl, hb1⟩; have HBl : Hid (Below w.heap.size w w1) := hb1; clear hb1)
  clear k1
  go_loopg [4, 5] len (fun kx s4 s5 wr => ∃ (i s : Nat) (x : K), i + kx = len ∧ s4 = .int .i64 (s : Nat) ∧ s5 = .int .i64 (i : Nat) ∧ Hid (s = szs (l.take i) ∧ Pre l i x ∧ riseK x (l.drop i) = R ∧ Below w.heap.size w wr))
  case atStart => exact ⟨0, 0, ⟨#[]⟩, by omega, rfl, rfl, (⟨rfl, .inl ⟨rfl, rfl⟩, by rw [List.drop_zero]; exact HR.out.symm, HBl.out⟩ : _ ∧ _)⟩
  case round =>
    obtain ⟨i, s, x, hi, rfl, rfl, I⟩ := hrel
    obtain ⟨i1, i2, i3, i4⟩ := I.out
    by_cases hlt : i < len
    · obtain ⟨b, off, y, rfl, hy, hd, ht, q0⟩ := srow_at (HZ.out.later i4) (k := i) (by have := HL.out; omega)
      have hys := HK.out y (List.mem_of_getElem? hy)
      unfold maxLen at hys
      have HS : Hid (s + y.size = szs (l.take (i + 1))) := by show _ = _; rw [ht, szs_app, i1]; rfl
      have hsb : s + y.size < 9223372036854775808 := by have := HS.out; have := szs_take_le l (i + 1); have := HW.out; omega
      have hi1 : (i : Int) < (len : Int) := by omega
      have HBr : Hid (Below w.heap.size w wr) := i4
      have HRi : Hid ((fol x y && riseK y (l.drop (i + 1))) = R) := by rw [hd] at i3; exact i3
      have HN : Hid (Pre l (i + 1) y) := .inr ⟨i, rfl, hy⟩
      have ka := fun W => alive_any W
      rcases i2 with ⟨rfl, rfl⟩ | ⟨j, rfl, hj⟩
      · rw [Nat.add_zero] at q0
        clear hd ht i1 i3 i4 I hy hlt
        by_cases h0 : y.size = 0
        · have hy0 := size0 h0
          subst hy0
          have hRF : R = false := by have := HRi.out; rw [show fol ⟨#[]⟩ ⟨#[]⟩ = false by unfold fol; rw [klt_irrefl]; rfl] at this; exact this.symm
          have hB0 := HB0.out hRF
          subst hB0
          clear HRi HN HS HB1 HR
          go_wp2
          go_quiet (fail)
          go_wp2_with (go_at_call 13; refine (ka _).mono ?_; rintro e w5 ⟨rfl, hb5⟩; have HB5 : Hid (Below w.heap.size w w5) := bafter (bafter HBr.out (below_drawn wr _)) hb5; clear hb5)
          go_ret
          exact ⟨rfl, HB5.out⟩
        · have hne : ¬ y.toList = [] := ne_nil (by omega)
          have hne2 : (y.toList == []) = false := by simpa using hne
          by_cases h64 : 64 < y.size
          · have hRF : R = false := by have := HRi.out; rw [show fol ⟨#[]⟩ y = false by unfold fol; rw [decide_eq_false (show ¬ y.size ≤ 64 by omega)]; simp] at this; exact this.symm
            have hB0 := HB0.out hRF
            subst hB0
            clear HRi HN HS HB1 HR h0
            have h64I : (64 : Int) < (y.size : Int) := by omega
            go_wp2
            go_quiet (fail)
            go_wp2_with (go_at_call 13; refine (ka _).mono ?_; rintro e w5 ⟨rfl, hb5⟩; have HB5 : Hid (Below w.heap.size w w5) := bafter (bafter HBr.out (below_drawn wr _)) hb5; clear hb5)
            go_ret
            exact ⟨rfl, HB5.out⟩
          · have HF : Hid (riseK y (l.drop 1) = R) := by have := HRi.out; rw [show fol ⟨#[]⟩ y = true by unfold fol; rw [klt_nil (by omega), decide_eq_true (show y.size ≤ 64 by omega)]; rfl] at this; exact this
            have h64I : ¬ (64 : Int) < (y.size : Int) := by omega
            clear HRi HB1 HR h0 h64
            go_wp2
            go_quiet (fail)
            go_wp2
            go_roundg (len - (0 + 1))
            case measure => omega
            case rel => exact ⟨0 + 1, s + y.size, y, by omega, by go_num, by go_num, (⟨HS.out, HN.out, HF.out, bafter HBr.out (below_drawn wr _)⟩ : _ ∧ _)⟩
      · obtain ⟨_, _, x', e', hx', _, _, p0⟩ := srow_at (HZ.out.later i4) (k := j) (by have := HL.out; omega)
        cases e'
        obtain rfl : x' = x := by rw [hj] at hx'; cases hx'; rfl
        have hj3 : IntKind.i64.wrap ((j : Int) + 1 - 1) = (j : Int) := by rw [IntKind.wrap_i64]; omega
        have hj0 : (0 : Int) < (j : Int) + 1 := by omega
        have hj2 : (j : Int) < (len : Int) := by omega
        clear hd ht i1 i3 i4 I hy hlt hj hx'
        cases hkl : klt x' y with
        | false =>
          have hRF : R = false := by have := HRi.out; rw [show fol x' y = false by unfold fol; rw [hkl]; rfl] at this; exact this.symm
          have hB0 := HB0.out hRF
          subst hB0
          unfold klt at hkl
          clear HRi HN HS HB1 HR
          go_wp2
          go_quiet (fail)
          go_wp2_with (go_at_call 13; refine (ka _).mono ?_; rintro e w5 ⟨rfl, hb5⟩; have HB5 : Hid (Below w.heap.size w w5) := bafter (bafter HBr.out (below_drawn wr _)) hb5; clear hb5)
          go_ret
          exact ⟨rfl, HB5.out⟩
        | true =>
          have hy1 := klt_pos hkl
          have hne : ¬ y.toList = [] := ne_nil hy1
          have hne2 : (y.toList == []) = false := by simpa using hne
          by_cases h64 : 64 < y.size
          · have hRF : R = false := by have := HRi.out; rw [show fol x' y = false by unfold fol; rw [decide_eq_false (show ¬ y.size ≤ 64 by omega)]; simp] at this; exact this.symm
            have hB0 := HB0.out hRF
            subst hB0
            unfold klt at hkl
            clear HRi HN HS HB1 HR hy1
            have h64I : (64 : Int) < (y.size : Int) := by omega
            go_wp2
            go_quiet (fail)
            go_wp2_with (go_at_call 13; refine (ka _).mono ?_; rintro e w5 ⟨rfl, hb5⟩; have HB5 : Hid (Below w.heap.size w w5) := bafter (bafter HBr.out (below_drawn wr _)) hb5; clear hb5)
            go_ret
            exact ⟨rfl, HB5.out⟩
          · have HF : Hid (riseK y (l.drop (j + 1 + 1)) = R) := by have := HRi.out; rw [show fol x' y = true by unfold fol; rw [hkl, decide_eq_true (show y.size ≤ 64 by omega)]; rfl] at this; exact this
            have h64I : ¬ (64 : Int) < (y.size : Int) := by omega
            unfold klt at hkl
            clear HRi HB1 HR h64 hy1
            go_wp2
            go_quiet (fail)
            go_wp2
            go_roundg (len - ((j + 1) + 1))
            case measure => omega
            case rel => exact ⟨(j + 1) + 1, s + y.size, y, by omega, by go_num, by go_num, (⟨HS.out, HN.out, HF.out, bafter HBr.out (below_drawn wr _)⟩ : _ ∧ _)⟩
    · have hil : i = len := by omega
      subst hil
      have hRT : R = true := by rw [HL.out, List.drop_eq_nil_of_le (Nat.le_refl _)] at i3; exact i3.symm
      obtain ⟨b1, b2, b3⟩ := HB1.out hRT
      have hs : s = szs l := by rw [i1, HL.out, List.take_length]
      rw [← hs] at b1
      have hsm : s ≤ 1048576 := by rw [hs]; exact HW.out
      have HBr : Hid (Below w.heap.size w wr) := i4
      have hBm := HBM.out
      have ka := fun W => alive_any W
      clear i1 i2 i3 i4 I HB0 HB1 hRT HL HZ HK HW HR hs
      have f1 : (s : Int) + 8 * (i : Int) ≤ (B : Int) := by omega
      have f2 : (B : Int) ≤ ((i : Int) + (V : Int)) * 81 + 9 * (i : Int) := by omega
      by_cases h0 : i = 0
      · subst h0
        have hB0 : B = 0 := b3 rfl
        subst hB0
        have hV0 : V = 0 := by omega
        subst hV0
        have hs0 : s = 0 := by omega
        subst hs0
        clear b1 b2 b3 f1 f2
        go_wp2_with (first
          | (go_at_call 9; refine (k2 _).mono ?_; rintro e w4 ⟨rfl, rfl⟩)
          | (go_at_call 13; refine (ka _).mono ?_; rintro e w5 ⟨rfl, hb5⟩; have HB5 : Hid (Below w.heap.size w w5) := bafter HBr.out hb5; clear hb5))
        go_ret
        exact ⟨rfl, HB5.out⟩
      · have hi0 : (0 : Int) < (i : Int) := by omega
        have hB1 : (0 : Int) < (B : Int) := by omega
        clear b1 b2 b3
        go_wp2_with (first
          | (go_at_call 9; refine (k2 _).mono ?_; rintro e w4 ⟨rfl, rfl⟩)
          | (go_at_call 13; refine (ka _).mono ?_; rintro e w5 ⟨rfl, hb5⟩; have HB5 : Hid (Below w.heap.size w w5) := bafter HBr.out hb5; clear hb5))
        go_ret
        exact ⟨rfl, HB5.out⟩
set_option maxRecDepth 100000 in
theorem contract (H : Type) (enc : TypeId × Value → H) (W : World) (base : Nat) (args : Array Value) (ds gs : List (DataW H)) (before : List MemPlace)
    (hval : ∀ (j : Nat) t v, Try.f4.params[j]? = some t → args[j]? = some v → Value.okWide Try.prog W .any base t v)
    (hW : DataW.Whole enc Try.prog Try.f4.params.toList Rows.imageBoundSpec.vars false W args.toList ds gs before) (hk : Rows.uptoSmall H (ds ++ gs) = true) :
    Calls Try.prog 4 args W fun e W' => ∃ v, e = .returned v ∧ Rows.imageBoundSpec.post enc Try.prog Try.f4 false true false false W args v W' := by
  have hW' := hW
  obtain ⟨p, q, hA0, hV, rfl, hfz, hnd⟩ := hW
  have hA : DataW.TrodAll enc Try.prog W 0 (fun _ => true) true Try.f4.params.toList args.toList ds p := hA0
  rw [Try.params4] at hA hval
  obtain ⟨v0, vs0, d0, ds0, p0, q0, hargs, rfl, rfl, h0, r0⟩ := trodAll_cons hA
  obtain ⟨rfl, rfl, rfl⟩ := trodAll_nil r0
  obtain rfl : args = #[v0] := by cases args; simp_all
  obtain ⟨rfl, rfl⟩ := trodVars_none hV
  simp only [List.append_nil] at hk
  have hb : Rows.uptoBulkAll ([d0] : List (DataW H)) ≤ 1048576 := of_decide_eq_true hk
  simp only [Rows.uptoBulkAll] at hb
  obtain ⟨a0, len0, cap0, rfl⟩ := okWide_slice Try.underlying23 (hval 0 23 v0 rfl rfl)
  have k0 := h0
  have lt0 : ∀ x ∈ p0, x.block < W.heap.size := by obtain ⟨m, hm⟩ := k0; exact DataW.trod_lt m _ _ _ hm
  obtain ⟨l0, w0, b0⟩ : ∃ l, SArg W a0 len0 cap0 l ∧ weigh l + cap0 ≤ len0 + Rows.uptoBulk d0 := by
    obtain ⟨fuel, hf⟩ := h0
    obtain ⟨l, hl, hd⟩ := sarg_open hf
    refine ⟨l, hl, ?_⟩
    rcases hd with ⟨h, rfl⟩ | ⟨ss, rfl, hc, rfl⟩
    · rw [weigh_nil]; omega
    · rw [bulk_slice]
      have h1 := weigh_length (ss.drop len0)
      rw [List.length_drop] at h1
      omega
  clear hA0
  refine (walk a0 len0 cap0 l0 W w0 (by omega)).mono fun e W' ⟨he, bel⟩ => ?_
  subst he
  exact ⟨_, rfl, _, _, _, [], _, [], hW', trodAll_mk1 (shut_bool Try.underlying4 _), (trodAll_cons_mk (Below.trod laidOut (by kernel_rfl) (of_decide_eq_true (by kernel_rfl)) k0 bel lt0) trodAll_mk0), rfl, bel.frame _, fun h => by cases h⟩

set_option maxRecDepth 100000 in
theorem lifted (os : Os) (started : os.Started) (H : Type) (enc : TypeId × Value → H) (F : Stop.Interp) :
    ReturnsInHanded {} Try.checked os 4 .any ((Rows.OpenSpec.upto Rows.imageBoundSpec).pre6 enc Try.prog Try.f4 Rows.imageBoundUptoRow.domain false) (((Rows.OpenSpec.upto Rows.imageBoundSpec).at F).post enc Try.prog Try.f4 false true false false) := by
  refine returnsInHanded_of_cond (C := Try.checked) (s := Rows.OpenSpec.upto Rows.imageBoundSpec) (k := Rows.uptoSmall) rfl own started (by kernel_rfl) Try.func4
    (OpenSpec.witness (enc := enc) (C := Try.checked) (s := Rows.OpenSpec.upto Rows.imageBoundSpec) (k := Rows.uptoSmall) rfl false ⟨#[], #[.slice none 0 0], []⟩ 8 (by kernel_rfl) (by kernel_rfl) (by kernel_rfl)
      (x := ([.nil], [], [])) (by kernel_rfl) rfl (by kernel_rfl)) ?_
  intro W base args ds gs before hval hW _ hk _
  exact contract H enc W base args ds gs before hval hW hk

theorem over : Rows.ImageBoundUptoSaid :=
  OpenClaim.holds_of_cond 4 Try.f4 rfl rfl rfl rfl rfl rfl rfl ⟨rfl, rfl, rfl, rfl, rfl⟩ rfl rfl rfl rfl rfl (by kernel_rfl) Try.func4 (by kernel_rfl)
    (of_decide_eq_true (by kernel_rfl)) (by unfold Func.isWrapper; first | (rw [if_pos (by decide +kernel)]; kernel_rfl) | (rw [if_neg (by decide +kernel)]; exact ⟨rfl, rfl⟩))
    (fun os started H enc _ F => lifted os started H enc F)
end Go.Proofs.Ytfmgaahileknfaa.imageBound

namespace Go.Proofs.Ytfmgaahileknfaa
theorem imageBoundUpto_holds : Rows.ImageBoundUptoSaid := imageBound.over
#print axioms imageBoundUpto_holds
end Go.Proofs.Ytfmgaahileknfaa
