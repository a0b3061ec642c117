/-
  Proved: the statement that any slots are parted into the document's lists, with as many levels and as many bytes as it says (ImageSplits), in its second form: for every input whose bulk is at most 1048576.
-/
import Derived.Test.YtfmgaahileknfaaRIBndW
import Derived.Test.YtfmgaahileknfaaISame
import Derived.Test.YtfmgaahileknfaaIArgL
import Derived.OwnWalk
namespace Go.Proofs.Ytfmgaahileknfaa.imageSplits
open Go.ChangeShapes Go.WideShapes Go.ChangeAt Go.RowKit M
set_option maxRecDepth 10000

set_option maxHeartbeats 8000000 in
theorem walk (a : Option Addr) (len cap : Nat) (l : List St) (n : Int) (a2 : Option Addr) (len2 cap2 : Nat) (l2 : List K) (w : World) (hA : ZIn w a len cap l) (hn0 : (Lit.int .i64 n).wf = true) (hS : SArg w a2 len2 cap2 l2) (hb1 : cap ≤ 1048576) (hb2 : weigh l2 + cap2 ≤ len2 + 1048576) :
    Calls Try.prog 3 #[.slice a len cap, .int .i64 n, .slice a2 len2 cap2] w fun e w' => e = .returned (.bool true) ∧ Below w.heap.size w w' := by
  have hn := bounds_i64 hn0
  have hlc := hA.arg.le
  have hk := hA.arg.keys
  have hlc2 := hS.le
  have hwl := weigh_length l2
  rw [← hS.len_eq] at hwl
  have k1 : ∀ W, Below w.heap.size w W → Calls Try.prog 6 #[.slice a len cap] W fun e w' => ∃ a1 c1, e = .returned (.slice a1 len c1) ∧ ZArg w' a1 len c1 l ∧ (a1 = none → c1 = 0) ∧ Below W.heap.size W w' := fun W hb => by
    refine (slots_any a len cap l W (hA.arg.later hb) (by omega)).mono ?_
    rintro e w' ⟨a1, n1, c1, rfl, hn, hz⟩
    obtain rfl : n1 = len := by rw [hn, hA.arg.len_eq]
    refine ⟨a1, c1, rfl, hz.arg hn hk, ?_, hz.2⟩
    have h1 := hz.1
    rw [← hn] at h1
    obtain ⟨a', c', e, _, q, _⟩ := zown_row hn h1
    cases e
    exact fun e => (q e).2
  obtain ⟨ls, hls⟩ : ∃ ls, ls = spl l := ⟨_, rfl⟩
  have k2 : ∀ W a1 c1, ZArg W a1 len c1 l → (a1 = none → c1 = 0) → Calls Try.prog 5 #[.slice a1 len c1] W fun e w' => ∃ la n c, e = .returned (.slice la n c) ∧ LArg w' la n c ls ∧ Below W.heap.size W w' := fun W a1 c1 h1 h2 => by rw [hls]; exact split_any a1 len c1 l W h1 (by omega) h2
  have k3 : ∀ W, Below w.heap.size w W → Calls Try.prog 7 #[.slice a len cap] W fun e w' => ∃ la n c, e = .returned (.slice la n c) ∧ LArg w' la n c ls ∧ Below W.heap.size W w' := fun W hb => by rw [hls]; exact rsplit_any a len cap l W (hA.arg.later hb) (by omega)
  have HKy : Hid (∀ y ∈ ls, ∀ s ∈ y, s.key.size ≤ maxLen) := fun y hy s hs => by rw [hls] at hy; exact hk s (spl_mem hy hs)
  have HLs : Hid (ls.length ≤ 1048576) := by show _ ≤ _; rw [hls, spl_len, ← hA.arg.len_eq]; omega
  have k4 := fun W => levels_any n hn W
  have k5 := fun W => rlevels_any n hn W
  have k6 := fun W (hb : Below w.heap.size w W) => bound_any a2 len2 cap2 l2 W (hS.later hb) (by omega)
  have k7 := fun W (hb : Below w.heap.size w W) => rbound_any a2 len2 cap2 l2 W (hS.later hb) (by omega)
  have k8 := fun W => alive_any W
  obtain ⟨V, hV⟩ : ∃ V, V = levZ n := ⟨_, rfl⟩
  obtain ⟨B, hB⟩ : ∃ B, B = bnd l2 := ⟨_, rfl⟩
  rw [← hV] at k4 k5
  rw [← hB] at k6 k7
  clear hls hk hV hB hA hS hb1 hb2 hn hn0 hlc hlc2 hwl
  go_enter Try.func3, Try.ntmps3
  go_wp2_with (first
    | (go_at_call 6; refine (k1 _ (Below.refl _ _)).mono ?_; rintro e w1 ⟨a1, c1, rfl, hz1, hn1, hb1⟩; have HB1 : Hid (Below w.heap.size w w1) := hb1; have HZ1 : Hid (ZArg w1 a1 len c1 l ∧ (a1 = none → c1 = 0)) := ⟨hz1, hn1⟩; clear hz1 hn1 hb1)
    | (go_at_call 5; refine (k2 _ _ _ HZ1.out.1 HZ1.out.2).mono ?_; rintro e w2 ⟨la, m, lc, rfl, hL, hb2⟩; have HB2 : Hid (Below w.heap.size w w2) := bafter HB1.out hb2; have HL2 : Hid (LArg w2 la m lc ls) := hL; have HM : Hid (m = ls.length) := hL.len_eq; clear hL hb2)
    | (go_at_call 7; refine (k3 _ HB2.out).mono ?_; rintro e w3 ⟨lb, m3, lc3, rfl, hL, hb3⟩; have HB3 : Hid (Below w.heap.size w w3) := bafter HB2.out hb3; obtain rfl : m3 = m := (by rw [hL.len_eq, HM.out]); have HLa : Hid (LArg w3 la m3 lc ls) := HL2.out.later hb3; have HLb : Hid (LArg w3 lb m3 lc3 ls) := hL; clear hL hb3))
  clear k1 k2 k3 HZ1 HB1 HL2 HB2
  have hm63 : m3 ≤ 1048576 := by have := HM.out; have := HLs.out; omega
  have hca := HLa.out.le
  have hcb := HLb.out.le
  have hma := HLa.out.max
  have hmb := HLb.out.max
  unfold maxLen at hma hmb
  go_loopg [9] m3 (fun kx s9 wr => ∃ (i : Nat), i + kx = m3 ∧ s9 = .int .i64 (i : Nat) ∧ Hid (Below w3.heap.size w3 wr))
  case atStart => exact ⟨0, by omega, rfl, Below.refl _ _⟩
  case round =>
    obtain ⟨i, hi, rfl, I⟩ := hrel
    by_cases hlt : i < m3
    · obtain ⟨b, off, y, ya, yc, rfl, hy, _, q0, q1, q2, q3⟩ := lrow_at (HLa.out.row.later I.out) (i := i) (by have := HM.out; omega)
      obtain ⟨b', off', y', ya', yc', rfl, hy', _, r0, r1, r2, r3⟩ := lrow_at (HLb.out.row.later I.out) (i := i) (by have := HM.out; omega)
      obtain rfl : y' = y := by rw [hy] at hy'; cases hy'; rfl
      have hkk := HKy.out y' (List.mem_of_getElem? hy)
      have HSm : Hid (∀ p : Wd wr, Calls Try.prog 8 #[.slice ya y'.length yc, .slice ya' y'.length yc'] p.v fun e w'' => e = .returned (.bool true) ∧ ∃ q : Wd wr, w'' = q.v) := fun p => quiet_call p (by
        have := same_any ya ya' y'.length y'.length yc yc' y' y' p.v ⟨rfl, q2, q3, hkk, q1.later p.h⟩ ⟨rfl, r2, r3, hkk, r1.later p.h⟩
        rw [eqL_iff.2 rfl] at this
        exact this)
      have HC1 : Hid (∀ p : Wd wr, p.v.cell? ⟨b, off + i, none⟩ = some (.slice ya y'.length yc)) := fun p => (p.h.cell (p := ⟨b, off + i, none⟩) (World.block_lt_of_cell? wr _ q0)).trans q0
      have HC2 : Hid (∀ p : Wd wr, p.v.cell? ⟨b', off' + i, none⟩ = some (.slice ya' y'.length yc')) := fun p => (p.h.cell (p := ⟨b', off' + i, none⟩) (World.block_lt_of_cell? wr _ r0)).trans r0
      obtain ⟨X, hX⟩ : ∃ X, X = y'.length := ⟨_, rfl⟩
      rw [← hX] at HSm HC1 HC2
      have hi1 : (i : Int) < (m3 : Int) := by omega
      clear q0 q1 q2 q3 r0 r1 r2 r3 hy hy' hkk hX
      go_wp2
      have z0 := HC1.out
      have z1 := HC2.out
      have ne := Wd.non wr
      refine quiet_below (by kernel_rfl) ?_
      repeat (first | go_big_quiet_skip | go_big_quiet_step (first | (go_at_call 8; exact HSm.out _)))
      refine wpQuiet_nil ?_
      rintro _ ⟨p7, rfl⟩
      have HB7 : Hid (Below w3.heap.size w3 p7.v) := bafter I.out p7.h
      clear z0 z1 ne
      go_wp2
      go_roundg (m3 - (i + 1))
      case measure => omega
      case rel => exact ⟨i + 1, by omega, by go_num, HB7.out⟩
    · have him : i = m3 := by omega
      subst him
      have HB : Hid (Below w.heap.size w wr) := bafter HB3.out I.out
      clear I
      go_wp2_with (first
        | (go_at_call 9; refine (k4 _).mono ?_; rintro e w4 ⟨rfl, rfl⟩)
        | (go_at_call 10; refine (k5 _).mono ?_; rintro e w4 ⟨rfl, rfl⟩)
        | (go_at_call 11; refine (k6 _ HB.out).mono ?_; rintro e w5 ⟨rfl, hb5⟩; have HB5 : Hid (Below w.heap.size w w5) := bafter HB.out hb5; clear hb5)
        | (go_at_call 12; refine (k7 _ HB5.out).mono ?_; rintro e w6 ⟨rfl, hb6⟩; have HB6 : Hid (Below w.heap.size w w6) := bafter HB5.out hb6; clear hb6)
        | (go_at_call 13; refine (k8 _).mono ?_; rintro e w7 ⟨rfl, hb7⟩; have HB7 : Hid (Below w.heap.size w w7) := bafter HB6.out hb7; clear hb7))
      go_ret
      exact ⟨rfl, HB7.out⟩
set_option maxRecDepth 100000 in
theorem contract (H : Type) (enc : TypeId × Value → H) (W : World) (base : Nat) (args : Array Value) (ds gs : List (DataW H)) (before : List MemPlace)
    (hval : ∀ (j : Nat) t v, Try.f3.params[j]? = some t → args[j]? = some v → Value.okWide Try.prog W .any base t v)
    (hW : DataW.Whole enc Try.prog Try.f3.params.toList Rows.imageSplitsSpec.vars false W args.toList ds gs before) (hk : Rows.uptoSmall H (ds ++ gs) = true) :
    Calls Try.prog 3 args W fun e W' => ∃ v, e = .returned v ∧ Rows.imageSplitsSpec.post enc Try.prog Try.f3 false true false false W args v W' := by
  have hW' := hW
  obtain ⟨p, q, hA0, hV, rfl, hfz, hnd⟩ := hW
  have hA : DataW.TrodAll enc Try.prog W 0 (fun _ => true) true Try.f3.params.toList args.toList ds p := hA0
  rw [Try.params3] at hA hval
  obtain ⟨v0, vs0, d0, ds0, p0, q0, hargs, rfl, rfl, h0, r0⟩ := trodAll_cons hA
  obtain ⟨v1, vs1, d1, ds1, p1, q1, rfl, rfl, rfl, h1, r1⟩ := trodAll_cons r0
  obtain ⟨v2, vs2, d2, ds2, p2, q2, rfl, rfl, rfl, h2, r2⟩ := trodAll_cons r1
  obtain ⟨rfl, rfl, rfl⟩ := trodAll_nil r2
  obtain rfl : args = #[v0, v1, v2] := by cases args; simp_all
  obtain ⟨rfl, rfl⟩ := trodVars_none hV
  simp only [List.append_nil] at hk
  have hb : Rows.uptoBulkAll ([d0, d1, d2] : List (DataW H)) ≤ 1048576 := of_decide_eq_true hk
  simp only [Rows.uptoBulkAll] at hb
  obtain ⟨a0, len0, cap0, rfl⟩ := okWide_slice Try.underlying22 (hval 0 22 v0 rfl rfl)
  have k0 := h0
  have lt0 : ∀ x ∈ p0, x.block < W.heap.size := by obtain ⟨m, hm⟩ := k0; exact DataW.trod_lt m _ _ _ hm
  obtain ⟨l0, w0, b0⟩ : ∃ l, ZIn W a0 len0 cap0 l ∧ cap0 ≤ Rows.uptoBulk d0 := by
    obtain ⟨fuel, hf⟩ := h0
    obtain ⟨l, hl, hd⟩ := zarg_open hf
    refine ⟨l, hl, ?_⟩
    rcases hd with h | ⟨elems, spare, rfl, hc⟩
    · omega
    · have q1 := bulk_len elems
      have q2 := bulk_len spare
      simp only [Rows.uptoBulk]
      omega
  obtain ⟨a1, rfl, rfl, rfl, w1⟩ := open_int Try.underlying3 (hval 1 3 v1 rfl rfl) h1
  obtain ⟨a2, len2, cap2, rfl⟩ := okWide_slice Try.underlying23 (hval 2 23 v2 rfl rfl)
  have k2 := h2
  have lt2 : ∀ x ∈ p2, x.block < W.heap.size := by obtain ⟨m, hm⟩ := k2; exact DataW.trod_lt m _ _ _ hm
  obtain ⟨l2, w2, b2⟩ : ∃ l, SArg W a2 len2 cap2 l ∧ weigh l + cap2 ≤ len2 + Rows.uptoBulk d2 := by
    obtain ⟨fuel, hf⟩ := h2
    obtain ⟨l, hl, hd⟩ := sarg_open hf
    refine ⟨l, hl, ?_⟩
    rcases hd with ⟨h, rfl⟩ | ⟨ss, rfl, hc, rfl⟩
    · rw [weigh_nil]; omega
    · rw [bulk_slice]
      have h1 := weigh_length (ss.drop len2)
      rw [List.length_drop] at h1
      omega
  clear hA0
  refine (walk a0 len0 cap0 l0 a1 a2 len2 cap2 l2 W w0 w1 w2 (by omega) (by omega)).mono fun e W' ⟨he, bel⟩ => ?_
  subst he
  exact ⟨_, rfl, _, _, _, [], _, [], hW', trodAll_mk1 (shut_bool Try.underlying4 _), (trodAll_cons_mk (Below.trod laidOut (by kernel_rfl) (of_decide_eq_true (by kernel_rfl)) k0 bel lt0) (trodAll_cons_mk (shut_int Try.underlying3 w1) (trodAll_cons_mk (Below.trod laidOut (by kernel_rfl) (of_decide_eq_true (by kernel_rfl)) k2 bel lt2) trodAll_mk0))), rfl, bel.frame _, fun h => by cases h⟩

set_option maxRecDepth 100000 in
theorem lifted (os : Os) (started : os.Started) (H : Type) (enc : TypeId × Value → H) (F : Stop.Interp) :
    ReturnsInHanded {} Try.checked os 3 .any ((Rows.OpenSpec.upto Rows.imageSplitsSpec).pre6 enc Try.prog Try.f3 Rows.imageSplitsUptoRow.domain false) (((Rows.OpenSpec.upto Rows.imageSplitsSpec).at F).post enc Try.prog Try.f3 false true false false) := by
  refine returnsInHanded_of_cond (C := Try.checked) (s := Rows.OpenSpec.upto Rows.imageSplitsSpec) (k := Rows.uptoSmall) rfl own started (by kernel_rfl) Try.func3
    (OpenSpec.witness (enc := enc) (C := Try.checked) (s := Rows.OpenSpec.upto Rows.imageSplitsSpec) (k := Rows.uptoSmall) rfl false ⟨#[], #[.slice none 0 0, .int .i64 0, .slice none 0 0], []⟩ 8 (by kernel_rfl) (by kernel_rfl) (by kernel_rfl)
      (x := ([.nil, .lit (.int .i64 0), .nil], [], [])) (by kernel_rfl) rfl (by kernel_rfl)) ?_
  intro W base args ds gs before hval hW _ hk _
  exact contract H enc W base args ds gs before hval hW hk

theorem over : Rows.ImageSplitsUptoSaid :=
  OpenClaim.holds_of_cond 3 Try.f3 rfl rfl rfl rfl rfl rfl rfl ⟨rfl, rfl, rfl, rfl, rfl⟩ rfl rfl rfl rfl rfl (by kernel_rfl) Try.func3 (by kernel_rfl)
    (of_decide_eq_true (by kernel_rfl)) (by unfold Func.isWrapper; first | (rw [if_pos (by decide +kernel)]; kernel_rfl) | (rw [if_neg (by decide +kernel)]; exact ⟨rfl, rfl⟩))
    (fun os started H enc _ F => lifted os started H enc F)
end Go.Proofs.Ytfmgaahileknfaa.imageSplits

namespace Go.Proofs.Ytfmgaahileknfaa
theorem imageSplitsUpto_holds : Rows.ImageSplitsUptoSaid := imageSplits.over
#print axioms imageSplitsUpto_holds
end Go.Proofs.Ytfmgaahileknfaa
