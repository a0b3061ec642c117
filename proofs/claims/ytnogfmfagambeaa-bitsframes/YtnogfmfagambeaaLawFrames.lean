/-
  Proved: the statement on frames (BitsFrames): the check sum, and the frames of any bytes, are what the document says, and any bytes are a frame or none, for every list of bytes; no condition.
-/
import Derived.Test.YtnogfmfagambeaaArg
import Derived.Test.YtnogfmfagambeaaRefB
import Derived.Test.YtnogfmfagambeaaBackMath
namespace Go.Proofs.Ytnogfmfagambeaa.bitsFrames
open Go.ChangeShapes Go.WideShapes Go.ChangeAt Go.RowKit M

theorem fr_frame {w : World} {a : Option Addr} {n cap : Nat} {l : List Nat} (h : BArg w a n cap l) (h1 : 1 ≤ n) (h2 : n ≤ 1024) : Calls Try.prog 18 #[.slice a n cap] w fun e w' => e = .returned (.tuple #[.slice (some ⟨w.heap.size, 0, none⟩) (6 + n) (6 + n), .int .i64 0]) ∧ Own w w' (.slice (some ⟨w.heap.size, 0, none⟩) (6 + n) (6 + n)) (frameL l) := by
  have h3 := h.len_eq
  subst h3
  exact frame_yes a cap l w h1 h2 h.lt h.row
theorem fr_rframe {w wr : World} {a : Option Addr} {n cap : Nat} {l : List Nat} (h : BArg w a n cap l) (hb : Below w.heap.size w wr) (h1 : 1 ≤ n) (h2 : n ≤ 1024) : Calls Try.prog 19 #[.slice a n cap] wr fun e w' => ∃ v, e = .returned (.tuple #[v, .int .i64 0]) ∧ Own wr w' v (frameL l) :=
  rframe_yes a cap n l wr h.len_eq h1 h2 h.lt (h.row.later hb) h.nil
theorem fr_sum {w wr : World} {a : Option Addr} {n cap : Nat} {l : List Nat} (h : BArg w a n cap l) (hb : Below w.heap.size w wr) {s : Nat} (hs : s = sumL l) : Calls Try.prog 22 #[.slice a n cap] wr fun e w' => e = .returned (.int .u32 (s : Int)) ∧ wr = w' :=
  sum_at a cap l wr n s h.len_eq hs (by rw [← h.len_eq]; exact Nat.le_trans h.le h.max) h.lt (h.row.later hb)
theorem fr_rsum {w wr : World} {a : Option Addr} {n cap : Nat} {l : List Nat} (h : BArg w a n cap l) (hb : Below w.heap.size w wr) {s : Nat} (hs : s = sumL l) : Calls Try.prog 23 #[.slice a n cap] wr fun e w' => e = .returned (.int .u32 (s : Int)) ∧ wr = w' :=
  rsum_at a cap l wr n s h.len_eq hs (by rw [← h.len_eq]; exact Nat.le_trans h.le h.max) h.lt (h.row.later hb)
theorem fr_un {w wr : World} {a : Option Addr} {n cap : Nat} {l : List Nat} (h : BArg w a n cap l) (hb : Below w.heap.size w wr) {z : Nat} {p : List Nat} (hf : isFrame l) (hz : z = sizeL l) (hp : p = bodyL l) : Calls Try.prog 20 #[.slice a n cap] wr fun e w' =>
      e = .returned (.tuple #[.slice (some ⟨wr.heap.size, 0, none⟩) z z, .int .i64 (6 + (z : Int)), .bool true]) ∧ Own wr w' (.slice (some ⟨wr.heap.size, 0, none⟩) z z) p := by
  have h3 := h.len_eq
  subst h3
  subst hz
  subst hp
  exact unframe_is a cap l wr h.le (by have := h.max; unfold maxLen at this; omega) h.lt (h.row.later hb) hf
theorem fr_run {w wr : World} {a : Option Addr} {n cap : Nat} {l : List Nat} (h : BArg w a n cap l) (hb : Below w.heap.size w wr) {z : Nat} {p : List Nat} (hf : isFrame l) (hz : z = sizeL l) (hp : p = bodyL l) : Calls Try.prog 21 #[.slice a n cap] wr fun e w' =>
      ∃ v, e = .returned (.tuple #[v, .int .i64 (6 + (z : Int)), .bool true]) ∧ Own wr w' v p := by
  have h3 := h.len_eq
  subst h3
  subst hz
  subst hp
  exact runframe_is a cap l wr h.le (by have := h.max; unfold maxLen at this; omega) h.lt (h.row.later hb) hf
theorem fr_unno {w wr : World} {a : Option Addr} {n cap : Nat} {l : List Nat} (h : BArg w a n cap l) (hb : Below w.heap.size w wr) (hf : ¬ isFrame l) : Calls Try.prog 20 #[.slice a n cap] wr fun e w' => e = .returned (.tuple #[.slice none 0 0, .int .i64 0, .bool false]) ∧ Below wr.heap.size wr w' := by
  have h3 := h.len_eq
  subst h3
  exact unframe_not a cap l wr h.le (by have := h.max; unfold maxLen at this; omega) h.lt (h.row.later hb) hf
theorem fr_runno {w wr : World} {a : Option Addr} {n cap : Nat} {l : List Nat} (h : BArg w a n cap l) (hb : Below w.heap.size w wr) (hf : ¬ isFrame l) : Calls Try.prog 21 #[.slice a n cap] wr fun e w' => e = .returned (.tuple #[.slice none 0 0, .int .i64 0, .bool false]) ∧ Below wr.heap.size wr w' := by
  have h3 := h.len_eq
  subst h3
  exact runframe_not a cap l wr h.le (by have := h.max; unfold maxLen at this; omega) h.lt (h.row.later hb) hf

set_option maxHeartbeats 2000000 in
theorem walk_yy (a : Option Addr) (n cap : Nat) (l : List Nat) (w : World) (w0 : BArg w a n cap l) (h1 : 1 ≤ n) (h2 : n ≤ 1024) (his : isFrame l) :
    Calls Try.prog 4 #[.slice a n cap] w fun e w' => e = .returned (.bool true) ∧ Below w.heap.size w w' := by
  have W0 : Hid (BArg w a n cap l) := w0
  clear w0
  have HFL : Hid (6 + n = (frameL l).length) := by show _ = _; rw [frameL_length, W0.out.len_eq]; omega
  have HIS : Hid (isFrame l) := his
  obtain ⟨z, hz⟩ : ∃ z, z = sizeL l := ⟨_, rfl⟩
  obtain ⟨p, hp⟩ : ∃ p, p = bodyL l := ⟨_, rfl⟩
  have HZ : Hid (z = sizeL l) := hz
  have HPB : Hid (p = bodyL l) := hp
  have HZP : Hid (z = p.length) := by show _ = _; rw [hz, hp]; have := his.2.2.2.1; have := his.1; simp [bodyL]; omega
  have HPL : Hid (∀ x ∈ p, x < 256) := by rw [hp]; exact lt_of_sub W0.out.lt 6 _
  clear hz hp
  have i1 : (6 + (z : Int) == 6 + (z : Int)) = true := by simp
  clear his
  obtain ⟨s, hs⟩ : ∃ s, s = sumL l := ⟨_, rfl⟩
  have HS : Hid (s = sumL l) := hs
  clear hs
  have e1 : ((s : Int) == (s : Int)) = true := by simp
  have M1 : Hid True := trivial
  go_enter Try.func4, Try.ntmps4
  go_wp2_with (first
    | (go_at_call 18; go_must (refine (fr_frame W0.out h1 h2).mono ?_); rintro e w1 ⟨rfl, ho1⟩; have hb1 := ho1.2; have hp1 := own_at ho1; clear ho1)
    | (go_at_call 19; go_must (refine (fr_rframe W0.out hb1 h1 h2).mono ?_); rintro e w2 ⟨v2, rfl, ho2⟩; have hb2 := Below.after hb1 ho2.2; have hp2 := hp1.later ho2.2; obtain ⟨a2, c2, rfl, hr2, _⟩ := own_shape HFL.out ho2.1; clear ho2 hp1)
    | (go_at_call 20; go_must (refine (fr_un W0.out hb2 HIS.out HZ.out HPB.out).mono ?_); rintro e w3 ⟨rfl, ho3⟩; have hb3 := Below.after hb2 ho3.2; have hb23 := ho3.2; have hp3 := own_at ho3; clear ho3)
    | (go_at_call 21; go_must (refine (fr_run W0.out hb3 HIS.out HZ.out HPB.out).mono ?_); rintro e w4 ⟨v4, rfl, ho4⟩; have hb4 := Below.after hb3 ho4.2; have hb24 := Below.after hb23 ho4.2; have hp4 := hp3.later ho4.2; obtain ⟨a4, c4, rfl, hr4, _⟩ := own_shape HZP.out ho4.1; clear ho4 hp3 hb23)
    | (go_at_call 22; go_must (refine (fr_sum W0.out hb4 HS.out).mono ?_); rintro e w' ⟨rfl, rfl⟩)
    | (go_at_call 23; go_must (refine (fr_rsum W0.out hb4 HS.out).mono ?_); rintro e w' ⟨rfl, rfl⟩)
    | (go_at_call 8; clear M1; go_must (refine (same_yes w4 _ _ _ _ (frameL l) (6 + n) HFL.out (frameL_lt W0.out.lt) (hp2.later hb24) (hr2.later hb24)).mono ?_); rintro e w' ⟨rfl, rfl⟩)
    | (go_at_call 8; go_must (refine (same_yes w4 _ _ _ _ p z HZP.out HPL.out hp4 hr4).mono ?_); rintro e w' ⟨rfl, rfl⟩)
    | (go_at_call 17; refine (alive_any _).mono ?_; rintro e w5 ⟨rfl, hb45⟩))
  go_ret
  exact ⟨rfl, Below.after hb4 hb45⟩

set_option maxHeartbeats 2000000 in
theorem walk_yn (a : Option Addr) (n cap : Nat) (l : List Nat) (w : World) (w0 : BArg w a n cap l) (h1 : 1 ≤ n) (h2 : n ≤ 1024) (his : ¬ isFrame l) :
    Calls Try.prog 4 #[.slice a n cap] w fun e w' => e = .returned (.bool true) ∧ Below w.heap.size w w' := by
  have W0 : Hid (BArg w a n cap l) := w0
  clear w0
  have HFL : Hid (6 + n = (frameL l).length) := by show _ = _; rw [frameL_length, W0.out.len_eq]; omega
  have HIS : Hid (¬ isFrame l) := his
  clear his
  obtain ⟨s, hs⟩ : ∃ s, s = sumL l := ⟨_, rfl⟩
  have HS : Hid (s = sumL l) := hs
  clear hs
  have e1 : ((s : Int) == (s : Int)) = true := by simp
  have M1 : Hid True := trivial
  go_enter Try.func4, Try.ntmps4
  go_wp2_with (first
    | (go_at_call 18; go_must (refine (fr_frame W0.out h1 h2).mono ?_); rintro e w1 ⟨rfl, ho1⟩; have hb1 := ho1.2; have hp1 := own_at ho1; clear ho1)
    | (go_at_call 19; go_must (refine (fr_rframe W0.out hb1 h1 h2).mono ?_); rintro e w2 ⟨v2, rfl, ho2⟩; have hb2 := Below.after hb1 ho2.2; have hp2 := hp1.later ho2.2; obtain ⟨a2, c2, rfl, hr2, _⟩ := own_shape HFL.out ho2.1; clear ho2 hp1)
    | (go_at_call 20; go_must (refine (fr_unno W0.out hb2 HIS.out).mono ?_); rintro e w3 ⟨rfl, hb23⟩; have hb3 := Below.after hb2 hb23)
    | (go_at_call 21; go_must (refine (fr_runno W0.out hb3 HIS.out).mono ?_); rintro e w4 ⟨rfl, hb34⟩; have hb4 := Below.after hb3 hb34; have hb24 := Below.after hb23 hb34)
    | (go_at_call 22; go_must (refine (fr_sum W0.out hb4 HS.out).mono ?_); rintro e w' ⟨rfl, rfl⟩)
    | (go_at_call 23; go_must (refine (fr_rsum W0.out hb4 HS.out).mono ?_); rintro e w' ⟨rfl, rfl⟩)
    | (go_at_call 8; clear M1; go_must (refine (same_yes w4 _ _ _ _ (frameL l) (6 + n) HFL.out (frameL_lt W0.out.lt) (hp2.later hb24) (hr2.later hb24)).mono ?_); rintro e w' ⟨rfl, rfl⟩)
    | (go_at_call 8; go_must (refine (same_yes w4 none none 0 0 [] 0 rfl (by simp) (.inl rfl) (.inl rfl)).mono ?_); rintro e w' ⟨rfl, rfl⟩)
    | (go_at_call 17; refine (alive_any _).mono ?_; rintro e w5 ⟨rfl, hb45⟩))
  go_ret
  exact ⟨rfl, Below.after hb4 hb45⟩

set_option maxHeartbeats 2000000 in
theorem walk_ny (a : Option Addr) (n cap : Nat) (l : List Nat) (w : World) (w0 : BArg w a n cap l) (hno : n = 0 ∨ 1024 < n) (his : isFrame l) :
    Calls Try.prog 4 #[.slice a n cap] w fun e w' => e = .returned (.bool true) ∧ Below w.heap.size w w' := by
  have W0 : Hid (BArg w a n cap l) := w0
  clear w0
  have HNO : Hid (n = 0 ∨ 1024 < n) := hno
  clear hno
  have HIS : Hid (isFrame l) := his
  obtain ⟨z, hz⟩ : ∃ z, z = sizeL l := ⟨_, rfl⟩
  obtain ⟨p, hp⟩ : ∃ p, p = bodyL l := ⟨_, rfl⟩
  have HZ : Hid (z = sizeL l) := hz
  have HPB : Hid (p = bodyL l) := hp
  have HZP : Hid (z = p.length) := by show _ = _; rw [hz, hp]; have := his.2.2.2.1; have := his.1; simp [bodyL]; omega
  have HPL : Hid (∀ x ∈ p, x < 256) := by rw [hp]; exact lt_of_sub W0.out.lt 6 _
  clear hz hp
  have i1 : (6 + (z : Int) == 6 + (z : Int)) = true := by simp
  clear his
  obtain ⟨s, hs⟩ : ∃ s, s = sumL l := ⟨_, rfl⟩
  have HS : Hid (s = sumL l) := hs
  clear hs
  have e1 : ((s : Int) == (s : Int)) = true := by simp
  have M1 : Hid True := trivial
  go_enter Try.func4, Try.ntmps4
  go_wp2_with (first
    | (go_at_call 18; go_must (refine (frame_no _ _ _ _ HNO.out).mono ?_); rintro e w' ⟨rfl, rfl⟩; have hb1 := Below.refl w.heap.size w)
    | (go_at_call 19; go_must (refine (rframe_no _ _ _ _ HNO.out).mono ?_); rintro e w' ⟨rfl, rfl⟩; have hb2 := Below.refl w.heap.size w)
    | (go_at_call 20; go_must (refine (fr_un W0.out hb2 HIS.out HZ.out HPB.out).mono ?_); rintro e w3 ⟨rfl, ho3⟩; have hb3 := Below.after hb2 ho3.2; have hb23 := ho3.2; have hp3 := own_at ho3; clear ho3)
    | (go_at_call 21; go_must (refine (fr_run W0.out hb3 HIS.out HZ.out HPB.out).mono ?_); rintro e w4 ⟨v4, rfl, ho4⟩; have hb4 := Below.after hb3 ho4.2; have hb24 := Below.after hb23 ho4.2; have hp4 := hp3.later ho4.2; obtain ⟨a4, c4, rfl, hr4, _⟩ := own_shape HZP.out ho4.1; clear ho4 hp3 hb23)
    | (go_at_call 22; go_must (refine (fr_sum W0.out hb4 HS.out).mono ?_); rintro e w' ⟨rfl, rfl⟩)
    | (go_at_call 23; go_must (refine (fr_rsum W0.out hb4 HS.out).mono ?_); rintro e w' ⟨rfl, rfl⟩)
    | (go_at_call 8; clear M1; go_must (refine (same_yes w4 none none 0 0 [] 0 rfl (by simp) (.inl rfl) (.inl rfl)).mono ?_); rintro e w' ⟨rfl, rfl⟩)
    | (go_at_call 8; go_must (refine (same_yes w4 _ _ _ _ p z HZP.out HPL.out hp4 hr4).mono ?_); rintro e w' ⟨rfl, rfl⟩)
    | (go_at_call 17; refine (alive_any _).mono ?_; rintro e w5 ⟨rfl, hb45⟩))
  go_ret
  exact ⟨rfl, Below.after hb4 hb45⟩

set_option maxHeartbeats 2000000 in
theorem walk_nn (a : Option Addr) (n cap : Nat) (l : List Nat) (w : World) (w0 : BArg w a n cap l) (hno : n = 0 ∨ 1024 < n) (his : ¬ isFrame l) :
    Calls Try.prog 4 #[.slice a n cap] w fun e w' => e = .returned (.bool true) ∧ Below w.heap.size w w' := by
  have W0 : Hid (BArg w a n cap l) := w0
  clear w0
  have HNO : Hid (n = 0 ∨ 1024 < n) := hno
  clear hno
  have HIS : Hid (¬ isFrame l) := his
  clear his
  obtain ⟨s, hs⟩ : ∃ s, s = sumL l := ⟨_, rfl⟩
  have HS : Hid (s = sumL l) := hs
  clear hs
  have e1 : ((s : Int) == (s : Int)) = true := by simp
  have M1 : Hid True := trivial
  go_enter Try.func4, Try.ntmps4
  go_wp2_with (first
    | (go_at_call 18; go_must (refine (frame_no _ _ _ _ HNO.out).mono ?_); rintro e w' ⟨rfl, rfl⟩; have hb1 := Below.refl w.heap.size w)
    | (go_at_call 19; go_must (refine (rframe_no _ _ _ _ HNO.out).mono ?_); rintro e w' ⟨rfl, rfl⟩; have hb2 := Below.refl w.heap.size w)
    | (go_at_call 20; go_must (refine (fr_unno W0.out hb2 HIS.out).mono ?_); rintro e w3 ⟨rfl, hb23⟩; have hb3 := Below.after hb2 hb23)
    | (go_at_call 21; go_must (refine (fr_runno W0.out hb3 HIS.out).mono ?_); rintro e w4 ⟨rfl, hb34⟩; have hb4 := Below.after hb3 hb34; have hb24 := Below.after hb23 hb34)
    | (go_at_call 22; go_must (refine (fr_sum W0.out hb4 HS.out).mono ?_); rintro e w' ⟨rfl, rfl⟩)
    | (go_at_call 23; go_must (refine (fr_rsum W0.out hb4 HS.out).mono ?_); rintro e w' ⟨rfl, rfl⟩)
    | (go_at_call 8; clear M1; go_must (refine (same_yes w4 none none 0 0 [] 0 rfl (by simp) (.inl rfl) (.inl rfl)).mono ?_); rintro e w' ⟨rfl, rfl⟩)
    | (go_at_call 8; go_must (refine (same_yes w4 none none 0 0 [] 0 rfl (by simp) (.inl rfl) (.inl rfl)).mono ?_); rintro e w' ⟨rfl, rfl⟩)
    | (go_at_call 17; refine (alive_any _).mono ?_; rintro e w5 ⟨rfl, hb45⟩))
  go_ret
  exact ⟨rfl, Below.after hb4 hb45⟩

theorem walk (a0 : Option Addr) (len0 cap0 : Nat) (l0 : List Nat) (w : World) (w0 : BArg w a0 len0 cap0 l0) :
    Calls Try.prog 4 #[.slice a0 len0 cap0] w fun e w' => e = .returned (.bool true) ∧ Below w.heap.size w w' := by
  by_cases h : 1 ≤ len0 ∧ len0 ≤ 1024
  · by_cases hf : isFrame l0
    · exact walk_yy a0 len0 cap0 l0 w w0 h.1 h.2 hf
    · exact walk_yn a0 len0 cap0 l0 w w0 h.1 h.2 hf
  · by_cases hf : isFrame l0
    · exact walk_ny a0 len0 cap0 l0 w w0 (by omega) hf
    · exact walk_nn a0 len0 cap0 l0 w w0 (by omega) hf

set_option maxRecDepth 100000 in
theorem lifted (os : Os) (started : os.Started) (H : Type) (enc : TypeId × Value → H) :
    ReturnsInHanded {} Try.checked os 4 .any (Rows.bitsFramesSpec.pre6 enc Try.prog Try.f4 Rows.bitsFramesRow.domain false) (Rows.bitsFramesSpec.post enc Try.prog Try.f4 false true false false) := by
  refine returnsInHanded_of_change (C := Try.checked) own started (by kernel_rfl) Try.func4
    (ChangeSpec.witness6 (enc := enc) (C := Try.checked) false ⟨#[], #[.slice none 0 0], []⟩ 8 (by kernel_rfl) (by kernel_rfl) (by kernel_rfl) (by kernel_rfl)) ?_
  intro W base args ds gs before hval0 hW hcnd _
  have hval : ∀ (j : Nat) t v, Try.f4.params[j]? = some t → args[j]? = some v → Value.okWide Try.prog W .any base t v := hval0
  have hW' := hW
  obtain ⟨p, q, hA0, hV, rfl, hfz, hnd⟩ := hW
  have hA : DataW.TrodAll enc Try.prog W 0 (fun _ => true) true Try.f4.params.toList args.toList ds p := hA0
  rw [Try.params4] at hA hval
  obtain ⟨v0, vs0, d0, ds0, p0, q0, hargs, rfl, rfl, h0, r0⟩ := trodAll_cons hA
  obtain ⟨rfl, rfl, rfl⟩ := trodAll_nil r0
  obtain rfl : args = #[v0] := by cases args; simp_all
  obtain ⟨rfl, rfl⟩ := trodVars_none hV
  obtain ⟨a0, len0, cap0, rfl⟩ := okWide_slice Try.underlying23 (hval 0 23 v0 rfl rfl)
  have k0 := h0
  have lt0 : ∀ x ∈ p0, x.block < W.heap.size := by obtain ⟨m, hm⟩ := k0; exact DataW.trod_lt m _ _ _ hm
  obtain ⟨l0, w0⟩ : ∃ l, BArg W a0 len0 cap0 l := by
    obtain ⟨fuel, hf⟩ := h0
    exact barg_open hf
  clear hA0 hval0
  refine (walk a0 len0 cap0 l0 W w0).mono fun e W' ⟨he, bel⟩ => ?_
  subst he
  exact ⟨_, rfl, _, _, _, [], _, [], hW', trodAll_mk1 (shut_bool Try.underlying4 _), (trodAll_cons_mk (Below.trod laidOut (by kernel_rfl) (of_decide_eq_true (by kernel_rfl)) k0 bel lt0) trodAll_mk0), rfl, bel.frame _, fun h => by cases h⟩

theorem over : Rows.bitsFramesRow.holds Try.pinned (OpenSpec.ofChange Rows.bitsFramesSpec) :=
  OpenClaim.holds_of_wide 4 Try.f4 rfl rfl rfl rfl rfl rfl rfl ⟨rfl, rfl, rfl, rfl, rfl⟩ rfl rfl rfl rfl rfl (by kernel_rfl) Try.func4 (by kernel_rfl)
    (of_decide_eq_true (by kernel_rfl)) (by unfold Func.isWrapper; first | (rw [if_pos (by decide +kernel)]; kernel_rfl) | (rw [if_neg (by decide +kernel)]; exact ⟨rfl, rfl⟩))
    (fun os started H enc _ => lifted os started H enc)
end Go.Proofs.Ytnogfmfagambeaa.bitsFrames

namespace Go.Proofs.Ytnogfmfagambeaa
theorem bitsFrames_holds : Rows.BitsFramesSaid := bitsFrames.over
#print axioms bitsFrames_holds
end Go.Proofs.Ytnogfmfagambeaa
