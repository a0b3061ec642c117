/-
  Proved: the statement on paths that are parted, joined and parted again (NamesBack): for every text; no condition.
-/
import Derived.Test.YtnhoaafpdckmjaaNArg
namespace Go.Proofs.Ytnhoaafpdckmjaa.namesBack
open Go.ChangeShapes Go.WideShapes Go.ChangeAt Go.RowKit Go.Shelf M

theorem back_err {s : List UInt8} (h : err s = 0) (hl : (joined (parts s)).length ≤ 255) : err (joined (parts s)) = 0 ∧ told (joined (parts s)) = told s := by
  obtain ⟨h1, h2, h3, h4, h5⟩ := err_zero.1 h
  have hp : parts (joined (parts s)) = parts s := parts_joined (fun p hp => ⟨(parts_mem hp).1, (parts_mem hp).2.1⟩)
  have e : err (joined (parts s)) = 0 := by
    refine err_zero.2 ⟨?_, hl, ?_, ?_, ?_⟩
    · unfold joined; split
      · simp
      · rename_i hne
        cases hq : parts s with
        | nil => exact absurd hq hne
        | cons p ps => simp [slashed]
    · unfold joined; split
      · simp
      · intro hm
        unfold slashed at hm
        obtain ⟨p, hp1, hp2⟩ := List.mem_flatMap.1 hm
        rcases List.mem_cons.1 hp2 with h | h
        · simp at h
        · exact h3 ((parts_mem hp1).2.2 0 h)
    · rw [hp]; exact h4
    · rw [hp]; exact h5
  refine ⟨e, ?_⟩
  unfold told
  rw [if_pos e, if_pos h, hp]

set_option maxHeartbeats 1000000 in
theorem walk_no (s : List UInt8) (z : Int) (hz : z = err s) (he : z ≠ 0) (w : World) :
    Calls Try.prog 6 #[.string (bs s)] w fun e w' => e = .returned (.bool true) ∧ Below w.heap.size w w' := by
  have h1 : told s = [] := by unfold told; rw [if_neg (by rw [← hz]; exact he)]
  have h2 : ends s = false := by unfold ends; rw [decide_eq_false (by rw [← hz]; exact he)]; rfl
  have hs := split_at s false z [] h2.symm hz (by rw [h1]; rfl) w
  obtain ⟨S, hS⟩ : ∃ S, S = bs s := ⟨_, rfl⟩
  rw [← hS] at hs ⊢
  simp only [List.length_nil] at hs
  have e1 : (z == 0) = false := by simpa using he
  clear hS hz he h1 h2
  go_enter Try.func6, Try.ntmps6
  go_wp2_with (first
    | (go_at_call 9; refine hs.mono ?_; rintro e w1 ⟨a, cap, rfl, hr, hnil, hcap, hmax, hb⟩)
    | (go_at_call 14; refine (alive_any _).mono ?_; rintro e w2 ⟨rfl, hb2⟩))
  go_ret
  exact ⟨rfl, Below.after (Below.after hb (below_new w1 _)) hb2⟩

set_option maxHeartbeats 2000000 in
theorem walk_yes (s : List UInt8) (he : err s = 0) (w : World) :
    Calls Try.prog 6 #[.string (bs s)] w fun e w' => e = .returned (.bool true) ∧ Below w.heap.size w w' := by
  have ht : told s = parts s := by unfold told; rw [if_pos he]
  obtain ⟨_, _, _, hq1, hq2⟩ := err_zero.1 he
  obtain ⟨ps, hps⟩ : ∃ ps, ps = (told s).map bs := ⟨_, rfl⟩
  have hs := split_at s (ends s) 0 ps rfl he.symm hps w
  have hd : datas ps = parts s := by rw [hps, ht, datas_bs]
  have hlen : ps.length ≤ 32 := by rw [hps, ht, List.length_map]; exact hq1
  obtain ⟨J, hJ⟩ : ∃ J, J = joined (parts s) := ⟨_, rfl⟩
  have hb1 : J.length ≤ 800 := by
    rw [hJ]; unfold joined; split
    · simp
    · exact slashed_le hq1 hq2
  have HJ : Hid (∀ (a : Option Addr) (c : Nat) (W : World), ps.length ≤ c → SRow W a ps → Calls Try.prog 19 #[.slice a ps.length c] W fun e w' => e = .returned (.string (bs J)) ∧ Below W.heap.size W w') := by
    intro a c W hc hr
    rw [hJ, ← hd]
    exact join_any a ps.length c ps W rfl hc hr (by omega) (by rw [hd, ← hJ]; omega)
  have hback : J.length ≤ 255 → err J = 0 ∧ (told J).map bs = ps := by
    rw [hJ, hps]; intro h; obtain ⟨q1, q2⟩ := back_err he h; exact ⟨q1, by rw [q2]⟩
  have hsz := bs_size J
  obtain ⟨n, hn⟩ : ∃ n, n = ps.length := ⟨_, rfl⟩
  rw [← hn] at hs hlen HJ
  have HN : Hid (n = ps.length) := hn
  obtain ⟨S, hS⟩ : ∃ S, S = bs s := ⟨_, rfl⟩
  rw [← hS] at hs ⊢
  clear hS hps hd hJ hq1 hq2 ht he hn
  by_cases hl : J.length ≤ 255
  · obtain ⟨q1, q2⟩ := hback hl
    have hs2 := fun W => split_at J (ends J) 0 ps rfl q1.symm q2.symm W
    rw [← HN.out] at hs2
    obtain ⟨Js, hJs⟩ : ∃ Js, Js = bs J := ⟨_, rfl⟩
    rw [← hJs] at HJ hs2 hsz
    have hle : ¬ (255 : Int) < (Js.size : Int) := by omega
    clear hback q1 q2 hJs
    have M1 : Hid True := trivial
    have M2 : Hid True := trivial
    go_enter Try.func6, Try.ntmps6
    go_wp2_with (first
      | (go_at_call 9; clear M1; go_must (refine hs.mono ?_); rintro e w1 ⟨a, cap, rfl, hr1, hnil, hcap, hmax, hb1⟩; have hk1 : Blk (w1.alloc (Obj.cells #[Value.slice a n cap, Value.bool (ends s)] 24)) w1.heap.size #[Value.slice a n cap, Value.bool (ends s)] 24 := World.alloc_heap_new w1 _; have hr2 := hr1.later (below_new w1 (Obj.cells #[Value.slice a n cap, Value.bool (ends s)] 24)); have hy1 := Below.after hb1 (below_new w1 (Obj.cells #[Value.slice a n cap, Value.bool (ends s)] 24)); clear hr1 hb1 hs)
      | (go_at_call 19; clear M2; go_must (refine (HJ.out a cap _ hcap hr2).mono ?_); rintro e w2 ⟨rfl, hb2⟩; have hk2 := hk1.later hb2; have hr3 := hr2.later hb2; have hy2 := Below.after hy1 hb2; clear hr2 hb2 hk1 hy1)
      | (go_at_call 9; go_must (refine (hs2 w2).mono ?_); rintro e w3 ⟨a2, cap2, rfl, hr4, hnil2, hcap2, hmax2, hb3⟩; have hk3 := (hk2.later hb3).later (below_new w3 (Obj.cells #[Value.slice a2 n cap2, Value.bool (ends J)] 24)); have hr5 := (hr3.later hb3).later (below_new w3 (Obj.cells #[Value.slice a2 n cap2, Value.bool (ends J)] 24)); have hr6 := hr4.later (below_new w3 (Obj.cells #[Value.slice a2 n cap2, Value.bool (ends J)] 24)); have hq3 : Blk (w3.alloc (Obj.cells #[Value.slice a2 n cap2, Value.bool (ends J)] 24)) w3.heap.size #[Value.slice a2 n cap2, Value.bool (ends J)] 24 := World.alloc_heap_new w3 _; have hy3 := Below.after (Below.after hy2 hb3) (below_new w3 (Obj.cells #[Value.slice a2 n cap2, Value.bool (ends J)] 24)); have c3 := hk3.cell0; clear hr3 hr4 hb3 hk2 hy2)
      | (go_at_call 19; go_must (refine (HJ.out a cap _ hcap hr5).mono ?_); rintro e w4 ⟨rfl, hb4⟩; have hk4 := hk3.later hb4; have hq4 := hq3.later hb4; have hr7 := hr5.later hb4; have hr8 := hr6.later hb4; have hy4 := Below.after hy3 hb4; have c4 := hk4.cell0; have c5 := hq4.cell0; clear hr5 hr6 hb4 hk3 hq3 hy3 c3)
      | (go_at_call 21; go_must (refine (texts_any a n cap ps a2 n cap2 ps w4 HN.out HN.out (by unfold maxLen; omega) hr7 hr8).mono ?_); rw [decide_eq_true (rfl : ps = ps)]; rintro e w5 ⟨rfl, q, rfl⟩; have hy5 := Below.after hy4 (below_drawn w4 q))
      | (go_at_call 14; refine (alive_any _).mono ?_; rintro e w6 ⟨rfl, hb6⟩))
    go_ret
    exact ⟨rfl, Below.after hy5 hb6⟩
  · have hs2 := fun W => split_at J (ends J) (err J) _ rfl rfl rfl W
    obtain ⟨Js, hJs⟩ : ∃ Js, Js = bs J := ⟨_, rfl⟩
    rw [← hJs] at HJ hs2 hsz
    obtain ⟨qs, hqs⟩ : ∃ qs, qs = (told J).map bs := ⟨_, rfl⟩
    rw [← hqs] at hs2
    obtain ⟨m, hm⟩ : ∃ m, m = qs.length := ⟨_, rfl⟩
    rw [← hm] at hs2
    have hle : (255 : Int) < (Js.size : Int) := by omega
    clear hback hJs hqs hm
    have M1 : Hid True := trivial
    have M2 : Hid True := trivial
    go_enter Try.func6, Try.ntmps6
    go_wp2_with (first
      | (go_at_call 9; clear M1; go_must (refine hs.mono ?_); rintro e w1 ⟨a, cap, rfl, hr1, hnil, hcap, hmax, hb1⟩; have hk1 : Blk (w1.alloc (Obj.cells #[Value.slice a n cap, Value.bool (ends s)] 24)) w1.heap.size #[Value.slice a n cap, Value.bool (ends s)] 24 := World.alloc_heap_new w1 _; have hr2 := hr1.later (below_new w1 (Obj.cells #[Value.slice a n cap, Value.bool (ends s)] 24)); have hy1 := Below.after hb1 (below_new w1 (Obj.cells #[Value.slice a n cap, Value.bool (ends s)] 24)); clear hr1 hb1 hs)
      | (go_at_call 19; clear M2; go_must (refine (HJ.out a cap _ hcap hr2).mono ?_); rintro e w2 ⟨rfl, hb2⟩; have hk2 := hk1.later hb2; have hr3 := hr2.later hb2; have hy2 := Below.after hy1 hb2; clear hr2 hb2 hk1 hy1)
      | (go_at_call 9; go_must (refine (hs2 w2).mono ?_); rintro e w3 ⟨a2, cap2, rfl, hr4, hnil2, hcap2, hmax2, hb3⟩; have hk3 := (hk2.later hb3).later (below_new w3 (Obj.cells #[Value.slice a2 m cap2, Value.bool (ends J)] 24)); have hr5 := (hr3.later hb3).later (below_new w3 (Obj.cells #[Value.slice a2 m cap2, Value.bool (ends J)] 24)); have hy3 := Below.after (Below.after hy2 hb3) (below_new w3 (Obj.cells #[Value.slice a2 m cap2, Value.bool (ends J)] 24)); have c3 := hk3.cell0; clear hr3 hr4 hb3 hk2 hy2)
      | (go_at_call 19; go_must (refine (HJ.out a cap _ hcap hr5).mono ?_); rintro e w4 ⟨rfl, hb4⟩; have hy4 := Below.after hy3 hb4)
      | (go_at_call 14; refine (alive_any _).mono ?_; rintro e w6 ⟨rfl, hb6⟩))
    go_ret
    exact ⟨rfl, Below.after hy4 hb6⟩

theorem walk (s : ByteArray) (w : World) (_ : s.size ≤ maxLen) :
    Calls Try.prog 6 #[.string s] w fun e w' => e = .returned (.bool true) ∧ Below w.heap.size w w' := by
  rw [← bs_of s]
  by_cases h : err s.data.toList = 0
  · exact walk_yes _ h w
  · exact walk_no _ _ rfl h w

set_option maxRecDepth 100000 in
theorem lifted (os : Os) (started : os.Started) (H : Type) (enc : TypeId × Value → H) :
    ReturnsInHanded {} Try.checked os 6 .any (Rows.namesBackSpec.pre6 enc Try.prog Try.f6 Rows.namesBackRow.domain false) (Rows.namesBackSpec.post enc Try.prog Try.f6 false true false false) := by
  refine returnsInHanded_of_change (C := Try.checked) own started (by kernel_rfl) Try.func6
    (ChangeSpec.witness6 (enc := enc) (C := Try.checked) false ⟨#[], #[.string ⟨#[]⟩], []⟩ 8 (by kernel_rfl) (by kernel_rfl) (by kernel_rfl) (by kernel_rfl)) ?_
  intro W base args ds gs before hval0 hW hcnd _
  have hval : ∀ (j : Nat) t v, Try.f6.params[j]? = some t → args[j]? = some v → Value.okWide Try.prog W .any base t v := hval0
  have hW' := hW
  obtain ⟨p, q, hA0, hV, rfl, hfz, hnd⟩ := hW
  have hA : DataW.TrodAll enc Try.prog W 0 (fun _ => true) true Try.f6.params.toList args.toList ds p := hA0
  rw [Try.params6] at hA hval
  obtain ⟨v0, vs0, d0, ds0, p0, q0, hargs, rfl, rfl, h0, r0⟩ := trodAll_cons hA
  obtain ⟨rfl, rfl, rfl⟩ := trodAll_nil r0
  obtain rfl : args = #[v0] := by cases args; simp_all
  obtain ⟨rfl, rfl⟩ := trodVars_none hV
  obtain ⟨a0, rfl, rfl, rfl, w0⟩ := Go.ChangeMaps.open_string Try.underlying9 (hval 0 9 v0 rfl rfl) h0
  clear hA0 hval0
  refine (walk a0 W w0).mono fun e W' ⟨he, bel⟩ => ?_
  subst he
  exact ⟨_, rfl, _, _, _, [], _, [], hW', trodAll_mk1 (shut_bool Try.underlying4 _), (trodAll_cons_mk (Go.ChangeMaps.shut_string Try.underlying9 w0) trodAll_mk0), rfl, bel.frame _, fun h => by cases h⟩

theorem over : Rows.namesBackRow.holds Try.pinned (OpenSpec.ofChange Rows.namesBackSpec) :=
  OpenClaim.holds_of_wide 6 Try.f6 rfl rfl rfl rfl rfl rfl rfl ⟨rfl, rfl, rfl, rfl, rfl⟩ rfl rfl rfl rfl rfl (by kernel_rfl) Try.func6 (by kernel_rfl)
    (of_decide_eq_true (by kernel_rfl)) (by unfold Func.isWrapper; first | (rw [if_pos (by decide +kernel)]; kernel_rfl) | (rw [if_neg (by decide +kernel)]; exact ⟨rfl, rfl⟩))
    (fun os started H enc _ => lifted os started H enc)
end Go.Proofs.Ytnhoaafpdckmjaa.namesBack

namespace Go.Proofs.Ytnhoaafpdckmjaa
theorem namesBack_holds : Rows.NamesBackSaid := namesBack.over
#print axioms namesBack_holds
end Go.Proofs.Ytnhoaafpdckmjaa
