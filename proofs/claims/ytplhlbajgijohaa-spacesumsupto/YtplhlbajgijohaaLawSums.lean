/-
  SpaceSums, second form: what two lists of nodes cost together is what each costs; a file costs no less than a lesser one, and no less than its bytes; and the chapter's examples come out. Condition: the arguments are together of bulk at most 1048576 (the first form is false by size: Nodes stops at 2^62, as F16.2 says).
-/
import Derived.Test.YtplhlbajgijohaaPU
namespace Go.Proofs.Ytplhlbajgijohaa.spaceSums
open Go.ChangeShapes Go.WideShapes Go.ChangeAt Go.RowKit Go.Deep Go.Proofs.Ytplhlbajgijohaa
set_option maxRecDepth 10000

theorem fil_mono {s t : Nat} (h : s ≤ t) : filF s ≤ filF t := by
  unfold filF
  split <;> split <;> omega
theorem fil_ge (s : Nat) : s ≤ filF s := by
  unfold filF
  split <;> omega
theorem clamp_mono {a b : Int} (h : a ≤ b) : clampF a ≤ clampF b := by
  unfold clampF
  split <;> split <;> (try split) <;> (try split) <;> omega
theorem allC_small : ∀ {l : List Nw}, (∀ y ∈ l, y.k.size ≤ 1048576 ∧ y.v.size ≤ 1048576) → allC l ≤ l.length * 3145792
  | [], _ => by simp [allC]
  | x :: l, h => by
    have ih := allC_small (l := l) fun y hy => h y (List.mem_cons_of_mem _ hy)
    have hx := h x (List.mem_cons_self ..)
    have e : allC (x :: l) = (if x.g then 0 else x.c) + allC l := by
      have := allC_app [x] l
      rw [List.singleton_append] at this
      rw [this]
      congr 1
      unfold allC
      cases hg : x.g <;> simp [hg]
    have hc : x.c ≤ 3145792 := by unfold Nw.c cst; omega
    rw [e, List.length_cons, Nat.succ_mul]
    split <;> omega
theorem sums {l m : List Nw} (hl : okU l) (hm : okU m) : nodesF (l ++ m) = nodesF l + nodesF m ∧ nodesF l + nodesF m < 4611686018427387904 := by
  have h1 := allC_small hl.2
  have h2 := allC_small hm.2
  have h3 := hl.1
  have h4 := hm.1
  have q1 : l.length * 3145792 ≤ 1048576 * 3145792 := Nat.mul_le_mul_right _ h3
  have q2 : m.length * 3145792 ≤ 1048576 * 3145792 := Nat.mul_le_mul_right _ h4
  unfold nodesF top
  rw [allC_app]
  omega

set_option maxHeartbeats 80000000 in
theorem walk (a : Option Addr) (len cap : Nat) (l : List Nw) (a2 : Option Addr) (len2 cap2 : Nat) (m : List Nw) (x y : Int) (w : World) (hl' : NArg w a len cap l ∧ cap ≤ 1048576 ∧ okU l ∧ (a = none → len = 0 ∧ cap = 0)) (hm' : NArg w a2 len2 cap2 m ∧ cap2 ≤ 1048576 ∧ okU m ∧ (a2 = none → len2 = 0 ∧ cap2 = 0)) (_ : (Lit.int .i64 x).wf = true) (_ : (Lit.int .i64 y).wf = true) :
    Calls Try.prog 8 #[.slice a len cap, .slice a2 len2 cap2, .int .i64 x, .int .i64 y] w fun e w' => e = .returned (.bool true) ∧ Below w.heap.size w w' := by
  obtain ⟨hl, hc1, hu1, hz1⟩ := hl'
  obtain ⟨hm, hc2, hu2, hz2⟩ := hm'
  have h1 := hl.le
  have h2 := hm.le
  have HA : Hid (NArg w a len cap l) := hl
  have HG : Hid (NArg w a2 len2 cap2 m) := hm
  have HN : Hid ((a = none → len = 0 ∧ cap = 0) ∧ (a2 = none → len2 = 0 ∧ cap2 = 0)) := (⟨hz1, hz2⟩ : _ ∧ _)
  obtain ⟨hsum, hlt⟩ := sums hu1 hu2
  have HK : Hid (okK (l ++ m)) := ⟨fun y hy => (List.mem_append.1 hy).elim (hl.keys y) (hm.keys y), fun y hy => (List.mem_append.1 hy).elim (hl.vals y) (hm.vals y)⟩
  have k2 := fun W (h : Below w.heap.size w W) => nodes_any a len cap l W (hl.later h)
  have k3 := fun W (h : Below w.heap.size w W) => nodes_any a2 len2 cap2 m W (hm.later h)
  have k1 : ∀ W b c, NArg W b (len + len2) c (l ++ m) → Calls Try.prog 20 #[.slice b (len + len2) c] W fun e w' => e = .returned (.int .i64 ((nodesF l + nodesF m : Nat) : Int)) ∧ Below W.heap.size W w' := fun W b c h => by
    rw [← hsum]; exact nodes_any b _ c _ W h
  have k4 := fun W => fileC_any x W
  have k5 := fun W => fileC_any y W
  have k6 := fun W => alive_any W
  have hxy : x ≤ y → filF (clampF x) ≤ filF (clampF y) := fun h => fil_mono (clamp_mono h)
  have hx0 : ¬ x < 0 → ¬ 16384 < x → x ≤ ((filF (clampF x) : Nat) : Int) := fun h0 h1 => by
    have e : clampF x = x.toNat := by unfold clampF; rw [if_neg h0, if_neg h1]
    have := fil_ge x.toNat
    rw [e]; omega
  have hm63 : (0 : Nat) + len ≤ maxLen := by unfold maxLen; omega
  have hb : (0 + len) * 40 ≤ 140737488355328 := by omega
  have hm64 : len + len2 ≤ maxLen := by unfold maxLen; omega
  have hb2 : (len + len2) * 40 ≤ 140737488355328 := by omega
  have HLen : Hid (len + len2 = (l ++ m).length) := by show _ = _; rw [List.length_append, ← hl.len_eq, ← hm.len_eq]
  obtain ⟨n1, e1⟩ : ∃ n1, n1 = nodesF l := ⟨_, rfl⟩
  obtain ⟨n2, e2⟩ : ∃ n2, n2 = nodesF m := ⟨_, rfl⟩
  rw [← e1] at k1 k2 hlt
  rw [← e2] at k1 k3 hlt
  obtain ⟨n3, e3⟩ : ∃ n3, n3 = n1 + n2 := ⟨_, rfl⟩
  have hcast : (n1 : Int) + (n2 : Int) = (n3 : Int) := by omega
  rw [← e3] at k1
  have hn3 : (n3 : Int) ≤ 9223372036854775807 := by omega
  have hn1 : ¬ (n1 : Int) < 0 := by omega
  obtain ⟨f1, g1⟩ : ∃ f, f = filF (clampF x) := ⟨_, rfl⟩
  obtain ⟨f2, g2⟩ : ∃ f, f = filF (clampF y) := ⟨_, rfl⟩
  rw [← g1] at k4 hxy hx0
  rw [← g2] at k5 hxy
  clear hl hm hz1 hz2 hu1 hu2 hsum e1 e2 e3 g1 g2 hlt
  have M1 : Hid True := trivial
  have M2 : Hid True := trivial
  have M3 : Hid True := trivial
  have F1 : Hid True := trivial
  have F2 : Hid True := trivial
  have A1 : Hid True := trivial
  have HXY : Hid (x ≤ y → f1 ≤ f2) := hxy
  have HX0 : Hid (¬ x < 0 → ¬ 16384 < x → x ≤ (f1 : Int)) := hx0
  clear hxy hx0
  have split1 : (x ≤ y ∧ ¬ (f2 : Int) < (f1 : Int)) ∨ ¬ x ≤ y := by
    by_cases h : x ≤ y
    · have := HXY.out h; exact .inl ⟨h, by omega⟩
    · exact .inr h
  have split2 : x < 0 ∨ (¬ x < 0 ∧ 16384 < x) ∨ (¬ x < 0 ∧ ¬ 16384 < x ∧ x ≤ (f1 : Int)) := by
    by_cases h0 : x < 0
    · exact .inl h0
    · by_cases h1 : 16384 < x
      · exact .inr (.inl ⟨h0, h1⟩)
      · exact .inr (.inr ⟨h0, h1, HX0.out h0 h1⟩)
  clear HXY HX0
  rcases split1 with ⟨s1, s2⟩ | s1
  rotate_left
  · clear F1 F2
    rcases split2 with t1 | ⟨t1, t2⟩ | ⟨t1, t2, t3⟩
    all_goals
      go_enter Try.func8, Try.ntmps8
      go_wp2_with (first
        | (at_builtin; clear A1; refine wpList_append_nws rfl (.tmp 10) (.tmp 11) rfl w.heap.size (.slice (some ⟨w.heap.size, 0, none⟩) 0 0) 0 [] rfl (World.ownsRow_lit (e := 40) (size := 3) w #[] 0 (Nat.le_refl _) (by decide) rfl) a len cap l rfl HA.out.len_eq (HA.out.row.later (below_new _ _)) HN.out.1 hm63 hb (by simp) ?_; intro v2 w2 hown2 hgrow2; rw [Nat.zero_add, List.nil_append] at hown2; have B2 : Hid (Below w.heap.size w w2) := (below_new w _).grown hgrow2 (by simp) (fun k hk => by simp [Value.ownBlock] at hk; omega); have O2 : Hid (ON w2 w.heap.size v2 len l) := hown2; clear hown2 hgrow2)
        | (at_builtin; refine wpList_append_nws rfl (.tmp 12) (.tmp 13) rfl w.heap.size v2 len l rfl O2.out a2 len2 cap2 m rfl HG.out.len_eq (HG.out.row.later B2.out) HN.out.2 hm64 hb2 B2.out.size ?_; intro v3 w3 hown3 hgrow3; have B3 : Hid (Below w.heap.size w w3) := ON.grown B2.out hgrow3 B2.out.size O2.out; obtain ⟨na, nc, rfl, hN⟩ := ON.narg HLen.out hown3 HK.out; have N3 : Hid (NArg w3 na (len + len2) nc (l ++ m)) := hN; clear hown3 hgrow3 hN)
        | (go_at_call 20; clear M1; refine (k1 _ _ _ N3.out).mono ?_; rintro e w4 ⟨rfl, hb⟩; have B4 : Hid (Below w.heap.size w w4) := Below.after B3.out hb; clear hb k1)
        | (go_at_call 20; clear M2; refine (k2 _ B4.out).mono ?_; rintro e w5 ⟨rfl, hb⟩; have B5 : Hid (Below w.heap.size w w5) := Below.after B4.out hb; clear hb)
        | (go_at_call 20; clear M3; refine (k3 _ B5.out).mono ?_; rintro e w6 ⟨rfl, hb⟩; have B6 : Hid (Below w.heap.size w w6) := Below.after B5.out hb; clear hb k3)
        | (go_at_call 20; refine (k2 _ B6.out).mono ?_; rintro e w7 ⟨rfl, hb⟩; have BC : Hid (Below w.heap.size w w7) := Below.after B6.out hb; clear hb)
        | (go_at_call 26; clear F1; refine (k4 _).mono ?_; rintro e w8 ⟨rfl, hb⟩; replace BC : Hid (Below w.heap.size w w8) := Below.after BC.out hb; clear hb)
        | (go_at_call 26; clear F2; refine (k5 _).mono ?_; rintro e w8 ⟨rfl, hb⟩; replace BC : Hid (Below w.heap.size w w8) := Below.after BC.out hb; clear hb)
        | (go_at_call 26; refine (k4 _).mono ?_; rintro e w8 ⟨rfl, hb⟩; replace BC : Hid (Below w.heap.size w w8) := Below.after BC.out hb; clear hb)
        | (go_at_call 17; refine (k6 _).mono ?_; rintro e w9 ⟨rfl, hb⟩; replace BC : Hid (Below w.heap.size w w9) := Below.after BC.out hb; clear hb))
      go_ret
      exact ⟨rfl, BC.out⟩
  · rcases split2 with t1 | ⟨t1, t2⟩ | ⟨t1, t2, t3⟩
    all_goals
      go_enter Try.func8, Try.ntmps8
      go_wp2_with (first
        | (at_builtin; clear A1; refine wpList_append_nws rfl (.tmp 10) (.tmp 11) rfl w.heap.size (.slice (some ⟨w.heap.size, 0, none⟩) 0 0) 0 [] rfl (World.ownsRow_lit (e := 40) (size := 3) w #[] 0 (Nat.le_refl _) (by decide) rfl) a len cap l rfl HA.out.len_eq (HA.out.row.later (below_new _ _)) HN.out.1 hm63 hb (by simp) ?_; intro v2 w2 hown2 hgrow2; rw [Nat.zero_add, List.nil_append] at hown2; have B2 : Hid (Below w.heap.size w w2) := (below_new w _).grown hgrow2 (by simp) (fun k hk => by simp [Value.ownBlock] at hk; omega); have O2 : Hid (ON w2 w.heap.size v2 len l) := hown2; clear hown2 hgrow2)
        | (at_builtin; refine wpList_append_nws rfl (.tmp 12) (.tmp 13) rfl w.heap.size v2 len l rfl O2.out a2 len2 cap2 m rfl HG.out.len_eq (HG.out.row.later B2.out) HN.out.2 hm64 hb2 B2.out.size ?_; intro v3 w3 hown3 hgrow3; have B3 : Hid (Below w.heap.size w w3) := ON.grown B2.out hgrow3 B2.out.size O2.out; obtain ⟨na, nc, rfl, hN⟩ := ON.narg HLen.out hown3 HK.out; have N3 : Hid (NArg w3 na (len + len2) nc (l ++ m)) := hN; clear hown3 hgrow3 hN)
        | (go_at_call 20; clear M1; refine (k1 _ _ _ N3.out).mono ?_; rintro e w4 ⟨rfl, hb⟩; have B4 : Hid (Below w.heap.size w w4) := Below.after B3.out hb; clear hb k1)
        | (go_at_call 20; clear M2; refine (k2 _ B4.out).mono ?_; rintro e w5 ⟨rfl, hb⟩; have B5 : Hid (Below w.heap.size w w5) := Below.after B4.out hb; clear hb)
        | (go_at_call 20; clear M3; refine (k3 _ B5.out).mono ?_; rintro e w6 ⟨rfl, hb⟩; have B6 : Hid (Below w.heap.size w w6) := Below.after B5.out hb; clear hb k3)
        | (go_at_call 20; refine (k2 _ B6.out).mono ?_; rintro e w7 ⟨rfl, hb⟩; have BC : Hid (Below w.heap.size w w7) := Below.after B6.out hb; clear hb)
        | (go_at_call 26; clear F1; refine (k4 _).mono ?_; rintro e w8 ⟨rfl, hb⟩; replace BC : Hid (Below w.heap.size w w8) := Below.after BC.out hb; clear hb)
        | (go_at_call 26; clear F2; refine (k5 _).mono ?_; rintro e w8 ⟨rfl, hb⟩; replace BC : Hid (Below w.heap.size w w8) := Below.after BC.out hb; clear hb)
        | (go_at_call 26; refine (k4 _).mono ?_; rintro e w8 ⟨rfl, hb⟩; replace BC : Hid (Below w.heap.size w w8) := Below.after BC.out hb; clear hb)
        | (go_at_call 17; refine (k6 _).mono ?_; rintro e w9 ⟨rfl, hb⟩; replace BC : Hid (Below w.heap.size w w9) := Below.after BC.out hb; clear hb))
      go_ret
      exact ⟨rfl, BC.out⟩

set_option maxRecDepth 100000 in
theorem contract (H : Type) (enc : TypeId × Value → H) (W : World) (base : Nat) (args : Array Value) (ds gs : List (DataW H)) (before : List MemPlace)
    (hval : ∀ (j : Nat) t v, Try.f8.params[j]? = some t → args[j]? = some v → Value.okWide Try.prog W .any base t v)
    (hW : DataW.Whole enc Try.prog Try.f8.params.toList Rows.spaceSumsSpec.vars false W args.toList ds gs before) (hk : Rows.uptoSmall H (ds ++ gs) = true) :
    Calls Try.prog 8 args W fun e W' => ∃ v, e = .returned v ∧ Rows.spaceSumsSpec.post enc Try.prog Try.f8 false true false false W args v W' := by
  have hW' := hW
  obtain ⟨p, q, hA0, hV, rfl, hfz, hnd⟩ := hW
  have hA : DataW.TrodAll enc Try.prog W 0 (fun _ => true) true Try.f8.params.toList args.toList ds p := hA0
  rw [Try.params8] at hA hval
  obtain ⟨v0, vs0, d0, ds0, p0, q0, hargs, rfl, rfl, h0, r0⟩ := trodAll_cons hA
  obtain ⟨v1, vs1, d1, ds1, p1, q1, rfl, rfl, rfl, h1, r1⟩ := trodAll_cons r0
  obtain ⟨v2, vs2, d2, ds2, p2, q2, rfl, rfl, rfl, h2, r2⟩ := trodAll_cons r1
  obtain ⟨v3, vs3, d3, ds3, p3, q3, rfl, rfl, rfl, h3, r3⟩ := trodAll_cons r2
  obtain ⟨rfl, rfl, rfl⟩ := trodAll_nil r3
  obtain rfl : args = #[v0, v1, v2, v3] := by cases args; simp_all
  obtain ⟨rfl, rfl⟩ := trodVars_none hV
  simp only [List.append_nil] at hk
  have hb : Rows.uptoBulkAll ([d0, d1, d2, d3] : List (DataW H)) ≤ 1048576 := of_decide_eq_true hk
  simp only [Rows.uptoBulkAll] at hb
  obtain ⟨a0, len0, cap0, rfl⟩ := okWide_slice Try.underlying27 (hval 0 27 v0 rfl rfl)
  have k0 := h0
  have lt0 : ∀ x ∈ p0, x.block < W.heap.size := by obtain ⟨m, hm⟩ := k0; exact DataW.trod_lt m _ _ _ hm
  obtain ⟨l0, w0⟩ : ∃ l, NArg W a0 len0 cap0 l ∧ cap0 ≤ 1048576 ∧ okU l ∧ (a0 = none → len0 = 0 ∧ cap0 = 0) := by
    obtain ⟨fuel, hf⟩ := h0
    obtain ⟨l, hl⟩ := narg_open hf
    obtain ⟨q1, q2, q3⟩ := narg_bulk hl (by omega)
    exact ⟨l, q1, q2, q3, narg_nil hf⟩
  obtain ⟨a1, len1, cap1, rfl⟩ := okWide_slice Try.underlying27 (hval 1 27 v1 rfl rfl)
  have k1 := h1
  have lt1 : ∀ x ∈ p1, x.block < W.heap.size := by obtain ⟨m, hm⟩ := k1; exact DataW.trod_lt m _ _ _ hm
  obtain ⟨l1, w1⟩ : ∃ l, NArg W a1 len1 cap1 l ∧ cap1 ≤ 1048576 ∧ okU l ∧ (a1 = none → len1 = 0 ∧ cap1 = 0) := by
    obtain ⟨fuel, hf⟩ := h1
    obtain ⟨l, hl⟩ := narg_open hf
    obtain ⟨q1, q2, q3⟩ := narg_bulk hl (by omega)
    exact ⟨l, q1, q2, q3, narg_nil hf⟩
  obtain ⟨a2, rfl, rfl, rfl, w2⟩ := open_int Try.underlying3 (hval 2 3 v2 rfl rfl) h2
  obtain ⟨a3, rfl, rfl, rfl, w3⟩ := open_int Try.underlying3 (hval 3 3 v3 rfl rfl) h3
  clear hA0
  refine (walk a0 len0 cap0 l0 a1 len1 cap1 l1 a2 a3 W w0 w1 w2 w3).mono fun e W' ⟨he, bel⟩ => ?_
  subst he
  exact ⟨_, rfl, _, _, _, [], _, [], hW', trodAll_mk1 (shut_bool Try.underlying4 _), (trodAll_cons_mk (Below.trod laidOut (by kernel_rfl) (of_decide_eq_true (by kernel_rfl)) k0 bel lt0) (trodAll_cons_mk (Below.trod laidOut (by kernel_rfl) (of_decide_eq_true (by kernel_rfl)) k1 bel lt1) (trodAll_cons_mk (shut_int Try.underlying3 w2) (trodAll_cons_mk (shut_int Try.underlying3 w3) trodAll_mk0)))), rfl, bel.frame _, fun h => by cases h⟩

set_option maxRecDepth 100000 in
theorem lifted (os : Os) (started : os.Started) (H : Type) (enc : TypeId × Value → H) (F : Stop.Interp) :
    ReturnsInHanded {} Try.checked os 8 .any ((Rows.OpenSpec.upto Rows.spaceSumsSpec).pre6 enc Try.prog Try.f8 Rows.spaceSumsUptoRow.domain false) (((Rows.OpenSpec.upto Rows.spaceSumsSpec).at F).post enc Try.prog Try.f8 false true false false) := by
  refine returnsInHanded_of_cond (C := Try.checked) (s := Rows.OpenSpec.upto Rows.spaceSumsSpec) (k := Rows.uptoSmall) rfl own started (by kernel_rfl) Try.func8
    (OpenSpec.witness (enc := enc) (C := Try.checked) (s := Rows.OpenSpec.upto Rows.spaceSumsSpec) (k := Rows.uptoSmall) rfl false ⟨#[], #[.slice none 0 0, .slice none 0 0, .int .i64 0, .int .i64 0], []⟩ 8 (by kernel_rfl) (by kernel_rfl) (by kernel_rfl)
      (x := ([.nil, .nil, .lit (.int .i64 0), .lit (.int .i64 0)], [], [])) (by kernel_rfl) rfl (by kernel_rfl)) ?_
  intro W base args ds gs before hval hW _ hk _
  exact contract H enc W base args ds gs before hval hW hk

theorem over : Rows.SpaceSumsUptoSaid :=
  OpenClaim.holds_of_cond 8 Try.f8 rfl rfl rfl rfl rfl rfl rfl ⟨rfl, rfl, rfl, rfl, rfl⟩ rfl rfl rfl rfl rfl (by kernel_rfl) Try.func8 (by kernel_rfl)
    (of_decide_eq_true (by kernel_rfl)) (by unfold Func.isWrapper; first | (rw [if_pos (by decide +kernel)]; kernel_rfl) | (rw [if_neg (by decide +kernel)]; exact ⟨rfl, rfl⟩))
    (fun os started H enc _ F => lifted os started H enc F)
end Go.Proofs.Ytplhlbajgijohaa.spaceSums

namespace Go.Proofs.Ytplhlbajgijohaa
theorem spaceSumsUpto_holds : Rows.SpaceSumsUptoSaid := spaceSums.over
#print axioms spaceSumsUpto_holds
end Go.Proofs.Ytplhlbajgijohaa
