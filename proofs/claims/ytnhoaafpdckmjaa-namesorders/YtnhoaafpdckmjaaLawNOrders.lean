/-
  Proved: the statement on the order of texts, on sorted lists and on being within, against the document's answers (NamesOrders): for every two texts and every two lists of texts; no condition.
-/
import Derived.Test.YtnhoaafpdckmjaaNRefD
import Derived.Test.YtnhoaafpdckmjaaNWithin
import Derived.Test.YtnhoaafpdckmjaaNArg
namespace Go.Proofs.Ytnhoaafpdckmjaa.namesOrders
open Go.ChangeShapes Go.WideShapes Go.ChangeAt Go.RowKit Go.Shelf M

/-- The two lists and the copy of the first, as they lie. -/
structure Lies (w0 w : World) (al : Option Addr) (n c : Nat) (l : List ByteArray) (am : Option Addr) (m d : Nat) (k : List ByteArray) (ao : Option Addr) (co : Nat) : Prop where
  A : SArg w al n c l
  B : SArg w am m d k
  O : SRow w ao l
  nil : ao = none → n = 0 ∧ co = 0
  le : n ≤ co
  bel : Below w0.heap.size w0 w
theorem SArg.later {w w' : World} {a : Option Addr} {len cap : Nat} {l : List ByteArray} (h : SArg w a len cap l) (hb : Below w.heap.size w w') : SArg w' a len cap l :=
  ⟨h.len_eq, h.le, h.max, h.lt, h.row.later hb, h.nil⟩
theorem Lies.later {w0 w w' : World} {al am ao : Option Addr} {n c m d co : Nat} {l k : List ByteArray} (h : Lies w0 w al n c l am m d k ao co) (hb : Below w.heap.size w w') : Lies w0 w' al n c l am m d k ao co :=
  ⟨SArg.later h.A hb, SArg.later h.B hb, h.O.later hb, h.nil, h.le, Below.after h.bel hb⟩
theorem below_copy {w w' : World} (hg : (w.alloc (.cells #[] 9)).grownBy w' (Value.ownBlock (.slice (some ⟨w.heap.size, 0, none⟩) 0 0))) : Below w.heap.size w w' :=
  (below_new w _).grown hg (by simp) (fun k hk => by simp [Value.ownBlock] at hk; omega)

set_option maxRecDepth 100000 in
set_option maxHeartbeats 4000000 in
theorem walk (a b : ByteArray) (al : Option Addr) (n c : Nat) (l : List ByteArray) (am : Option Addr) (m d : Nat) (k : List ByteArray) (w : World) (ha : a.size ≤ maxLen) (hb : b.size ≤ maxLen) (wl : SArg w al n c l) (sl : c * 16 ≤ 140737488351232) (wm : SArg w am m d k) (_ : d * 16 ≤ 140737488351232) :
    Calls Try.prog 5 #[.string a, .string b, .slice al n c, .slice am m d] w fun e w' => e = .returned (.bool true) ∧ Below w.heap.size w w' := by
  have hn : n * 16 ≤ 140737488351232 := by have := wl.le; omega
  have HL : Hid (SArg w al n c l) := wl
  have HK : Hid (SArg w am m d k) := wm
  have hrl : ∀ W, Calls Try.prog 23 #[.string a, .string b] W fun e w' => e = .returned (.bool (lt a b)) ∧ Below W.heap.size W w' := by
    intro W
    have h := rless_any a.data.toList b.data.toList (by rw [Array.length_toList]; exact ha) (by rw [Array.length_toList]; exact hb) W
    rw [bs_of, bs_of, ← lt_of] at h
    refine h.mono ?_
    rintro e w' ⟨rfl, q, rfl⟩
    exact ⟨rfl, below_drawn _ _⟩
  have hll := less_any a b
  obtain ⟨r, hr⟩ : ∃ r, r = lt a b := ⟨_, rfl⟩
  rw [← hr] at hrl hll
  obtain ⟨p, hp⟩ : ∃ p, p = decide (k <+: l) := ⟨_, rfl⟩
  have HP : Hid (p = decide (k <+: l)) := hp
  have hmm : n ≤ maxLen := Nat.le_trans wl.le wl.max
  have HNS : Hid (n = (sorted l).length) := by rw [sorted_length]; exact wl.len_eq
  clear wl wm sl ha hb hr hp
  have M1 : Hid True := trivial
  go_enter Try.func5, Try.ntmps5
  go_wp2_with (first
    | (at_builtin; go_must (refine wpList_append_strs rfl (.tmp 10) (.tmp 11) rfl w.heap.size (.slice (some ⟨w.heap.size, 0, none⟩) 0 0) 0 [] rfl (own_empty w _ (Nat.le_refl _)) al n c l rfl HL.out.len_eq (HL.out.row.later (below_new w _)) HL.out.nil (by unfold maxLen; omega) (by omega) (by simp) ?_); intro v1 x1 ho1 hg1; simp only [Nat.zero_add, List.nil_append] at ho1; have hb1 := below_copy hg1; obtain ⟨ao, co, rfl, hro, hno, hco, _⟩ := owns_row' HL.out.len_eq ho1; have T1 : Lies w x1 al n c l am m d k ao co := ⟨SArg.later HL.out hb1, SArg.later HK.out hb1, hro, hno, hco, hb1⟩; clear ho1 hg1 hb1 hro hno hco)
    | (go_at_call 22; go_must (refine (hll _).mono ?_); rintro e w' ⟨rfl, rfl⟩)
    | (go_at_call 23; go_must (refine (hrl _).mono ?_); rintro e x2 ⟨rfl, hb2⟩; have T2 := T1.later hb2; clear T1 hb2)
    | (go_at_call 24; go_must (refine (sort_any ao n co l x2 T2.A.len_eq (by omega) T2.O T2.nil).mono ?_); rintro e x3 ⟨a3, c3, rfl, hr3, hc3, hm3, hb3⟩; have T3 := T2.later hb3; clear T2 hb3)
    | (go_at_call 25; go_must (refine (rsort_any al n c l x3 T3.A.len_eq hn T3.A.lt T3.A.row).mono ?_); rintro e x4 ⟨a4, c4, rfl, hr4, hb4⟩; have T4 := T3.later hb4; have hr5 := hr3.later hb4; clear T3 hb4 hr3)
    | (go_at_call 21; clear M1; go_must (refine (texts_any a3 n c3 (sorted l) a4 n c4 (sorted l) x4 HNS.out HNS.out hmm hr5 hr4).mono ?_); rw [decide_eq_true (rfl : sorted l = sorted l)]; rintro e x5 ⟨rfl, q5, hq5⟩; have T5 : Lies w x5 al n c l am m d k ao co := by rw [hq5]; exact T4.later (below_drawn _ _)
       clear T4 hr5 hr4 hq5)
    | (go_at_call 21; go_must (refine (texts_any ao n co l al n c l x5 T5.A.len_eq T5.A.len_eq hmm T5.O T5.A.row).mono ?_); rw [decide_eq_true (rfl : l = l)]; rintro e x6 ⟨rfl, q6, hq6⟩; have T6 : Lies w x6 al n c l am m d k ao co := by rw [hq6]; exact T5.later (below_drawn _ _)
       clear T5 hq6)
    | (go_at_call 26; go_must (refine (within_any al n c l am m d k x6 T6.A.len_eq T6.B.len_eq T6.A.le hmm (Nat.le_trans T6.B.le T6.B.max) T6.A.row T6.A.nil T6.B.row).mono ?_); rw [← HP.out]; rintro e x7 ⟨rfl, q7, hq7⟩; have T7 : Lies w x7 al n c l am m d k ao co := by rw [hq7]; exact T6.later (below_drawn _ _)
       clear T6 hq7)
    | (go_at_call 27; go_must (refine (rwithin_any al n c l am m d k x7 T7.A.len_eq T7.B.len_eq hmm T7.A.row T7.B.row).mono ?_); rw [← HP.out]; rintro e x8 ⟨rfl, q8, hq8⟩; have T8 : Lies w x8 al n c l am m d k ao co := by rw [hq8]; exact T7.later (below_drawn _ _)
       clear T7 hq8)
    | (go_at_call 14; refine (alive_any _).mono ?_; rintro e x9 ⟨rfl, hb9⟩))
  go_ret
  exact ⟨by simp, Below.after T8.bel hb9⟩

set_option maxRecDepth 100000 in
theorem lifted (os : Os) (started : os.Started) (H : Type) (enc : TypeId × Value → H) :
    ReturnsInHanded {} Try.checked os 5 .any (Rows.namesOrdersSpec.pre6 enc Try.prog Try.f5 Rows.namesOrdersRow.domain false) (Rows.namesOrdersSpec.post enc Try.prog Try.f5 false true false false) := by
  refine returnsInHanded_of_change_sized (C := Try.checked) own started (by kernel_rfl) Try.func5
    (ChangeSpec.witness6 (enc := enc) (C := Try.checked) false ⟨#[], #[.string ⟨#[]⟩, .string ⟨#[]⟩, .slice none 0 0, .slice none 0 0], []⟩ 8 (by kernel_rfl) (by kernel_rfl) (by kernel_rfl) (by kernel_rfl)) ?_
  intro W base args ds gs before hval0 hW hcnd hsz0 _
  have hval : ∀ (j : Nat) t v, Try.f5.params[j]? = some t → args[j]? = some v → Value.okWide Try.prog W .any base t v := hval0
  have hsz : (DataW.weightsEach Try.prog (Try.f5.params.toList ++ Rows.namesOrdersSpec.plain.varTypes Try.prog) (ds ++ gs)).all (· ≤ reachBytes) = true := hsz0
  have hW' := hW
  obtain ⟨p, q, hA0, hV, rfl, hfz, hnd⟩ := hW
  have hA : DataW.TrodAll enc Try.prog W 0 (fun _ => true) true Try.f5.params.toList args.toList ds p := hA0
  rw [Try.params5] at hA hval hsz
  obtain ⟨v0, vs0, d0, ds0, p0, q0, hargs, rfl, rfl, h0, r0⟩ := trodAll_cons hA
  obtain ⟨v1, vs1, d1, ds1, p1, q1, rfl, rfl, rfl, h1, r1⟩ := trodAll_cons r0
  obtain ⟨v2, vs2, d2, ds2, p2, q2, rfl, rfl, rfl, h2, r2⟩ := trodAll_cons r1
  obtain ⟨v3, vs3, d3, ds3, p3, q3, rfl, rfl, rfl, h3, r3⟩ := trodAll_cons r2
  obtain ⟨rfl, rfl, rfl⟩ := trodAll_nil r3
  obtain rfl : args = #[v0, v1, v2, v3] := by cases args; simp_all
  obtain ⟨rfl, rfl⟩ := trodVars_none hV
  obtain ⟨a0, rfl, rfl, rfl, w0⟩ := Go.ChangeMaps.open_string Try.underlying9 (hval 0 9 v0 rfl rfl) h0
  obtain ⟨a1, rfl, rfl, rfl, w1⟩ := Go.ChangeMaps.open_string Try.underlying9 (hval 1 9 v1 rfl rfl) h1
  obtain ⟨a2, len2, cap2, rfl⟩ := okWide_slice Try.underlying22 (hval 2 22 v2 rfl rfl)
  have k2 := h2
  have lt2 : ∀ x ∈ p2, x.block < W.heap.size := by obtain ⟨m, hm⟩ := k2; exact DataW.trod_lt m _ _ _ hm
  obtain ⟨l2, w2, s2⟩ : ∃ l, SArg W a2 len2 cap2 l ∧ cap2 * 16 ≤ 140737488351232 := by
    obtain ⟨fuel, hf⟩ := h2
    obtain ⟨l, hl, hd⟩ := sarg_open hf
    refine ⟨l, hl, ?_⟩
    rcases hd with ⟨h, _⟩ | ⟨ss, _, hc, rfl⟩
    · omega
    have := sized_slice hsz (j := 2) (t := 22) (e := 9) rfl rfl Try.underlying22
    rw [bytesS] at this
    simp only [reachBytes, strs, List.length_map, List.length_take, List.length_drop] at this
    have := hl.le
    omega
  obtain ⟨a3, len3, cap3, rfl⟩ := okWide_slice Try.underlying22 (hval 3 22 v3 rfl rfl)
  have k3 := h3
  have lt3 : ∀ x ∈ p3, x.block < W.heap.size := by obtain ⟨m, hm⟩ := k3; exact DataW.trod_lt m _ _ _ hm
  obtain ⟨l3, w3, s3⟩ : ∃ l, SArg W a3 len3 cap3 l ∧ cap3 * 16 ≤ 140737488351232 := by
    obtain ⟨fuel, hf⟩ := h3
    obtain ⟨l, hl, hd⟩ := sarg_open hf
    refine ⟨l, hl, ?_⟩
    rcases hd with ⟨h, _⟩ | ⟨ss, _, hc, rfl⟩
    · omega
    have := sized_slice hsz (j := 3) (t := 22) (e := 9) rfl rfl Try.underlying22
    rw [bytesS] at this
    simp only [reachBytes, strs, List.length_map, List.length_take, List.length_drop] at this
    have := hl.le
    omega
  clear hA0 hval0
  refine (walk a0 a1 a2 len2 cap2 l2 a3 len3 cap3 l3 W w0 w1 w2 s2 w3 s3).mono fun e W' ⟨he, bel⟩ => ?_
  subst he
  exact ⟨_, rfl, _, _, _, [], _, [], hW', trodAll_mk1 (shut_bool Try.underlying4 _), (trodAll_cons_mk (Go.ChangeMaps.shut_string Try.underlying9 w0) (trodAll_cons_mk (Go.ChangeMaps.shut_string Try.underlying9 w1) (trodAll_cons_mk (Below.trod laidOut (by kernel_rfl) (of_decide_eq_true (by kernel_rfl)) k2 bel lt2) (trodAll_cons_mk (Below.trod laidOut (by kernel_rfl) (of_decide_eq_true (by kernel_rfl)) k3 bel lt3) trodAll_mk0)))), rfl, bel.frame _, fun h => by cases h⟩

theorem over : Rows.namesOrdersRow.holds Try.pinned (OpenSpec.ofChange Rows.namesOrdersSpec) :=
  OpenClaim.holds_of_wide 5 Try.f5 rfl rfl rfl rfl rfl rfl rfl ⟨rfl, rfl, rfl, rfl, rfl⟩ rfl rfl rfl rfl rfl (by kernel_rfl) Try.func5 (by kernel_rfl)
    (of_decide_eq_true (by kernel_rfl)) (by unfold Func.isWrapper; first | (rw [if_pos (by decide +kernel)]; kernel_rfl) | (rw [if_neg (by decide +kernel)]; exact ⟨rfl, rfl⟩))
    (fun os started H enc _ => lifted os started H enc)
end Go.Proofs.Ytnhoaafpdckmjaa.namesOrders

namespace Go.Proofs.Ytnhoaafpdckmjaa
theorem namesOrders_holds : Rows.NamesOrdersSaid := namesOrders.over
#print axioms namesOrders_holds
end Go.Proofs.Ytnhoaafpdckmjaa
