/-
  Proved: the statement on Fill (BitsFills): for every list of bytes and every number, what Fill answers keeps what is there and is blank behind it; no condition.
-/
import Derived.Test.YtnogfmfagambeabArg
import Derived.Deep.RegionHeld3
import Derived.StillTactics
import Derived.Deep.DrawnRows
namespace Go.Proofs.Ytnogfmfagambeab.bitsFills
open Go.ChangeShapes Go.WideShapes Go.ChangeAt Go.RowKit M

set_option maxHeartbeats 400000 in
theorem walk_out (a : Option Addr) (len cap : Nat) (n : Int) (h : n < 0 ∨ 65536 < n) (w : World) :
    Calls Try.prog 3 #[.slice a len cap, .int .i64 n] w fun e w' => e = .returned (.bool true) ∧ Below w.heap.size w w' := by
  rcases h with h | h
  · go_enter Try.func3, Try.ntmps3
    go_wp2_with (go_at_call 4; refine (alive_any _).mono ?_; rintro e w1 ⟨rfl, hb⟩)
    go_ret
    exact ⟨rfl, hb⟩
  · have h2 : ¬ n < 0 := by omega
    go_enter Try.func3, Try.ntmps3
    go_wp2_with (go_at_call 4; refine (alive_any _).mono ?_; rintro e w1 ⟨rfl, hb⟩)
    go_ret
    exact ⟨rfl, hb⟩

theorem fill_get (a : Option Addr) (cap : Nat) (l : List Nat) (len n : Nat) (hn : n ≤ 2147483647) (w : World) (hlen : len = l.length) (hr : BRow w a l) :
    Calls Try.prog 5 #[.slice a len cap, .int .i64 n] w fun e w' => e = .returned (.slice (some ⟨w.heap.size, 0, none⟩) n n) ∧ Own w w' (.slice (some ⟨w.heap.size, 0, none⟩) n n) (fillL l n) := by
  subst hlen
  exact fill_any a cap l n hn w hr

/-- What holds while the last statement goes on. -/
structure Keep (w : World) (g : Nat) (a : Option Addr) (l : List Nat) (n : Nat) (w' : World) : Prop where
  old : BRow w' a l
  new : BRow w' (some ⟨g, 0, none⟩) (fillL l n)
  below : Below w.heap.size w w'
theorem brow_drew {w : World} {a : Option Addr} {l : List Nat} (h : BRow w a l) : BRow w.drew a l := h.drewN 1
theorem Keep.drew {w w' : World} {g : Nat} {a : Option Addr} {l : List Nat} {n : Nat} (h : Keep w g a l n w') : Keep w g a l n w'.drew := ⟨brow_drew h.old, brow_drew h.new, h.below.drew⟩
theorem Keep.after {w w' w2 : World} {g : Nat} {a : Option Addr} {l : List Nat} {n : Nat} (h : Keep w g a l n w') (hb : Below w'.heap.size w' w2) : Keep w g a l n w2 := ⟨h.old.later hb, h.new.later hb, Below.after h.below hb⟩

theorem blank_0 (a : Option Addr) (c : Nat) (w : World) : Calls Try.prog 7 #[.slice a 0 c] w fun e w' => e = .returned (.bool true) ∧ w = w' :=
  blank_any a c [] w (Nat.zero_le _) (.inl rfl)
theorem blank_rest {w w' : World} {g : Nat} {a : Option Addr} {l : List Nat} {n k m c : Nat} (hn : n ≤ 65536) (hk : k = l.length) (hm : m = n - k) (hS : Keep w g a l n w') :
    Calls Try.prog 7 #[.slice (some ⟨g, k, none⟩) m c] w' fun e w'' => e = .returned (.bool true) ∧ w' = w'' := by
  have h := BRow.sub (i := k) (j := m) hS.new
  have e : ((fillL l n).drop k).take m = List.replicate m 255 := by
    subst hk
    subst hm
    simp only [fillL]
    rw [List.drop_append, List.drop_eq_nil_of_le (by simp; omega), List.nil_append]
    simp only [List.length_take, List.drop_replicate, List.take_replicate]
    congr 1
    omega
  rw [e, Nat.zero_add] at h
  have := blank_any (some ⟨g, k, none⟩) c (List.replicate m 255) w' (by simp [maxLen]; omega) h
  simpa using this
theorem brow_take {w : World} {a : Option Addr} {l : List Nat} (h : BRow w a l) (k : Nat) : BRow w a (l.take k) := by
  rcases h with rfl | ⟨b, off, rfl, hc⟩
  · exact .inl (by simp)
  · have := BRow.sub (i := 0) (j := k) (.inr ⟨b, off, rfl, hc⟩)
    simpa using this
theorem fillL_lt {l : List Nat} (h : ∀ x ∈ l, x < 256) (n : Nat) : ∀ x ∈ fillL l n, x < 256 := by
  intro x hx
  simp only [fillL, List.mem_append, List.mem_replicate] at hx
  rcases hx with hx | ⟨_, rfl⟩
  · exact h x (List.mem_of_mem_take hx)
  · decide
theorem same_pre {w w' : World} {g : Nat} {a : Option Addr} {l : List Nat} {n k c1 c2 : Nat} (h1 : k ≤ n) (h2 : k ≤ l.length) (hl : ∀ x ∈ l, x < 256) (hS : Keep w g a l n w') :
    Calls Try.prog 6 #[.slice (some ⟨g, 0, none⟩) k c1, .slice a k c2] w' fun e w'' => e = .returned (.bool true) ∧ w' = w'' := by
  have e : (fillL l n).take k = l.take k := by
    simp only [fillL]
    rw [List.take_append_of_le_length (by simp; omega), List.take_take]
    congr 1
    omega
  have hr := brow_take hS.new k
  rw [e] at hr
  exact same_yes w' _ _ c1 c2 (l.take k) k (by simp; omega) (fun x hx => hl x (List.mem_of_mem_take hx)) hr (brow_take hS.old k)

set_option maxHeartbeats 1000000 in
theorem walk_in (a : Option Addr) (len cap : Nat) (l : List Nat) (n : Nat) (hn : n ≤ 65536) (w : World) (w0 : BArg w a len cap l) (hk : n ≤ len) :
    Calls Try.prog 3 #[.slice a len cap, .int .i64 n] w fun e w' => e = .returned (.bool true) ∧ Below w.heap.size w w' := by
  obtain ⟨hl, hle, hm, hlt, hr, hnil⟩ := w0
  have HR : Hid (BRow w a l) := hr
  have HL : Hid (len = l.length) := hl
  have HLT : Hid (∀ x ∈ l, x < 256) := hlt
  unfold maxLen at hm
  have hnn : (0 : Int) ≤ (n : Int) := by omega
  have hni : (n : Int) ≤ (cap : Int) := by omega
  have hnl : (n : Int) ≤ (len : Int) := by omega
  have hn2 : n ≤ 2147483647 := by omega
  clear hr hl hlt hnil
  go_enter Try.func3, Try.ntmps3
  go_wp2_with (go_at_call 5; refine (fill_get _ _ l _ n hn2 _ HL.out HR.out).mono ?_; rintro e w1 ⟨rfl, ho⟩)
  have hS : Keep w w.heap.size a l n w1 := ⟨HR.out.later ho.2, own_at ho, ho.2⟩
  clear ho
  go_region_held3 (fun w' => Keep w w.heap.size a l n w') (first | assumption | exact Keep.drew ‹_› | exact Keep.after ‹_› ‹_›)
    (first
    | (go_at_call 6; refine (same_pre (l := l) (n := n) (k := n) ?_ ?_ ?_ ‹_›).mono ?_; (omega); (have := HL.out; omega); (exact HLT.out); rintro e w' ⟨rfl, rfl⟩)
    | (go_at_call 7; refine (blank_0 _ _ _).mono ?_; rintro e w' ⟨rfl, rfl⟩)
    | (go_at_call 4; refine (alive_any _).mono ?_; rintro e w2 ⟨rfl, hb2⟩))
  all_goals go_wp2
  all_goals go_ret
  all_goals exact ⟨rfl, Keep.below ‹_›⟩

set_option maxHeartbeats 1000000 in
theorem walk_more (a : Option Addr) (len cap : Nat) (l : List Nat) (n : Nat) (hn : n ≤ 65536) (w : World) (w0 : BArg w a len cap l) (hk : len < n) :
    Calls Try.prog 3 #[.slice a len cap, .int .i64 n] w fun e w' => e = .returned (.bool true) ∧ Below w.heap.size w w' := by
  obtain ⟨hl, hle, hm, hlt, hr, hnil⟩ := w0
  have HR : Hid (BRow w a l) := hr
  have HL : Hid (len = l.length) := hl
  have HLT : Hid (∀ x ∈ l, x < 256) := hlt
  unfold maxLen at hm
  have hnn : (0 : Int) ≤ (n : Int) := by omega
  have hni : (0 : Int) ≤ (len : Int) := by omega
  have hnl : (len : Int) ≤ (n : Int) := by omega
  have hnc : (len : Int) ≤ (cap : Int) := by omega
  have hne : ¬ n = len := by omega
  have hn2 : n ≤ 2147483647 := by omega
  clear hr hl hlt hnil
  go_enter Try.func3, Try.ntmps3
  go_wp2_with (go_at_call 5; refine (fill_get _ _ l _ n hn2 _ HL.out HR.out).mono ?_; rintro e w1 ⟨rfl, ho⟩)
  have hS : Keep w w.heap.size a l n w1 := ⟨HR.out.later ho.2, own_at ho, ho.2⟩
  clear ho
  go_region_held3 (fun w' => Keep w w.heap.size a l n w') (first | assumption | exact Keep.drew ‹_› | exact Keep.after ‹_› ‹_›)
    (first
    | (go_at_call 6; refine (same_pre (l := l) (n := n) (k := len) ?_ ?_ ?_ ‹_›).mono ?_; (omega); (have := HL.out; omega); (exact HLT.out); rintro e w' ⟨rfl, rfl⟩)
    | (go_at_call 7; refine (blank_rest (l := l) (n := n) ?_ ?_ ?_ ‹_›).mono ?_; (omega); (exact HL.out); (rfl); rintro e w' ⟨rfl, rfl⟩)
    | (go_at_call 4; refine (alive_any _).mono ?_; rintro e w2 ⟨rfl, hb2⟩))
  all_goals go_wp2
  all_goals go_ret
  all_goals exact ⟨rfl, Keep.below ‹_›⟩

theorem walk (a0 : Option Addr) (len0 cap0 : Nat) (l0 : List Nat) (a1 : Int) (w : World) (w0 : BArg w a0 len0 cap0 l0) (_w1 : (Lit.int .i64 a1).wf = true) :
    Calls Try.prog 3 #[.slice a0 len0 cap0, .int .i64 a1] w fun e w' => e = .returned (.bool true) ∧ Below w.heap.size w w' := by
  by_cases h : a1 < 0 ∨ 65536 < a1
  · exact walk_out a0 len0 cap0 a1 h w
  · obtain ⟨n, rfl⟩ : ∃ n : Nat, a1 = (n : Int) := ⟨a1.toNat, by omega⟩
    by_cases hk : n ≤ len0
    · exact walk_in a0 len0 cap0 l0 n (by omega) w w0 hk
    · exact walk_more a0 len0 cap0 l0 n (by omega) w w0 (by omega)

set_option maxRecDepth 100000 in
theorem lifted (os : Os) (started : os.Started) (H : Type) (enc : TypeId × Value → H) :
    ReturnsInHanded {} Try.checked os 3 .any (Rows.bitsFillsSpec.pre6 enc Try.prog Try.f3 Rows.bitsFillsRow.domain false) (Rows.bitsFillsSpec.post enc Try.prog Try.f3 false true false false) := by
  refine returnsInHanded_of_change (C := Try.checked) own started (by kernel_rfl) Try.func3
    (ChangeSpec.witness6 (enc := enc) (C := Try.checked) false ⟨#[], #[.slice none 0 0, .int .i64 0], []⟩ 8 (by kernel_rfl) (by kernel_rfl) (by kernel_rfl) (by kernel_rfl)) ?_
  intro W base args ds gs before hval0 hW hcnd _
  have hval : ∀ (j : Nat) t v, Try.f3.params[j]? = some t → args[j]? = some v → Value.okWide Try.prog W .any base t v := hval0
  have hW' := hW
  obtain ⟨p, q, hA0, hV, rfl, hfz, hnd⟩ := hW
  have hA : DataW.TrodAll enc Try.prog W 0 (fun _ => true) true Try.f3.params.toList args.toList ds p := hA0
  rw [Try.params3] at hA hval
  obtain ⟨v0, vs0, d0, ds0, p0, q0, hargs, rfl, rfl, h0, r0⟩ := trodAll_cons hA
  obtain ⟨v1, vs1, d1, ds1, p1, q1, rfl, rfl, rfl, h1, r1⟩ := trodAll_cons r0
  obtain ⟨rfl, rfl, rfl⟩ := trodAll_nil r1
  obtain rfl : args = #[v0, v1] := by cases args; simp_all
  obtain ⟨rfl, rfl⟩ := trodVars_none hV
  obtain ⟨a0, len0, cap0, rfl⟩ := okWide_slice Try.underlying22 (hval 0 22 v0 rfl rfl)
  have k0 := h0
  have lt0 : ∀ x ∈ p0, x.block < W.heap.size := by obtain ⟨m, hm⟩ := k0; exact DataW.trod_lt m _ _ _ hm
  obtain ⟨l0, w0⟩ : ∃ l, BArg W a0 len0 cap0 l := by
    obtain ⟨fuel, hf⟩ := h0
    exact barg_open hf
  obtain ⟨a1, rfl, rfl, rfl, w1⟩ := open_int Try.underlying3 (hval 1 3 v1 rfl rfl) h1
  clear hA0 hval0
  refine (walk a0 len0 cap0 l0 a1 W w0 w1).mono fun e W' ⟨he, bel⟩ => ?_
  subst he
  exact ⟨_, rfl, _, _, _, [], _, [], hW', trodAll_mk1 (shut_bool Try.underlying4 _), (trodAll_cons_mk (Below.trod laidOut (by kernel_rfl) (of_decide_eq_true (by kernel_rfl)) k0 bel lt0) (trodAll_cons_mk (shut_int Try.underlying3 w1) trodAll_mk0)), rfl, bel.frame _, fun h => by cases h⟩

theorem over : Rows.bitsFillsRow.holds Try.pinned (OpenSpec.ofChange Rows.bitsFillsSpec) :=
  OpenClaim.holds_of_wide 3 Try.f3 rfl rfl rfl rfl rfl rfl rfl ⟨rfl, rfl, rfl, rfl, rfl⟩ rfl rfl rfl rfl rfl (by kernel_rfl) Try.func3 (by kernel_rfl)
    (of_decide_eq_true (by kernel_rfl)) (by unfold Func.isWrapper; first | (rw [if_pos (by decide +kernel)]; kernel_rfl) | (rw [if_neg (by decide +kernel)]; exact ⟨rfl, rfl⟩))
    (fun os started H enc _ => lifted os started H enc)
end Go.Proofs.Ytnogfmfagambeab.bitsFills

namespace Go.Proofs.Ytnogfmfagambeab
theorem bitsFills_holds : Rows.BitsFillsSaid := bitsFills.over
#print axioms bitsFills_holds
end Go.Proofs.Ytnogfmfagambeab
