/-
  Proved: the statement on being within (NamesWithin), for all lists of texts that hold together at most 1048576 values and letters (the statement's second form).
-/
import Derived.Test.YtnhoaafpdckmjaaNWithin
import Derived.Test.YtnhoaafpdckmjaaNBulk
import Derived.JoinedCond
namespace Go.Proofs.Ytnhoaafpdckmjaa.namesWithin
open Go.ChangeShapes Go.WideShapes Go.ChangeAt Go.RowKit Go.Shelf M

theorem SArg.drawn {w : World} {a : Option Addr} {len cap : Nat} {l : List ByteArray} (h : SArg w a len cap l) (q : Nat) : SArg (w.drewN q) a len cap l :=
  ⟨h.len_eq, h.le, h.max, h.lt, h.row.later (below_drawn w q), h.nil⟩
theorem within_arg {w : World} {a b : Option Addr} {n c m d : Nat} {l k : List ByteArray} (ha : SArg w a n c l) (hb : SArg w b m d k) (r : Bool) (hr : r = decide (k <+: l)) (q : Nat) :
    Calls Try.prog 26 #[.slice a n c, .slice b m d] (w.drewN q) fun e w' => e = .returned (.bool r) ∧ ∃ q', w' = w.drewN q' := by
  subst hr
  refine (within_any a n c l b m d k (w.drewN q) ha.len_eq hb.len_eq ha.le (Nat.le_trans ha.le ha.max) (Nat.le_trans hb.le hb.max) (ha.row.later (below_drawn w q)) ha.nil (hb.row.later (below_drawn w q))).mono ?_
  rintro e w' ⟨rfl, q', rfl⟩
  exact ⟨rfl, q + q', by rw [World.drewN_drewN]⟩

/-- The three lists, as they lie; what lay in w0 lies on. -/
structure Three (w0 w : World) (a0 : Option Addr) (n0 c0 : Nat) (l0 : List ByteArray) (a1 : Option Addr) (n1 c1 : Nat) (l1 : List ByteArray) (a2 : Option Addr) (n2 c2 : Nat) (l2 : List ByteArray) : Prop where
  A : SArg w a0 n0 c0 l0
  B : SArg w a1 n1 c1 l1
  C : SArg w a2 n2 c2 l2
  bel : Below w0.heap.size w0 w
theorem SArg.later {w w' : World} {a : Option Addr} {len cap : Nat} {l : List ByteArray} (h : SArg w a len cap l) (hb : Below w.heap.size w w') : SArg w' a len cap l :=
  ⟨h.len_eq, h.le, h.max, h.lt, h.row.later hb, h.nil⟩
theorem Three.later {w0 w w' : World} {a0 a1 a2 : Option Addr} {n0 c0 n1 c1 n2 c2 : Nat} {l0 l1 l2 : List ByteArray} (h : Three w0 w a0 n0 c0 l0 a1 n1 c1 l1 a2 n2 c2 l2) (hb : Below w.heap.size w w') : Three w0 w' a0 n0 c0 l0 a1 n1 c1 l1 a2 n2 c2 l2 :=
  ⟨SArg.later h.A hb, SArg.later h.B hb, SArg.later h.C hb, Below.after h.bel hb⟩
theorem within_arg' {w : World} {a b : Option Addr} {n c m d : Nat} {l k : List ByteArray} {Q : World → Prop} (ha : SArg w a n c l) (hb : SArg w b m d k) (r : Bool) (hr : r = decide (k <+: l)) (hq : ∀ w', Below w.heap.size w w' → Q w') :
    Calls Try.prog 26 #[.slice a n c, .slice b m d] w fun e w' => e = .returned (.bool r) ∧ Q w' := by
  subst hr
  refine (within_any a n c l b m d k w ha.len_eq hb.len_eq ha.le (Nat.le_trans ha.le ha.max) (Nat.le_trans hb.le hb.max) ha.row ha.nil hb.row).mono ?_
  rintro e w' ⟨rfl, q', rfl⟩
  exact ⟨rfl, hq _ (below_drawn w q')⟩

theorem within_00 {w0 w : World} {a0 a1 a2 : Option Addr} {n0 c0 n1 c1 n2 c2 : Nat} {l0 l1 l2 : List ByteArray} (h : Three w0 w a0 n0 c0 l0 a1 n1 c1 l1 a2 n2 c2 l2) (r : Bool) (hr : r = decide (l0 <+: l0)) :
    Calls Try.prog 26 #[.slice a0 n0 c0, .slice a0 n0 c0] w fun e w' => e = .returned (.bool r) ∧ Three w0 w' a0 n0 c0 l0 a1 n1 c1 l1 a2 n2 c2 l2 :=
  within_arg' h.A h.A r hr (fun _ hb => h.later hb)
theorem within_01 {w0 w : World} {a0 a1 a2 : Option Addr} {n0 c0 n1 c1 n2 c2 : Nat} {l0 l1 l2 : List ByteArray} (h : Three w0 w a0 n0 c0 l0 a1 n1 c1 l1 a2 n2 c2 l2) (r : Bool) (hr : r = decide (l1 <+: l0)) :
    Calls Try.prog 26 #[.slice a0 n0 c0, .slice a1 n1 c1] w fun e w' => e = .returned (.bool r) ∧ Three w0 w' a0 n0 c0 l0 a1 n1 c1 l1 a2 n2 c2 l2 :=
  within_arg' h.A h.B r hr (fun _ hb => h.later hb)
theorem within_12 {w0 w : World} {a0 a1 a2 : Option Addr} {n0 c0 n1 c1 n2 c2 : Nat} {l0 l1 l2 : List ByteArray} (h : Three w0 w a0 n0 c0 l0 a1 n1 c1 l1 a2 n2 c2 l2) (r : Bool) (hr : r = decide (l2 <+: l1)) :
    Calls Try.prog 26 #[.slice a1 n1 c1, .slice a2 n2 c2] w fun e w' => e = .returned (.bool r) ∧ Three w0 w' a0 n0 c0 l0 a1 n1 c1 l1 a2 n2 c2 l2 :=
  within_arg' h.B h.C r hr (fun _ hb => h.later hb)
theorem within_02 {w0 w : World} {a0 a1 a2 : Option Addr} {n0 c0 n1 c1 n2 c2 : Nat} {l0 l1 l2 : List ByteArray} (h : Three w0 w a0 n0 c0 l0 a1 n1 c1 l1 a2 n2 c2 l2) (r : Bool) (hr : r = decide (l2 <+: l0)) :
    Calls Try.prog 26 #[.slice a0 n0 c0, .slice a2 n2 c2] w fun e w' => e = .returned (.bool r) ∧ Three w0 w' a0 n0 c0 l0 a1 n1 c1 l1 a2 n2 c2 l2 :=
  within_arg' h.A h.C r hr (fun _ hb => h.later hb)
theorem within_10 {w0 w : World} {a0 a1 a2 : Option Addr} {n0 c0 n1 c1 n2 c2 : Nat} {l0 l1 l2 : List ByteArray} (h : Three w0 w a0 n0 c0 l0 a1 n1 c1 l1 a2 n2 c2 l2) (r : Bool) (hr : r = decide (l0 <+: l1)) :
    Calls Try.prog 26 #[.slice a1 n1 c1, .slice a0 n0 c0] w fun e w' => e = .returned (.bool r) ∧ Three w0 w' a0 n0 c0 l0 a1 n1 c1 l1 a2 n2 c2 l2 :=
  within_arg' h.B h.A r hr (fun _ hb => h.later hb)
theorem texts_01 {w0 w : World} {a0 a1 a2 : Option Addr} {n0 c0 n1 c1 n2 c2 : Nat} {l0 l1 l2 : List ByteArray} (h : Three w0 w a0 n0 c0 l0 a1 n1 c1 l1 a2 n2 c2 l2) (r : Bool) (hr : r = decide (l0 = l1)) :
    Calls Try.prog 21 #[.slice a0 n0 c0, .slice a1 n1 c1] w fun e w' => e = .returned (.bool r) ∧ Three w0 w' a0 n0 c0 l0 a1 n1 c1 l1 a2 n2 c2 l2 := by
  subst hr
  refine (texts_any a0 n0 c0 l0 a1 n1 c1 l1 w h.A.len_eq h.B.len_eq (Nat.le_trans h.A.le h.A.max) h.A.row h.B.row).mono ?_
  rintro e w' ⟨rfl, q, rfl⟩
  exact ⟨rfl, h.later (below_drawn w q)⟩
theorem below_copy {w w' : World} (hg : (w.alloc (.cells #[] 9)).grownBy w' (Value.ownBlock (.slice (some ⟨w.heap.size, 0, none⟩) 0 0))) : Below w.heap.size w w' :=
  (below_new w _).grown hg (by simp) (fun k hk => by simp [Value.ownBlock] at hk; omega)
theorem own_all {w : World} {base n m : Nat} {v : Value} {l k : List ByteArray} (hn : n = l.length) (hm : m = k.length) (h : w.ownsRow base 9 1 v (n + m) (l.map Value.string ++ k.map Value.string)) :
    ∃ a cap, v = .slice a (n + m) cap ∧ SRow w a (l ++ k) ∧ (a = none → n + m = 0 ∧ cap = 0) ∧ n + m ≤ cap ∧ cap ≤ maxLen := by
  rw [← List.map_append] at h
  exact owns_row' (by rw [List.length_append, hn, hm]) h

set_option maxHeartbeats 2000000 in
theorem walk_n (a0 : Option Addr) (n0 c0 : Nat) (l0 : List ByteArray) (a1 : Option Addr) (n1 c1 : Nat) (l1 : List ByteArray) (a2 : Option Addr) (n2 c2 : Nat) (l2 : List ByteArray) (w : World) (w0 : SArg w a0 n0 c0 l0) (w1 : SArg w a1 n1 c1 l1) (w2 : SArg w a2 n2 c2 l2) (b0 : n0 ≤ 1048576) (b1 : n1 ≤ 1048576) (hab : ¬ l1 <+: l0) :
    Calls Try.prog 8 #[.slice a0 n0 c0, .slice a1 n1 c1, .slice a2 n2 c2] w fun e w' => e = .returned (.bool true) ∧ Below w.heap.size w w' := by
  have T0 : Three w w a0 n0 c0 l0 a1 n1 c1 l1 a2 n2 c2 l2 := ⟨w0, w1, w2, Below.refl _ _⟩
  have r00 : Hid (true = decide (l0 <+: l0)) := (decide_eq_true (List.prefix_refl _)).symm
  have r01 : Hid (false = decide (l1 <+: l0)) := (decide_eq_false hab).symm
  clear hab
  have HA : Hid (SArg w a0 n0 c0 l0) := w0
  clear w0 w1 w2
  have M0 : Hid True := trivial
  have M1 : Hid True := trivial
  have M2 : Hid True := trivial
  have M3 : Hid True := trivial
  have M4 : Hid True := trivial
  go_enter Try.func8, Try.ntmps8
  go_wp2_with (first
    | (go_at_call 26; clear M0; go_must (refine (within_00 T0 _ r00.out).mono ?_); rintro e u1 ⟨rfl, T1⟩; clear T0)
    | (go_at_call 26; clear M1; go_must (refine (within_01 T1 _ r01.out).mono ?_); rintro e u2 ⟨rfl, T2⟩; clear T1)
    | (go_at_call 26; clear M2; go_must (refine (within_01 T2 _ r01.out).mono ?_); rintro e u3 ⟨rfl, T3⟩; clear T2)
    | (at_builtin; clear M3; go_must (refine wpList_append_strs rfl (.tmp 44) (.tmp 45) rfl u3.heap.size (.slice (some ⟨u3.heap.size, 0, none⟩) 0 0) 0 [] rfl (own_empty u3 _ (Nat.le_refl _)) a0 n0 c0 l0 rfl T3.A.len_eq (T3.A.row.later (below_new u3 _)) T3.A.nil (by unfold maxLen; omega) (by omega) (by simp) ?_); intro v1 x1 ho1 hg1; simp only [Nat.zero_add, List.nil_append] at ho1; have hb1 := below_copy hg1; have hsz1 := hb1.size; clear hg1)
    | (at_builtin; clear M4; go_must (refine wpList_append_strs rfl (.tmp 46) (.tmp 47) rfl u3.heap.size v1 n0 (l0.map Value.string) rfl ho1 a1 n1 c1 l1 rfl T3.B.len_eq (T3.B.row.later hb1) T3.B.nil (by unfold maxLen; omega) (by omega) hsz1 ?_); intro v2 x2 ho2 hg2; have hb2 := grown_own hb1 hg2 hsz1 ho1; have TB := T3.later hb2; obtain ⟨a3, c3, rfl, hr3, hn3, hc3, hm3⟩ := own_all T3.A.len_eq T3.B.len_eq ho2; have SA : SArg x2 a3 (n0 + n1) c3 (l0 ++ l1) := ⟨by rw [List.length_append, TB.A.len_eq, TB.B.len_eq], hc3, hm3, by intro x hx; rcases List.mem_append.1 hx with h | h; exact TB.A.lt x h; exact TB.B.lt x h, hr3, hn3⟩; clear T3 hg2 ho2 ho1 hb1 hb2 hr3 hn3 hc3 hm3)
    | (go_at_call 26; go_must (refine (within_arg' SA TB.A true (decide_eq_true (List.prefix_append _ _)).symm (Q := fun w' => Below w.heap.size w w') (fun _ hb => Below.after TB.bel hb)).mono ?_); rintro e x3 ⟨rfl, hy3⟩; clear TB SA)
    | (go_at_call 14; refine (alive_any _).mono ?_; rintro e x4 ⟨rfl, hb4⟩))
  go_ret
  exact ⟨rfl, Below.after hy3 hb4⟩

set_option maxHeartbeats 2000000 in
theorem walk_nn (a0 : Option Addr) (n0 c0 : Nat) (l0 : List ByteArray) (a1 : Option Addr) (n1 c1 : Nat) (l1 : List ByteArray) (a2 : Option Addr) (n2 c2 : Nat) (l2 : List ByteArray) (w : World) (w0 : SArg w a0 n0 c0 l0) (w1 : SArg w a1 n1 c1 l1) (w2 : SArg w a2 n2 c2 l2) (b0 : n0 ≤ 1048576) (b1 : n1 ≤ 1048576) (hab : l1 <+: l0) (hbc : ¬ l2 <+: l1) (hba : ¬ l0 <+: l1) :
    Calls Try.prog 8 #[.slice a0 n0 c0, .slice a1 n1 c1, .slice a2 n2 c2] w fun e w' => e = .returned (.bool true) ∧ Below w.heap.size w w' := by
  have T0 : Three w w a0 n0 c0 l0 a1 n1 c1 l1 a2 n2 c2 l2 := ⟨w0, w1, w2, Below.refl _ _⟩
  have r00 : Hid (true = decide (l0 <+: l0)) := (decide_eq_true (List.prefix_refl _)).symm
  have r01 : Hid (true = decide (l1 <+: l0)) := (decide_eq_true hab).symm
  have r12 : Hid (false = decide (l2 <+: l1)) := (decide_eq_false hbc).symm
  have r10 : Hid (false = decide (l0 <+: l1)) := (decide_eq_false hba).symm
  clear hab hbc hba
  have HA : Hid (SArg w a0 n0 c0 l0) := w0
  clear w0 w1 w2
  have M0 : Hid True := trivial
  have M1 : Hid True := trivial
  have M2 : Hid True := trivial
  have M3 : Hid True := trivial
  have M4 : Hid True := trivial
  have M5 : Hid True := trivial
  have M6 : Hid True := trivial
  go_enter Try.func8, Try.ntmps8
  go_wp2_with (first
    | (go_at_call 26; clear M0; go_must (refine (within_00 T0 _ r00.out).mono ?_); rintro e u1 ⟨rfl, T1⟩; clear T0)
    | (go_at_call 26; clear M1; go_must (refine (within_01 T1 _ r01.out).mono ?_); rintro e u2 ⟨rfl, T2⟩; clear T1)
    | (go_at_call 26; clear M2; go_must (refine (within_12 T2 _ r12.out).mono ?_); rintro e u3 ⟨rfl, T3⟩; clear T2)
    | (go_at_call 26; clear M3; go_must (refine (within_01 T3 _ r01.out).mono ?_); rintro e u4 ⟨rfl, T4⟩; clear T3)
    | (go_at_call 26; clear M4; go_must (refine (within_10 T4 _ r10.out).mono ?_); rintro e u5 ⟨rfl, T5⟩; clear T4)
    | (at_builtin; clear M5; go_must (refine wpList_append_strs rfl (.tmp 44) (.tmp 45) rfl u5.heap.size (.slice (some ⟨u5.heap.size, 0, none⟩) 0 0) 0 [] rfl (own_empty u5 _ (Nat.le_refl _)) a0 n0 c0 l0 rfl T5.A.len_eq (T5.A.row.later (below_new u5 _)) T5.A.nil (by unfold maxLen; omega) (by omega) (by simp) ?_); intro v1 x1 ho1 hg1; simp only [Nat.zero_add, List.nil_append] at ho1; have hb1 := below_copy hg1; have hsz1 := hb1.size; clear hg1)
    | (at_builtin; clear M6; go_must (refine wpList_append_strs rfl (.tmp 46) (.tmp 47) rfl u5.heap.size v1 n0 (l0.map Value.string) rfl ho1 a1 n1 c1 l1 rfl T5.B.len_eq (T5.B.row.later hb1) T5.B.nil (by unfold maxLen; omega) (by omega) hsz1 ?_); intro v2 x2 ho2 hg2; have hb2 := grown_own hb1 hg2 hsz1 ho1; have TB := T5.later hb2; obtain ⟨a3, c3, rfl, hr3, hn3, hc3, hm3⟩ := own_all T5.A.len_eq T5.B.len_eq ho2; have SA : SArg x2 a3 (n0 + n1) c3 (l0 ++ l1) := ⟨by rw [List.length_append, TB.A.len_eq, TB.B.len_eq], hc3, hm3, by intro x hx; rcases List.mem_append.1 hx with h | h; exact TB.A.lt x h; exact TB.B.lt x h, hr3, hn3⟩; clear T5 hg2 ho2 ho1 hb1 hb2 hr3 hn3 hc3 hm3)
    | (go_at_call 26; go_must (refine (within_arg' SA TB.A true (decide_eq_true (List.prefix_append _ _)).symm (Q := fun w' => Below w.heap.size w w') (fun _ hb => Below.after TB.bel hb)).mono ?_); rintro e x3 ⟨rfl, hy3⟩; clear TB SA)
    | (go_at_call 14; refine (alive_any _).mono ?_; rintro e x4 ⟨rfl, hb4⟩))
  go_ret
  exact ⟨rfl, Below.after hy3 hb4⟩

set_option maxHeartbeats 2000000 in
theorem walk_ny (a0 : Option Addr) (n0 c0 : Nat) (l0 : List ByteArray) (a1 : Option Addr) (n1 c1 : Nat) (l1 : List ByteArray) (a2 : Option Addr) (n2 c2 : Nat) (l2 : List ByteArray) (w : World) (w0 : SArg w a0 n0 c0 l0) (w1 : SArg w a1 n1 c1 l1) (w2 : SArg w a2 n2 c2 l2) (b0 : n0 ≤ 1048576) (b1 : n1 ≤ 1048576) (hab : l1 <+: l0) (hbc : ¬ l2 <+: l1) (hba : l0 <+: l1) :
    Calls Try.prog 8 #[.slice a0 n0 c0, .slice a1 n1 c1, .slice a2 n2 c2] w fun e w' => e = .returned (.bool true) ∧ Below w.heap.size w w' := by
  have T0 : Three w w a0 n0 c0 l0 a1 n1 c1 l1 a2 n2 c2 l2 := ⟨w0, w1, w2, Below.refl _ _⟩
  have r00 : Hid (true = decide (l0 <+: l0)) := (decide_eq_true (List.prefix_refl _)).symm
  have r01 : Hid (true = decide (l1 <+: l0)) := (decide_eq_true hab).symm
  have r12 : Hid (false = decide (l2 <+: l1)) := (decide_eq_false hbc).symm
  have r10 : Hid (true = decide (l0 <+: l1)) := (decide_eq_true hba).symm
  have t01 : Hid (true = decide (l0 = l1)) := (decide_eq_true (hba.eq_of_length_le hab.length_le)).symm
  clear hab hbc hba
  have HA : Hid (SArg w a0 n0 c0 l0) := w0
  clear w0 w1 w2
  have M0 : Hid True := trivial
  have M1 : Hid True := trivial
  have M2 : Hid True := trivial
  have M3 : Hid True := trivial
  have M4 : Hid True := trivial
  have M5 : Hid True := trivial
  have M6 : Hid True := trivial
  go_enter Try.func8, Try.ntmps8
  go_wp2_with (first
    | (go_at_call 26; clear M0; go_must (refine (within_00 T0 _ r00.out).mono ?_); rintro e u1 ⟨rfl, T1⟩; clear T0)
    | (go_at_call 26; clear M1; go_must (refine (within_01 T1 _ r01.out).mono ?_); rintro e u2 ⟨rfl, T2⟩; clear T1)
    | (go_at_call 26; clear M2; go_must (refine (within_12 T2 _ r12.out).mono ?_); rintro e u3 ⟨rfl, T3⟩; clear T2)
    | (go_at_call 26; clear M3; go_must (refine (within_01 T3 _ r01.out).mono ?_); rintro e u4 ⟨rfl, T4⟩; clear T3)
    | (go_at_call 26; clear M4; go_must (refine (within_10 T4 _ r10.out).mono ?_); rintro e u5 ⟨rfl, T5⟩; clear T4)
    | (go_at_call 21; go_must (refine (texts_01 T5 _ t01.out).mono ?_); rintro e u6 ⟨rfl, T6⟩; clear T5)
    | (at_builtin; clear M5; go_must (refine wpList_append_strs rfl (.tmp 44) (.tmp 45) rfl u6.heap.size (.slice (some ⟨u6.heap.size, 0, none⟩) 0 0) 0 [] rfl (own_empty u6 _ (Nat.le_refl _)) a0 n0 c0 l0 rfl T6.A.len_eq (T6.A.row.later (below_new u6 _)) T6.A.nil (by unfold maxLen; omega) (by omega) (by simp) ?_); intro v1 x1 ho1 hg1; simp only [Nat.zero_add, List.nil_append] at ho1; have hb1 := below_copy hg1; have hsz1 := hb1.size; clear hg1)
    | (at_builtin; clear M6; go_must (refine wpList_append_strs rfl (.tmp 46) (.tmp 47) rfl u6.heap.size v1 n0 (l0.map Value.string) rfl ho1 a1 n1 c1 l1 rfl T6.B.len_eq (T6.B.row.later hb1) T6.B.nil (by unfold maxLen; omega) (by omega) hsz1 ?_); intro v2 x2 ho2 hg2; have hb2 := grown_own hb1 hg2 hsz1 ho1; have TB := T6.later hb2; obtain ⟨a3, c3, rfl, hr3, hn3, hc3, hm3⟩ := own_all T6.A.len_eq T6.B.len_eq ho2; have SA : SArg x2 a3 (n0 + n1) c3 (l0 ++ l1) := ⟨by rw [List.length_append, TB.A.len_eq, TB.B.len_eq], hc3, hm3, by intro x hx; rcases List.mem_append.1 hx with h | h; exact TB.A.lt x h; exact TB.B.lt x h, hr3, hn3⟩; clear T6 hg2 ho2 ho1 hb1 hb2 hr3 hn3 hc3 hm3)
    | (go_at_call 26; go_must (refine (within_arg' SA TB.A true (decide_eq_true (List.prefix_append _ _)).symm (Q := fun w' => Below w.heap.size w w') (fun _ hb => Below.after TB.bel hb)).mono ?_); rintro e x3 ⟨rfl, hy3⟩; clear TB SA)
    | (go_at_call 14; refine (alive_any _).mono ?_; rintro e x4 ⟨rfl, hb4⟩))
  go_ret
  exact ⟨rfl, Below.after hy3 hb4⟩

set_option maxHeartbeats 2000000 in
theorem walk_yn (a0 : Option Addr) (n0 c0 : Nat) (l0 : List ByteArray) (a1 : Option Addr) (n1 c1 : Nat) (l1 : List ByteArray) (a2 : Option Addr) (n2 c2 : Nat) (l2 : List ByteArray) (w : World) (w0 : SArg w a0 n0 c0 l0) (w1 : SArg w a1 n1 c1 l1) (w2 : SArg w a2 n2 c2 l2) (b0 : n0 ≤ 1048576) (b1 : n1 ≤ 1048576) (hab : l1 <+: l0) (hbc : l2 <+: l1) (hba : ¬ l0 <+: l1) :
    Calls Try.prog 8 #[.slice a0 n0 c0, .slice a1 n1 c1, .slice a2 n2 c2] w fun e w' => e = .returned (.bool true) ∧ Below w.heap.size w w' := by
  have T0 : Three w w a0 n0 c0 l0 a1 n1 c1 l1 a2 n2 c2 l2 := ⟨w0, w1, w2, Below.refl _ _⟩
  have r00 : Hid (true = decide (l0 <+: l0)) := (decide_eq_true (List.prefix_refl _)).symm
  have r01 : Hid (true = decide (l1 <+: l0)) := (decide_eq_true hab).symm
  have r12 : Hid (true = decide (l2 <+: l1)) := (decide_eq_true hbc).symm
  have r02 : Hid (true = decide (l2 <+: l0)) := (decide_eq_true (hbc.trans hab)).symm
  have r10 : Hid (false = decide (l0 <+: l1)) := (decide_eq_false hba).symm
  clear hab hbc hba
  have HA : Hid (SArg w a0 n0 c0 l0) := w0
  clear w0 w1 w2
  have M0 : Hid True := trivial
  have M1 : Hid True := trivial
  have M2 : Hid True := trivial
  have M3 : Hid True := trivial
  have M4 : Hid True := trivial
  have M5 : Hid True := trivial
  have M6 : Hid True := trivial
  have M7 : Hid True := trivial
  go_enter Try.func8, Try.ntmps8
  go_wp2_with (first
    | (go_at_call 26; clear M0; go_must (refine (within_00 T0 _ r00.out).mono ?_); rintro e u1 ⟨rfl, T1⟩; clear T0)
    | (go_at_call 26; clear M1; go_must (refine (within_01 T1 _ r01.out).mono ?_); rintro e u2 ⟨rfl, T2⟩; clear T1)
    | (go_at_call 26; clear M2; go_must (refine (within_12 T2 _ r12.out).mono ?_); rintro e u3 ⟨rfl, T3⟩; clear T2)
    | (go_at_call 26; clear M3; go_must (refine (within_02 T3 _ r02.out).mono ?_); rintro e u4 ⟨rfl, T4⟩; clear T3)
    | (go_at_call 26; clear M4; go_must (refine (within_01 T4 _ r01.out).mono ?_); rintro e u5 ⟨rfl, T5⟩; clear T4)
    | (go_at_call 26; clear M5; go_must (refine (within_10 T5 _ r10.out).mono ?_); rintro e u6 ⟨rfl, T6⟩; clear T5)
    | (at_builtin; clear M6; go_must (refine wpList_append_strs rfl (.tmp 44) (.tmp 45) rfl u6.heap.size (.slice (some ⟨u6.heap.size, 0, none⟩) 0 0) 0 [] rfl (own_empty u6 _ (Nat.le_refl _)) a0 n0 c0 l0 rfl T6.A.len_eq (T6.A.row.later (below_new u6 _)) T6.A.nil (by unfold maxLen; omega) (by omega) (by simp) ?_); intro v1 x1 ho1 hg1; simp only [Nat.zero_add, List.nil_append] at ho1; have hb1 := below_copy hg1; have hsz1 := hb1.size; clear hg1)
    | (at_builtin; clear M7; go_must (refine wpList_append_strs rfl (.tmp 46) (.tmp 47) rfl u6.heap.size v1 n0 (l0.map Value.string) rfl ho1 a1 n1 c1 l1 rfl T6.B.len_eq (T6.B.row.later hb1) T6.B.nil (by unfold maxLen; omega) (by omega) hsz1 ?_); intro v2 x2 ho2 hg2; have hb2 := grown_own hb1 hg2 hsz1 ho1; have TB := T6.later hb2; obtain ⟨a3, c3, rfl, hr3, hn3, hc3, hm3⟩ := own_all T6.A.len_eq T6.B.len_eq ho2; have SA : SArg x2 a3 (n0 + n1) c3 (l0 ++ l1) := ⟨by rw [List.length_append, TB.A.len_eq, TB.B.len_eq], hc3, hm3, by intro x hx; rcases List.mem_append.1 hx with h | h; exact TB.A.lt x h; exact TB.B.lt x h, hr3, hn3⟩; clear T6 hg2 ho2 ho1 hb1 hb2 hr3 hn3 hc3 hm3)
    | (go_at_call 26; go_must (refine (within_arg' SA TB.A true (decide_eq_true (List.prefix_append _ _)).symm (Q := fun w' => Below w.heap.size w w') (fun _ hb => Below.after TB.bel hb)).mono ?_); rintro e x3 ⟨rfl, hy3⟩; clear TB SA)
    | (go_at_call 14; refine (alive_any _).mono ?_; rintro e x4 ⟨rfl, hb4⟩))
  go_ret
  exact ⟨rfl, Below.after hy3 hb4⟩

set_option maxHeartbeats 2000000 in
theorem walk_yy (a0 : Option Addr) (n0 c0 : Nat) (l0 : List ByteArray) (a1 : Option Addr) (n1 c1 : Nat) (l1 : List ByteArray) (a2 : Option Addr) (n2 c2 : Nat) (l2 : List ByteArray) (w : World) (w0 : SArg w a0 n0 c0 l0) (w1 : SArg w a1 n1 c1 l1) (w2 : SArg w a2 n2 c2 l2) (b0 : n0 ≤ 1048576) (b1 : n1 ≤ 1048576) (hab : l1 <+: l0) (hbc : l2 <+: l1) (hba : l0 <+: l1) :
    Calls Try.prog 8 #[.slice a0 n0 c0, .slice a1 n1 c1, .slice a2 n2 c2] w fun e w' => e = .returned (.bool true) ∧ Below w.heap.size w w' := by
  have T0 : Three w w a0 n0 c0 l0 a1 n1 c1 l1 a2 n2 c2 l2 := ⟨w0, w1, w2, Below.refl _ _⟩
  have r00 : Hid (true = decide (l0 <+: l0)) := (decide_eq_true (List.prefix_refl _)).symm
  have r01 : Hid (true = decide (l1 <+: l0)) := (decide_eq_true hab).symm
  have r12 : Hid (true = decide (l2 <+: l1)) := (decide_eq_true hbc).symm
  have r02 : Hid (true = decide (l2 <+: l0)) := (decide_eq_true (hbc.trans hab)).symm
  have r10 : Hid (true = decide (l0 <+: l1)) := (decide_eq_true hba).symm
  have t01 : Hid (true = decide (l0 = l1)) := (decide_eq_true (hba.eq_of_length_le hab.length_le)).symm
  clear hab hbc hba
  have HA : Hid (SArg w a0 n0 c0 l0) := w0
  clear w0 w1 w2
  have M0 : Hid True := trivial
  have M1 : Hid True := trivial
  have M2 : Hid True := trivial
  have M3 : Hid True := trivial
  have M4 : Hid True := trivial
  have M5 : Hid True := trivial
  have M6 : Hid True := trivial
  have M7 : Hid True := trivial
  go_enter Try.func8, Try.ntmps8
  go_wp2_with (first
    | (go_at_call 26; clear M0; go_must (refine (within_00 T0 _ r00.out).mono ?_); rintro e u1 ⟨rfl, T1⟩; clear T0)
    | (go_at_call 26; clear M1; go_must (refine (within_01 T1 _ r01.out).mono ?_); rintro e u2 ⟨rfl, T2⟩; clear T1)
    | (go_at_call 26; clear M2; go_must (refine (within_12 T2 _ r12.out).mono ?_); rintro e u3 ⟨rfl, T3⟩; clear T2)
    | (go_at_call 26; clear M3; go_must (refine (within_02 T3 _ r02.out).mono ?_); rintro e u4 ⟨rfl, T4⟩; clear T3)
    | (go_at_call 26; clear M4; go_must (refine (within_01 T4 _ r01.out).mono ?_); rintro e u5 ⟨rfl, T5⟩; clear T4)
    | (go_at_call 26; clear M5; go_must (refine (within_10 T5 _ r10.out).mono ?_); rintro e u6 ⟨rfl, T6⟩; clear T5)
    | (go_at_call 21; go_must (refine (texts_01 T6 _ t01.out).mono ?_); rintro e u7 ⟨rfl, T7⟩; clear T6)
    | (at_builtin; clear M6; go_must (refine wpList_append_strs rfl (.tmp 44) (.tmp 45) rfl u7.heap.size (.slice (some ⟨u7.heap.size, 0, none⟩) 0 0) 0 [] rfl (own_empty u7 _ (Nat.le_refl _)) a0 n0 c0 l0 rfl T7.A.len_eq (T7.A.row.later (below_new u7 _)) T7.A.nil (by unfold maxLen; omega) (by omega) (by simp) ?_); intro v1 x1 ho1 hg1; simp only [Nat.zero_add, List.nil_append] at ho1; have hb1 := below_copy hg1; have hsz1 := hb1.size; clear hg1)
    | (at_builtin; clear M7; go_must (refine wpList_append_strs rfl (.tmp 46) (.tmp 47) rfl u7.heap.size v1 n0 (l0.map Value.string) rfl ho1 a1 n1 c1 l1 rfl T7.B.len_eq (T7.B.row.later hb1) T7.B.nil (by unfold maxLen; omega) (by omega) hsz1 ?_); intro v2 x2 ho2 hg2; have hb2 := grown_own hb1 hg2 hsz1 ho1; have TB := T7.later hb2; obtain ⟨a3, c3, rfl, hr3, hn3, hc3, hm3⟩ := own_all T7.A.len_eq T7.B.len_eq ho2; have SA : SArg x2 a3 (n0 + n1) c3 (l0 ++ l1) := ⟨by rw [List.length_append, TB.A.len_eq, TB.B.len_eq], hc3, hm3, by intro x hx; rcases List.mem_append.1 hx with h | h; exact TB.A.lt x h; exact TB.B.lt x h, hr3, hn3⟩; clear T7 hg2 ho2 ho1 hb1 hb2 hr3 hn3 hc3 hm3)
    | (go_at_call 26; go_must (refine (within_arg' SA TB.A true (decide_eq_true (List.prefix_append _ _)).symm (Q := fun w' => Below w.heap.size w w') (fun _ hb => Below.after TB.bel hb)).mono ?_); rintro e x3 ⟨rfl, hy3⟩; clear TB SA)
    | (go_at_call 14; refine (alive_any _).mono ?_; rintro e x4 ⟨rfl, hb4⟩))
  go_ret
  exact ⟨rfl, Below.after hy3 hb4⟩

theorem walk (a0 : Option Addr) (n0 c0 : Nat) (l0 : List ByteArray) (a1 : Option Addr) (n1 c1 : Nat) (l1 : List ByteArray) (a2 : Option Addr) (n2 c2 : Nat) (l2 : List ByteArray) (w : World) (w0 : SArg w a0 n0 c0 l0) (w1 : SArg w a1 n1 c1 l1) (w2 : SArg w a2 n2 c2 l2) (b0 : weigh l0 + c0 ≤ n0 + 1048576) (b1 : weigh l1 + c1 ≤ n1 + 1048576) (_ : weigh l2 + c2 ≤ n2 + 1048576) :
    Calls Try.prog 8 #[.slice a0 n0 c0, .slice a1 n1 c1, .slice a2 n2 c2] w fun e w' => e = .returned (.bool true) ∧ Below w.heap.size w w' := by
  have q0 : n0 ≤ 1048576 := by have h1 := w0.le; have h2 := weigh_length l0; have h3 := w0.len_eq; omega
  have q1 : n1 ≤ 1048576 := by have h1 := w1.le; have h2 := weigh_length l1; have h3 := w1.len_eq; omega
  by_cases hab : l1 <+: l0
  · by_cases hbc : l2 <+: l1
    · by_cases hba : l0 <+: l1
      · exact walk_yy _ _ _ _ _ _ _ _ _ _ _ _ w w0 w1 w2 q0 q1 hab hbc hba
      · exact walk_yn _ _ _ _ _ _ _ _ _ _ _ _ w w0 w1 w2 q0 q1 hab hbc hba
    · by_cases hba : l0 <+: l1
      · exact walk_ny _ _ _ _ _ _ _ _ _ _ _ _ w w0 w1 w2 q0 q1 hab hbc hba
      · exact walk_nn _ _ _ _ _ _ _ _ _ _ _ _ w w0 w1 w2 q0 q1 hab hbc hba
  · exact walk_n _ _ _ _ _ _ _ _ _ _ _ _ w w0 w1 w2 q0 q1 hab

set_option maxRecDepth 100000 in
theorem contract (H : Type) (enc : TypeId × Value → H) (W : World) (base : Nat) (args : Array Value) (ds gs : List (DataW H)) (before : List MemPlace)
    (hval : ∀ (j : Nat) t v, Try.f8.params[j]? = some t → args[j]? = some v → Value.okWide Try.prog W .any base t v)
    (hW : DataW.Whole enc Try.prog Try.f8.params.toList Rows.namesWithinSpec.vars false W args.toList ds gs before) (hk : Rows.uptoSmall H (ds ++ gs) = true) :
    Calls Try.prog 8 args W fun e W' => ∃ v, e = .returned v ∧ Rows.namesWithinSpec.post enc Try.prog Try.f8 false true false false W args v W' := by
  have hW' := hW
  obtain ⟨p, q, hA0, hV, rfl, hfz, hnd⟩ := hW
  have hA : DataW.TrodAll enc Try.prog W 0 (fun _ => true) true Try.f8.params.toList args.toList ds p := hA0
  rw [Try.params8] at hA hval
  obtain ⟨v0, vs0, d0, ds0, p0, q0, hargs, rfl, rfl, h0, r0⟩ := trodAll_cons hA
  obtain ⟨v1, vs1, d1, ds1, p1, q1, rfl, rfl, rfl, h1, r1⟩ := trodAll_cons r0
  obtain ⟨v2, vs2, d2, ds2, p2, q2, rfl, rfl, rfl, h2, r2⟩ := trodAll_cons r1
  obtain ⟨rfl, rfl, rfl⟩ := trodAll_nil r2
  obtain rfl : args = #[v0, v1, v2] := by cases args; simp_all
  obtain ⟨rfl, rfl⟩ := trodVars_none hV
  simp only [List.append_nil] at hk
  have hb : Rows.uptoBulkAll ([d0, d1, d2] : List (DataW H)) ≤ 1048576 := of_decide_eq_true hk
  simp only [Rows.uptoBulkAll] at hb
  obtain ⟨a0, len0, cap0, rfl⟩ := okWide_slice Try.underlying22 (hval 0 22 v0 rfl rfl)
  have k0 := h0
  have lt0 : ∀ x ∈ p0, x.block < W.heap.size := by obtain ⟨m, hm⟩ := k0; exact DataW.trod_lt m _ _ _ hm
  obtain ⟨l0, w0, b0⟩ : ∃ l, SArg W a0 len0 cap0 l ∧ weigh l + cap0 ≤ len0 + Rows.uptoBulk d0 := by
    obtain ⟨fuel, hf⟩ := h0
    obtain ⟨l, hl, hd⟩ := sarg_open hf
    refine ⟨l, hl, ?_⟩
    rcases hd with ⟨h, rfl⟩ | ⟨ss, rfl, hc, rfl⟩
    · rw [weigh_nil]; omega
    · rw [bulk_slice]
      have h1 := weigh_length (ss.drop len0)
      rw [List.length_drop] at h1
      omega
  obtain ⟨a1, len1, cap1, rfl⟩ := okWide_slice Try.underlying22 (hval 1 22 v1 rfl rfl)
  have k1 := h1
  have lt1 : ∀ x ∈ p1, x.block < W.heap.size := by obtain ⟨m, hm⟩ := k1; exact DataW.trod_lt m _ _ _ hm
  obtain ⟨l1, w1, b1⟩ : ∃ l, SArg W a1 len1 cap1 l ∧ weigh l + cap1 ≤ len1 + Rows.uptoBulk d1 := by
    obtain ⟨fuel, hf⟩ := h1
    obtain ⟨l, hl, hd⟩ := sarg_open hf
    refine ⟨l, hl, ?_⟩
    rcases hd with ⟨h, rfl⟩ | ⟨ss, rfl, hc, rfl⟩
    · rw [weigh_nil]; omega
    · rw [bulk_slice]
      have h1 := weigh_length (ss.drop len1)
      rw [List.length_drop] at h1
      omega
  obtain ⟨a2, len2, cap2, rfl⟩ := okWide_slice Try.underlying22 (hval 2 22 v2 rfl rfl)
  have k2 := h2
  have lt2 : ∀ x ∈ p2, x.block < W.heap.size := by obtain ⟨m, hm⟩ := k2; exact DataW.trod_lt m _ _ _ hm
  obtain ⟨l2, w2, b2⟩ : ∃ l, SArg W a2 len2 cap2 l ∧ weigh l + cap2 ≤ len2 + Rows.uptoBulk d2 := by
    obtain ⟨fuel, hf⟩ := h2
    obtain ⟨l, hl, hd⟩ := sarg_open hf
    refine ⟨l, hl, ?_⟩
    rcases hd with ⟨h, rfl⟩ | ⟨ss, rfl, hc, rfl⟩
    · rw [weigh_nil]; omega
    · rw [bulk_slice]
      have h1 := weigh_length (ss.drop len2)
      rw [List.length_drop] at h1
      omega
  clear hA0
  refine (walk a0 len0 cap0 l0 a1 len1 cap1 l1 a2 len2 cap2 l2 W w0 w1 w2 (by omega) (by omega) (by omega)).mono fun e W' ⟨he, bel⟩ => ?_
  subst he
  exact ⟨_, rfl, _, _, _, [], _, [], hW', trodAll_mk1 (shut_bool Try.underlying4 _), (trodAll_cons_mk (Below.trod laidOut (by kernel_rfl) (of_decide_eq_true (by kernel_rfl)) k0 bel lt0) (trodAll_cons_mk (Below.trod laidOut (by kernel_rfl) (of_decide_eq_true (by kernel_rfl)) k1 bel lt1) (trodAll_cons_mk (Below.trod laidOut (by kernel_rfl) (of_decide_eq_true (by kernel_rfl)) k2 bel lt2) trodAll_mk0))), rfl, bel.frame _, fun h => by cases h⟩

set_option maxRecDepth 100000 in
theorem lifted (os : Os) (started : os.Started) (H : Type) (enc : TypeId × Value → H) (F : Stop.Interp) :
    ReturnsInHanded {} Try.checked os 8 .any ((Rows.OpenSpec.upto Rows.namesWithinSpec).pre6 enc Try.prog Try.f8 Rows.namesWithinUptoRow.domain false) (((Rows.OpenSpec.upto Rows.namesWithinSpec).at F).post enc Try.prog Try.f8 false true false false) := by
  refine returnsInHanded_of_cond (C := Try.checked) (s := Rows.OpenSpec.upto Rows.namesWithinSpec) (k := Rows.uptoSmall) rfl own started (by kernel_rfl) Try.func8
    (OpenSpec.witness (enc := enc) (C := Try.checked) (s := Rows.OpenSpec.upto Rows.namesWithinSpec) (k := Rows.uptoSmall) rfl false ⟨#[], #[.slice none 0 0, .slice none 0 0, .slice none 0 0], []⟩ 8 (by kernel_rfl) (by kernel_rfl) (by kernel_rfl)
      (x := ([.nil, .nil, .nil], [], [])) (by kernel_rfl) rfl (by kernel_rfl)) ?_
  intro W base args ds gs before hval hW _ hk _
  exact contract H enc W base args ds gs before hval hW hk

theorem over : Rows.NamesWithinUptoSaid :=
  OpenClaim.holds_of_cond 8 Try.f8 rfl rfl rfl rfl rfl rfl rfl ⟨rfl, rfl, rfl, rfl, rfl⟩ rfl rfl rfl rfl rfl (by kernel_rfl) Try.func8 (by kernel_rfl)
    (of_decide_eq_true (by kernel_rfl)) (by unfold Func.isWrapper; first | (rw [if_pos (by decide +kernel)]; kernel_rfl) | (rw [if_neg (by decide +kernel)]; exact ⟨rfl, rfl⟩))
    (fun os started H enc _ F => lifted os started H enc F)
end Go.Proofs.Ytnhoaafpdckmjaa.namesWithin

namespace Go.Proofs.Ytnhoaafpdckmjaa
theorem namesWithinUpto_holds : Rows.NamesWithinUptoSaid := namesWithin.over
#print axioms namesWithinUpto_holds
end Go.Proofs.Ytnhoaafpdckmjaa

