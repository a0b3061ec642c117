/-
  Proved: the statement on frames that are found again (BitsBack): for every payload, whatever stands behind it, and every byte that is turned; no condition.
-/
import Derived.Test.YtnogfmfagambeaaArg
import Derived.Test.YtnogfmfagambeaaBackMath
import Derived.Deep.AppendLies
import Derived.Laws.AppendOwnNone
namespace Go.Proofs.Ytnogfmfagambeaa.bitsBack
open Go.ChangeShapes Go.WideShapes Go.ChangeAt Go.RowKit M

theorem frame_no_at (a : Option Addr) (cap n : Nat) (w : World) (h : n = 0 ∨ 1024 < n) :
    Calls Try.prog 18 #[.slice a n cap] w fun e w' => e = .returned (.tuple #[.slice none 0 0, .int .i64 22]) ∧ w = w' := frame_no a cap n w h

set_option maxHeartbeats 400000 in
theorem walk_no (a0 a1 : Option Addr) (n c0 m c1 : Nat) (k y : Int) (w : World) (h : n = 0 ∨ 1024 < n) :
    Calls Try.prog 5 #[.slice a0 n c0, .slice a1 m c1, .int .i64 k, .int .u8 y] w fun e w' => e = .returned (.bool true) ∧ Below w.heap.size w w' := by
  by_cases h0 : n = 0
  · subst h0
    go_enter Try.func5, Try.ntmps5
    go_wp2_with (first
      | (go_at_call 18; refine (frame_no_at _ _ _ _ (.inl rfl)).mono ?_; rintro e w' ⟨rfl, rfl⟩)
      | (go_at_call 17; refine (alive_any _).mono ?_; rintro e w1 ⟨rfl, hb⟩))
    go_ret
    exact ⟨rfl, hb⟩
  · have h1 : 1024 < n := by omega
    have e1 : ((n : Int) == 0) = false := by simpa using h0
    have e2 : (1024 : Int) < (n : Int) := by omega
    clear h h0
    go_enter Try.func5, Try.ntmps5
    go_wp2_with (first
      | (go_at_call 18; refine (frame_no_at _ _ _ _ (.inr h1)).mono ?_; rintro e w' ⟨rfl, rfl⟩)
      | (go_at_call 17; refine (alive_any _).mono ?_; rintro e w1 ⟨rfl, hb⟩))
    go_ret
    exact ⟨rfl, hb⟩

theorem frame_at (a : Option Addr) (cap n : Nat) (l : List Nat) (w : World) (hn : n = l.length) (h1 : 1 ≤ n) (h2 : n ≤ 1024) (hb : ∀ x ∈ l, x < 256) (hr : BRow w a l) :
    Calls Try.prog 18 #[.slice a n cap] w fun e w' => e = .returned (.tuple #[.slice (some ⟨w.heap.size, 0, none⟩) (6 + n) (6 + n), .int .i64 0]) ∧ Own w w' (.slice (some ⟨w.heap.size, 0, none⟩) (6 + n) (6 + n)) (frameL l) := by
  subst hn
  exact frame_yes a cap l w h1 h2 hb hr
theorem own_empty (w : World) (base : Nat) (h : base ≤ w.heap.size) : (w.alloc (.cells #[] 5)).ownsRow base 5 1 (.slice (some ⟨w.heap.size, 0, none⟩) 0 0) 0 [] :=
  World.ownsRow_lit (e := 5) (size := 1) w #[] 0 h (by decide) rfl
theorem cells_any {w : World} {ad : Addr} {l : List Nat} (h : BRow w (some ad) l) : ∀ j u, (l.map u8v)[j]? = some u → w.cell? (ad.add j) = some u := by
  rcases h with rfl | ⟨b, off, ha, hc⟩
  · intro j u hj; simp at hj
  · cases ha
    exact BRow.cells hc
theorem below_copy {w w' : World} (hg : (w.alloc (.cells #[] 5)).grownBy w' (Value.ownBlock (.slice (some ⟨w.heap.size, 0, none⟩) 0 0))) : Below w.heap.size w w' :=
  (below_new w _).grown hg (by simp) (fun k hk => by simp [Value.ownBlock] at hk; omega)
theorem unframe_at (a : Option Addr) (cap N n : Nat) (l m : List Nat) (w : World) (hN : N = (frameL l ++ m).length) (hn : n = l.length) (h1 : 1 ≤ n) (h2 : n ≤ 1024) (hl : ∀ x ∈ l, x < 256) (hm : ∀ x ∈ m, x < 256)
    (hc : N ≤ cap) (hx : cap ≤ maxLen) (hr : BRow w a (frameL l ++ m)) :
    Calls Try.prog 20 #[.slice a N cap] w fun e w' => e = .returned (.tuple #[.slice (some ⟨w.heap.size, 0, none⟩) n n, .int .i64 (6 + (n : Int)), .bool true]) ∧ Own w w' (.slice (some ⟨w.heap.size, 0, none⟩) n n) l := by
  subst hN
  subst hn
  have := unframe_is a cap (frameL l ++ m) w hc (by unfold maxLen at hx; omega) (by intro x hx; simp only [List.mem_append] at hx; rcases hx with hx | hx; exact frameL_lt hl x hx; exact hm x hx) hr (frame_is l m h1 h2)
  rw [size_frame l m h2, body_frame l m h2] at this
  exact this

/-- What the first part of the walk leaves. -/
theorem own_cat {w : World} {base n m N : Nat} {v : Value} {F M : List Nat} (hF : F.length = n) (hM : M.length = m) (hN : N = n + m) (h : w.ownsRow base 5 1 v (n + m) (F.map u8v ++ M.map u8v)) :
    ∃ a cap, v = .slice a N cap ∧ BRow w a (F ++ M) ∧ N ≤ cap ∧ cap ≤ maxLen := by
  subst hF
  subst hM
  subst hN
  rw [← List.map_append, ← List.length_append] at h
  obtain ⟨a, cap, h1, h2, h3, h4⟩ := owns_row h
  rw [List.length_append] at h1 h3
  exact ⟨a, cap, h1, h2, h3, h4⟩

theorem wpList_append_bytes {w : World} {ops : Array Oper} {rest : List Oper} {o : Oper} {a : Act} {Q : Exit → Act → World → Prop} (hgd : o.guard = none) (s x : Operand)
    (ho : o.op = .call { callee := .builtin .append, args := #[s, x], argTypes := #[23, 23] })
    (base : Nat) (v : Value) (n : Nat) (xs : List Value) (hs : a.eval s = v) (hown : w.ownsRow base 5 1 v n xs)
    (ao : Option Addr) (m c : Nat) (M : List Nat) (hx : a.eval x = .slice ao m c) (hM : m = M.length) (hr : BRow w ao M) (hnil : ao = none → m = 0 ∧ c = 0)
    (h63 : n + m ≤ maxLen) (hbytes : (n + m) * 1 ≤ 140737488355328) (hbase : base ≤ w.heap.size)
    (h : ∀ v' w', w'.ownsRow base 5 1 v' (n + m) (xs ++ M.map u8v) → w.grownBy w' v.ownBlock → wpList Try.prog ops Q rest (a.put o.dst v') w') : wpList Try.prog ops Q (o :: rest) a w := by
  obtain ⟨i0, hi, hz0, hz1, hz2⟩ := info_parts info8
  cases ao with
  | none =>
    obtain ⟨rfl, rfl⟩ := hnil rfl
    have hM0 : M = [] := List.eq_nil_of_length_eq_zero hM.symm
    subst hM0
    refine wpList_append_own_none hgd s x 23 ho base 5 i0 1 Try.underlying23 hi v n xs hs hown hx ?_
    exact h v w (by simpa using hown) ⟨rfl, rfl, rfl, Nat.le_refl _, fun _ _ _ => rfl⟩
  | some ad =>
    exact wpList_append_own w hgd s x 23 ho base 5 i0 (.int .u8 0) 1 1 Try.underlying23 hi hz0 hz1 hz2 rfl (by omega) v n xs hs hown ad m c (M.map u8v) hx (by simp [hM]) (cells_any hr) (u8v_one _) h63 hbytes hbase
      (fun v' w' h1 h2 _ => h v' w' h1 h2)
theorem block_ge {B g : Nat} {v : Value} (hv : v = .slice (some ⟨B, 0, none⟩) 0 0) (h : v.ownBlock = some g ∨ g = B + 1) : B ≤ g := by
  subst hv
  rcases h with h | h
  · simp [Value.ownBlock] at h; omega
  · omega

theorem turned_call {w : World} {base g n cap k x y : Nat} {l F : List Nat} (hF : F = frameL l) (hn : n = l.length) (h2 : n ≤ 1024) (hl : ∀ x ∈ l, x < 256) (hk : 2 ≤ k) (hk2 : k < 6 + n) (hx : x = F.getD k 0) (hy : y < 256) (hy0 : y ≠ 0)
    (ho : w.ownsRow base 5 1 (.slice (some ⟨g, 0, none⟩) (6 + n) cap) (6 + n) (F.map u8v)) :
    Calls Try.prog 20 #[.slice (some ⟨g, 0, none⟩) (6 + n) cap] (w.setCell ⟨g, k, none⟩ (.int .u8 ((x ^^^ y : Nat) : Int))) fun e w' =>
      e = .returned (.tuple #[.slice none 0 0, .int .i64 0, .bool false]) ∧ Below (w.setCell ⟨g, k, none⟩ (.int .u8 ((x ^^^ y : Nat) : Int))).heap.size (w.setCell ⟨g, k, none⟩ (.int .u8 ((x ^^^ y : Nat) : Int))) w' := by
  subst hF
  subst hn
  have h3 := (ho.stored k (u8v (x ^^^ y))).1
  have e : ((frameL l).map u8v).set k (u8v (x ^^^ y)) = ((frameL l).set k (x ^^^ y)).map u8v := by rw [List.map_set]
  have hlen : ((frameL l).set k (x ^^^ y)).length = 6 + l.length := by rw [List.length_set, frameL_length]; omega
  rw [e, ← hlen] at h3
  obtain ⟨a, c, hv, hr, hc, hm⟩ := owns_row h3
  simp only [Value.slice.injEq] at hv
  obtain ⟨rfl, _, rfl⟩ := hv
  have hxl : x < 256 := by rw [hx]; exact frameL_lt hl _ (by simp [List.getD]; rw [List.getElem?_eq_getElem (by rw [frameL_length]; omega)]; simp)
  have hz := xor_lt8 hxl hy
  have := unframe_not (some ⟨g, 0, none⟩) cap ((frameL l).set k (x ^^^ y)) _ hc (by unfold maxLen at hm; omega) (set_lt (frameL_lt hl) hz k) hr (not_frame_turned l hl h2 k (x ^^^ y) hk hk2 hz (by rw [← hx]; exact turned_ne hy0))
  rw [hlen] at this
  exact this

/-- The byte that will be turned, where it lies. -/
theorem turned_cell {w : World} {base g n cap k x : Nat} {F : List Nat} (hx : x = F.getD k 0) (hF : F.length = 6 + n) (hk : k < 6 + n) (ho : w.ownsRow base 5 1 (.slice (some ⟨g, 0, none⟩) (6 + n) cap) (6 + n) (F.map u8v)) :
    w.cell? ⟨g, k, none⟩ = some (.int .u8 (x : Int)) := by
  rw [ho.cellAt k (by omega), hx]
  simp [u8v, List.getD, hF, hk]

set_option maxHeartbeats 2000000 in
theorem walk_skip (a0 a1 : Option Addr) (n c0 m c1 : Nat) (l M : List Nat) (k y : Int) (w : World) (w0 : BArg w a0 n c0 l) (w1 : BArg w a1 m c1 M) (s1 : c1 ≤ 140737488351232) (h1 : 1 ≤ n) (h2 : n ≤ 1024) (hk : k < 2) :
    Calls Try.prog 5 #[.slice a0 n c0, .slice a1 m c1, .int .i64 k, .int .u8 y] w fun e w' => e = .returned (.bool true) ∧ Below w.heap.size w w' := by
  have W0 : Hid (BArg w a0 n c0 l) := w0
  have W1 : Hid (BArg w a1 m c1 M) := w1
  have hm47 : m ≤ 140737488351232 := Nat.le_trans w1.le s1
  clear w0 w1
  obtain ⟨i0, hi, hz0, hz1, hz2⟩ := info_parts info8
  obtain ⟨F, hF⟩ : ∃ F, F = frameL l := ⟨_, rfl⟩
  have HF : Hid (F = frameL l) := hF
  have HFL : Hid (F.length = 6 + n) := by show _ = _; rw [hF, frameL_length, W0.out.len_eq]; omega
  have HFM : Hid ((F.map u8v).length = (6 + n) * 1) := by show _ = _; rw [List.length_map, HFL.out]; omega
  have HB1 : Hid (0 + (6 + n) ≤ maxLen ∧ (0 + (6 + n)) * 1 ≤ 140737488355328) := ⟨by unfold maxLen; omega, by omega⟩
  have HB2 : Hid (6 + n + m ≤ maxLen ∧ (6 + n + m) * 1 ≤ 140737488355328) := ⟨by unfold maxLen; omega, by omega⟩
  have HNM : Hid (6 + n + m = (frameL l ++ M).length) := by show _ = _; rw [List.length_append, ← hF, HFL.out, W1.out.len_eq]
  clear hF s1
  have M1 : Hid True := trivial
  have M2 : Hid True := trivial
  have M3 : Hid True := trivial
  go_enter Try.func5, Try.ntmps5
  go_wp2_with (first
    | (go_at_call 18; go_must (refine (frame_at _ _ _ l _ W0.out.len_eq h1 h2 W0.out.lt W0.out.row).mono ?_); rintro e w1 ⟨rfl, ho1⟩; have hb1 := ho1.2; have hp1 := own_at ho1; rw [← HF.out] at hp1; clear ho1)
    | (at_builtin; clear M1; go_must (refine wpList_append_lies _ rfl (.tmp 39) (.tmp 40) 23 rfl w.heap.size 5 i0 (.int .u8 0) 1 1 Try.underlying23 hi hz0 hz1 hz2 rfl (by omega) (.slice (some ⟨w1.heap.size, 0, none⟩) 0 0) 0 [] rfl (own_empty w1 w.heap.size hb1.size) ⟨w.heap.size, 0, none⟩ (6 + n) (6 + n) (F.map u8v) rfl HFM.out (row_cells (hp1.later (below_new w1 _))) (u8v_one _) (by omega) HB1.out.1 HB1.out.2 (by have := hb1.size; simp; omega) (w1.heap.size + 1) (by simp) ?_); intro g2 cap2 w2 hown2 hgrow2 hat2 hlt2; have hb12 := below_copy hgrow2; have hb2 := Below.after hb1 hb12; have hp2 := hp1.later hb12; have hg2 := block_ge rfl hat2; simp only [Nat.zero_add, List.nil_append] at hown2; clear hgrow2 hat2 hlt2)
    | (at_builtin; clear M2; go_must (refine wpList_append_bytes rfl (.tmp 41) (.tmp 42) rfl w.heap.size (.slice (some ⟨g2, 0, none⟩) (6 + n) cap2) (6 + n) (F.map u8v) rfl hown2 a1 m c1 M rfl W1.out.len_eq (W1.out.row.later hb2) W1.out.nil HB2.out.1 HB2.out.2 hb2.size ?_); intro v3 w3 hown3 hgrow3; have hb13 := grown_below hb12 hgrow3 hb12.size hg2; have hb3 := Below.after hb1 hb13; have hp3 := hp1.later hb13; obtain ⟨a3, cap3, rfl, hr3, hc3, hx3⟩ := own_cat HFL.out W1.out.len_eq.symm rfl hown3; rw [HF.out] at hr3; clear hgrow3 hown3 hown2 hp2 hp1 hb12 hb2 hb13 hg2)
    | (go_at_call 20; clear M3; go_must (refine (unframe_at a3 cap3 _ n l M w3 HNM.out W0.out.len_eq h1 h2 W0.out.lt W1.out.lt hc3 hx3 hr3).mono ?_); rintro e w4 ⟨rfl, ho4⟩; have hb4 := Below.after hb3 ho4.2; have hp4 := hp3.later ho4.2; have hq4 := own_at ho4; clear ho4 hr3 hp3)
    | (go_at_call 8; go_must (refine (same_yes w4 _ _ _ _ l n W0.out.len_eq W0.out.lt hq4 (W0.out.row.later hb4)).mono ?_); rintro e w' ⟨rfl, rfl⟩)
    | (go_at_call 17; refine (alive_any _).mono ?_; rintro e w5 ⟨rfl, hb45⟩; have hb5 := Below.after hb4 hb45; have hp5 := hp4.later hb45; clear hp4 hq4))
  go_ret
  exact ⟨rfl, hb5⟩

set_option maxHeartbeats 2000000 in
theorem walk_far (a0 a1 : Option Addr) (n c0 m c1 : Nat) (l M : List Nat) (k y : Int) (w : World) (w0 : BArg w a0 n c0 l) (w1 : BArg w a1 m c1 M) (s1 : c1 ≤ 140737488351232) (h1 : 1 ≤ n) (h2 : n ≤ 1024) (hk : ¬ k < 2) (hk2 : 6 + (n : Int) ≤ k) :
    Calls Try.prog 5 #[.slice a0 n c0, .slice a1 m c1, .int .i64 k, .int .u8 y] w fun e w' => e = .returned (.bool true) ∧ Below w.heap.size w w' := by
  have W0 : Hid (BArg w a0 n c0 l) := w0
  have W1 : Hid (BArg w a1 m c1 M) := w1
  have hm47 : m ≤ 140737488351232 := Nat.le_trans w1.le s1
  clear w0 w1
  obtain ⟨i0, hi, hz0, hz1, hz2⟩ := info_parts info8
  obtain ⟨F, hF⟩ : ∃ F, F = frameL l := ⟨_, rfl⟩
  have HF : Hid (F = frameL l) := hF
  have HFL : Hid (F.length = 6 + n) := by show _ = _; rw [hF, frameL_length, W0.out.len_eq]; omega
  have HFM : Hid ((F.map u8v).length = (6 + n) * 1) := by show _ = _; rw [List.length_map, HFL.out]; omega
  have HB1 : Hid (0 + (6 + n) ≤ maxLen ∧ (0 + (6 + n)) * 1 ≤ 140737488355328) := ⟨by unfold maxLen; omega, by omega⟩
  have HB2 : Hid (6 + n + m ≤ maxLen ∧ (6 + n + m) * 1 ≤ 140737488355328) := ⟨by unfold maxLen; omega, by omega⟩
  have HNM : Hid (6 + n + m = (frameL l ++ M).length) := by show _ = _; rw [List.length_append, ← hF, HFL.out, W1.out.len_eq]
  clear hF s1
  have M1 : Hid True := trivial
  have M2 : Hid True := trivial
  have M3 : Hid True := trivial
  go_enter Try.func5, Try.ntmps5
  go_wp2_with (first
    | (go_at_call 18; go_must (refine (frame_at _ _ _ l _ W0.out.len_eq h1 h2 W0.out.lt W0.out.row).mono ?_); rintro e w1 ⟨rfl, ho1⟩; have hb1 := ho1.2; have hp1 := own_at ho1; rw [← HF.out] at hp1; clear ho1)
    | (at_builtin; clear M1; go_must (refine wpList_append_lies _ rfl (.tmp 39) (.tmp 40) 23 rfl w.heap.size 5 i0 (.int .u8 0) 1 1 Try.underlying23 hi hz0 hz1 hz2 rfl (by omega) (.slice (some ⟨w1.heap.size, 0, none⟩) 0 0) 0 [] rfl (own_empty w1 w.heap.size hb1.size) ⟨w.heap.size, 0, none⟩ (6 + n) (6 + n) (F.map u8v) rfl HFM.out (row_cells (hp1.later (below_new w1 _))) (u8v_one _) (by omega) HB1.out.1 HB1.out.2 (by have := hb1.size; simp; omega) (w1.heap.size + 1) (by simp) ?_); intro g2 cap2 w2 hown2 hgrow2 hat2 hlt2; have hb12 := below_copy hgrow2; have hb2 := Below.after hb1 hb12; have hp2 := hp1.later hb12; have hg2 := block_ge rfl hat2; simp only [Nat.zero_add, List.nil_append] at hown2; clear hgrow2 hat2 hlt2)
    | (at_builtin; clear M2; go_must (refine wpList_append_bytes rfl (.tmp 41) (.tmp 42) rfl w.heap.size (.slice (some ⟨g2, 0, none⟩) (6 + n) cap2) (6 + n) (F.map u8v) rfl hown2 a1 m c1 M rfl W1.out.len_eq (W1.out.row.later hb2) W1.out.nil HB2.out.1 HB2.out.2 hb2.size ?_); intro v3 w3 hown3 hgrow3; have hb13 := grown_below hb12 hgrow3 hb12.size hg2; have hb3 := Below.after hb1 hb13; have hp3 := hp1.later hb13; obtain ⟨a3, cap3, rfl, hr3, hc3, hx3⟩ := own_cat HFL.out W1.out.len_eq.symm rfl hown3; rw [HF.out] at hr3; clear hgrow3 hown3 hown2 hp2 hp1 hb12 hb2 hb13 hg2)
    | (go_at_call 20; clear M3; go_must (refine (unframe_at a3 cap3 _ n l M w3 HNM.out W0.out.len_eq h1 h2 W0.out.lt W1.out.lt hc3 hx3 hr3).mono ?_); rintro e w4 ⟨rfl, ho4⟩; have hb4 := Below.after hb3 ho4.2; have hp4 := hp3.later ho4.2; have hq4 := own_at ho4; clear ho4 hr3 hp3)
    | (go_at_call 8; go_must (refine (same_yes w4 _ _ _ _ l n W0.out.len_eq W0.out.lt hq4 (W0.out.row.later hb4)).mono ?_); rintro e w' ⟨rfl, rfl⟩)
    | (go_at_call 17; refine (alive_any _).mono ?_; rintro e w5 ⟨rfl, hb45⟩; have hb5 := Below.after hb4 hb45; have hp5 := hp4.later hb45; clear hp4 hq4))
  go_ret
  exact ⟨rfl, hb5⟩

set_option maxHeartbeats 2000000 in
theorem walk_zero (a0 a1 : Option Addr) (n c0 m c1 : Nat) (l M : List Nat) (k : Int) (w : World) (w0 : BArg w a0 n c0 l) (w1 : BArg w a1 m c1 M) (s1 : c1 ≤ 140737488351232) (h1 : 1 ≤ n) (h2 : n ≤ 1024) (hk : ¬ k < 2) (hk2 : k < 6 + (n : Int)) :
    Calls Try.prog 5 #[.slice a0 n c0, .slice a1 m c1, .int .i64 k, .int .u8 0] w fun e w' => e = .returned (.bool true) ∧ Below w.heap.size w w' := by
  have W0 : Hid (BArg w a0 n c0 l) := w0
  have W1 : Hid (BArg w a1 m c1 M) := w1
  have hm47 : m ≤ 140737488351232 := Nat.le_trans w1.le s1
  clear w0 w1
  obtain ⟨i0, hi, hz0, hz1, hz2⟩ := info_parts info8
  obtain ⟨F, hF⟩ : ∃ F, F = frameL l := ⟨_, rfl⟩
  have HF : Hid (F = frameL l) := hF
  have HFL : Hid (F.length = 6 + n) := by show _ = _; rw [hF, frameL_length, W0.out.len_eq]; omega
  have HFM : Hid ((F.map u8v).length = (6 + n) * 1) := by show _ = _; rw [List.length_map, HFL.out]; omega
  have HB1 : Hid (0 + (6 + n) ≤ maxLen ∧ (0 + (6 + n)) * 1 ≤ 140737488355328) := ⟨by unfold maxLen; omega, by omega⟩
  have HB2 : Hid (6 + n + m ≤ maxLen ∧ (6 + n + m) * 1 ≤ 140737488355328) := ⟨by unfold maxLen; omega, by omega⟩
  have HNM : Hid (6 + n + m = (frameL l ++ M).length) := by show _ = _; rw [List.length_append, ← hF, HFL.out, W1.out.len_eq]
  clear hF s1
  have M1 : Hid True := trivial
  have M2 : Hid True := trivial
  have M3 : Hid True := trivial
  go_enter Try.func5, Try.ntmps5
  go_wp2_with (first
    | (go_at_call 18; go_must (refine (frame_at _ _ _ l _ W0.out.len_eq h1 h2 W0.out.lt W0.out.row).mono ?_); rintro e w1 ⟨rfl, ho1⟩; have hb1 := ho1.2; have hp1 := own_at ho1; rw [← HF.out] at hp1; clear ho1)
    | (at_builtin; clear M1; go_must (refine wpList_append_lies _ rfl (.tmp 39) (.tmp 40) 23 rfl w.heap.size 5 i0 (.int .u8 0) 1 1 Try.underlying23 hi hz0 hz1 hz2 rfl (by omega) (.slice (some ⟨w1.heap.size, 0, none⟩) 0 0) 0 [] rfl (own_empty w1 w.heap.size hb1.size) ⟨w.heap.size, 0, none⟩ (6 + n) (6 + n) (F.map u8v) rfl HFM.out (row_cells (hp1.later (below_new w1 _))) (u8v_one _) (by omega) HB1.out.1 HB1.out.2 (by have := hb1.size; simp; omega) (w1.heap.size + 1) (by simp) ?_); intro g2 cap2 w2 hown2 hgrow2 hat2 hlt2; have hb12 := below_copy hgrow2; have hb2 := Below.after hb1 hb12; have hp2 := hp1.later hb12; have hg2 := block_ge rfl hat2; simp only [Nat.zero_add, List.nil_append] at hown2; clear hgrow2 hat2 hlt2)
    | (at_builtin; clear M2; go_must (refine wpList_append_bytes rfl (.tmp 41) (.tmp 42) rfl w.heap.size (.slice (some ⟨g2, 0, none⟩) (6 + n) cap2) (6 + n) (F.map u8v) rfl hown2 a1 m c1 M rfl W1.out.len_eq (W1.out.row.later hb2) W1.out.nil HB2.out.1 HB2.out.2 hb2.size ?_); intro v3 w3 hown3 hgrow3; have hb13 := grown_below hb12 hgrow3 hb12.size hg2; have hb3 := Below.after hb1 hb13; have hp3 := hp1.later hb13; obtain ⟨a3, cap3, rfl, hr3, hc3, hx3⟩ := own_cat HFL.out W1.out.len_eq.symm rfl hown3; rw [HF.out] at hr3; clear hgrow3 hown3 hown2 hp2 hp1 hb12 hb2 hb13 hg2)
    | (go_at_call 20; clear M3; go_must (refine (unframe_at a3 cap3 _ n l M w3 HNM.out W0.out.len_eq h1 h2 W0.out.lt W1.out.lt hc3 hx3 hr3).mono ?_); rintro e w4 ⟨rfl, ho4⟩; have hb4 := Below.after hb3 ho4.2; have hp4 := hp3.later ho4.2; have hq4 := own_at ho4; clear ho4 hr3 hp3)
    | (go_at_call 8; go_must (refine (same_yes w4 _ _ _ _ l n W0.out.len_eq W0.out.lt hq4 (W0.out.row.later hb4)).mono ?_); rintro e w' ⟨rfl, rfl⟩)
    | (go_at_call 17; refine (alive_any _).mono ?_; rintro e w5 ⟨rfl, hb45⟩; have hb5 := Below.after hb4 hb45; have hp5 := hp4.later hb45; clear hp4 hq4))
  go_ret
  exact ⟨rfl, hb5⟩

set_option maxHeartbeats 2000000 in
theorem walk_turn (a0 a1 : Option Addr) (n c0 m c1 : Nat) (l M : List Nat) (k y : Nat) (w : World) (w0 : BArg w a0 n c0 l) (w1 : BArg w a1 m c1 M) (s1 : c1 ≤ 140737488351232) (h1 : 1 ≤ n) (h2 : n ≤ 1024) (hk : 2 ≤ k) (hk2 : k < 6 + n) (hy : y < 256) (hy0 : y ≠ 0) :
    Calls Try.prog 5 #[.slice a0 n c0, .slice a1 m c1, .int .i64 k, .int .u8 y] w fun e w' => e = .returned (.bool true) ∧ Below w.heap.size w w' := by
  have W0 : Hid (BArg w a0 n c0 l) := w0
  have W1 : Hid (BArg w a1 m c1 M) := w1
  have hm47 : m ≤ 140737488351232 := Nat.le_trans w1.le s1
  clear w0 w1
  obtain ⟨i0, hi, hz0, hz1, hz2⟩ := info_parts info8
  obtain ⟨F, hF⟩ : ∃ F, F = frameL l := ⟨_, rfl⟩
  have HF : Hid (F = frameL l) := hF
  have HFL : Hid (F.length = 6 + n) := by show _ = _; rw [hF, frameL_length, W0.out.len_eq]; omega
  have HFM : Hid ((F.map u8v).length = (6 + n) * 1) := by show _ = _; rw [List.length_map, HFL.out]; omega
  have HB1 : Hid (0 + (6 + n) ≤ maxLen ∧ (0 + (6 + n)) * 1 ≤ 140737488355328) := ⟨by unfold maxLen; omega, by omega⟩
  have HB2 : Hid (6 + n + m ≤ maxLen ∧ (6 + n + m) * 1 ≤ 140737488355328) := ⟨by unfold maxLen; omega, by omega⟩
  have HNM : Hid (6 + n + m = (frameL l ++ M).length) := by show _ = _; rw [List.length_append, ← hF, HFL.out, W1.out.len_eq]
  clear hF s1
  obtain ⟨x, hx⟩ : ∃ x, x = F.getD k 0 := ⟨_, rfl⟩
  have HX : Hid (x = F.getD k 0) := hx
  have hx256 : x < 256 := by
    rw [hx, HF.out]
    exact frameL_lt W0.out.lt _ (by simp [List.getD]; rw [List.getElem?_eq_getElem (by rw [← HF.out, HFL.out]; exact hk2)]; simp)
  have hxor := u8_xor_nat x y hx256 hy
  have HY : Hid (y < 256 ∧ y ≠ 0) := ⟨hy, hy0⟩
  have e1 : ((y : Int) == 0) = false := by simpa using hy0
  have i1 : ¬ (k : Int) < 2 := by omega
  have i2 : (k : Int) < 6 + (n : Int) := by omega
  have HC : Hid (k < (6 + n) * 1) := by show _ < _; omega
  clear hx hy0
  have M1 : Hid True := trivial
  have M2 : Hid True := trivial
  have M3 : Hid True := trivial
  go_enter Try.func5, Try.ntmps5
  go_wp2_with (first
    | (go_at_call 18; go_must (refine (frame_at _ _ _ l _ W0.out.len_eq h1 h2 W0.out.lt W0.out.row).mono ?_); rintro e w1 ⟨rfl, ho1⟩; have hb1 := ho1.2; have hp1 := own_at ho1; rw [← HF.out] at hp1; clear ho1)
    | (at_builtin; clear M1; go_must (refine wpList_append_lies _ rfl (.tmp 39) (.tmp 40) 23 rfl w.heap.size 5 i0 (.int .u8 0) 1 1 Try.underlying23 hi hz0 hz1 hz2 rfl (by omega) (.slice (some ⟨w1.heap.size, 0, none⟩) 0 0) 0 [] rfl (own_empty w1 w.heap.size hb1.size) ⟨w.heap.size, 0, none⟩ (6 + n) (6 + n) (F.map u8v) rfl HFM.out (row_cells (hp1.later (below_new w1 _))) (u8v_one _) (by omega) HB1.out.1 HB1.out.2 (by have := hb1.size; simp; omega) (w1.heap.size + 1) (by simp) ?_); intro g2 cap2 w2 hown2 hgrow2 hat2 hlt2; have hb12 := below_copy hgrow2; have hb2 := Below.after hb1 hb12; have hp2 := hp1.later hb12; have hg2 := block_ge rfl hat2; simp only [Nat.zero_add, List.nil_append] at hown2; clear hgrow2 hat2 hlt2)
    | (at_builtin; clear M2; go_must (refine wpList_append_bytes rfl (.tmp 41) (.tmp 42) rfl w.heap.size (.slice (some ⟨g2, 0, none⟩) (6 + n) cap2) (6 + n) (F.map u8v) rfl hown2 a1 m c1 M rfl W1.out.len_eq (W1.out.row.later hb2) W1.out.nil HB2.out.1 HB2.out.2 hb2.size ?_); intro v3 w3 hown3 hgrow3; have hb13 := grown_below hb12 hgrow3 hb12.size hg2; have hb3 := Below.after hb1 hb13; have hp3 := hp1.later hb13; obtain ⟨a3, cap3, rfl, hr3, hc3, hx3⟩ := own_cat HFL.out W1.out.len_eq.symm rfl hown3; rw [HF.out] at hr3; clear hgrow3 hown3 hown2 hp2 hp1 hb12 hb2 hb13 hg2)
    | (go_at_call 20; clear M3; go_must (refine (unframe_at a3 cap3 _ n l M w3 HNM.out W0.out.len_eq h1 h2 W0.out.lt W1.out.lt hc3 hx3 hr3).mono ?_); rintro e w4 ⟨rfl, ho4⟩; have hb4 := Below.after hb3 ho4.2; have hp4 := hp3.later ho4.2; have hq4 := own_at ho4; clear ho4 hr3 hp3)
    | (go_at_call 8; go_must (refine (same_yes w4 _ _ _ _ l n W0.out.len_eq W0.out.lt hq4 (W0.out.row.later hb4)).mono ?_); rintro e w' ⟨rfl, rfl⟩)
    | (go_at_call 17; refine (alive_any _).mono ?_; rintro e w5 ⟨rfl, hb45⟩; have hb5 := Below.after hb4 hb45; have hp5 := hp4.later hb45; clear hp4 hq4)
    | (at_builtin; go_must (refine wpList_append_lies _ rfl (.tmp 86) (.tmp 87) 23 rfl w.heap.size 5 i0 (.int .u8 0) 1 1 Try.underlying23 hi hz0 hz1 hz2 rfl (by omega) (.slice (some ⟨w5.heap.size, 0, none⟩) 0 0) 0 [] rfl (own_empty w5 w.heap.size hb5.size) ⟨w.heap.size, 0, none⟩ (6 + n) (6 + n) (F.map u8v) rfl HFM.out (row_cells (hp5.later (below_new w5 _))) (u8v_one _) (by omega) HB1.out.1 HB1.out.2 (by have := hb5.size; simp; omega) (w5.heap.size + 1) (by simp) ?_); intro g6 cap6 w6 hown6 hgrow6 hat6 hlt6; have hb56 := below_copy hgrow6; have hb6 := Below.after hb5 hb56; have hg6 := block_ge rfl hat6; simp only [Nat.zero_add, List.nil_append] at hown6; have hcell6 := turned_cell HX.out HFL.out hk2 hown6; have hfr6 := hown6.frozenAt k; have HO6 : Hid (w6.ownsRow w.heap.size 5 1 (.slice (some ⟨g6, 0, none⟩) (6 + n) cap6) (6 + n) (F.map u8v)) := hown6; clear hgrow6 hat6 hlt6 hown6 hp5)
    | (go_at_call 20; go_must (refine (turned_call HF.out W0.out.len_eq h2 W0.out.lt hk hk2 HX.out HY.out.1 HY.out.2 HO6.out).mono ?_); rintro e w7 ⟨rfl, hb67⟩))
  go_ret
  exact ⟨rfl, Below.after (hb6.setCell (Nat.le_trans hb5.size hg6) _) hb67⟩

theorem walk (a0 : Option Addr) (len0 cap0 : Nat) (l0 : List Nat) (a1 : Option Addr) (len1 cap1 : Nat) (l1 : List Nat) (a2 a3 : Int) (w : World) (w0 : BArg w a0 len0 cap0 l0) (_ : cap0 ≤ 140737488351232) (w1 : BArg w a1 len1 cap1 l1) (s1 : cap1 ≤ 140737488351232)
    (_ : (Lit.int .i64 a2).wf = true) (w3 : (Lit.int .u8 a3).wf = true) :
    Calls Try.prog 5 #[.slice a0 len0 cap0, .slice a1 len1 cap1, .int .i64 a2, .int .u8 a3] w fun e w' => e = .returned (.bool true) ∧ Below w.heap.size w w' := by
  by_cases hn : 1 ≤ len0 ∧ len0 ≤ 1024
  · by_cases hk : a2 < 2
    · exact walk_skip a0 a1 len0 cap0 len1 cap1 l0 l1 a2 a3 w w0 w1 s1 hn.1 hn.2 hk
    · by_cases hk2 : 6 + (len0 : Int) ≤ a2
      · exact walk_far a0 a1 len0 cap0 len1 cap1 l0 l1 a2 a3 w w0 w1 s1 hn.1 hn.2 hk hk2
      · by_cases hy : a3 = 0
        · subst hy
          exact walk_zero a0 a1 len0 cap0 len1 cap1 l0 l1 a2 w w0 w1 s1 hn.1 hn.2 hk (by omega)
        · have b3 := bounds_u8 w3
          obtain ⟨k, rfl⟩ : ∃ k : Nat, a2 = (k : Int) := ⟨a2.toNat, by omega⟩
          obtain ⟨y, rfl⟩ : ∃ y : Nat, a3 = (y : Int) := ⟨a3.toNat, by omega⟩
          exact walk_turn a0 a1 len0 cap0 len1 cap1 l0 l1 k y w w0 w1 s1 hn.1 hn.2 (by omega) (by omega) (by omega) (by omega)
  · exact walk_no a0 a1 len0 cap0 len1 cap1 a2 a3 w (by omega)

set_option maxRecDepth 100000 in
theorem lifted (os : Os) (started : os.Started) (H : Type) (enc : TypeId × Value → H) :
    ReturnsInHanded {} Try.checked os 5 .any (Rows.bitsBackSpec.pre6 enc Try.prog Try.f5 Rows.bitsBackRow.domain false) (Rows.bitsBackSpec.post enc Try.prog Try.f5 false true false false) := by
  refine returnsInHanded_of_change_sized (C := Try.checked) own started (by kernel_rfl) Try.func5
    (ChangeSpec.witness6 (enc := enc) (C := Try.checked) false ⟨#[], #[.slice none 0 0, .slice none 0 0, .int .i64 0, .int .u8 0], []⟩ 8 (by kernel_rfl) (by kernel_rfl) (by kernel_rfl) (by kernel_rfl)) ?_
  intro W base args ds gs before hval0 hW hcnd hsz0 _
  have hval : ∀ (j : Nat) t v, Try.f5.params[j]? = some t → args[j]? = some v → Value.okWide Try.prog W .any base t v := hval0
  have hsz : (DataW.weightsEach Try.prog (Try.f5.params.toList ++ Rows.bitsBackSpec.plain.varTypes Try.prog) (ds ++ gs)).all (· ≤ reachBytes) = true := hsz0
  have hW' := hW
  obtain ⟨p, q, hA0, hV, rfl, hfz, hnd⟩ := hW
  have hA : DataW.TrodAll enc Try.prog W 0 (fun _ => true) true Try.f5.params.toList args.toList ds p := hA0
  rw [Try.params5] at hA hval hsz
  obtain ⟨v0, vs0, d0, ds0, p0, q0, hargs, rfl, rfl, h0, r0⟩ := trodAll_cons hA
  obtain ⟨v1, vs1, d1, ds1, p1, q1, rfl, rfl, rfl, h1, r1⟩ := trodAll_cons r0
  obtain ⟨v2, vs2, d2, ds2, p2, q2, rfl, rfl, rfl, h2, r2⟩ := trodAll_cons r1
  obtain ⟨v3, vs3, d3, ds3, p3, q3, rfl, rfl, rfl, h3, r3⟩ := trodAll_cons r2
  obtain ⟨rfl, rfl, rfl⟩ := trodAll_nil r3
  obtain rfl : args = #[v0, v1, v2, v3] := by cases args; simp_all
  obtain ⟨rfl, rfl⟩ := trodVars_none hV
  obtain ⟨a0, len0, cap0, rfl⟩ := okWide_slice Try.underlying23 (hval 0 23 v0 rfl rfl)
  have k0 := h0
  have lt0 : ∀ x ∈ p0, x.block < W.heap.size := by obtain ⟨m, hm⟩ := k0; exact DataW.trod_lt m _ _ _ hm
  obtain ⟨l0, w0, s0⟩ : ∃ l, BArg W a0 len0 cap0 l ∧ cap0 ≤ 140737488351232 := by
    obtain ⟨fuel, hf⟩ := h0
    obtain ⟨l, hl, hd⟩ := barg_open_sized hf
    refine ⟨l, hl, ?_⟩
    rcases hd with h | ⟨elems, spare, rfl, hcap⟩
    · omega
    have := sized_slice hsz (j := 0) (t := 23) (e := 5) rfl rfl Try.underlying23
    rw [bytes8] at this
    simp only [reachBytes] at this
    omega
  obtain ⟨a1, len1, cap1, rfl⟩ := okWide_slice Try.underlying23 (hval 1 23 v1 rfl rfl)
  have k1 := h1
  have lt1 : ∀ x ∈ p1, x.block < W.heap.size := by obtain ⟨m, hm⟩ := k1; exact DataW.trod_lt m _ _ _ hm
  obtain ⟨l1, w1, s1⟩ : ∃ l, BArg W a1 len1 cap1 l ∧ cap1 ≤ 140737488351232 := by
    obtain ⟨fuel, hf⟩ := h1
    obtain ⟨l, hl, hd⟩ := barg_open_sized hf
    refine ⟨l, hl, ?_⟩
    rcases hd with h | ⟨elems, spare, rfl, hcap⟩
    · omega
    have := sized_slice hsz (j := 1) (t := 23) (e := 5) rfl rfl Try.underlying23
    rw [bytes8] at this
    simp only [reachBytes] at this
    omega
  obtain ⟨a2, rfl, rfl, rfl, w2⟩ := open_int Try.underlying3 (hval 2 3 v2 rfl rfl) h2
  obtain ⟨a3, rfl, rfl, rfl, w3⟩ := open_int Try.underlying5 (hval 3 5 v3 rfl rfl) h3
  clear hA0 hval0
  refine (walk a0 len0 cap0 l0 a1 len1 cap1 l1 a2 a3 W w0 s0 w1 s1 w2 w3).mono fun e W' ⟨he, bel⟩ => ?_
  subst he
  exact ⟨_, rfl, _, _, _, [], _, [], hW', trodAll_mk1 (shut_bool Try.underlying4 _), (trodAll_cons_mk (Below.trod laidOut (by kernel_rfl) (of_decide_eq_true (by kernel_rfl)) k0 bel lt0) (trodAll_cons_mk (Below.trod laidOut (by kernel_rfl) (of_decide_eq_true (by kernel_rfl)) k1 bel lt1) (trodAll_cons_mk (shut_int Try.underlying3 w2) (trodAll_cons_mk (shut_int Try.underlying5 w3) trodAll_mk0)))), rfl, bel.frame _, fun h => by cases h⟩

theorem over : Rows.bitsBackRow.holds Try.pinned (OpenSpec.ofChange Rows.bitsBackSpec) :=
  OpenClaim.holds_of_wide 5 Try.f5 rfl rfl rfl rfl rfl rfl rfl ⟨rfl, rfl, rfl, rfl, rfl⟩ rfl rfl rfl rfl rfl (by kernel_rfl) Try.func5 (by kernel_rfl)
    (of_decide_eq_true (by kernel_rfl)) (by unfold Func.isWrapper; first | (rw [if_pos (by decide +kernel)]; kernel_rfl) | (rw [if_neg (by decide +kernel)]; exact ⟨rfl, rfl⟩))
    (fun os started H enc _ => lifted os started H enc)
end Go.Proofs.Ytnogfmfagambeaa.bitsBack

namespace Go.Proofs.Ytnogfmfagambeaa
theorem bitsBack_holds : Rows.BitsBackSaid := bitsBack.over
#print axioms bitsBack_holds
end Go.Proofs.Ytnogfmfagambeaa
