/-
  What the document's answers Frame and Unframe are.
-/
import Derived.Test.YtdhbhjfpjmmonaaDoorRefA
import Derived.Laws.AppendOwnNone
namespace Go.Proofs.YtdhbhjfpjmmonaaDoor
open Go.RowKit M

theorem cells_any {w : World} {ad : Addr} {l : List Nat} (h : BRow w (some ad) l) : ∀ j u, (l.map u8v)[j]? = some u → w.cell? (ad.add j) = some u := by
  rcases h with rfl | ⟨b, off, ha, hc⟩
  · intro j u hj; simp at hj
  · cases ha
    exact BRow.cells hc
theorem wpList_append_bytes {w : World} {ops : Array Oper} {rest : List Oper} {o : Oper} {a : Act} {Q : Exit → Act → World → Prop} (hgd : o.guard = none) (s x : Operand)
    (ho : o.op = .call { callee := .builtin .append, args := #[s, x], argTypes := #[25, 25] })
    (base : Nat) (v : Value) (n : Nat) (xs : List Value) (hs : a.eval s = v) (hown : w.ownsRow base 5 1 v n xs)
    (ao : Option Addr) (m c : Nat) (M : List Nat) (hx : a.eval x = .slice ao m c) (hM : m = M.length) (hr : BRow w ao M) (hnil : ao = none → m = 0 ∧ c = 0)
    (h63 : n + m ≤ maxLen) (hbytes : (n + m) * 1 ≤ 140737488355328) (hbase : base ≤ w.heap.size)
    (h : ∀ v' w', w'.ownsRow base 5 1 v' (n + m) (xs ++ M.map u8v) → w.grownBy w' v.ownBlock → wpList Tryd.prog ops Q rest (a.put o.dst v') w') : wpList Tryd.prog ops Q (o :: rest) a w := by
  obtain ⟨i0, hi, hz0, hz1, hz2⟩ := info_parts info8
  cases ao with
  | none =>
    obtain ⟨rfl, rfl⟩ := hnil rfl
    have hM0 : M = [] := List.eq_nil_of_length_eq_zero hM.symm
    subst hM0
    refine wpList_append_own_none hgd s x 25 ho base 5 i0 1 Tryd.underlying25 hi v n xs hs hown hx ?_
    exact h v w (by simpa using hown) ⟨rfl, rfl, rfl, Nat.le_refl _, fun _ _ _ => rfl⟩
  | some ad =>
    exact wpList_append_own w hgd s x 25 ho base 5 i0 (.int .u8 0) 1 1 Tryd.underlying25 hi hz0 hz1 hz2 rfl (by omega) v n xs hs hown ad m c (M.map u8v) hx (by simp [hM]) (cells_any hr) (u8v_one _) h63 hbytes hbase
      (fun v' w' h1 h2 _ => h v' w' h1 h2)
theorem own_shape {w : World} {base n : Nat} {v : Value} {l : List Nat} (hn : n = l.length) (h : w.ownsRow base 5 1 v l.length (l.map u8v)) :
    ∃ a cap, v = .slice a n cap ∧ BRow w a l ∧ (a = none → n = 0 ∧ cap = 0) ∧ n ≤ cap ∧ cap ≤ maxLen := by
  subst hn
  rcases h.2 with ⟨rfl, hn⟩ | ⟨g, cap, cur, rfl, hbg, hgg, hnc, hcm, hcs, htake⟩
  · have : l = [] := List.eq_nil_of_length_eq_zero hn
    subst this
    exact ⟨none, 0, rfl, .inl rfl, fun _ => ⟨rfl, rfl⟩, Nat.le_refl _, by decide⟩
  · obtain ⟨a, c, hv, hr, _⟩ := owns_row h
    simp only [Value.slice.injEq] at hv
    obtain ⟨rfl, _, rfl⟩ := hv
    exact ⟨_, cap, rfl, hr, (fun h => by cases h), hnc, hcm⟩
theorem own_shape' {w : World} {base n : Nat} {v : Value} {l : List Nat} (hn : n = l.length) (h : w.ownsRow base 5 1 v n (l.map u8v)) :
    ∃ a cap, v = .slice a n cap ∧ BRow w a l ∧ (a = none → n = 0 ∧ cap = 0) ∧ n ≤ cap ∧ cap ≤ maxLen := own_shape hn (by rw [← hn]; exact h)
theorem grown_own {B : Nat} {w w1 w2 : World} {v : Value} {e n : Nat} {xs : List Value} (h : Below B w w1) (hg : w1.grownBy w2 v.ownBlock) (hB : B ≤ w1.heap.size) (ho : w1.ownsRow B e 1 v n xs) : Below B w w2 :=
  h.grown hg hB (fun k hk => (ho.lt k hk).1)
theorem rsum_at (a : Option Addr) (cap : Nat) (l : List Nat) (w : World) (n s : Nat) (hn : n = l.length) (hs : s = sumL l) (hl : l.length ≤ maxLen) (hb : ∀ x ∈ l, x < 256) (hr : BRow w a l) :
    Calls Tryd.prog 48 #[.slice a n cap] w fun e w' => e = .returned (.int .u32 (s : Int)) ∧ w = w' := by
  subst hn
  subst hs
  exact ref_sum a cap l w hl hb hr
theorem rget_at (a : Option Addr) (cap : Nat) (l : List Nat) (w : World) (n z : Nat) (hn : n = l.length) (hz : z = getL (l.take 8)) (hl : l.length ≤ maxLen) (hb : ∀ x ∈ l, x < 256) (hr : BRow w a l) :
    Calls Tryd.prog 31 #[.slice a n cap] w fun e w' => e = .returned (.int .u64 (z : Int)) ∧ w = w' := by
  subst hn
  subst hz
  exact ref_get a cap l w hl hb hr

set_option maxRecDepth 10000 in
set_option maxHeartbeats 400000 in
theorem rframe_no (a : Option Addr) (cap n : Nat) (w : World) (h : n = 0 ∨ 1024 < n) :
    Calls Tryd.prog 36 #[.slice a n cap] w fun e w' => e = .returned (.tuple #[.slice none 0 0, .int .i64 22]) ∧ w = w' := by
  by_cases h0 : n = 0
  · subst h0
    go_enter Tryd.func36, Tryd.ntmps36
    go_wp2
    go_ret2
    exact ⟨rfl, rfl⟩
  · have e1 : ((n : Int) == 0) = false := by simpa using h0
    have h1 : (1024 : Int) < n := by omega
    go_enter Tryd.func36, Tryd.ntmps36
    go_wp2
    go_ret2
    exact ⟨rfl, rfl⟩

theorem ref_own {w w1 : World} {v : Value} {l : List Nat} {n : Nat} (h : Own w w1 v l) (hl : l.length = n) : w1.ownsRow w.heap.size 5 1 v n (l.map u8v) := by
  rw [← hl]
  exact h.1
theorem rframe_end {w : World} {base n s : Nat} {v : Value} {l : List Nat} (hn : n = l.length) (hf : frameL l = putL 2 n ++ (putL 4 s ++ l)) (h : w.ownsRow base 5 1 v (2 + 4 + n) ((putL 2 n).map u8v ++ (putL 4 s).map u8v ++ l.map u8v)) :
    w.ownsRow base 5 1 v (frameL l).length ((frameL l).map u8v) := by
  have e : (frameL l).length = 2 + 4 + n := by rw [frameL_length, hn]; omega
  rw [e, hf]
  simpa [List.append_assoc] using h

set_option maxRecDepth 10000 in
set_option maxHeartbeats 2000000 in
theorem rframe_yes (a : Option Addr) (cap n : Nat) (l : List Nat) (w : World) (hn : n = l.length) (h1 : 1 ≤ n) (h2 : n ≤ 1024) (hb : ∀ x ∈ l, x < 256) (hr : BRow w a l) (hnil : a = none → n = 0 ∧ cap = 0) :
    Calls Tryd.prog 36 #[.slice a n cap] w fun e w' => ∃ v, e = .returned (.tuple #[v, .int .i64 0]) ∧ Own w w' v (frameL l) := by
  have HR : Hid (BRow w a l) := hr
  have HB : Hid (∀ x ∈ l, x < 256) := hb
  have HN : Hid (n = l.length) := hn
  have HNIL : Hid (a = none → n = 0 ∧ cap = 0) := hnil
  obtain ⟨s, hs⟩ : ∃ s, s = sumL l := ⟨_, rfl⟩
  have hs1 : s < 4294967296 := by rw [hs]; exact sumL_lt l
  have HS : Hid (s = sumL l) := hs
  have HML : Hid (l.length ≤ maxLen) := by show _ ≤ _; unfold maxLen; omega
  have HF : Hid (frameL l = putL 2 n ++ (putL 4 s ++ l)) := by rw [hn, hs]; exact rfl
  have HB1 : Hid (2 + 4 ≤ maxLen ∧ (2 + 4) * 1 ≤ 140737488355328) := ⟨by decide, by decide⟩
  have HB2 : Hid (2 + 4 + n ≤ maxLen ∧ (2 + 4 + n) * 1 ≤ 140737488355328) := ⟨by unfold maxLen; omega, by omega⟩
  have e1 : ((n : Int) == 0) = false := by simp; omega
  clear hr hb hn hs hnil
  have M1 : Hid True := trivial
  have M2 : Hid True := trivial
  go_enter Tryd.func36, Tryd.ntmps36
  go_wp2_with (first
    | (go_at_call 24; clear M1; go_must (refine (ref_put n (by omega) 2 2 rfl w).mono ?_); rintro e w1 ⟨v1, rfl, ho1⟩; have hb1 := ho1.2; have hr1 := HR.out.later hb1; have hown1 := ref_own ho1 (putL_length _ _); clear ho1)
    | (go_at_call 48; go_must (refine (rsum_at _ cap l w1 n s HN.out HS.out HML.out HB.out hr1).mono ?_); rintro e w' ⟨rfl, rfl⟩)
    | (go_at_call 24; go_must (refine (ref_put s (by omega) 4 4 rfl w1).mono ?_); rintro e w2 ⟨v2, rfl, ho2⟩; have hown2 := owns_later hown1 ho2.2; have hb2 := Below.after hb1 ho2.2; obtain ⟨a2, c2, rfl, hr2, hn2, _⟩ := own_shape (putL_length _ _).symm ho2.1; clear ho2 hown1 hb1 hr1)
    | (at_builtin; clear M2; go_must (refine wpList_append_bytes rfl (.tmp 16) (.tmp 20) rfl w.heap.size v1 2 _ rfl hown2 a2 4 c2 (putL 4 s) rfl (putL_length _ _).symm hr2 hn2 HB1.out.1 HB1.out.2 hb2.size ?_); intro v3 w3 hown3 hgrow3; have hb3 := grown_own hb2 hgrow3 hb2.size hown2; clear hgrow3 hown2 hr2 hn2 hb2)
    | (at_builtin; go_must (refine wpList_append_bytes rfl (.tmp 22) (.tmp 23) rfl w.heap.size v3 (2 + 4) _ rfl hown3 a n cap l rfl HN.out (HR.out.later hb3) HNIL.out HB2.out.1 HB2.out.2 hb3.size ?_); intro v4 w4 hown4 hgrow4; have hb4 := grown_own hb3 hgrow4 hb3.size hown3; clear hgrow4 hown3 hb3))
  go_ret2
  exact ⟨_, rfl, rframe_end HN.out HF.out hown4, hb4⟩

set_option maxRecDepth 10000 in
set_option maxHeartbeats 400000 in
theorem runframe_short (a : Option Addr) (cap n : Nat) (w : World) (h : n < 6) :
    Calls Tryd.prog 42 #[.slice a n cap] w fun e w' => e = .returned (.tuple #[.slice none 0 0, .int .i64 0, .bool false]) ∧ w = w' := by
  go_enter Tryd.func42, Tryd.ntmps42
  go_wp2
  go_ret3
  exact ⟨rfl, rfl⟩

set_option maxRecDepth 10000 in
set_option maxHeartbeats 1000000 in
theorem runframe_size (b off cap : Nat) (l : List Nat) (w : World) (h : 6 ≤ l.length) (hc : l.length ≤ cap) (hm : cap ≤ 9223372036854775807) (hb : ∀ x ∈ l, x < 256)
    (hr : BRow w (some ⟨b, off, none⟩) l) (hbad : ¬ (1 ≤ sizeL l ∧ sizeL l ≤ 1024) ∨ l.length - 6 < sizeL l) :
    Calls Tryd.prog 42 #[.slice (some ⟨b, off, none⟩) l.length cap] w fun e w' => e = .returned (.tuple #[.slice none 0 0, .int .i64 0, .bool false]) ∧ w = w' := by
  have hget : Calls Tryd.prog 31 #[.slice (some ⟨b, off, none⟩) 2 cap] w fun e w' => e = .returned (.int .u64 (sizeL l : Nat)) ∧ w = w' :=
    rget_at _ _ (l.take 2) w 2 (sizeL l) (by simp; omega) (by simp [sizeL, List.take_take]) (by simp [maxLen]; omega) (fun x hx => hb x (List.mem_of_mem_take hx)) (by have := hr.sub (i := 0) (j := 2); simpa using this)
  have hz := sizeL_lt hb
  obtain ⟨z, hz0⟩ : ∃ z, z = sizeL l := ⟨_, rfl⟩
  obtain ⟨n, hn0⟩ : ∃ n, n = l.length := ⟨_, rfl⟩
  rw [← hz0] at hget hbad hz
  rw [← hn0] at hbad h hc ⊢
  clear hz0 hn0 hr hb
  by_cases h0 : z = 0
  · subst h0
    clear hbad
    go_enter Tryd.func42, Tryd.ntmps42
    go_wp2_with (go_at_call 31; refine hget.mono ?_; rintro e w' ⟨rfl, rfl⟩)
    go_ret3
    exact ⟨rfl, rfl⟩
  · have e0 : ((z : Int) == 0) = false := by simpa using h0
    by_cases h1 : (1024 : Int) < z
    · clear hbad
      go_enter Tryd.func42, Tryd.ntmps42
      go_wp2_with (go_at_call 31; refine hget.mono ?_; rintro e w' ⟨rfl, rfl⟩)
      go_ret3
      exact ⟨rfl, rfl⟩
    · have h2 : (n : Int) - 6 < z := by omega
      clear hbad
      go_enter Tryd.func42, Tryd.ntmps42
      go_wp2_with (go_at_call 31; refine hget.mono ?_; rintro e w' ⟨rfl, rfl⟩)
      go_ret3
      exact ⟨rfl, rfl⟩

theorem own_empty (w : World) (base : Nat) (h : base ≤ w.heap.size) : (w.alloc (.cells #[] 5)).ownsRow base 5 1 (.slice (some ⟨w.heap.size, 0, none⟩) 0 0) 0 [] :=
  World.ownsRow_lit (e := 5) (size := 1) w #[] 0 h (by decide) rfl
theorem below_copy {w w' : World} (hg : (w.alloc (.cells #[] 5)).grownBy w' (Value.ownBlock (.slice (some ⟨w.heap.size, 0, none⟩) 0 0))) : Below w.heap.size w w' :=
  (below_new w _).grown hg (by simp) (fun k hk => by simp [Value.ownBlock] at hk; omega)
theorem owns_drewN {w : World} {base e n : Nat} {v : Value} {xs : List Value} (h : w.ownsRow base e 1 v n xs) (m : Nat) : (w.drewN m).ownsRow base e 1 v n xs := by
  have hb := below_drawn w m
  exact owns_later h hb

set_option maxRecDepth 10000 in
set_option maxHeartbeats 2000000 in
theorem runframe_go (b off cap : Nat) (l : List Nat) (w : World) (h : 6 ≤ l.length) (hc : l.length ≤ cap) (hm : cap ≤ 9223372036854775807) (hb : ∀ x ∈ l, x < 256)
    (hr : BRow w (some ⟨b, off, none⟩) l) (h1 : 1 ≤ sizeL l) (h2 : sizeL l ≤ 1024) (h3 : sizeL l ≤ l.length - 6) :
    Calls Tryd.prog 42 #[.slice (some ⟨b, off, none⟩) l.length cap] w fun e w' =>
      (sumL (bodyL l) = toldL l → ∃ v, e = .returned (.tuple #[v, .int .i64 (6 + (sizeL l : Int)), .bool true]) ∧ Own w w' v (bodyL l)) ∧
      (sumL (bodyL l) ≠ toldL l → e = .returned (.tuple #[.slice none 0 0, .int .i64 0, .bool false]) ∧ Below w.heap.size w w') := by
  have hget : Calls Tryd.prog 31 #[.slice (some ⟨b, off, none⟩) 2 cap] w fun e w' => e = .returned (.int .u64 (sizeL l : Nat)) ∧ w = w' :=
    rget_at _ _ (l.take 2) w 2 (sizeL l) (by simp; omega) (by simp [sizeL, List.take_take]) (by simp [maxLen]; omega) (fun x hx => hb x (List.mem_of_mem_take hx)) (by have := hr.sub (i := 0) (j := 2); simpa using this)
  have hbl : (bodyL l).length = sizeL l := by simp [bodyL]; omega
  have hbb : ∀ x ∈ bodyL l, x < 256 := lt_of_sub hb 6 _
  have hbr : BRow w (some ⟨b, off + 6, none⟩) (bodyL l) := hr.sub
  have hgett : ∀ W, Below w.heap.size w W → ∀ m, Calls Tryd.prog 31 #[.slice (some ⟨b, off + 2, none⟩) 4 (cap - 2)] (W.drewN m) fun e w' => e = .returned (.int .u64 (toldL l : Nat)) ∧ W.drewN m = w' := fun W hW m =>
    rget_at _ _ ((l.drop 2).take 4) _ 4 (toldL l) (by simp; omega) (by simp [toldL, List.take_take]) (by simp [maxLen]; omega) (lt_of_sub hb 2 4) ((hr.later hW).sub.drewN m)
  have hsum : ∀ W ad c, BRow W ad (bodyL l) → ∀ m, Calls Tryd.prog 48 #[.slice ad (sizeL l) c] (W.drewN m) fun e w' => e = .returned (.int .u32 (sumL (bodyL l) : Nat)) ∧ W.drewN m = w' := fun W ad c hW m =>
    rsum_at _ _ (bodyL l) _ (sizeL l) _ hbl.symm rfl (by rw [hbl]; unfold maxLen; omega) hbb (hW.drewN m)
  have ht := toldL_lt hb
  have hs := sumL_lt (bodyL l)
  obtain ⟨t, ht0⟩ : ∃ t, t = toldL l := ⟨_, rfl⟩
  obtain ⟨s, hs0⟩ : ∃ s, s = sumL (bodyL l) := ⟨_, rfl⟩
  obtain ⟨p, hp0⟩ : ∃ p, p = bodyL l := ⟨_, rfl⟩
  obtain ⟨z, hz0⟩ : ∃ z, z = sizeL l := ⟨_, rfl⟩
  obtain ⟨n, hn0⟩ : ∃ n, n = l.length := ⟨_, rfl⟩
  rw [← hs0] at hsum hs ⊢
  rw [← hz0] at hget hsum h1 h2 h3 hbl ⊢
  rw [← ht0] at hgett ht ⊢
  rw [← hp0] at hbl hbb hbr hsum ⊢
  rw [← hn0] at h hc h3 ⊢
  have HBR : Hid (BRow w (some ⟨b, off + 6, none⟩) p) := hbr
  have HBL : Hid (z = p.length) := hbl.symm
  have HGT : Hid (∀ W, Below w.heap.size w W → ∀ m, Calls Tryd.prog 31 #[.slice (some ⟨b, off + 2, none⟩) 4 (cap - 2)] (W.drewN m) fun e w' => e = .returned (.int .u64 (t : Int)) ∧ W.drewN m = w') := hgett
  have HSM : Hid (∀ W ad c, BRow W ad p → ∀ m, Calls Tryd.prog 48 #[.slice ad z c] (W.drewN m) fun e w' => e = .returned (.int .u32 (s : Int)) ∧ W.drewN m = w') := hsum
  have HB1 : Hid (0 + (6 + z - 6) ≤ maxLen ∧ (0 + (6 + z - 6)) * 1 ≤ 140737488355328) := ⟨by unfold maxLen; omega, by omega⟩
  have HM6 : Hid (6 + z - 6 = p.length) := by show _ = _; omega
  clear hz0 hn0 hr hb ht0 hs0 hp0 hbr hbb hbl hgett hsum
  have e0 : ((z : Int) == 0) = false := by simp; omega
  have f1 : ¬ (1024 : Int) < z := by omega
  have f2 : ¬ (n : Int) - 6 < z := by omega
  by_cases hst : s = t
  · subst hst
    have hne : ((s : Int) != (s : Int)) = false := by simp
    go_enter Tryd.func42, Tryd.ntmps42
    go_wp2_with (first
      | (go_at_call 31; refine hget.mono ?_; rintro e w' ⟨rfl, rfl⟩)
      | (at_builtin; go_must (refine wpList_append_bytes rfl (.tmp 27) (.tmp 31) rfl w.heap.size (.slice (some ⟨w.heap.size, 0, none⟩) 0 0) 0 [] rfl (own_empty w w.heap.size (Nat.le_refl _)) (some ⟨b, off + 6, none⟩) (6 + z - 6) (cap - 6) p rfl HM6.out (HBR.out.later (below_new w _)) (fun h => by cases h) HB1.out.1 HB1.out.2 (by simp) ?_); intro v1 w1 hown1 hgrow1; have hb1 := below_copy hgrow1; simp only [Nat.zero_add, List.nil_append, Nat.add_sub_cancel_left] at hown1; obtain ⟨a1, c1, rfl, hr1, _⟩ := own_shape' HBL.out hown1; have hgt := HGT.out w1 hb1; have hsm := HSM.out w1 a1 c1 hr1; have HO1 : Hid (w1.ownsRow w.heap.size 5 1 (.slice a1 z c1) z (p.map u8v)) := hown1; clear hgrow1 hown1 hr1))
    go_quiet (first | (go_at_call 31; exact quietR (hgt _)) | (go_at_call 48; exact quietR (hsm _)))
    go_wp2
    go_ret3
    refine ⟨fun _ => ⟨_, rfl, ?_, ?_⟩, fun hn => absurd rfl hn⟩
    · exact ref_end HBL.out.symm (owns_drewN HO1.out nq)
    · exact Below.after hb1 (below_drawn w1 nq)
  · have hne : ((s : Int) != (t : Int)) = true := by simp; omega
    have HST : Hid (s ≠ t) := hst
    clear hst
    go_enter Tryd.func42, Tryd.ntmps42
    go_wp2_with (first
      | (go_at_call 31; refine hget.mono ?_; rintro e w' ⟨rfl, rfl⟩)
      | (at_builtin; go_must (refine wpList_append_bytes rfl (.tmp 27) (.tmp 31) rfl w.heap.size (.slice (some ⟨w.heap.size, 0, none⟩) 0 0) 0 [] rfl (own_empty w w.heap.size (Nat.le_refl _)) (some ⟨b, off + 6, none⟩) (6 + z - 6) (cap - 6) p rfl HM6.out (HBR.out.later (below_new w _)) (fun h => by cases h) HB1.out.1 HB1.out.2 (by simp) ?_); intro v1 w1 hown1 hgrow1; have hb1 := below_copy hgrow1; simp only [Nat.zero_add, List.nil_append, Nat.add_sub_cancel_left] at hown1; obtain ⟨a1, c1, rfl, hr1, _⟩ := own_shape' HBL.out hown1; have hgt := HGT.out w1 hb1; have hsm := HSM.out w1 a1 c1 hr1; clear hgrow1 hown1 hr1))
    go_quiet (first | (go_at_call 31; exact quietR (hgt _)) | (go_at_call 48; exact quietR (hsm _)))
    go_wp2
    go_ret3
    exact ⟨fun he => absurd he HST.out, fun _ => ⟨rfl, Below.after hb1 (below_drawn w1 nq)⟩⟩

theorem runframe_is (a : Option Addr) (cap : Nat) (l : List Nat) (w : World) (hc : l.length ≤ cap) (hm : cap ≤ 9223372036854775807) (hb : ∀ x ∈ l, x < 256) (hr : BRow w a l) (hf : isFrame l) :
    Calls Tryd.prog 42 #[.slice a l.length cap] w fun e w' => ∃ v, e = .returned (.tuple #[v, .int .i64 (6 + (sizeL l : Int)), .bool true]) ∧ Own w w' v (bodyL l) := by
  obtain ⟨h6, h1, h2, h3, h4⟩ := hf
  rcases hr with h | ⟨b, off, rfl, hcs⟩
  · rw [h] at h6; simp at h6
  · exact (runframe_go b off cap l w h6 hc hm hb (.inr ⟨b, off, rfl, hcs⟩) h1 h2 h3).mono fun e w' h => h.1 h4
theorem runframe_not (a : Option Addr) (cap : Nat) (l : List Nat) (w : World) (hc : l.length ≤ cap) (hm : cap ≤ 9223372036854775807) (hb : ∀ x ∈ l, x < 256) (hr : BRow w a l) (hf : ¬ isFrame l) :
    Calls Tryd.prog 42 #[.slice a l.length cap] w fun e w' =>
      e = .returned (.tuple #[.slice none 0 0, .int .i64 0, .bool false]) ∧ Below w.heap.size w w' := by
  by_cases h6 : 6 ≤ l.length
  · rcases hr with h | ⟨b, off, rfl, hcs⟩
    · rw [h] at h6; simp at h6
    · by_cases hs : 1 ≤ sizeL l ∧ sizeL l ≤ 1024 ∧ sizeL l ≤ l.length - 6
      · exact (runframe_go b off cap l w h6 hc hm hb (.inr ⟨b, off, rfl, hcs⟩) hs.1 hs.2.1 hs.2.2).mono fun e w' h => h.2 fun he => hf ⟨h6, hs.1, hs.2.1, hs.2.2, he⟩
      · refine (runframe_size b off cap l w h6 hc hm hb (.inr ⟨b, off, rfl, hcs⟩) (by omega)).mono ?_
        rintro e w' ⟨he, rfl⟩
        exact ⟨he, Below.refl _ _⟩
  · refine (runframe_short a cap l.length w (by omega)).mono ?_
    rintro e w' ⟨he, rfl⟩
    exact ⟨he, Below.refl _ _⟩
end Go.Proofs.YtdhbhjfpjmmonaaDoor
