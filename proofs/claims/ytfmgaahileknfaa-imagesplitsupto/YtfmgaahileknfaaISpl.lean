/-
  What Split of package image answers.
-/
import Derived.Test.YtfmgaahileknfaaISplit
namespace Go.Proofs.Ytfmgaahileknfaa
open Go.RowKit M
set_option maxRecDepth 10000

/-- Slots parted into so many lists; into as few as may be. -/
def splN : Nat → List St → List (List St)
  | 0, _ => []
  | c + 1, l => l.take (prt l.length (c + 1)) :: splN c (l.drop (prt l.length (c + 1)))
def spl (l : List St) : List (List St) := splN (prt l.length 8) l
theorem splN_len : ∀ (c : Nat) (l : List St), (splN c l).length = c
  | 0, _ => rfl
  | c + 1, l => by rw [splN, List.length_cons, splN_len c]
/-- A list of lists of slots, as it lies. -/
def LRow (w : World) (a : Option Addr) (ls : List (List St)) : Prop :=
  ls = [] ∨ ∃ b off, a = some ⟨b, off, none⟩ ∧ ∀ i y, ls[i]? = some y → ∃ ya yc, w.cell? ⟨b, off + i, none⟩ = some (.slice ya y.length yc) ∧ ZRow w ya y ∧ y.length ≤ yc ∧ yc ≤ maxLen
structure LArg (w : World) (a : Option Addr) (len cap : Nat) (ls : List (List St)) : Prop where
  len_eq : len = ls.length
  le : len ≤ cap
  max : cap ≤ maxLen
  row : LRow w a ls
theorem LRow.later {w w' : World} {a : Option Addr} {ls : List (List St)} (h : LRow w a ls) (hb : Below w.heap.size w w') : LRow w' a ls := by
  rcases h with h | ⟨b, off, ha, hc⟩
  · exact .inl h
  · refine .inr ⟨b, off, ha, fun i y hy => ?_⟩
    obtain ⟨ya, yc, q0, q1, q2, q3⟩ := hc i y hy
    exact ⟨ya, yc, (hb.cell (p := ⟨b, off + i, none⟩) (World.block_lt_of_cell? w _ q0)).trans q0, q1.later hb, q2, q3⟩
theorem LArg.later {w w' : World} {a : Option Addr} {len cap : Nat} {ls : List (List St)} (h : LArg w a len cap ls) (hb : Below w.heap.size w w') : LArg w' a len cap ls :=
  ⟨h.len_eq, h.le, h.max, h.row.later hb⟩
def SplPost (w : World) (l : List St) (e : Ending) (w' : World) : Prop := ∃ a n c, e = .returned (.slice a n c) ∧ LArg w' a n c (spl l) ∧ Below w.heap.size w w'
theorem infoL : (Try.prog.info? 26).map (fun i => (i.zero, i.size, i.bytes)) = some (some (.slice none 0 0), 1, 24) := by kernel_rfl

/-- A piece of the row of slots in the block g. -/
def Pc (g : Nat) (l : List St) (v : Value) (y : List St) : Prop := ∃ a c, v = .slice a y.length c ∧ y.length ≤ c ∧ c ≤ maxLen ∧ ∀ W, Row W g (l.flatMap stv) 41 → ZRow W a y
/-- The lists that are done, and the rest. -/
structure Spl (w W : World) (g : Nat) (l : List St) (v : Value) (vs : List Value) (ds : List (List St)) : Prop where
  own : W.ownsRow w.heap.size 26 1 v ds.length vs
  len : vs.length = ds.length
  pcs : ∀ (i : Nat) (u : Value) (y : List St), vs[i]? = some u → ds[i]? = some y → Pc g l u y
  box : Row W g (l.flatMap stv) 41
  bel : Below w.heap.size w W
theorem Spl.later {w W W' : World} {g : Nat} {l : List St} {v : Value} {vs : List Value} {ds : List (List St)} (h : Spl w W g l v vs ds) (hb : Below W.heap.size W W') : Spl w W' g l v vs ds :=
  ⟨owns_later h.own hb, h.len, h.pcs, h.box.later hb, bafter h.bel hb⟩
theorem Spl.app {w W W' : World} {g : Nat} {l : List St} {v v' : Value} {vs : List Value} {ds : List (List St)} (h : Spl w W g l v vs ds) {u : Value} {y : List St} (hp : Pc g l u y) (ho : W'.ownsRow w.heap.size 26 1 v' (ds.length + 1) (vs ++ [u])) (hg : W.grownBy W' v.ownBlock) : Spl w W' g l v' (vs ++ [u]) (ds ++ [y]) := by
  refine ⟨by rw [List.length_append]; exact ho, by simp [h.len], fun i u' y' h1 h2 => ?_, h.box.grown h.own hg (by decide), grown_own h.bel hg h.bel.size h.own⟩
  by_cases hi : i < ds.length
  · rw [List.getElem?_append_left (by rw [h.len]; exact hi)] at h1
    rw [List.getElem?_append_left hi] at h2
    exact h.pcs i u' y' h1 h2
  · have hl := h.len
    rw [List.getElem?_append_right (by omega)] at h1 h2
    rw [h.len] at h1
    have hi0 : i - ds.length = 0 := by
      have := (List.getElem?_eq_some_iff.1 h2).1
      simp at this; omega
    rw [hi0] at h1 h2
    simp at h1 h2
    subst h1 h2
    exact hp
theorem Spl.fin {w W : World} {g : Nat} {l : List St} {v : Value} {vs : List Value} {ds : List (List St)} (h : Spl w W g l v vs ds) : ∃ a n c, v = .slice a n c ∧ LArg W a n c ds := by
  rcases h.own.2 with ⟨rfl, h0⟩ | ⟨q, cap, cur, rfl, hbg, hgg, hnc, hcm, hcs, htake⟩
  · exact ⟨none, 0, 0, rfl, h0.symm, Nat.le_refl _, by decide, .inl (List.eq_nil_of_length_eq_zero h0)⟩
  · refine ⟨_, _, cap, rfl, rfl, hnc, hcm, .inr ⟨q, 0, rfl, fun i y hy => ?_⟩⟩
    have hi := (List.getElem?_eq_some_iff.1 hy).1
    obtain ⟨u, hu⟩ : ∃ u, vs[i]? = some u := ⟨_, List.getElem?_eq_getElem (by rw [h.len]; exact hi)⟩
    obtain ⟨a, c, rfl, q1, q2, q3⟩ := h.pcs i u y hu hy
    refine ⟨a, c, ?_, q3 W h.box, q1, q2⟩
    have := h.own.cellAt i (by simpa using hi)
    rw [Nat.zero_add, this]
    exact hu
theorem wpList_append_lists {w : World} {ops : Array Oper} {rest : List Oper} {o : Oper} {a : Act} {Q : Exit → Act → World → Prop} (hgd : o.guard = none) (s x : Operand)
    (ho : o.op = .call { callee := .builtin .append, args := #[s, x], argTypes := #[24, 24] })
    (base : Nat) (v : Value) (n : Nat) (xs : List Value) (hs : a.eval s = v) (hown : w.ownsRow base 26 1 v n xs)
    (ad : Addr) (c : Nat) (u : Value) (hx : a.eval x = .slice (some ad) 1 c) (hr : w.cell? (ad.add 0) = some u) (hu : u.oneCell' = true)
    (h63 : n + 1 ≤ maxLen) (hbytes : (n + 1) * 24 ≤ 140737488355328) (hbase : base ≤ w.heap.size)
    (h : ∀ v' w', w'.ownsRow base 26 1 v' (n + 1) (xs ++ [u]) → w.grownBy w' v.ownBlock → wpList Try.prog ops Q rest (a.put o.dst v') w') : wpList Try.prog ops Q (o :: rest) a w := by
  obtain ⟨i0, hi, hz0, hz1, hz2⟩ := info_parts infoL
  exact wpList_append_own w hgd s x 24 ho base 26 i0 (.slice none 0 0) 1 24 Try.underlying24 hi hz0 hz1 hz2 rfl (by omega) v n xs hs hown ad 1 c [u] hx rfl
    (fun j z hj => by
      have hj0 : j = 0 := by have := (List.getElem?_eq_some_iff.1 hj).1; simp at this; omega
      subst hj0
      simp at hj; subst hj
      exact hr) (fun z hz => by simp at hz; subst hz; exact hu) h63 hbytes hbase
    (fun v' w' h1 h2 _ => h v' w' h1 h2)

theorem pc_piece {g : Nat} {l : List St} {j n : Nat} (hn : j + n ≤ l.length) (hm : n ≤ maxLen) : Pc g l (.slice (some ⟨g, j * 4, none⟩) n n) ((l.drop j).take n) := by
  have hl : ((l.drop j).take n).length = n := by rw [List.length_take, List.length_drop]; omega
  refine ⟨some ⟨g, j * 4, none⟩, n, by rw [hl], by rw [hl]; exact Nat.le_refl _, hm, fun W hW => ?_⟩
  have h0 : ZRow W (some ⟨g, 0, none⟩) l := zrow_of fun i u hu => by rw [Nat.zero_add]; exact hW.cell hu
  have := h0.sub j n
  rwa [Nat.zero_add] at this
theorem new_cell (w : World) (u : Value) (t : TypeId) : (w.alloc (.cells #[u] t)).cell? ((⟨w.heap.size, 0, none⟩ : Addr).add 0) = some u := World.news_of_block (heap_new w (.cells #[u] t)) 0 u rfl
set_option maxHeartbeats 4000000 in
theorem split_some (a : Option Addr) (len cap : Nat) (l : List St) (w : World) (h : ZArg w a len cap l) (hl : len * 40 ≤ 140737488355328) (h0 : 0 < len) :
    Calls Try.prog 5 #[.slice a len cap] w fun e w' => SplPost w l e w' := by
  have hln := h.len_eq
  have hcm := h.max
  have hlc := h.le
  unfold maxLen at hcm
  have kp : ∀ W, Calls Try.prog 14 #[.int .i64 (len : Int), .int .i64 8] W fun e w' => e = .returned (.int .i64 (prt len 8 : Nat)) ∧ W = w' := fun W => parts_any len 8 (by omega) (by decide) (by decide) W
  have HP : Hid (∀ n c : Nat, n < 9223372036854775808 → 1 ≤ c → c < 9223372036854775808 → ∀ W, Calls Try.prog 14 #[.int .i64 (n : Int), .int .i64 (c : Int)] W fun e w' => e = .returned (.int .i64 (prt n c : Nat)) ∧ W = w') := fun n c h1 h2 h3 W => parts_any n c h1 h2 h3 W
  have hc1 : prt len 8 ≤ len := prt_le (by decide)
  have kc : ∀ W, Below w.heap.size w W → Calls Try.prog 15 #[.slice a len cap] W fun e w' => ∃ g c, e = .returned (.slice (some ⟨g, 0, none⟩) len c) ∧ len ≤ c ∧ c ≤ maxLen ∧ Row w' g (l.flatMap stv) 41 ∧ Below W.heap.size W w' := by
    intro W hb
    have hnone : a = none → cap = 0 := fun e => by
      rcases h.row with q | ⟨b, off, q, _⟩
      · rw [q] at hln; simp at hln; omega
      · rw [e] at q; cases q
    refine (clone_any a len cap l W hln hl (h.row.later hb) hnone).mono ?_
    rintro e w' ⟨na, n, nc, rfl, hn, ho, hb2⟩
    rw [← hn] at ho
    obtain ⟨g, c, e, q1, q2, q3, q4⟩ := Row.of_owns ho (by omega)
    cases e
    exact ⟨g, _, by rw [hn, ← hln], by omega, q2, q4, hb2⟩
  obtain ⟨R, hR⟩ : ∃ R, R = spl l := ⟨_, rfl⟩
  have HR : Hid (R = splN (prt len 8) l) := by rw [hln, hR]; exact rfl
  have HF : Hid (∀ e w', (∃ a n c, e = .returned (.slice a n c) ∧ LArg w' a n c R ∧ Below w.heap.size w w') → SplPost w l e w') := fun e w' q => by rw [hR] at q; exact q
  obtain ⟨cnt, hcnt⟩ : ∃ cnt, cnt = prt len 8 := ⟨_, rfl⟩
  rw [← hcnt] at kp hc1 HR
  have HL : Hid (len = l.length) := hln
  obtain ⟨i0, hi, hz0, hz1, hz2⟩ := info_parts infoL
  have HM : Hid (i0.bytes * cnt ≤ 281474976710656 ∧ cnt ≤ maxLen) := ⟨by rw [hz2]; omega, by unfold maxLen; omega⟩
  clear h hln hR hcnt
  go_enter Try.func5, Try.ntmps5
  go_wp2_with (first
    | (go_at_call 14; refine (kp _).mono ?_; rintro e w1 ⟨rfl, rfl⟩)
    | (at_make; refine wpList_make_own _ rfl _ _ 24 rfl w.heap.size 26 i0 (.slice none 0 0) 1 Try.underlying24 hi hz0 hz1 _ _ _ cnt rfl rfl rfl HM.out.1 HM.out.2 (Nat.le_refl _) ?_; intro w1 hown hgrow; have HB1 : Hid (Below w.heap.size w w1) := (Below.refl _ _).grown hgrow (Nat.le_refl _) (fun k hk => by cases hk); have HO1 : Hid (w1.ownsRow w.heap.size 26 1 (.slice (some ⟨w.heap.size, 0, none⟩) 0 cnt) 0 []) := hown; clear hown hgrow)
    | (go_at_call 15; refine (kc _ HB1.out).mono ?_; rintro e w2 ⟨g, c2, rfl, hc2, hc3, hbox, hb2⟩; have HS2 : Hid (Spl w w2 g l (.slice (some ⟨w.heap.size, 0, none⟩) 0 cnt) [] []) := ⟨owns_later HO1.out hb2, rfl, (fun i u y q => by simp at q), hbox, bafter HB1.out hb2⟩; clear hbox hb2))
  unfold maxLen at hc3
  clear kp kc HM hi hz0 hz1 hz2 HB1 HO1
  go_loopg [4, 5, 6] cnt (fun kx s4 s5 s6 wr => ∃ (c j n rc : Nat) (v : Value) (ra : Option Addr) (vs : List Value) (ds : List (List St)), c = kx ∧ s6 = .int .i64 (c : Nat) ∧ s5 = .slice ra n rc ∧ v = s4 ∧ Hid (Spl w wr g l v vs ds ∧ ds ++ splN c (l.drop j) = R ∧ (c = 0 ∨ (ra = some ⟨g, j * 4, none⟩ ∧ c ≤ n ∧ j + n = len ∧ n ≤ rc ∧ rc ≤ c2)) ∧ ds.length ≤ len ∧ ds.length + c ≤ len))
  case atStart => exact ⟨cnt, 0, len, c2, _, _, [], [], rfl, rfl, rfl, rfl, (⟨HS2.out, by rw [List.drop_zero, List.nil_append]; exact HR.out.symm, .inr ⟨by simp, hc1, by omega, hc2, by omega⟩, by simp, by simpa using hc1⟩ : Spl _ _ _ _ _ _ _ ∧ _)⟩
  case round =>
    obtain ⟨c, j, n, rc, v, ra, vs, ds, rfl, rfl, rfl, rfl, I⟩ := hrel
    by_cases hlt : 0 < c
    · obtain ⟨i1, i2, i3, i4, i5⟩ := I.out
      rcases i3 with i3 | ⟨rfl, k1, k2, k3, k4⟩
      · omega
      have hpz : prt n c ≤ n := prt_le (by omega)
      have hpp : 1 ≤ prt n c := prt_pos (by omega) (by omega)
      have hpr := prt_rest (n := n) (c := c) (by omega) k1
      have kp := HP.out n c (by omega) (by omega) (by omega)
      have hln : (l.drop j).length = n := by rw [List.length_drop, ← HL.out]; omega
      obtain ⟨c', hcc⟩ : ∃ c', c = c' + 1 := ⟨c - 1, by omega⟩
      obtain ⟨sz, hsz⟩ : ∃ sz, sz = prt n c := ⟨_, rfl⟩
      rw [hcc, splN, hln, List.drop_drop, ← hcc] at i2
      rw [← hsz] at hpz hpp hpr kp i2
      have HPc : Hid (Pc g l (.slice (some ⟨g, j * 4, none⟩) sz sz) ((l.drop j).take sz)) := pc_piece (by have := HL.out; omega) (by unfold maxLen; omega)
      have HI : Hid (Spl w wr g l v vs ds) := i1
      have HE : Hid (ds ++ [(l.drop j).take sz] ++ splN c' (l.drop (j + sz)) = R) := by show _ = _; rw [List.append_assoc]; exact i2
      have HK : Hid (ds.length + 1 ≤ maxLen ∧ (ds.length + 1) * 24 ≤ 140737488355328 ∧ ds.length + 1 + c' ≤ len) := ⟨by unfold maxLen; omega, by omega, by omega⟩
      have hgt : (0 : Int) < (c : Int) := by omega
      have hc63 : c ≤ 9223372036854775807 := by omega
      have HC : Hid (c = c' + 1) := hcc
      have hrc : sz ≤ rc := by omega
      have hrc63 : rc ≤ 9223372036854775807 := by omega
      have HQ : Hid (c' ≤ n - sz ∧ sz ≤ n ∧ j + n = len ∧ n ≤ rc ∧ rc ≤ c2) := ⟨by omega, hpz, k2, k3, k4⟩
      clear i1 i2 i4 i5 hsz k2 k4 I hpr hln hcc
      by_cases hre : rc = sz
      · subst hre
        have hn : n = rc := by omega
        subst hn
        have hc0 : c' = 0 := by have := HQ.out; omega
        go_wp2_with (first
          | (go_at_call 14; refine (kp _).mono ?_; rintro e w1 ⟨rfl, rfl⟩)
          | (at_builtin; refine wpList_append_lists rfl (.tmp 24) (.tmp 29) rfl w.heap.size v ds.length vs rfl (HI.out.later (below_new wr _)).own ⟨wr.heap.size, 0, none⟩ 1 (.slice (some ⟨g, j * 4, none⟩) n n) rfl (new_cell wr _ _) rfl HK.out.1 HK.out.2.1 (HI.out.later (below_new wr _)).bel.size ?_; intro v2 w2 ho hg; have HI2 : Hid (Spl w w2 g l v2 (vs ++ [.slice (some ⟨g, j * 4, none⟩) n n]) (ds ++ [(l.drop j).take n])) := (HI.out.later (below_new wr _)).app HPc.out ho hg; clear ho hg))
        go_roundg c'
        case measure => (have := HC.out; omega)
        case rel => exact ⟨c', j + n, _, _, v2, _, _, _, rfl, by (have := HC.out; congr 1; omega), rfl, rfl, (⟨HI2.out, HE.out, .inl hc0, by have := HK.out; simp; omega, by have := HK.out; simp; omega⟩ : Spl _ _ _ _ _ _ _ ∧ _)⟩
      · go_wp2_with (first
          | (go_at_call 14; refine (kp _).mono ?_; rintro e w1 ⟨rfl, rfl⟩)
          | (at_builtin; refine wpList_append_lists rfl (.tmp 24) (.tmp 29) rfl w.heap.size v ds.length vs rfl (HI.out.later (below_new wr _)).own ⟨wr.heap.size, 0, none⟩ 1 (.slice (some ⟨g, j * 4, none⟩) sz sz) rfl (new_cell wr _ _) rfl HK.out.1 HK.out.2.1 (HI.out.later (below_new wr _)).bel.size ?_; intro v2 w2 ho hg; have HI2 : Hid (Spl w w2 g l v2 (vs ++ [.slice (some ⟨g, j * 4, none⟩) sz sz]) (ds ++ [(l.drop j).take sz])) := (HI.out.later (below_new wr _)).app HPc.out ho hg; clear ho hg))
        go_roundg c'
        case measure => (have := HC.out; omega)
        case rel => exact ⟨c', j + sz, n - sz, rc - sz, v2, _, _, _, rfl, by (have := HC.out; congr 1; omega), rfl, rfl, (⟨HI2.out, HE.out, .inr ⟨by rw [Nat.add_mul], by have := HQ.out; omega, by have := HQ.out; omega, by have := HQ.out; omega, by have := HQ.out; omega⟩, by have := HK.out; simp; omega, by have := HK.out; simp; omega⟩ : Spl _ _ _ _ _ _ _ ∧ _)⟩
    · obtain rfl : c = 0 := by omega
      obtain ⟨i1, i2, _, _, _⟩ := I.out
      rw [splN, List.append_nil] at i2
      subst i2
      have HX : Hid (Spl w wr g l v vs ds) := i1
      clear i1 I
      go_wp2
      go_ret
      obtain ⟨fa, fn, fc, rfl, hA⟩ := HX.out.fin
      exact HF.out _ _ ⟨fa, fn, fc, rfl, hA, HX.out.bel⟩

set_option maxHeartbeats 2000000 in
theorem split_none (a : Option Addr) (cap : Nat) (w : World) (hnil : a = none → cap = 0) :
    Calls Try.prog 5 #[.slice a 0 cap] w fun e w' => SplPost w [] e w' := by
  have kp : ∀ W, Calls Try.prog 14 #[.int .i64 0, .int .i64 8] W fun e w' => e = .returned (.int .i64 0) ∧ W = w' := fun W => parts_any 0 8 (by decide) (by decide) (by decide) W
  have kc : ∀ W, Calls Try.prog 15 #[.slice a 0 cap] W fun e w' => ∃ na n c, e = .returned (.slice na n c) ∧ Below W.heap.size W w' := fun W => by
    refine (clone_any a 0 cap [] W rfl (by decide) (.inl rfl) hnil).mono ?_
    rintro e w' ⟨na, n, nc, rfl, hn, ho, hb2⟩
    exact ⟨na, n, nc, rfl, hb2⟩
  obtain ⟨i0, hi, hz0, hz1, hz2⟩ := info_parts infoL
  have HM : Hid (i0.bytes * 0 ≤ 281474976710656 ∧ 0 ≤ maxLen) := ⟨by omega, by decide⟩
  have HF : Hid (∀ e w', (∃ a n c, e = .returned (.slice a n c) ∧ LArg w' a n c [] ∧ Below w.heap.size w w') → SplPost w [] e w') := fun e w' q => q
  clear hnil
  go_enter Try.func5, Try.ntmps5
  go_wp2_with (first
    | (go_at_call 14; refine (kp _).mono ?_; rintro e w1 ⟨rfl, rfl⟩)
    | (at_make; refine wpList_make_own _ rfl _ _ 24 rfl w.heap.size 26 i0 (.slice none 0 0) 1 Try.underlying24 hi hz0 hz1 _ _ _ 0 rfl rfl rfl HM.out.1 HM.out.2 (Nat.le_refl _) ?_; intro w1 hown hgrow; have HB1 : Hid (Below w.heap.size w w1) := (Below.refl _ _).grown hgrow (Nat.le_refl _) (fun k hk => by cases hk); clear hown hgrow)
    | (go_at_call 15; refine (kc _).mono ?_; rintro e w2 ⟨na, nn, nc, rfl, hb2⟩; have HB2 : Hid (Below w.heap.size w w2) := bafter HB1.out hb2; clear hb2))
  go_loopg [4, 5, 6] 0 (fun kx s4 s5 s6 wr => s6 = .int .i64 0 ∧ s4 = .slice (some ⟨w.heap.size, 0, none⟩) 0 0 ∧ wr = w2)
  case atStart => exact ⟨rfl, rfl, rfl⟩
  case round =>
    obtain ⟨rfl, rfl, rfl⟩ := hrel
    go_wp2
    go_ret
    exact HF.out _ _ ⟨_, 0, 0, rfl, ⟨rfl, Nat.le_refl _, by decide, .inl rfl⟩, HB2.out⟩
theorem split_any (a : Option Addr) (len cap : Nat) (l : List St) (w : World) (h : ZArg w a len cap l) (hl : len * 40 ≤ 140737488355328) (hnil : a = none → cap = 0) :
    Calls Try.prog 5 #[.slice a len cap] w fun e w' => SplPost w l e w' := by
  by_cases h0 : 0 < len
  · exact split_some a len cap l w h hl h0
  · obtain rfl : len = 0 := by omega
    have e : l = [] := List.eq_nil_of_length_eq_zero h.len_eq.symm
    subst e
    exact split_none a cap w hnil
end Go.Proofs.Ytfmgaahileknfaa
