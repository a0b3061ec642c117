/-
  What the document's Split answers.
-/
import Derived.Test.YtfmgaahileknfaaIBndM
import Derived.Test.YtfmgaahileknfaaISzN
namespace Go.Proofs.Ytfmgaahileknfaa
open Go.RowKit M
set_option maxRecDepth 10000

theorem infoRL : (Try.prog.info? 22).map (fun i => (i.zero, i.size, i.bytes)) = some (some (.slice none 0 0), 1, 24) := by kernel_rfl
theorem wpList_append_rlists {w : World} {ops : Array Oper} {rest : List Oper} {o : Oper} {a : Act} {Q : Exit → Act → World → Prop} (hgd : o.guard = none) (s x : Operand)
    (ho : o.op = .call { callee := .builtin .append, args := #[s, x], argTypes := #[28, 28] })
    (base : Nat) (v : Value) (n : Nat) (xs : List Value) (hs : a.eval s = v) (hown : w.ownsRow base 22 1 v n xs)
    (ad : Addr) (c : Nat) (u : Value) (hx : a.eval x = .slice (some ad) 1 c) (hr : w.cell? (ad.add 0) = some u) (hu : u.oneCell' = true)
    (h63 : n + 1 ≤ maxLen) (hbytes : (n + 1) * 24 ≤ 140737488355328) (hbase : base ≤ w.heap.size)
    (h : ∀ v' w', w'.ownsRow base 22 1 v' (n + 1) (xs ++ [u]) → w.grownBy w' v.ownBlock → wpList Try.prog ops Q rest (a.put o.dst v') w') : wpList Try.prog ops Q (o :: rest) a w := by
  obtain ⟨i0, hi, hz0, hz1, hz2⟩ := info_parts infoRL
  exact wpList_append_own w hgd s x 28 ho base 22 i0 (.slice none 0 0) 1 24 Try.underlying28 hi hz0 hz1 hz2 rfl (by omega) v n xs hs hown ad 1 c [u] hx rfl
    (fun j z hj => by
      have hj0 : j = 0 := by have := (List.getElem?_eq_some_iff.1 hj).1; simp at this; omega
      subst hj0
      simp at hj
      subst hj
      exact hr) (by simpa using hu) h63 hbytes hbase (fun v' w' h1 h2 _ => h v' w' h1 h2)
/-- A piece of the slots that a leads to. -/
def RPc (a : Option Addr) (l : List St) (u : Value) (y : List St) : Prop := ∃ ya yc, u = .slice ya y.length yc ∧ y.length ≤ yc ∧ yc ≤ maxLen ∧ ∀ W, ZRow W a l → ZRow W ya y
structure RSp (w W : World) (a : Option Addr) (l : List St) (v : Value) (vs : List Value) (ds : List (List St)) : Prop where
  own : W.ownsRow w.heap.size 22 1 v ds.length vs
  len : vs.length = ds.length
  pcs : ∀ (i : Nat) (u : Value) (y : List St), vs[i]? = some u → ds[i]? = some y → RPc a l u y
  bel : Below w.heap.size w W
theorem RSp.later {w W W' : World} {a : Option Addr} {l : List St} {v : Value} {vs : List Value} {ds : List (List St)} (h : RSp w W a l v vs ds) (hb : Below W.heap.size W W') : RSp w W' a l v vs ds :=
  ⟨owns_later h.own hb, h.len, h.pcs, bafter h.bel hb⟩
theorem RSp.app {w W W' : World} {a : Option Addr} {l : List St} {v v' : Value} {vs : List Value} {ds : List (List St)} (h : RSp w W a l v vs ds) {u : Value} {y : List St} (hp : RPc a l u y) (ho : W'.ownsRow w.heap.size 22 1 v' (ds.length + 1) (vs ++ [u])) (hg : W.grownBy W' v.ownBlock) : RSp w W' a l v' (vs ++ [u]) (ds ++ [y]) := by
  refine ⟨by rw [List.length_append]; exact ho, by simp [h.len], fun i u' y' h1 h2 => ?_, grown_own h.bel hg h.bel.size h.own⟩
  by_cases hi : i < ds.length
  · rw [List.getElem?_append_left (by rw [h.len]; exact hi)] at h1
    rw [List.getElem?_append_left hi] at h2
    exact h.pcs i u' y' h1 h2
  · have hl := h.len
    rw [List.getElem?_append_right (by omega)] at h1 h2
    rw [h.len] at h1
    have hi0 : i - ds.length = 0 := by
      have := (List.getElem?_eq_some_iff.1 h2).1
      simp at this; omega
    rw [hi0] at h1 h2
    simp at h1 h2
    subst h1 h2
    exact hp
theorem RSp.fin {w W : World} {a : Option Addr} {l : List St} {v : Value} {vs : List Value} {ds : List (List St)} (h : RSp w W a l v vs ds) (hz : ZRow w a l) : ∃ a n c, v = .slice a n c ∧ LArg W a n c ds := by
  rcases h.own.2 with ⟨rfl, h0⟩ | ⟨q, cap, cur, rfl, hbg, hgg, hnc, hcm, hcs, htake⟩
  · exact ⟨none, 0, 0, rfl, h0.symm, Nat.le_refl _, by decide, .inl (List.eq_nil_of_length_eq_zero h0)⟩
  · refine ⟨_, _, cap, rfl, rfl, hnc, hcm, .inr ⟨q, 0, rfl, fun i y hy => ?_⟩⟩
    have hi := (List.getElem?_eq_some_iff.1 hy).1
    obtain ⟨u, hu⟩ : ∃ u, vs[i]? = some u := ⟨_, List.getElem?_eq_getElem (by rw [h.len]; exact hi)⟩
    obtain ⟨a, c, rfl, q1, q2, q3⟩ := h.pcs i u y hu hy
    refine ⟨a, c, ?_, q3 W (hz.later h.bel), q1, q2⟩
    have := h.own.cellAt i (by simpa using hi)
    rw [Nat.zero_add, this]
    exact hu
theorem flat_len_take (ls : List (List St)) (i : Nat) : (ls.take i).flatten.length ≤ ls.flatten.length := by
  conv => rhs; rw [← List.take_append_drop i ls, List.flatten_append, List.length_append]
  omega
/-- A list of lists that are put together: each is a piece of the whole. -/
theorem flat_piece {ls : List (List St)} {l : List St} (h : ls.flatten = l) {i : Nat} {y : List St} (hy : ls[i]? = some y) : (l.drop (ls.take i).flatten.length).take y.length = y ∧ (ls.take (i + 1)).flatten.length = (ls.take i).flatten.length + y.length ∧ (ls.take i).flatten.length + y.length ≤ l.length := by
  obtain ⟨hi, e⟩ := List.getElem?_eq_some_iff.1 hy
  have h1 : ls.flatten = (ls.take i).flatten ++ (y ++ (ls.drop (i + 1)).flatten) := by
    conv => lhs; rw [← List.take_append_drop i ls, List.drop_eq_getElem_cons hi, e]
    simp
  have h2 : (ls.take (i + 1)).flatten.length = (ls.take i).flatten.length + y.length := by
    rw [List.take_succ_eq_append_getElem hi, e]; simp
  refine ⟨?_, h2, ?_⟩
  · rw [← h, h1, List.drop_left, List.take_left]
  · rw [← h, ← h2]; exact flat_len_take ls (i + 1)
theorem piece_rpc {b off cap : Nat} {l : List St} {j n : Nat} (hn : j + n ≤ l.length) (hc : l.length ≤ cap) (hm : cap ≤ maxLen) : RPc (some ⟨b, off, none⟩) l (.slice (some ⟨b, off + j * 4, none⟩) n (cap - j)) ((l.drop j).take n) := by
  have e : ((l.drop j).take n).length = n := by rw [List.length_take, List.length_drop]; omega
  exact ⟨_, _, by rw [e], by rw [e]; omega, by omega, fun W hz => hz.sub j n⟩
set_option maxHeartbeats 4000000 in
theorem rsplit_any (a : Option Addr) (len cap : Nat) (l : List St) (w : World) (h : ZArg w a len cap l) (hl : len * 40 ≤ 140737488355328) :
    Calls Try.prog 7 #[.slice a len cap] w fun e w' => ∃ la n c, e = .returned (.slice la n c) ∧ LArg w' la n c (spl l) ∧ Below w.heap.size w w' := by
  have hln := h.len_eq
  have hlc := h.le
  have hcm := h.max
  have HZ : Hid (ZRow w a l) := h.row
  have HCM : Hid (cap ≤ maxLen) := h.max
  unfold maxLen at hcm
  obtain ⟨ls, hls⟩ : ∃ ls, ls = spl l := ⟨_, rfl⟩
  obtain ⟨c, hc⟩ : ∃ c, c = (len + 7) / 8 := ⟨_, rfl⟩
  have hlsl : ls.length = c := by rw [hls, spl_len, ← hln, hc]
  have HN : Hid (ls.length = c) := hlsl
  have HFl : Hid (ls.flatten = l) := by show _ = _; rw [hls, spl_flat]
  have HSz : Hid (∀ (k : Nat) (y : List St), ls[k]? = some y → 1 ≤ y.length ∧ y.length = len / c + (if k < len % c then 1 else 0)) := fun k y hy => by
    rw [hls] at hy
    refine ⟨(spl_sizes hy).1, ?_⟩
    have := splN_size _ _ _ _ hy
    rw [prt8, ← hln, ← hc] at this
    exact this
  rw [← hls]
  have HL : Hid (len = l.length) := hln
  have hc1 : c ≤ len := by omega
  have hdv : ((len : Int) + 7).tdiv 8 = (c : Int) := by rw [Int.tdiv_eq_ediv_of_nonneg (by omega)]; omega
  have hdv2 : ((len : Int) + 8 - 1).tdiv 8 = (c : Int) := by rw [Int.tdiv_eq_ediv_of_nonneg (by omega)]; omega
  clear h hls hc hln hlsl
  go_enter Try.func7, Try.ntmps7
  go_wp2
  clear hdv hdv2
  go_loopg [4, 5, 6] c (fun kx s4 s5 s6 wr => ∃ (k at' : Nat) (v : Value) (vs : List Value), k + kx = c ∧ v = s4 ∧ s5 = .int .i64 (at' : Nat) ∧ s6 = .int .i64 (k : Nat) ∧ Hid (RSp w wr a l v vs (ls.take k) ∧ at' = (ls.take k).flatten.length))
  case atStart => exact ⟨0, 0, _, [], by omega, rfl, rfl, rfl, (⟨⟨World.ownsRow_nil _ _ _ 1, rfl, (fun i u y q => by simp at q), Below.refl _ _⟩, by simp⟩ : RSp _ _ _ _ _ _ _ ∧ _)⟩
  case round =>
    obtain ⟨k, at', v, vs, hk, rfl, rfl, rfl, I⟩ := hrel
    obtain ⟨i1, i2⟩ := I.out
    by_cases hlt : k < c
    · obtain ⟨y, hy⟩ : ∃ y, ls[k]? = some y := ⟨_, List.getElem?_eq_getElem (by have := HN.out; omega)⟩
      obtain ⟨s1, s2⟩ := HSz.out k y hy
      obtain ⟨p1, p2, p3⟩ := flat_piece HFl.out hy
      rw [← i2] at p1 p2 p3
      obtain ⟨b, off, s0, rfl, _, _, _⟩ := zrow_at HZ.out (k := 0) (by have := HL.out; omega)
      have htk : ls.take (k + 1) = ls.take k ++ [y] := by
        obtain ⟨hi, e⟩ := List.getElem?_eq_some_iff.1 hy
        rw [List.take_succ_eq_append_getElem hi, e]
      have hkl : (ls.take k).length = k := by rw [List.length_take]; have := HN.out; omega
      obtain ⟨n, hn⟩ : ∃ n, n = y.length := ⟨_, rfl⟩
      rw [← hn] at s1 s2 p1 p2 p3
      rw [← HL.out] at p3
      have HPc : Hid (RPc (some ⟨b, off, none⟩) l (.slice (some ⟨b, off + at' * 4, none⟩) n (cap - at')) y) := by
        have := piece_rpc (b := b) (off := off) (cap := cap) (l := l) (j := at') (n := n) (by have := HL.out; omega) (by have := HL.out; omega) HCM.out
        rw [p1] at this
        exact this
      have HI : Hid (RSp w wr (some ⟨b, off, none⟩) l v vs (ls.take k)) := i1
      have HLk : Hid ((ls.take k).length = k) := hkl
      have HOw : Hid (∀ o, (wr.alloc o).ownsRow w.heap.size 22 1 v k vs) := fun o => by have := (HI.out.later (below_new wr o)).own; rw [hkl] at this; exact this
      have HTk : Hid (ls.take (k + 1) = ls.take k ++ [y]) := htk
      have HAt : Hid (at' + n = (ls.take (k + 1)).flatten.length) := p2.symm
      have HQ : Hid (k + 1 ≤ maxLen ∧ (k + 1) * 24 ≤ 140737488355328) := ⟨by unfold maxLen; omega, by omega⟩
      have hc0 : ¬ (c : Int) = 0 := by omega
      obtain ⟨q, hq⟩ : ∃ q, q = len / c := ⟨_, rfl⟩
      obtain ⟨r, hr⟩ : ∃ r, r = len % c := ⟨_, rfl⟩
      have hd1 : (len : Int).tdiv (c : Int) = (q : Int) := by rw [Int.tdiv_eq_ediv_of_nonneg (by omega), hq]; simp
      have hd2 : (len : Int).tmod (c : Int) = (r : Int) := by rw [Int.tmod_eq_emod_of_nonneg (by omega), hr]; simp
      rw [← hq, ← hr] at s2
      have hkc : (k : Int) < (c : Int) := by omega
      have hne : ¬ cap = at' := by omega
      have hac : at' + n ≤ cap := by omega
      clear hq hr hn p1 p2 htk hkl i1 i2 I hy
      by_cases hkr : k < r
      · rw [if_pos hkr] at s2
        have hkr2 : (k : Int) < (r : Int) := by omega
        obtain rfl : n = q + 1 := s2
        go_wp2_with (at_builtin; refine wpList_append_rlists rfl (.tmp 30) (.tmp 37) rfl w.heap.size v k vs rfl (HOw.out _) ⟨wr.heap.size, 0, none⟩ 1 (.slice (some ⟨b, off + at' * 4, none⟩) (q + 1) (cap - at')) rfl (new_cell wr _ _) rfl HQ.out.1 HQ.out.2 (HI.out.later (below_new wr _)).bel.size ?_; intro v2 w2 ho hg; have HI2 : Hid (RSp w w2 (some ⟨b, off, none⟩) l v2 (vs ++ [.slice (some ⟨b, off + at' * 4, none⟩) (q + 1) (cap - at')]) (ls.take (k + 1))) := (by rw [HTk.out]; exact (HI.out.later (below_new wr _)).app HPc.out (by rw [HLk.out]; exact ho) hg); clear ho hg)
        go_roundg (c - (k + 1))
        case measure => omega
        case rel => exact ⟨k + 1, at' + (q + 1), v2, _, by omega, rfl, by go_num, by go_num, (⟨HI2.out, HAt.out⟩ : _ ∧ _)⟩
      · rw [if_neg hkr] at s2
        have hkr2 : ¬ (k : Int) < (r : Int) := by omega
        obtain rfl : n = q := s2
        go_wp2_with (at_builtin; refine wpList_append_rlists rfl (.tmp 30) (.tmp 37) rfl w.heap.size v k vs rfl (HOw.out _) ⟨wr.heap.size, 0, none⟩ 1 (.slice (some ⟨b, off + at' * 4, none⟩) n (cap - at')) rfl (new_cell wr _ _) rfl HQ.out.1 HQ.out.2 (HI.out.later (below_new wr _)).bel.size ?_; intro v2 w2 ho hg; have HI2 : Hid (RSp w w2 (some ⟨b, off, none⟩) l v2 (vs ++ [.slice (some ⟨b, off + at' * 4, none⟩) n (cap - at')]) (ls.take (k + 1))) := (by rw [HTk.out]; exact (HI.out.later (below_new wr _)).app HPc.out (by rw [HLk.out]; exact ho) hg); clear ho hg)
        go_roundg (c - (k + 1))
        case measure => omega
        case rel => exact ⟨k + 1, at' + n, v2, _, by omega, rfl, by go_num, by go_num, (⟨HI2.out, HAt.out⟩ : _ ∧ _)⟩
    · have hkl : k = c := by omega
      subst hkl
      have HX : Hid (RSp w wr a l v vs ls) := by
        have : ls.take k = ls := List.take_of_length_le (by have := HN.out; omega)
        rw [this] at i1
        exact i1
      clear i1 i2 I
      go_wp2
      go_ret
      obtain ⟨fa, fn, fc, rfl, hA⟩ := HX.out.fin HZ.out
      exact ⟨fa, fn, fc, rfl, hA, HX.out.bel⟩
end Go.Proofs.Ytfmgaahileknfaa
