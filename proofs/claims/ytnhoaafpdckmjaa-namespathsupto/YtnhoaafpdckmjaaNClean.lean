/-
  What Clean answers: the path that is left without the parts . and .. (and what these drop).
-/
import Derived.Test.YtnhoaafpdckmjaaNJoin
namespace Go.Proofs.Ytnhoaafpdckmjaa
open Go.RowKit Go.Shelf M

theorem split_at (s : List UInt8) (b : Bool) (z : Int) (ps : List ByteArray) (hb : b = ends s) (hz : z = err s) (hp : ps = (told s).map bs) (w : World) :
    Calls Try.prog 9 #[.string (bs s)] w fun e w' => ∃ a cap, e = .returned (.tuple #[.agg #[.slice a ps.length cap, .bool b], .int .i64 z]) ∧ SRow w' a ps ∧ (a = none → ps.length = 0 ∧ cap = 0) ∧ ps.length ≤ cap ∧ cap ≤ maxLen ∧ Below w.heap.size w w' := by
  subst hb hz hp
  refine (split_any s w).mono ?_
  rintro e w' ⟨v, rfl, h1, h2⟩
  obtain ⟨a, cap, rfl, q1, q2, q3, q4⟩ := owns_row h1
  exact ⟨a, cap, rfl, q1, q2, q3, q4, h2⟩

set_option maxHeartbeats 1000000 in
theorem clean_err (s : List UInt8) (z : Int) (hz : z = err s) (he : z ≠ 0) (w : World) :
    Calls Try.prog 17 #[.string (bs s)] w fun e w' => e = .returned (.tuple #[.string ⟨#[]⟩, .int .i64 z]) ∧ Below w.heap.size w w' := by
  have hs := split_at s (ends s) z _ rfl hz rfl w
  obtain ⟨S, hS⟩ : ∃ S, S = bs s := ⟨_, rfl⟩
  rw [← hS] at hs ⊢
  have e1 : (z == 0) = false := by simpa using he
  clear hS hz he
  go_enter Try.func17, Try.ntmps17
  go_wp2_with (go_at_call 9; refine hs.mono ?_; rintro e w1 ⟨a, cap, rfl, hr, hnil, hcap, hmax, hb⟩)
  go_ret2
  exact ⟨rfl, hb.alloc hb.size _⟩

/-- What is left behind k parts. -/
def leftS (ps : List ByteArray) (k : Nat) : List ByteArray := (lefts (datas (ps.take k))).map bs
theorem leftS_zero (ps : List ByteArray) : leftS ps 0 = [] := rfl
theorem datas_take_succ {ps : List ByteArray} {k : Nat} (h : k < ps.length) : datas (ps.take (k + 1)) = datas (ps.take k) ++ [(ps.getD k ByteArray.empty).data.toList] := by
  unfold datas
  rw [List.take_succ_eq_append_getElem h, List.map_append]
  simp [List.getD, h]
theorem leftS_dot {ps : List ByteArray} {k : Nat} {x : ByteArray} (h : k < ps.length) (hx : x = ps.getD k ByteArray.empty) (e : x.data.toList = [46]) : leftS ps (k + 1) = leftS ps k := by
  unfold leftS; rw [datas_take_succ h, lefts_snoc, ← hx, e]; rfl
theorem leftS_up {ps : List ByteArray} {k : Nat} {x : ByteArray} (h : k < ps.length) (hx : x = ps.getD k ByteArray.empty) (e : x.data.toList = [46, 46]) : leftS ps (k + 1) = (leftS ps k).dropLast := by
  unfold leftS; rw [datas_take_succ h, lefts_snoc, ← hx, e, ← List.map_dropLast]; rfl
theorem leftS_else {ps : List ByteArray} {k : Nat} {x : ByteArray} (h : k < ps.length) (hx : x = ps.getD k ByteArray.empty) (e : x.data.toList ≠ [46]) (e2 : x.data.toList ≠ [46, 46]) : leftS ps (k + 1) = leftS ps k ++ [x] := by
  unfold leftS; rw [datas_take_succ h, lefts_snoc, ← hx]; unfold left1; rw [if_neg e, if_neg e2, List.map_append]; simp [bs_of]
theorem leftS_length (ps : List ByteArray) (k : Nat) : (leftS ps k).length ≤ k := by
  unfold leftS
  rw [List.length_map]
  have := lefts_length (datas (ps.take k))
  have h2 : (datas (ps.take k)).length ≤ k := by unfold datas; simp; omega
  omega
theorem owns_less {w : World} {base g m cap : Nat} {l : List ByteArray} (h : w.ownsRow base 9 1 (.slice (some ⟨g, 0, none⟩) m cap) m (l.map Value.string)) :
    w.ownsRow base 9 1 (.slice (some ⟨g, 0, none⟩) (m - 1) cap) (m - 1) (l.dropLast.map Value.string) := by
  have h1 := h.1
  rcases h.2 with ⟨h2, _⟩ | ⟨g', cap', cur, hv, hb, hg, hn, hm, hs, ht⟩
  · cases h2
  · cases hv
    refine ⟨by simp at h1 ⊢; omega, .inr ⟨g, cap, cur, rfl, hb, hg, by omega, hm, hs, ?_⟩⟩
    rw [List.map_dropLast, ← ht, List.dropLast_eq_take, List.take_take]
    simp only [Nat.mul_one, List.length_take]
    simp only [Nat.mul_one] at hs
    congr 1
    have : cur.toList.length = cap := by simpa using hs
    omega

theorem one_row (w : World) (x : ByteArray) : SRow (w.alloc (Obj.cells #[Value.string x] 9)) (some ⟨w.heap.size, 0, none⟩) [x] := by
  refine .inr ⟨_, _, rfl, fun i hi => ?_⟩
  have : i = 0 := by simp at hi; exact hi
  subst this
  exact (Boxed.new w 9 (.string x)).cell
theorem left_all {ps : List ByteArray} {n : Nat} (h : n = ps.length) : datas (leftS ps n) = lefts (datas ps) := by
  subst h; unfold leftS; rw [datas_bs, List.take_length]
theorem left_bound {ps : List ByteArray} {n : Nat} (hq : ∀ p ∈ datas ps, p.length ≤ 24) (h : n = ps.length) (h32 : n ≤ 32) : (joined (datas (leftS ps n))).length ≤ 140737488355328 := by
  rw [left_all h]
  unfold joined
  split
  · simp
  · have h1 := lefts_length (datas ps)
    have h2 : (datas ps).length = ps.length := by unfold datas; simp
    have := slashed_le (ps := lefts (datas ps)) (by omega) (fun p hp => hq p (lefts_mem hp))
    omega
/-- What Clean tells: the path that is left; no byte with an error. -/
def cleaned (s : List UInt8) : List UInt8 := if err s = 0 then joined (lefts (parts s)) else []

set_option maxHeartbeats 2000000 in
theorem clean_ok (s : List UInt8) (he : err s = 0) (w : World) :
    Calls Try.prog 17 #[.string (bs s)] w fun e w' => e = .returned (.tuple #[.string (bs (joined (lefts (parts s)))), .int .i64 0]) ∧ Below w.heap.size w w' := by
  have ht : told s = parts s := by unfold told; rw [if_pos he]
  obtain ⟨_, _, _, hq1, hq2⟩ := err_zero.1 he
  obtain ⟨ps, hps⟩ : ∃ ps, ps = (told s).map bs := ⟨_, rfl⟩
  have hs := split_at s (ends s) 0 ps rfl he.symm hps w
  rw [ht] at hps
  have HD : Hid (datas ps = parts s) := by show _ = _; rw [hps, datas_bs]
  have hlen : ps.length ≤ 32 := by rw [hps, List.length_map]; exact hq1
  rw [← HD.out] at hq2 ⊢
  have HQ : Hid (∀ p ∈ datas ps, p.length ≤ 24) := hq2
  obtain ⟨S, hS⟩ : ∃ S, S = bs s := ⟨_, rfl⟩
  rw [← hS] at hs ⊢
  clear hS hps ht hq1 hq2 he
  obtain ⟨n, hn⟩ : ∃ n, n = ps.length := ⟨_, rfl⟩
  rw [← hn] at hs hlen
  have HN : Hid (n = ps.length) := hn
  clear hn
  go_enter Try.func17, Try.ntmps17
  go_wp2_with (go_at_call 9; refine hs.mono ?_; rintro e w1 ⟨a, cap, rfl, hr, hnil, hcap, hmax, hb⟩)
  have HR : Hid (SRow w1 a ps) := hr
  have HB : Hid (Below w.heap.size w w1) := hb
  have hs1 := hb.size
  clear hs hr hb hnil
  obtain ⟨w2, hw2⟩ : ∃ w2, w2 = w1.alloc (Obj.cells #[Value.slice a n cap, Value.bool (ends s)] 24) := ⟨_, rfl⟩
  have hs2 : w2.heap.size = w1.heap.size + 1 := by rw [hw2, World.size_alloc]
  have HB2 : Hid (Below w1.heap.size w1 w2) := by rw [hw2]; exact below_new _ _
  rw [← hw2]
  have HR2 : Hid (SRow w2 a ps) := HR.out.later HB2.out
  have rO : Hid ((w2.alloc (Obj.cells #[] 9)).ownsRow w2.heap.size 9 1 (.slice (some ⟨w1.heap.size + 1, 0, none⟩) 0 0) 0 []) := by rw [← hs2]; exact own_empty w2 w2.heap.size (Nat.le_refl _)
  clear hw2
  go_loopw [6, 21] (fun s6 s21 wr => ∃ (k g cap' m : Nat), k ≤ n ∧ s21 = .int .i64 k ∧ m = (leftS ps k).length ∧ s6 = .slice (some ⟨g, 0, none⟩) m cap' ∧ wr.ownsRow w2.heap.size 9 1 (.slice (some ⟨g, 0, none⟩) m cap') m ((leftS ps k).map Value.string) ∧ Below w2.heap.size w2 wr)
    (fun _ s21 _ => n - (intOf s21).toNat)
  case atStart => exact ⟨0, w1.heap.size + 1, 0, 0, by omega, rfl, rfl, rfl, rO.out, below_new _ _⟩
  case round =>
    obtain ⟨k, g, cap', m, hk, rfl, hm, rfl, hown, hbr⟩ := hrel
    have HM : Hid (m = (leftS ps k).length) := hm
    have hm32 : m ≤ 32 := by have := leftS_length ps k; omega
    have HO : Hid (wr.ownsRow w2.heap.size 9 1 (.slice (some ⟨g, 0, none⟩) m cap') m ((leftS ps k).map Value.string)) := hown
    have HBR : Hid (Below w2.heap.size w2 wr) := hbr
    have hwr := hbr.size
    clear hm hown hbr
    by_cases hlt : k < n
    · obtain ⟨b1, o1, rfl, hc1⟩ : ∃ b off, a = some ⟨b, off, none⟩ ∧ ∀ i, i < ps.length → wr.cell? ⟨b, off + i, none⟩ = some (.string (ps.getD i ByteArray.empty)) := by
        rcases HR2.out.later HBR.out with h | h
        · have := HN.out; subst h; simp at this; omega
        · exact h
      have hkl : k < ps.length := by have := HN.out; omega
      have g1 := hc1 k hkl
      clear hc1
      generalize hxk : ps.getD k ByteArray.empty = x at g1
      have HX : Hid (x = ps.getD k ByteArray.empty) := hxk.symm
      clear hxk
      have HL : Hid (k < ps.length) := hkl
      clear hkl
      by_cases d1 : x.data.toList = [46]
      · have e1 : (x.toList == [46]) = true := by rw [ByteArray.toList_eq, d1]; rfl
        go_wp2
        go_roundw
        case rel => exact ⟨k + 1, g, cap', m, by omega, by go_num, by rw [leftS_dot HL.out HX.out d1]; exact HM.out, rfl, by rw [leftS_dot HL.out HX.out d1]; exact HO.out, HBR.out⟩
        case measure => simp [intOf]; omega
      · have e1 : (x.toList == [46]) = false := by rw [ByteArray.toList_eq]; simpa using d1
        by_cases d2 : x.data.toList = [46, 46]
        · have e2 : (x.toList == [46, 46]) = true := by rw [ByteArray.toList_eq, d2]; rfl
          have hmc : m ≤ cap' := by
            rcases HO.out.2 with ⟨h, _⟩ | ⟨g', c', cur, hv, _, _, h, _⟩
            · cases h
            · cases hv; exact h
          have hmx : max ((m : Int) - 1) 0 = ((m - 1 : Nat) : Int) := by omega
          have hmx2 : ((m - 1 : Nat) : Int) ≤ (cap' : Int) := by omega
          go_wp2
          go_roundw
          case rel => exact ⟨k + 1, g, cap', m - 1, by omega, by go_num, by rw [leftS_up HL.out HX.out d2, List.length_dropLast, ← HM.out], rfl, by rw [leftS_up HL.out HX.out d2]; exact owns_less HO.out, HBR.out⟩
          case measure => simp [intOf]; omega
        · have e2 : (x.toList == [46, 46]) = false := by rw [ByteArray.toList_eq]; simpa using d2
          go_wp2_with (at_builtin; go_must (refine wpList_append_strs rfl (.tmp 26) (.tmp 28) rfl w2.heap.size (.slice (some ⟨g, 0, none⟩) m cap') m ((leftS ps k).map Value.string) rfl (HO.out.alloc _) (some ⟨wr.heap.size, 0, none⟩) 1 1 [x] rfl rfl (one_row _ _) (fun h => by cases h) (by unfold maxLen; omega) (by omega) (by simp; omega) ?_); intro v' w5 hown' hgrow; obtain ⟨g', cap2, rfl⟩ := ownsRow_succ hown'; have hb5 := grown_own (HBR.out.alloc hwr _) hgrow (by simp; omega) (HO.out.alloc _))
          go_roundw
          case rel => exact ⟨k + 1, g', cap2, m + 1, by omega, by go_num, by rw [leftS_else HL.out HX.out d1 d2, List.length_append, ← HM.out]; rfl, rfl, by rw [leftS_else HL.out HX.out d1 d2, List.map_append]; exact hown', hb5⟩
          case measure => simp [intOf]; omega
    · have hkn : k = n := by omega
      subst hkn
      have hmc : m ≤ cap' := by
        rcases HO.out.2 with ⟨h, _⟩ | ⟨g', c', cur, hv, _, _, h, _⟩
        · cases h
        · cases hv; exact h
      have HJ := join_any (some ⟨g, 0, none⟩) m cap' (leftS ps k) wr HM.out hmc (by obtain ⟨a', c', hv, hr, _⟩ := owns_row' HM.out HO.out; cases hv; exact hr) (by have := leftS_length ps k; omega) (left_bound HQ.out HN.out hlen)
      rw [left_all HN.out] at HJ
      go_wp2_with (go_at_call 19; refine HJ.mono ?_; rintro e w6 ⟨rfl, hb6⟩)
      go_ret2
      exact ⟨rfl, (HB.out.trans (HB2.out.mono HB.out.size)).trans ((HBR.out.trans (hb6.mono hwr)).mono (by omega))⟩

theorem clean_any (s : List UInt8) (w : World) :
    Calls Try.prog 17 #[.string (bs s)] w fun e w' => e = .returned (.tuple #[.string (bs (cleaned s)), .int .i64 (err s)]) ∧ Below w.heap.size w w' := by
  unfold cleaned
  by_cases h : err s = 0
  · rw [if_pos h, h]; exact clean_ok s h w
  · rw [if_neg h]; exact clean_err s (err s) rfl h w
end Go.Proofs.Ytnhoaafpdckmjaa
