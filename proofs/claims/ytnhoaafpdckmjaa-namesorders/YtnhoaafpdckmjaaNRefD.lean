/-
  The document's answer of Sort.
-/
import Derived.Test.YtnhoaafpdckmjaaNRefC
namespace Go.Proofs.Ytnhoaafpdckmjaa
open Go.RowKit Go.Shelf M

theorem less_quiet {x y : ByteArray} (hx : x.size ≤ maxLen) (hy : y.size ≤ maxLen) {W : World} {r : Bool} (hr : r = lt x y) {a b : Nat} : Calls Try.prog 23 #[.string x, .string y] (W.drewN (a + b)) fun e w'' => e = .returned (.bool r) ∧ ∃ n, w'' = W.drewN (a + n) := by
  have h := rless_any x.data.toList y.data.toList (by rw [Array.length_toList]; exact hx) (by rw [Array.length_toList]; exact hy) (W.drewN (a + b))
  rw [bs_of, bs_of, ← lt_of] at h
  refine h.mono ?_
  rintro e w' ⟨rfl, q, rfl⟩
  exact ⟨by rw [hr], b + q, by rw [World.drewN_drewN, Nat.add_assoc]⟩
theorem less_quiet0 {x y : ByteArray} (hx : x.size ≤ maxLen) (hy : y.size ≤ maxLen) {W : World} {r : Bool} (hr : r = lt x y) {a : Nat} : Calls Try.prog 23 #[.string x, .string y] (W.drewN a) fun e w'' => e = .returned (.bool r) ∧ ∃ n, w'' = W.drewN n := by
  have h := less_quiet hx hy (W := W) hr (a := 0) (b := a)
  simp only [Nat.zero_add] at h
  exact h
theorem row_find {w : World} {a : Option Addr} {l : List ByteArray} (h : SRow w a l) {k : Nat} (hk : k < l.length) : ∃ b off, a = some ⟨b, off, none⟩ := by
  rcases h with rfl | ⟨b, off, ha, _⟩
  · simp at hk
  · exact ⟨b, off, ha⟩
theorem row_cell {w : World} {b off : Nat} {l : List ByteArray} (h : SRow w (some ⟨b, off, none⟩) l) {k : Nat} {x : ByteArray} (hk : l[k]? = some x) : w.cell? ⟨b, off + k, none⟩ = some (.string x) := by
  obtain ⟨hk', rfl⟩ := List.getElem?_eq_some_iff.1 hk
  rcases h with rfl | ⟨b', off', ha, hc⟩
  · simp at hk'
  · cases ha
    rw [hc k hk']
    simp [List.getD, hk']
theorem owns_lower {w : World} {base base' size n : Nat} {e : TypeId} {v : Value} {xs : List Value} (h : w.ownsRow base e size v n xs) (hb : base' ≤ base) : w.ownsRow base' e size v n xs :=
  ⟨h.1, h.2.elim Or.inl (fun ⟨g, cap, cur, hv, hg, r⟩ => Or.inr ⟨g, cap, cur, hv, Nat.le_trans hb hg, r⟩)⟩

set_option maxRecDepth 100000 in
set_option maxHeartbeats 4000000 in
theorem rsort_any (al : Option Addr) (n c : Nat) (l : List ByteArray) (w : World) (hn : n = l.length) (hbig : n * 16 ≤ 140737488351232) (hlt : ∀ x ∈ l, x.size ≤ maxLen) (hr : SRow w al l) :
    Calls Try.prog 25 #[.slice al n c] w fun e w' => ∃ a' c', e = .returned (.slice a' n c') ∧ SRow w' a' (sorted l) ∧ Below w.heap.size w w' := by
  have HN : Hid (n = l.length) := hn
  have HL : Hid (∀ x ∈ l, x.size ≤ maxLen) := hlt
  have HR : Hid (SRow w al l) := hr
  clear hn hlt hr
  go_enter Try.func25, Try.ntmps25
  go_wp2
  go_loopw [3, 4] (fun s3 s4 wr => ∃ (i m cap : Nat) (a : Option Addr), i ≤ n ∧ s4 = .int .i64 i ∧ m = i ∧ s3 = .slice a m cap ∧ wr.ownsRow w.heap.size 9 1 (.slice a m cap) m ((rs (l.take i)).map Value.string) ∧ Below w.heap.size w wr) (fun _ s4 _ => n - (intOf s4).toNat)
  case atStart => exact ⟨0, 0, 0, none, by omega, rfl, rfl, rfl, World.ownsRow_nil _ _ _ _, Below.refl _ _⟩
  case round =>
    obtain ⟨i, m, cap, a, hi, rfl, hmi, rfl, hown, hb⟩ := hrel
    obtain ⟨w1, hw1⟩ : ∃ w1, w1 = wr := ⟨_, rfl⟩
    subst hw1
    have HM : Hid (m = i) := hmi
    have HO : Hid (w1.ownsRow w.heap.size 9 1 (.slice a m cap) m ((rs (l.take i)).map Value.string)) := hown
    have HB : Hid (Below w.heap.size w w1) := hb
    have hm0 : m ≤ n := by omega
    clear hown hb hmi
    by_cases hin : i < n
    · have hil : i < l.length := by have := HN.out; omega
      obtain ⟨b1, o1, rfl⟩ := row_find HR.out hil
      obtain ⟨x, hx⟩ : ∃ x, l[i]? = some x := ⟨_, List.getElem?_eq_getElem hil⟩
      have HX : Hid (l[i]? = some x) := hx
      have hxs := HL.out x (List.mem_of_getElem? hx)
      have HLO : Hid (m = (rs (l.take i)).length) := by show _ = _; rw [rs_length, List.length_take, HM.out]; omega
      have HOl : Hid (∀ y ∈ rs (l.take i), y.size ≤ maxLen) := fun y hy => HL.out y (List.mem_of_mem_take ((rs_facts (l.take i)).2.subset hy))
      have HNX : Hid (rs (l.take (i + 1)) = ins x (rs (l.take i))) := rs_take hx
      obtain ⟨O, hOO⟩ : ∃ O, O = rs (l.take i) := ⟨_, rfl⟩
      rw [← hOO] at HO HLO HOl HNX
      obtain ⟨_, _, hv, hrO, _⟩ := owns_row' HLO.out HO.out
      cases hv
      have HRO : Hid (SRow w1 a O) := hrO
      have HRL : Hid (SRow w1 (some ⟨b1, o1, none⟩) l) := HR.out.later HB.out
      clear hx hil hOO hrO
      go_wp2
      go_loopw [5, 6, 7] (fun s5 s6 s7 wi => ∃ (k m5 cap5 : Nat) (a5 : Option Addr) (d : Bool) (N : List ByteArray), k ≤ m ∧ s7 = .int .i64 k ∧ s6 = .bool d ∧ s5 = .slice a5 m5 cap5 ∧ m5 = N.length ∧ m5 ≤ k + 1 ∧ (d = false → m5 ≤ k) ∧ Part x O N k d ∧ wi.ownsRow w1.heap.size 9 1 (.slice a5 m5 cap5) m5 (N.map Value.string) ∧ Below w1.heap.size w1 wi) (fun _ _ s7 _ => m - (intOf s7).toNat)
      case atStart => exact ⟨0, 0, 0, none, false, [], by omega, rfl, rfl, rfl, rfl, by omega, fun _ => Nat.le_refl _, .inl ⟨rfl, by simp, by simp⟩, World.ownsRow_nil _ _ _ _, Below.refl _ _⟩
      case round =>
        obtain ⟨k, m5, cap5, a5, d, N, hk, rfl, rfl, rfl, hm5, hm5k, hd5, hpart, hown5, hb5⟩ := hrel
        have HM5 : Hid (m5 = N.length) := hm5
        have HPT : Hid (Part x O N k d) := hpart
        have HO5 : Hid (wr.ownsRow w1.heap.size 9 1 (.slice a5 m5 cap5) m5 (N.map Value.string)) := hown5
        have HB5 : Hid (Below w1.heap.size w1 wr) := hb5
        have hwr5 := hb5.size
        clear hm5 hpart hown5 hb5
        by_cases hkm : k < m
        · have hkO : k < O.length := by have := HLO.out; omega
          obtain ⟨b2, o2, rfl⟩ := row_find HRO.out hkO
          obtain ⟨y, hy⟩ : ∃ y, O[k]? = some y := ⟨_, List.getElem?_eq_getElem hkO⟩
          have HY : Hid (O[k]? = some y) := hy
          have hys := HOl.out y (List.mem_of_getElem? hy)
          have gx := row_cell (HRL.out.later HB5.out) HX.out
          have gy := row_cell (HRO.out.later HB5.out) HY.out
          clear hy hkO
          cases d with
          | true =>
            have HP2 : Hid (Part x O (N ++ [y]) (k + 1) true) := part_more HPT.out HY.out
            clear hd5
            go_wp2
            go_quiet (first | (go_at_call 23; first | exact less_quiet0 hxs hys rfl | exact less_quiet hxs hys rfl))
            have HOW : Hid ((wr.drewN nq).ownsRow w1.heap.size 9 1 (.slice a5 m5 cap5) m5 (N.map Value.string)) := owns_later HO5.out (below_drawn wr nq)
            have HBW : Hid (Below w1.heap.size w1 (wr.drewN nq)) := HB5.out.trans ((below_drawn wr nq).mono HB5.out.size)
            obtain ⟨W, hW⟩ : ∃ W, W = wr.drewN nq := ⟨_, rfl⟩
            rw [← hW] at HOW HBW ⊢
            have gxW := row_cell (HRL.out.later HBW.out) HX.out
            have gyW := row_cell (HRO.out.later HBW.out) HY.out
            have hWs := HBW.out.size
            clear hW gx gy
            
            go_wp2_with (at_builtin; go_must (refine wpList_append_strs rfl (.tmp 40) (.tmp 45) rfl w1.heap.size (.slice a5 m5 cap5) m5 (N.map Value.string) rfl (HOW.out.alloc _) (some ⟨W.heap.size, 0, none⟩) 1 1 [y] rfl rfl (one_row _ _) (fun h => by cases h) (by unfold maxLen; omega) (by omega) (by simp; omega) ?_); intro v1 x1 hown1 hgrow1; obtain ⟨g1, cp1, rfl⟩ := ownsRow_succ hown1; have hbx1 := grown_own (HBW.out.alloc hWs _) hgrow1 (by simp; omega) (HOW.out.alloc _))
            go_roundw
            case rel => exact ⟨k + 1, m5 + 1, cp1, _, true, N ++ [y], by omega, by go_num, rfl, rfl, by rw [List.length_append, ← HM5.out]; rfl, by omega, (fun h => by cases h), HP2.out, by rw [List.map_append]; exact hown1, hbx1⟩
            case measure => simp [intOf]; omega
          | false =>
            have hd6 := hd5 rfl
            clear hd5
            cases hl : lt x y with
            | false =>
              have HP2 : Hid (Part x O (N ++ [y]) (k + 1) false) := part_pass HPT.out HY.out hl
              have HL' : Hid (_ = lt x y) := hl.symm
              clear hl
              go_wp2
              go_quiet (first | (go_at_call 23; first | exact less_quiet0 hxs hys HL'.out | exact less_quiet hxs hys HL'.out))
              have HOW : Hid ((wr.drewN nq).ownsRow w1.heap.size 9 1 (.slice a5 m5 cap5) m5 (N.map Value.string)) := owns_later HO5.out (below_drawn wr nq)
              have HBW : Hid (Below w1.heap.size w1 (wr.drewN nq)) := HB5.out.trans ((below_drawn wr nq).mono HB5.out.size)
              obtain ⟨W, hW⟩ : ∃ W, W = wr.drewN nq := ⟨_, rfl⟩
              rw [← hW] at HOW HBW ⊢
              have gxW := row_cell (HRL.out.later HBW.out) HX.out
              have gyW := row_cell (HRO.out.later HBW.out) HY.out
              have hWs := HBW.out.size
              clear hW gx gy
              
              go_wp2_with (at_builtin; go_must (refine wpList_append_strs rfl (.tmp 40) (.tmp 45) rfl w1.heap.size (.slice a5 m5 cap5) m5 (N.map Value.string) rfl (HOW.out.alloc _) (some ⟨W.heap.size, 0, none⟩) 1 1 [y] rfl rfl (one_row _ _) (fun h => by cases h) (by unfold maxLen; omega) (by omega) (by simp; omega) ?_); intro v1 x1 hown1 hgrow1; obtain ⟨g1, cp1, rfl⟩ := ownsRow_succ hown1; have hbx1 := grown_own (HBW.out.alloc hWs _) hgrow1 (by simp; omega) (HOW.out.alloc _))
              go_roundw
              case rel => exact ⟨k + 1, m5 + 1, cp1, _, false, N ++ [y], by omega, by go_num, rfl, rfl, by rw [List.length_append, ← HM5.out]; rfl, by omega, (fun _ => by omega), HP2.out, by rw [List.map_append]; exact hown1, hbx1⟩
              case measure => simp [intOf]; omega
            | true =>
              have HP2 : Hid (Part x O (N ++ [x] ++ [y]) (k + 1) true) := part_put HPT.out HY.out hl
              have HL' : Hid (_ = lt x y) := hl.symm
              clear hl
              have M1 : Hid True := trivial
              go_wp2
              go_quiet (first | (go_at_call 23; first | exact less_quiet0 hxs hys HL'.out | exact less_quiet hxs hys HL'.out))
              have HOW : Hid ((wr.drewN nq).ownsRow w1.heap.size 9 1 (.slice a5 m5 cap5) m5 (N.map Value.string)) := owns_later HO5.out (below_drawn wr nq)
              have HBW : Hid (Below w1.heap.size w1 (wr.drewN nq)) := HB5.out.trans ((below_drawn wr nq).mono HB5.out.size)
              obtain ⟨W, hW⟩ : ∃ W, W = wr.drewN nq := ⟨_, rfl⟩
              rw [← hW] at HOW HBW ⊢
              have gxW := row_cell (HRL.out.later HBW.out) HX.out
              have gyW := row_cell (HRO.out.later HBW.out) HY.out
              have hWs := HBW.out.size
              clear hW gx gy
              
              go_wp2_with (first
                | (at_builtin; clear M1; go_must (refine wpList_append_strs rfl (.tmp 33) (.tmp 38) rfl w1.heap.size (.slice a5 m5 cap5) m5 (N.map Value.string) rfl (HOW.out.alloc _) (some ⟨W.heap.size, 0, none⟩) 1 1 [x] rfl rfl (one_row _ _) (fun h => by cases h) (by unfold maxLen; omega) (by omega) (by simp; omega) ?_); intro v1 x1 hown1 hgrow1; obtain ⟨g1, cp1, rfl⟩ := ownsRow_succ hown1; have hbx1 := grown_own (HBW.out.alloc hWs _) hgrow1 (by simp; omega) (HOW.out.alloc _); have hs1 := hbx1.size; have hown1' := hown1; rw [← List.map_append] at hown1'; have HO1 : Hid (x1.ownsRow w1.heap.size 9 1 (.slice (some ⟨g1, 0, none⟩) (m5 + 1) cp1) (m5 + 1) ((N ++ [x]).map Value.string)) := hown1'; have HB1 : Hid (Below w1.heap.size w1 x1) := hbx1; have gy1 := row_cell (HRO.out.later hbx1) HY.out; clear hown1 hown1' hgrow1 hbx1)
                | (at_builtin; go_must (refine wpList_append_strs rfl (.tmp 40) (.tmp 45) rfl w1.heap.size (.slice (some ⟨g1, 0, none⟩) (m5 + 1) cp1) (m5 + 1) ((N ++ [x]).map Value.string) rfl (HO1.out.alloc _) (some ⟨x1.heap.size, 0, none⟩) 1 1 [y] rfl rfl (one_row _ _) (fun h => by cases h) (by unfold maxLen; omega) (by omega) (by simp; omega) ?_); intro v2 x2 hown2 hgrow2; obtain ⟨g2, cp2, rfl⟩ := ownsRow_succ hown2; have hbx2 := grown_own (HB1.out.alloc hs1 _) hgrow2 (by simp; omega) (HO1.out.alloc _)))
              go_roundw
              case rel => exact ⟨k + 1, m5 + 1 + 1, cp2, _, true, N ++ [x] ++ [y], by omega, by go_num, rfl, rfl, by rw [List.length_append, List.length_append, ← HM5.out]; rfl, by omega, (fun h => by cases h), HP2.out, by rw [List.map_append]; exact hown2, hbx2⟩
              case measure => simp [intOf]; omega
        · have hkm' : k = m := by omega
          subst hkm'
          have gx := row_cell (HRL.out.later HB5.out) HX.out
          cases d with
          | true =>
            have HE : Hid (N = ins x O) := part_end1 HPT.out HLO.out
            clear hd5
            have HM6 : Hid (m5 = i + 1) := by
              show _ = _
              rw [HM5.out, HE.out, (ins_perm x O).length_eq, List.length_cons, ← HLO.out, HM.out]
            go_wp2
            go_roundw
            case rel => exact ⟨i + 1, m5, cap5, a5, by omega, by go_num, HM6.out, rfl, by rw [HNX.out, ← HE.out]; exact owns_lower HO5.out HB.out.size, HB.out.trans (HB5.out.mono HB.out.size)⟩
            case measure => simp [intOf]; omega
          | false =>
            have hd6 := hd5 rfl
            clear hd5
            have HE : Hid (N ++ [x] = ins x O) := part_end0 HPT.out HLO.out
            have HM6 : Hid (m5 + 1 = i + 1) := by
              show _ = _
              have e : (N ++ [x]).length = i + 1 := by rw [HE.out, (ins_perm x O).length_eq, List.length_cons, ← HLO.out, HM.out]
              rw [List.length_append, ← HM5.out] at e
              exact e
            go_wp2_with (at_builtin; go_must (refine wpList_append_strs rfl (.tmp 49) (.tmp 54) rfl w1.heap.size (.slice a5 m5 cap5) m5 (N.map Value.string) rfl (HO5.out.alloc _) (some ⟨wr.heap.size, 0, none⟩) 1 1 [x] rfl rfl (one_row _ _) (fun h => by cases h) (by unfold maxLen; omega) (by omega) (by simp; omega) ?_); intro v1 x1 hown1 hgrow1; obtain ⟨g1, cp1, rfl⟩ := ownsRow_succ hown1; have hbx1 := grown_own (HB5.out.alloc hwr5 _) hgrow1 (by simp; omega) (HO5.out.alloc _))
            go_roundw
            case rel => exact ⟨i + 1, m5 + 1, cp1, _, by omega, by go_num, HM6.out, rfl, by rw [HNX.out, ← HE.out, List.map_append]; exact owns_lower hown1 HB.out.size, HB.out.trans (hbx1.mono HB.out.size)⟩
            case measure => simp [intOf]; omega
    · have hieq : i = n := by omega
      subst hieq
      go_wp2
      go_ret
      obtain ⟨_, _, hv, hrO, _⟩ := owns_row' (l := rs (l.take i)) (by rw [rs_length, List.length_take, HM.out, ← HN.out]; simp) HO.out
      cases hv
      have e := HM.out
      subst e
      refine ⟨a, cap, rfl, ?_, HB.out⟩
      rw [← rs_sorted]
      have e2 : l.take m = l := by rw [HN.out, List.take_length]
      rw [e2] at hrO
      exact hrO
end Go.Proofs.Ytnhoaafpdckmjaa
