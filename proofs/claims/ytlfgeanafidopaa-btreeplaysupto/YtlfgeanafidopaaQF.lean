/-
  A node's lay.
-/
import Derived.Test.YtlfgeanafidopaaQD
import Derived.Deep.RegionWith
namespace Go.Proofs.Ytlfgeanafidopaa.Bt
open Go.RowKit
set_option maxRecDepth 10000
set_option maxHeartbeats 4000000 in
theorem lay_mid (h : Hd) (lv : Nat) (l : List Sl) (s : Sl) (i : Nat) (w : World) (hA : At w h lv l) (hs : Ksrt (l.map Sl.k)) (hl : l.length ≤ 500) (hi : lb s.k (l.map Sl.k) = i) (x : Sl) (hx : l[i]? = some x) (he : x.k ≠ s.k) :
    Calls Try.prog 67 #[.pointer (some ⟨h.p, 0, none⟩), slA s] w fun e w' => e = .returned (.tuple #[]) ∧ ∃ h', Turned w h lv (l.take i ++ s :: l.drop i) h' w' := by
  obtain ⟨W0, hW0⟩ : ∃ W0, W0 = w.alloc (.cells #[.string s.k, .string s.v, .pointer (s.kid.map fun b => ⟨b, 0, none⟩)] 77) := ⟨_, rfl⟩
  have b0 : Below w.heap.size w W0 := by rw [hW0]; exact below_new w _
  have hB0 : Whole W0 w.heap.size (slv s) 77 := by rw [hW0]; exact Whole.new w (slv s) _
  have hA0 := hA.later b0
  have hF := from_any h lv l s.k W0 hA0 hs (by omega)
  have hil := lb_le s.k (l.map Sl.k)
  rw [List.length_map, hi] at hil
  rw [hi] at hF
  obtain ⟨a, cap, hv, c1, c2⟩ := hA.own.slice
  have hI := insAt hA0 hv rfl hl i hil s
  have HI : Hid (InsAt W0 h lv l.length cap a l (l.take i ++ s :: l.drop i) i s 0) := hI
  have hp0 : h.p < W0.heap.size := hA0.row.lt
  have hb0 : w.heap.size < W0.heap.size := hB0.lt
  have HB0 : Hid (Below w.heap.size w W0) := b0
  have HW0 : Hid (W0 = w.alloc (.cells #[.string s.k, .string s.v, .pointer (s.kid.map fun b => ⟨b, 0, none⟩)] 77)) := hW0
  obtain ⟨g, cap', hv', ho, _, _, hg0, _⟩ := hA0.own.at hx
  have hlt := (List.getElem?_eq_some_iff.1 hx).1
  rw [hv] at hv'
  cases hv'
  have HB : Hid (∀ W, Below W0.heap.size W0 W → W.cell? ⟨h.p, 1, none⟩ = some (.slice (some ⟨g, 0, none⟩) l.length cap) ∧ W.cell? ⟨w.heap.size, 0, none⟩ = some (.string s.k) ∧ W.cell? ⟨w.heap.size, 1, none⟩ = some (.string s.v) ∧ W.cell? ⟨w.heap.size, 2, none⟩ = some (.pointer (s.kid.map fun b => ⟨b, 0, none⟩)) ∧ W.cell? ⟨g, i * 3, none⟩ = some (.string x.k)) := fun W hb => by
    obtain ⟨g2, cap2, hv2, _, _, _, _, q0, q1, q2, q3⟩ := (hA0.later hb).own.at hx
    rw [hv] at hv2; cases hv2
    exact ⟨by rw [← hv]; exact (hA0.later hb).row.cell (i := 1) rfl, (hB0.later hb).row.cell (i := 0) rfl, (hB0.later hb).row.cell (i := 1) rfl, (hB0.later hb).row.cell (i := 2) rfl, q0⟩
  have e1 : (x.k.toList == s.k.toList) = false := by rw [keq]; simp [he]
  have hin : (i : Int) < (l.length : Int) := by omega
  unfold slA
  generalize hL : l.take i ++ s :: l.drop i = L at *
  generalize l.length = n at *
  clear hI hA hA0 hB0 hs hl b0 hv hW0 hL hx he ho
  go_enter Try.func67, Try.ntmps67
  go_wp2_with (go_at_call 37; rw [← HW0.out]; refine hF.mono ?_; rintro e W ⟨rfl, hb⟩; obtain ⟨q1, q2, q3, q4, q5⟩ := HB.out W hb; have HBW : Hid (Below _ _ _) := hb; have hzW : W0.heap.size ≤ W.heap.size := hb.size; clear hb)
  go_quiet (fail)
  go_wp2
  obtain ⟨W2, hW2⟩ : ∃ W2, W2 = W.drewN nq := ⟨_, rfl⟩
  rw [← hW2]
  have HBW2 : Hid (Below W0.heap.size W0 W2) := by show Below _ _ _; rw [hW2]; exact bafter HBW.out (below_drawn W _)
  have p1 : W2.cell? ⟨h.p, 1, none⟩ = some (.slice (some ⟨g, 0, none⟩) n cap) := by rw [hW2]; exact q1
  have p2 : W2.cell? ⟨w.heap.size, 0, none⟩ = some (.string s.k) := by rw [hW2]; exact q2
  have p3 : W2.cell? ⟨w.heap.size, 1, none⟩ = some (.string s.v) := by rw [hW2]; exact q3
  have p4 : W2.cell? ⟨w.heap.size, 2, none⟩ = some (.pointer (s.kid.map fun b => ⟨b, 0, none⟩)) := by rw [hW2]; exact q4
  have hz2 : W0.heap.size ≤ W2.heap.size := by rw [hW2]; exact hzW
  have o1 := fun o => Lib.cell?_alloc_some (W := W2) o p1
  have o2 := fun o => Lib.cell?_alloc_some (W := W2) o p2
  have o3 := fun o => Lib.cell?_alloc_some (W := W2) o p3
  have o4 := fun o => Lib.cell?_alloc_some (W := W2) o p4
  clear q1 q2 q3 q4 hW2 HBW hzW
  go_region_with (first
    | (go_at_call 68; refine (HI.out.call _ W2.heap.size _ (bafter HBW2.out ((below_new W2 _).drew)) (Whole.new W2 (slv s) _) hz2).mono ?_; rintro e w3 ⟨a', m', cap', rfl, q, r1, r2⟩; have HQ : Hid (Inserted _ _ _ _ _) := q; clear q))
  all_goals go_wp2
  all_goals go_end0
  all_goals exact ⟨rfl, (HI.out.fin _ _ _ (bafter HBW2.out ((below_new W2 _).drew)) HQ.out).elim fun h' t => ⟨h', t.before HB0.out⟩⟩
set_option maxHeartbeats 4000000 in
theorem lay_end (h : Hd) (lv : Nat) (l : List Sl) (s : Sl) (i : Nat) (w : World) (hA : At w h lv l) (hs : Ksrt (l.map Sl.k)) (hl : l.length ≤ 500) (hi : lb s.k (l.map Sl.k) = i) (he : i = l.length) :
    Calls Try.prog 67 #[.pointer (some ⟨h.p, 0, none⟩), slA s] w fun e w' => e = .returned (.tuple #[]) ∧ ∃ h', Turned w h lv (l.take i ++ s :: l.drop i) h' w' := by
  obtain ⟨W0, hW0⟩ : ∃ W0, W0 = w.alloc (.cells #[.string s.k, .string s.v, .pointer (s.kid.map fun b => ⟨b, 0, none⟩)] 77) := ⟨_, rfl⟩
  have b0 : Below w.heap.size w W0 := by rw [hW0]; exact below_new w _
  have hB0 : Whole W0 w.heap.size (slv s) 77 := by rw [hW0]; exact Whole.new w (slv s) _
  have hA0 := hA.later b0
  have hF := from_any h lv l s.k W0 hA0 hs (by omega)
  have hil := lb_le s.k (l.map Sl.k)
  rw [List.length_map, hi] at hil
  rw [hi] at hF
  obtain ⟨a, cap, hv, c1, c2⟩ := hA.own.slice
  have hI := insAt hA0 hv rfl hl i hil s
  have HI : Hid (InsAt W0 h lv l.length cap a l (l.take i ++ s :: l.drop i) i s 0) := hI
  have hp0 : h.p < W0.heap.size := hA0.row.lt
  have hb0 : w.heap.size < W0.heap.size := hB0.lt
  have HB0 : Hid (Below w.heap.size w W0) := b0
  have HW0 : Hid (W0 = w.alloc (.cells #[.string s.k, .string s.v, .pointer (s.kid.map fun b => ⟨b, 0, none⟩)] 77)) := hW0
  have HB : Hid (∀ W, Below W0.heap.size W0 W → W.cell? ⟨h.p, 1, none⟩ = some (.slice a l.length cap) ∧ W.cell? ⟨w.heap.size, 0, none⟩ = some (.string s.k) ∧ W.cell? ⟨w.heap.size, 1, none⟩ = some (.string s.v) ∧ W.cell? ⟨w.heap.size, 2, none⟩ = some (.pointer (s.kid.map fun b => ⟨b, 0, none⟩)) ∧ True) := fun W hb => 
    ⟨by rw [← hv]; exact (hA0.later hb).row.cell (i := 1) rfl, (hB0.later hb).row.cell (i := 0) rfl, (hB0.later hb).row.cell (i := 1) rfl, (hB0.later hb).row.cell (i := 2) rfl, trivial⟩
  unfold slA
  generalize hL : l.take i ++ s :: l.drop i = L at *
  subst he
  generalize l.length = n at *
  clear hI hA hA0 hB0 hs hl b0 hv hW0 hL hi hil
  go_enter Try.func67, Try.ntmps67
  go_wp2_with (go_at_call 37; rw [← HW0.out]; refine hF.mono ?_; rintro e W ⟨rfl, hb⟩; obtain ⟨q1, q2, q3, q4, _⟩ := HB.out W hb; have HBW : Hid (Below _ _ _) := hb; have hzW : W0.heap.size ≤ W.heap.size := hb.size; clear hb)
  go_quiet (fail)
  go_wp2
  obtain ⟨W2, hW2⟩ : ∃ W2, W2 = W.drewN nq := ⟨_, rfl⟩
  rw [← hW2]
  have HBW2 : Hid (Below W0.heap.size W0 W2) := by show Below _ _ _; rw [hW2]; exact bafter HBW.out (below_drawn W _)
  have p1 : W2.cell? ⟨h.p, 1, none⟩ = some (.slice a n cap) := by rw [hW2]; exact q1
  have p2 : W2.cell? ⟨w.heap.size, 0, none⟩ = some (.string s.k) := by rw [hW2]; exact q2
  have p3 : W2.cell? ⟨w.heap.size, 1, none⟩ = some (.string s.v) := by rw [hW2]; exact q3
  have p4 : W2.cell? ⟨w.heap.size, 2, none⟩ = some (.pointer (s.kid.map fun b => ⟨b, 0, none⟩)) := by rw [hW2]; exact q4
  have hz2 : W0.heap.size ≤ W2.heap.size := by rw [hW2]; exact hzW
  have o1 := fun o => Lib.cell?_alloc_some (W := W2) o p1
  have o2 := fun o => Lib.cell?_alloc_some (W := W2) o p2
  have o3 := fun o => Lib.cell?_alloc_some (W := W2) o p3
  have o4 := fun o => Lib.cell?_alloc_some (W := W2) o p4
  clear q1 q2 q3 q4 hW2 HBW hzW
  go_region_with (first
    | (go_at_call 68; refine (HI.out.call _ W2.heap.size _ (bafter HBW2.out ((below_new W2 _).drew)) (Whole.new W2 (slv s) _) hz2).mono ?_; rintro e w3 ⟨a', m', cap', rfl, q, r1, r2⟩; have HQ : Hid (Inserted _ _ _ _ _) := q; clear q))
  all_goals go_wp2
  all_goals go_end0
  all_goals exact ⟨rfl, (HI.out.fin _ _ _ (bafter HBW2.out ((below_new W2 _).drew)) HQ.out).elim fun h' t => ⟨h', t.before HB0.out⟩⟩
theorem lay_any (h : Hd) (lv : Nat) (l : List Sl) (s : Sl) (w : World) (hA : At w h lv l) (hs : Ksrt (l.map Sl.k)) (hl : l.length ≤ 500) :
    Calls Try.prog 67 #[.pointer (some ⟨h.p, 0, none⟩), slA s] w fun e w' => e = .returned (.tuple #[]) ∧ ∃ h', Turned w h lv (layS s l) h' w' := by
  unfold layS
  cases hx : l[lb s.k (l.map Sl.k)]? with
  | none =>
    rw [if_neg (by simp)]
    refine lay_end h lv l s _ w hA hs hl rfl ?_
    have h1 := List.getElem?_eq_none_iff.1 hx
    have h2 := lb_le s.k (l.map Sl.k)
    rw [List.length_map] at h2
    omega
  | some x =>
    by_cases he : x.k = s.k
    · rw [if_pos (by simp [he])]
      exact lay_set h lv l s x _ w hA hs hl rfl hx he
    · rw [if_neg (by simp [he])]
      exact lay_mid h lv l s _ w hA hs hl rfl x hx he
end Go.Proofs.Ytlfgeanafidopaa.Bt
