/-
  The walk of put in a node that is no leaf, where the kid is parted.
-/
import Derived.Test.YtlfgeanafidopaaQH
namespace Go.Proofs.Ytlfgeanafidopaa.Bt
open Go.RowKit
set_option maxRecDepth 10000

set_option maxHeartbeats 8000000 in
theorem put_split {n : Nat} (F : Nat) (hF : 4 ≤ F) (hF2 : F ≤ 64) (k v : K) (ih : Below1 F k v n) (w : World) (t : En (n + 2)) (i g N cap : Nat) (A B : List (En (n + 1))) (c : En (n + 1)) (x : Ctx w t i g N cap A B c)
    (hg : Good F (n + 1) (abs (n + 2) t)) (hi : place k (abs (n + 2) t).l = i) (C : El (n + 1)) (hC : put F k v n (abs (n + 1) c) = C) (hCl : F < C.l.length) :
    Calls Try.prog 53 #[.pointer (some ⟨t.h.p, 0, none⟩), slA ⟨k, v, none⟩, .int .i64 (F : Nat)] w fun e w' => e = .returned (.tuple #[]) ∧ ∃ t', Went w t t' w' ∧ abs (n + 2) t' = .nd true (putIn F i (abs (n + 2) t).l C) := by
  have hcm : c ∈ t.l := by rw [x.e]; simp
  have hcm' : abs (n + 1) c ∈ (abs (n + 2) t).l := by rw [abs_l]; exact List.mem_map_of_mem hcm
  obtain ⟨f1, f2, f3⟩ := hg.kids _ hcm'
  rw [abs_l, List.length_map] at f1 f2
  have hgc := hg.kid hcm'
  have hpo := put_ok hF k v n (abs (n + 1) c) hgc (by rw [abs_l, List.length_map]; exact f2) (fun _ => by rw [abs_l, List.length_map]; omega)
  rw [hC] at hpo
  have hC0 : 0 < C.l.length := hpo.2.2.2.2
  have hCb : C.l.length ≤ F + 1 := by have := hpo.2.2.2.1; rw [abs_l, List.length_map] at this; omega
  obtain ⟨S0, hS0⟩ : ∃ S0, S0 = t.l.map (slE (n + 1)) := ⟨_, rfl⟩
  obtain ⟨W0, hW0⟩ : ∃ W0, W0 = w.alloc (.cells #[.string k, .string v, .pointer none] 77) := ⟨_, rfl⟩
  have b0 : Below w.heap.size w W0 := by rw [hW0]; exact below_new w _
  obtain ⟨W1, hW1⟩ : ∃ W1, W1 = W0.setCell ⟨t.h.p, 2, none⟩ (.bool true) := ⟨_, rfl⟩
  have hP : Stage w t W1 S0 (A ++ c :: B) := by rw [← x.e, hS0]; exact marked x.lies x.nd b0 W1 hW1
  have hpw : t.h.p < w.heap.size := x.lies.1.row.lt
  have hB1 : Whole W1 w.heap.size [.string k, .string v, .pointer none] 77 := (by rw [hW0]; exact Whole.new w _ _ : Whole W0 w.heap.size [.string k, .string v, .pointer none] 77).same (by rw [hW1]; exact Below.heap_setCell _ _ _ _ (by show w.heap.size ≠ t.h.p; omega))
  have hPl := placed hF x hg hi hS0 hP
  have hsl : S0[i]? = some (slE (n + 1) c) := by rw [hS0, List.getElem?_map, x.at_i]; rfl
  have hlen : S0.length = N := by rw [hS0, List.length_map, x.hN]
  obtain ⟨S1, hS1⟩ : ∃ S1, S1 = S0.set i ⟨ek (n + 1) C, ⟨#[]⟩, some c.h.p⟩ := ⟨_, rfl⟩
  have HX : Hid (Ctx w t i g N cap A B c) := x
  have HL0 : Hid (S0.length = N) := hlen
  have HR : Hid (∀ W, Below W1.heap.size W1 W → Stage w t W S0 (A ++ c :: B) ∧ W.cell? ⟨t.h.p, 1, none⟩ = some (.slice (some ⟨g, 0, none⟩) N cap) ∧ W.cell? ⟨g, i * 3 + 2, none⟩ = some (.pointer (some ⟨c.h.p, 0, none⟩)) ∧ W.cell? ⟨w.heap.size, 0, none⟩ = some (.string k) ∧ W.cell? ⟨w.heap.size, 1, none⟩ = some (.string v) ∧ W.cell? ⟨w.heap.size, 2, none⟩ = some (.pointer none)) := fun W hb => by
    have y := hP.later hb
    obtain ⟨q1, _, _, q4, _⟩ := x.slots y hsl hlen
    exact ⟨y, q1, q4, (hB1.later hb).row.cell (i := 0) rfl, (hB1.later hb).row.cell (i := 1) rfl, (hB1.later hb).row.cell (i := 2) rfl⟩
  have HSl : Hid (∀ W ks, Stage w t W S0 ks → W.cell? ⟨t.h.p, 1, none⟩ = some (.slice (some ⟨g, 0, none⟩) N cap) ∧ W.cell? ⟨g, i * 3, none⟩ = some (.string (slE (n + 1) c).k) ∧ W.cell? ⟨g, i * 3 + 1, none⟩ = some (.string (slE (n + 1) c).v) ∧ W.cell? ⟨g, i * 3 + 2, none⟩ = some (.pointer ((slE (n + 1) c).kid.map fun b => ⟨b, 0, none⟩)) ∧ (∀ j, W.frozen? ⟨g, j, none⟩ = false) ∧ t.h.p ≠ g) := fun W ks y => x.slots y hsl hlen
  have HIH : Hid (∀ W2, Stage w t W2 S0 (A ++ c :: B) → Calls Try.prog 53 #[.pointer (some ⟨c.h.p, 0, none⟩), .agg #[.string k, .string v, .pointer none], .int .i64 (F : Nat)] W2 fun e W3 => e = .returned (.tuple #[]) ∧ ∃ c', Stage w t W3 S0 (A ++ c' :: B) ∧ c'.h.p = c.h.p ∧ abs (n + 1) c' = C) := fun W2 y => by
    refine (ih c W2 (y.lies c (by simp)) (Par.fstN y) hgc f2 (fun _ => by omega)).mono ?_
    rintro e W3 ⟨rfl, c', g3, e3⟩
    exact ⟨rfl, c', Par.kid y g3, g3.p, e3.trans hC⟩
  have HSt : Hid (∀ W c', Stage w t W S0 (A ++ c' :: B) → Stage w t (W.setCells g (i * 3) [.string (ek (n + 1) C), .string ⟨#[]⟩, .pointer (some ⟨c.h.p, 0, none⟩)]) S1 (A ++ c' :: B)) := fun W c' y => by
    rw [hS1]
    exact x.store y hlen i x.lt ⟨ek (n + 1) C, ⟨#[]⟩, some c.h.p⟩
  have hS1' : ∀ c' : En (n + 1), abs (n + 1) c' = C → c'.h.p = c.h.p → S1 = (A ++ c' :: B).map (slE (n + 1)) := fun c' e1 e2 => by
    have es : slE (n + 1) c' = ⟨ek (n + 1) C, ⟨#[]⟩, some c.h.p⟩ := by show Sl.mk (ek (n + 1) (abs (n + 1) c')) _ (some c'.h.p) = _; rw [e1, e2]
    rw [hS1, hS0, x.e, set_mid _ _ _ _ _ x.hi, List.map_append, List.map_cons, es]
  have hM2 : F < C.l.length := hCl
  have hek : ek (n + 1) (halfL C) = ek (n + 1) C := ek_halfL C (by omega)
  have hSa : S1 = A.map (slE (n + 1)) ++ ⟨ek (n + 1) C, ⟨#[]⟩, some c.h.p⟩ :: B.map (slE (n + 1)) := by rw [hS1, hS0, x.e, set_mid _ _ _ _ _ x.hi]
  have hl1 : S1.length = N := by rw [hS1, List.length_set]; exact hlen
  have hs1 : S1[i]? = some ⟨ek (n + 1) C, ⟨#[]⟩, some c.h.p⟩ := by rw [hS1, List.getElem?_set_self (by rw [hlen]; exact x.lt)]
  have fin : ∀ W7 c1 cr h' W9, Stage w t W7 S1 (A ++ c1 :: cr :: B) → c1.h.p = c.h.p → abs (n + 1) c1 = halfL C → abs (n + 1) cr = halfR C → Turned W7 (Hd.mk t.h.p t.h.v true) (n + 1) (S1.take (i + 1) ++ ⟨ek (n + 1) (halfR C), ⟨#[]⟩, some cr.h.p⟩ :: S1.drop (i + 1)) h' W9 →
      ∃ t', Went w t t' W9 ∧ abs (n + 2) t' = .nd true (putIn F i (abs (n + 2) t).l C) := fun W7 c1 cr h' W9 y e1 e2 e3 g => by
    have z := Par.turn y g
    have eL : S1.take (i + 1) ++ ⟨ek (n + 1) (halfR C), ⟨#[]⟩, some cr.h.p⟩ :: S1.drop (i + 1) = (A ++ c1 :: cr :: B).map (slE (n + 1)) := by
      have s1 : slE (n + 1) c1 = ⟨ek (n + 1) C, ⟨#[]⟩, some c.h.p⟩ := by show Sl.mk (ek (n + 1) (abs (n + 1) c1)) _ (some c1.h.p) = _; rw [e2, e1, hek]
      have s2 : slE (n + 1) cr = ⟨ek (n + 1) (halfR C), ⟨#[]⟩, some cr.h.p⟩ := by show Sl.mk (ek (n + 1) (abs (n + 1) cr)) _ (some cr.h.p) = _; rw [e3]
      rw [hSa, ins_mid _ _ _ _ (by rw [List.length_map]; exact x.hi), List.map_append, List.map_cons, List.map_cons, s1, s2]
    rw [eL] at z
    refine ⟨_, Par.fin z g.p, ?_⟩
    show El.nd h'.d _ = _
    have hd : h'.d = true := g.d
    unfold putIn
    rw [if_pos hM2, hd, En.l_nd, abs_l, x.e, List.map_append, List.map_cons, List.map_cons, e2, e3]
    congr 1
    have t1 : ((A ++ c :: B).map (abs (n + 1))).take i = A.map (abs (n + 1)) := by rw [List.map_append, List.take_append_of_le_length (by rw [List.length_map, x.hi]; exact Nat.le_refl _), List.take_of_length_le (by rw [List.length_map, x.hi]; exact Nat.le_refl _)]
    have t2 : ((A ++ c :: B).map (abs (n + 1))).drop (i + 1) = B.map (abs (n + 1)) := by
      rw [← List.map_drop]
      congr 1
      rw [show A ++ c :: B = (A ++ [c]) ++ B by simp, List.drop_append_of_le_length (by rw [List.length_append, x.hi]; exact Nat.le_refl _), List.drop_eq_nil_of_le (by rw [List.length_append, x.hi]; exact Nat.le_refl _), List.nil_append]
    rw [t1, t2]
  have HF : Hid (∀ W7 c1 cr h' W9, Stage w t W7 S1 (A ++ c1 :: cr :: B) → c1.h.p = c.h.p → abs (n + 1) c1 = halfL C → abs (n + 1) cr = halfR C → Turned W7 (Hd.mk t.h.p t.h.v true) (n + 1) (S1.take (i + 1) ++ ⟨ek (n + 1) (halfR C), ⟨#[]⟩, some cr.h.p⟩ :: S1.drop (i + 1)) h' W9 →
      ∃ t', Went w t t' W9 ∧ abs (n + 2) t' = .nd true (putIn F i (abs (n + 2) t).l C)) := fin
  have HS1 : Hid (∀ W ks, Stage w t W S1 ks → W.cell? ⟨t.h.p, 1, none⟩ = some (.slice (some ⟨g, 0, none⟩) N cap)) := fun W ks y => (x.slots y hs1 hl1).1
  have HIn : Hid (∀ W ks r, Stage w t W S1 ks → InsAt W (Hd.mk t.h.p t.h.v true) (n + 1) N cap (some ⟨g, 0, none⟩) S1 (S1.take (i + 1) ++ ⟨ek (n + 1) (halfR C), ⟨#[]⟩, some r⟩ :: S1.drop (i + 1)) (i + 1) ⟨ek (n + 1) (halfR C), ⟨#[]⟩, some r⟩ 0) := fun W ks r y => insAt y.at_ x.v hl1.symm (by rw [hl1]; have := x.le; omega) (i + 1) (by rw [hl1]; have := x.lt; omega) _
  have HCa : Hid (∀ W7 ks r, Stage w t W7 S1 ks → ∀ o, o = Obj.cells #[.string (ek (n + 1) (halfR C)), .string ⟨#[]⟩, .pointer (some ⟨r, 0, none⟩)] 77 → Calls Try.prog 68 #[.slice (some ⟨g, 0, none⟩) N cap, .int .i64 ((i : Int) + 1), .slice (some ⟨W7.heap.size, 0, none⟩) 1 1] (W7.alloc o) fun e w' =>
    ∃ a' m' cap', e = .returned (.slice a' m' cap') ∧ Inserted (W7.alloc o) t.h.v (S1.take (i + 1) ++ ⟨ek (n + 1) (halfR C), ⟨#[]⟩, some r⟩ :: S1.drop (i + 1)) (.slice a' m' cap') w' ∧ w'.cell? ⟨t.h.p, 1, none⟩ = some (.slice (some ⟨g, 0, none⟩) N cap) ∧ w'.frozen? ⟨t.h.p, 1, none⟩ = false) := fun W7 ks r y o ho => by
    subst ho
    have := (HIn.out W7 ks r y).call (W7.alloc (.cells #[.string (ek (n + 1) (halfR C)), .string ⟨#[]⟩, .pointer (some ⟨r, 0, none⟩)] 77)) W7.heap.size 1 (below_new W7 _) (Whole.new W7 (slv ⟨ek (n + 1) (halfR C), ⟨#[]⟩, some r⟩) _) (Nat.le_refl _)
    rw [show (((i + 1 : Nat)) : Int) = (i : Int) + 1 from by omega] at this
    exact this
  have HP2 : Hid (2 ≤ C.l.length ∧ C.l.length ≤ 300 ∧ 0 < (halfR C).l.length) := ⟨by omega, by omega, by show 0 < (El.nd true (C.l.drop (C.l.length / 2))).l.length; rw [El.l_nd, List.length_drop]; omega⟩
  obtain ⟨u, hu⟩ : ∃ u, w.cell? ⟨t.h.p, 2, none⟩ = some u := ⟨_, x.lies.1.row.cell (i := 2) rfl⟩
  have c0 : w.cell? ⟨t.h.p, 0, none⟩ = some (.int .i64 ((n + 1 : Nat) : Int)) := x.lies.1.row.cell (i := 0) rfl
  have hfz := x.lies.1.row.frozen 2
  have hn1 : ((((n + 1 : Nat) : Int)) == 0) = false := by simp; omega
  have hn2 : ¬ ((n + 1 : Nat) : Int) = 0 := by omega
  generalize ((n + 1 : Nat) : Int) = lv at c0 hn1 hn2
  have hiN : (i : Int) < (N : Int) := by have := x.lt; omega
  have hwi : IntKind.i64.wrap ((i : Int) + 1) = (i : Int) + 1 := by rw [IntKind.wrap_i64]; have := x.lt; have := x.le; omega
  obtain ⟨hNc, hcm2⟩ := x.capN
  have hN100 := x.le
  unfold maxLen at hcm2
  have hW : Hid ((w.setCell ⟨t.h.p, 2, none⟩ (.bool true)).alloc (.cells #[.string k, .string v, .pointer none] 77) = W1) := by show _ = _; rw [hW1, hW0, alloc_setCell _ _ _ _ hpw]
  obtain ⟨M, hM⟩ : ∃ M, M = C.l.length := ⟨_, rfl⟩
  have HM : Hid (M = C.l.length) := hM
  rw [← hM] at hC0 hCb hCl
  have HC0 : Hid (0 < C.l.length) := by show 0 < _; rw [← hM]; exact hC0
  have hMF : (F : Int) < (M : Int) := by omega
  unfold slA
  simp only [Option.map_none]
  clear hP hB1 hg b0 hW1 hW0 hcm hcm' f1 f2 f3 hgc hpo hsl hlen hS0 hS1 hS1' ih hC hi x hM fin
  go_enter Try.func53, Try.ntmps53
  go_wp2_with (first
    | (go_at_call 62; rw [hW.out]; refine hPl.mono ?_; rintro e W2 ⟨rfl, hb⟩; obtain ⟨y2, q1, q2, q3, q4, q5⟩ := HR.out W2 hb; have HY2 : Hid (Stage w t W2 S0 (A ++ c :: B)) := y2; clear y2 hb)
    | (go_at_call 53; refine (HIH.out W2 HY2.out).mono ?_; rintro e W3 ⟨rfl, c', y3, e3, e4⟩; obtain ⟨d1, d2, d3, d4, d5, d6⟩ := HSl.out W3 _ y3; have HY3 : Hid (Stage w t W3 S0 (A ++ c' :: B)) := y3; have E3 : Hid (c'.h.p = c.h.p) := e3; have E4 : Hid (abs (n + 1) c' = C) := e4; clear y3 e3 e4))
  clear q1 q2 q3 q4 q5 hPl hW HR
  go_region_with (first
    | (go_at_call 65; refine (lead_kid (Stage.kidAt (Stage.later HY3.out (below_drawn W3 1)) (c := c') (by simp)) E4.out E3.out HC0.out).mono ?_; rintro e W4 ⟨rfl, hb4⟩; have HY4 : Hid (Stage w t W4 S0 (A ++ c' :: B)) := Stage.later (Stage.later HY3.out (below_drawn W3 1)) hb4; obtain ⟨g1, g2, g3, g4, g5, g6⟩ := HSl.out W4 _ HY4.out; clear hb4))
  all_goals
    refine then_at (W4.setCells g (i * 3) [.string (ek (n + 1) C), .string ⟨#[]⟩, .pointer (some ⟨c.h.p, 0, none⟩)]) rfl ?_
    have HY5 : Hid (Stage w t (W4.setCells g (i * 3) [.string (ek (n + 1) C), .string ⟨#[]⟩, .pointer (some ⟨c.h.p, 0, none⟩)]) S1 (A ++ c' :: B)) := HSt.out W4 c' HY4.out
    obtain ⟨a5, cap5, l5⟩ := kid_len (Stage.kidAt HY5.out (c := c') (by simp)) E4.out
    rw [E3.out, ← HM.out] at l5
    generalize W4.setCells g (i * 3) [.string (ek (n + 1) C), .string ⟨#[]⟩, .pointer (some ⟨c.h.p, 0, none⟩)] = W5 at *
    clear g1 g2 g3 g4 g5 g6 d1 d2 d3 d4 d5 d6 HY4 HY3 HSt HIH HSl HY2
    have s5 := HS1.out W5 _ HY5.out
    go_wp2
    clear l5
    go_region_with (first
      | (go_at_call 69; refine (part_kid (Stage.later HY5.out (below_drawn W5 1)) E4.out E3.out HP2.out.1 HP2.out.2.1).mono ?_; rintro e W6 ⟨c1, cr, rfl, y6, e6, e7, e8⟩; have s6 := HS1.out W6 _ y6; have HY6 : Hid (Stage w t W6 S1 (A ++ c1 :: cr :: B)) := y6; have E6 : Hid (c1.h.p = c.h.p) := e6; have E7 : Hid (abs (n + 1) c1 = halfL C) := e7; have E8 : Hid (abs (n + 1) cr = halfR C) := e8; clear y6 e6 e7 e8)
      | (go_at_call 65; refine (lead_kid (Stage.kidAt HY6.out (c := cr) (by simp)) E8.out rfl HP2.out.2.2).mono ?_; rintro e W7 ⟨rfl, hb7⟩; have HY7 : Hid (Stage w t W7 S1 (A ++ c1 :: cr :: B)) := Stage.later HY6.out hb7; have s7 := HS1.out W7 _ HY7.out; have o7 := fun o => Lib.cell?_alloc_some (W := W7) o s7; clear hb7)
      | (go_at_call 68; refine (HCa.out W7 _ cr.h.p HY7.out _ rfl).mono ?_; rintro e W8 ⟨a8, m8, cap8, rfl, q8, r1, r2⟩; have HQ8 : Hid (Inserted (W7.alloc _) _ _ _ _) := q8; clear q8))
    all_goals go_wp2
    all_goals go_end0
    all_goals
      obtain ⟨h', hT⟩ := (HIn.out W7 _ cr.h.p HY7.out).fin _ _ _ (below_new W7 _) HQ8.out
      exact ⟨rfl, HF.out W7 c1 cr h' _ HY7.out E6.out E7.out E8.out hT⟩
end Go.Proofs.Ytlfgeanafidopaa.Bt
