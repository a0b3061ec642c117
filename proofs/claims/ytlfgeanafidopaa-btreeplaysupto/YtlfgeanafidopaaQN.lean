/-
  The walks of remove in a node that is no leaf.
-/
import Derived.Test.YtlfgeanafidopaaQM
namespace Go.Proofs.Ytlfgeanafidopaa.Bt
open Go.RowKit
set_option maxRecDepth 10000

/-- What remove asks of itself one level below. -/
def Below2 (F : Nat) (k : K) (n : Nat) : Prop := ∀ (c : En (n + 1)) (w : World), Lies w (n + 1) c → (foot (n + 1) c).Nodup → Good F n (abs (n + 1) c) → c.l.length ≤ F → (0 < n → 2 ≤ c.l.length) → k ∈ (flats (abs (n + 1) c).l).map Prod.fst →
  Calls Try.prog 49 #[.pointer (some ⟨c.h.p, 0, none⟩), .string k, .int .i64 (F : Nat)] w fun e w' => e = .returned (.tuple #[]) ∧ ∃ c', Went w c c' w' ∧ abs (n + 1) c' = remove F k n (abs (n + 1) c)
theorem join_any {n : Nat} (F : Nat) (hF2 : F ≤ 64) {w : World} {F0 : List Nat} {W : World} {h : Hd} {A B : List (En (n + 1))} {a b : En (n + 1)} (x : Par w F0 W h (n + 1) ((A ++ a :: b :: B).map (slE (n + 1))) (A ++ a :: b :: B)) (i : Nat) (hi : i = A.length) (hla : 0 < a.l.length) (hlb : 0 < b.l.length) (hla2 : a.l.length ≤ 100) (hlb2 : b.l.length ≤ 100) (hN2 : (A ++ a :: b :: B).length ≤ 100) :
    Calls Try.prog 66 #[.pointer (some ⟨h.p, 0, none⟩), .int .i64 (i : Nat), .int .i64 (F : Nat)] W fun e W' => e = .returned (.tuple #[]) ∧ ∃ h' ks', Par w F0 W' h' (n + 1) (ks'.map (slE (n + 1))) ks' ∧ h'.p = h.p ∧ h'.d = h.d ∧ ks'.map (abs (n + 1)) = joined F i ((A ++ a :: b :: B).map (abs (n + 1))) := by
  by_cases hm : a.l.length + b.l.length ≤ F
  · exact join_small F hF2 x i hi hla hlb hla2 hlb2 hN2 hm
  · exact join_big F hF2 x i hi hla hlb hla2 hlb2 hN2 (by omega)
set_option maxHeartbeats 8000000 in
theorem remove_keep {n : Nat} (F : Nat) (hF : 4 ≤ F) (hF2 : F ≤ 64) (k : K) (ih : Below2 F k n) (w : World) (t : En (n + 2)) (i g N cap : Nat) (A B : List (En (n + 1))) (c : En (n + 1)) (x : Ctx w t i g N cap A B c)
    (hg : Good F (n + 1) (abs (n + 2) t)) (hi : place k (abs (n + 2) t).l = i) (hkc : k ∈ (flats (abs (n + 1) c).l).map Prod.fst) (C : El (n + 1)) (hC : remove F k n (abs (n + 1) c) = C) (hCl : F / 2 ≤ C.l.length) :
    Calls Try.prog 49 #[.pointer (some ⟨t.h.p, 0, none⟩), .string k, .int .i64 (F : Nat)] w fun e w' => e = .returned (.tuple #[]) ∧ ∃ t', Went w t t' w' ∧ abs (n + 2) t' = .nd true (takeIn F i (abs (n + 2) t).l C) := by
  have hcm : c ∈ t.l := by rw [x.e]; simp
  have hcm' : abs (n + 1) c ∈ (abs (n + 2) t).l := by rw [abs_l]; exact List.mem_map_of_mem hcm
  obtain ⟨f1, f2, f3⟩ := hg.kids _ hcm'
  rw [abs_l, List.length_map] at f1 f2
  have hgc := hg.kid hcm'
  have hpo := remove_ok hF k n (abs (n + 1) c) hgc (by rw [abs_l, List.length_map]; exact f2) (fun _ => by rw [abs_l, List.length_map]; omega) hkc
  rw [hC] at hpo
  have hC0 : 0 < C.l.length := by have := hpo.2.2.1; rw [abs_l, List.length_map] at this; omega
  have hCb : C.l.length ≤ F := by have := hpo.2.2.2; rw [abs_l, List.length_map] at this; omega
  obtain ⟨S0, hS0⟩ : ∃ S0, S0 = t.l.map (slE (n + 1)) := ⟨_, rfl⟩
  obtain ⟨W1, hW1⟩ : ∃ W1, W1 = w.setCell ⟨t.h.p, 2, none⟩ (.bool true) := ⟨_, rfl⟩
  have hP : Stage w t W1 S0 (A ++ c :: B) := by rw [← x.e, hS0]; exact marked x.lies x.nd (Below.refl _ _) W1 hW1
  have hPl := placed hF x hg hi hS0 hP
  have hsl : S0[i]? = some (slE (n + 1) c) := by rw [hS0, List.getElem?_map, x.at_i]; rfl
  have hlen : S0.length = N := by rw [hS0, List.length_map, x.hN]
  obtain ⟨S1, hS1⟩ : ∃ S1, S1 = S0.set i ⟨ek (n + 1) C, ⟨#[]⟩, some c.h.p⟩ := ⟨_, rfl⟩
  have HR : Hid (∀ W, Below W1.heap.size W1 W → Stage w t W S0 (A ++ c :: B) ∧ W.cell? ⟨t.h.p, 1, none⟩ = some (.slice (some ⟨g, 0, none⟩) N cap) ∧ W.cell? ⟨g, i * 3 + 2, none⟩ = some (.pointer (some ⟨c.h.p, 0, none⟩))) := fun W hb => by
    have y := hP.later hb
    obtain ⟨q1, _, _, q4, _⟩ := x.slots y hsl hlen
    exact ⟨y, q1, q4⟩
  have HSl : Hid (∀ W ks, Stage w t W S0 ks → W.cell? ⟨t.h.p, 1, none⟩ = some (.slice (some ⟨g, 0, none⟩) N cap) ∧ W.cell? ⟨g, i * 3, none⟩ = some (.string (slE (n + 1) c).k) ∧ W.cell? ⟨g, i * 3 + 1, none⟩ = some (.string (slE (n + 1) c).v) ∧ W.cell? ⟨g, i * 3 + 2, none⟩ = some (.pointer ((slE (n + 1) c).kid.map fun b => ⟨b, 0, none⟩)) ∧ (∀ j, W.frozen? ⟨g, j, none⟩ = false) ∧ t.h.p ≠ g) := fun W ks y => x.slots y hsl hlen
  have HIH : Hid (∀ W2, Stage w t W2 S0 (A ++ c :: B) → Calls Try.prog 49 #[.pointer (some ⟨c.h.p, 0, none⟩), .string k, .int .i64 (F : Nat)] W2 fun e W3 => e = .returned (.tuple #[]) ∧ ∃ c', Stage w t W3 S0 (A ++ c' :: B) ∧ c'.h.p = c.h.p ∧ abs (n + 1) c' = C) := fun W2 y => by
    refine (ih c W2 (y.lies c (by simp)) (Par.fstN y) hgc f2 (fun _ => by omega) hkc).mono ?_
    rintro e W3 ⟨rfl, c', g3, e3⟩
    exact ⟨rfl, c', Par.kid y g3, g3.p, e3.trans hC⟩
  have HSt : Hid (∀ W c', Stage w t W S0 (A ++ c' :: B) → Stage w t (W.setCells g (i * 3) [.string (ek (n + 1) C), .string ⟨#[]⟩, .pointer (some ⟨c.h.p, 0, none⟩)]) S1 (A ++ c' :: B)) := fun W c' y => by
    rw [hS1]
    exact x.store y hlen i x.lt ⟨ek (n + 1) C, ⟨#[]⟩, some c.h.p⟩
  have hS1' : ∀ c' : En (n + 1), abs (n + 1) c' = C → c'.h.p = c.h.p → S1 = (A ++ c' :: B).map (slE (n + 1)) := fun c' e1 e2 => by
    have es : slE (n + 1) c' = ⟨ek (n + 1) C, ⟨#[]⟩, some c.h.p⟩ := by show Sl.mk (ek (n + 1) (abs (n + 1) c')) _ (some c'.h.p) = _; rw [e1, e2]
    rw [hS1, hS0, x.e, set_mid _ _ _ _ _ x.hi, List.map_append, List.map_cons, es]
  have hset : ∀ c' : En (n + 1), abs (n + 1) c' = C → (A ++ c' :: B).map (abs (n + 1)) = (abs (n + 2) t).l.set i C := fun c' e1 => by
    rw [abs_l, x.e, set_mid _ _ _ _ _ x.hi, List.map_append, List.map_cons, e1]
  have fin : ∀ W c', Stage w t W S1 (A ++ c' :: B) → abs (n + 1) c' = C → c'.h.p = c.h.p → ∃ t', Went w t t' W ∧ abs (n + 2) t' = .nd true (takeIn F i (abs (n + 2) t).l C) := fun W c' y e1 e2 => by
    rw [hS1' c' e1 e2] at y
    refine stage_fin y ?_
    unfold takeIn
    rw [if_neg (by omega), hset c' e1]
  have HF : Hid (∀ W c', Stage w t W S1 (A ++ c' :: B) → abs (n + 1) c' = C → c'.h.p = c.h.p → ∃ t', Went w t t' W ∧ abs (n + 2) t' = .nd true (takeIn F i (abs (n + 2) t).l C)) := fin
  obtain ⟨u, hu⟩ : ∃ u, w.cell? ⟨t.h.p, 2, none⟩ = some u := ⟨_, x.lies.1.row.cell (i := 2) rfl⟩
  have c0 : w.cell? ⟨t.h.p, 0, none⟩ = some (.int .i64 ((n + 1 : Nat) : Int)) := x.lies.1.row.cell (i := 0) rfl
  have hfz := x.lies.1.row.frozen 2
  have hn1 : ((((n + 1 : Nat) : Int)) == 0) = false := by simp; omega
  have hn2 : ¬ ((n + 1 : Nat) : Int) = 0 := by omega
  generalize ((n + 1 : Nat) : Int) = lv at c0 hn1 hn2
  have hiN : (i : Int) < (N : Int) := by have := x.lt; omega
  obtain ⟨hNc, hcm2⟩ := x.capN
  have hN100 := x.le
  unfold maxLen at hcm2
  have hW : Hid (W1 = w.setCell ⟨t.h.p, 2, none⟩ (.bool true)) := hW1
  obtain ⟨M, hM⟩ : ∃ M, M = C.l.length := ⟨_, rfl⟩
  have HM : Hid (M = C.l.length) := hM
  rw [← hM] at hC0 hCb hCl
  have HC0 : Hid (0 < C.l.length) := by show 0 < _; rw [← hM]; exact hC0
  have hMF : (F : Int) / 2 ≤ (M : Int) := by omega
  have hF0 : (0 : Int) ≤ (F : Int) := by omega
  have hF64 : (F : Int) ≤ 64 := by omega

  clear hP hg hW1 hcm hcm' f1 f2 f3 hgc hpo hsl hlen hS0 hS1 hS1' ih hC hi x hM fin hset hkc
  go_enter Try.func49, Try.ntmps49
  go_wp2_with (first
    | (go_at_call 62; rw [← hW.out]; refine hPl.mono ?_; rintro e W2 ⟨rfl, hb⟩; obtain ⟨y2, q1, q2⟩ := HR.out W2 hb; have HY2 : Hid (Stage w t W2 S0 (A ++ c :: B)) := y2; clear y2 hb)
    | (go_at_call 49; refine (HIH.out W2 HY2.out).mono ?_; rintro e W3 ⟨rfl, c', y3, e3, e4⟩; obtain ⟨d1, d2, d3, d4, d5, d6⟩ := HSl.out W3 _ y3; have HY3 : Hid (Stage w t W3 S0 (A ++ c' :: B)) := y3; have E3 : Hid (c'.h.p = c.h.p) := e3; have E4 : Hid (abs (n + 1) c' = C) := e4; clear y3 e3 e4))
  clear q1 q2 hPl hW HR
  go_region_with (first
    | (go_at_call 65; refine (lead_kid (Stage.kidAt (Stage.later HY3.out (below_drawn W3 1)) (c := c') (by simp)) E4.out E3.out HC0.out).mono ?_; rintro e W4 ⟨rfl, hb4⟩; have HY4 : Hid (Stage w t W4 S0 (A ++ c' :: B)) := Stage.later (Stage.later HY3.out (below_drawn W3 1)) hb4; obtain ⟨g1, g2, g3, g4, g5, g6⟩ := HSl.out W4 _ HY4.out; clear hb4))
  all_goals
    refine then_at (W4.setCells g (i * 3) [.string (ek (n + 1) C), .string ⟨#[]⟩, .pointer (some ⟨c.h.p, 0, none⟩)]) rfl ?_
    have HY5 : Hid (Stage w t (W4.setCells g (i * 3) [.string (ek (n + 1) C), .string ⟨#[]⟩, .pointer (some ⟨c.h.p, 0, none⟩)]) S1 (A ++ c' :: B)) := HSt.out W4 c' HY4.out
    obtain ⟨a5, cap5, l5⟩ := kid_len (Stage.kidAt HY5.out (c := c') (by simp)) E4.out
    rw [E3.out, ← HM.out] at l5
    generalize W4.setCells g (i * 3) [.string (ek (n + 1) C), .string ⟨#[]⟩, .pointer (some ⟨c.h.p, 0, none⟩)] = W5 at *
    clear g1 g2 g3 g4 g5 g6 d1 d2 d3 d4 d5 d6
    go_wp2
    go_end0
    exact ⟨rfl, HF.out _ c' HY5.out E4.out E3.out⟩
end Go.Proofs.Ytlfgeanafidopaa.Bt
