/-
  The walks of put in a node that is no leaf.
-/
import Derived.Test.YtlfgeanafidopaaQG
namespace Go.Proofs.Ytlfgeanafidopaa.Bt
open Go.RowKit
set_option maxRecDepth 10000

/-- What put asks of itself one level below. -/
def Below1 (F : Nat) (k v : K) (n : Nat) : Prop := ∀ (c : En (n + 1)) (w : World), Lies w (n + 1) c → (foot (n + 1) c).Nodup → Good F n (abs (n + 1) c) → c.l.length ≤ F → (0 < n → 0 < c.l.length) →
  Calls Try.prog 53 #[.pointer (some ⟨c.h.p, 0, none⟩), slA ⟨k, v, none⟩, .int .i64 (F : Nat)] w fun e w' => e = .returned (.tuple #[]) ∧ ∃ c', Went w c c' w' ∧ abs (n + 1) c' = put F k v n (abs (n + 1) c)
theorem placed {n : Nat} {F : Nat} (hF : 4 ≤ F) {k : K} {w : World} {t : En (n + 2)} {i g N cap : Nat} {A B : List (En (n + 1))} {c : En (n + 1)} (x : Ctx w t i g N cap A B c) (hg : Good F (n + 1) (abs (n + 2) t)) (hi : place k (abs (n + 2) t).l = i) {W1 : World} {sl : List Sl} {ks : List (En (n + 1))} (hs : sl = t.l.map (slE (n + 1))) (hP : Stage w t W1 sl ks) :
    Calls Try.prog 62 #[.pointer (some ⟨t.h.p, 0, none⟩), .string k] W1 fun e w' => e = .returned (.int .i64 (i : Nat)) ∧ Below W1.heap.size W1 w' := by
  have hks := keys_srt _ (hg.hd hF) hg.srt
  subst hs
  have hPl := place_any (Hd.mk t.h.p t.h.v true) (n + 1) _ k W1 hP.at_ (by rw [keysE]; exact hks) (by rw [List.length_map, ← x.hN]; have := x.le; omega)
  rw [keysE, show ub k ((t.l.map (abs (n + 1))).map (ek (n + 1))) - 1 = i from hi] at hPl
  exact hPl
theorem ek_halfL {n : Nat} (C : El (n + 1)) (h : 2 ≤ C.l.length) : ek (n + 1) (halfL C) = ek (n + 1) C := by
  have e : ∀ T : El (n + 1), ek (n + 1) T = match T.l with | [] => ⟨#[]⟩ | e :: _ => ek n e := fun _ => rfl
  rw [e, e]
  show (match (C.l.take (C.l.length / 2)) with | [] => _ | e :: _ => ek n e) = _
  cases hl : C.l with
  | nil => rw [hl] at h; simp at h
  | cons a r =>
    rw [hl] at h
    obtain ⟨m, hm⟩ : ∃ m, (a :: r).length / 2 = m + 1 := ⟨(a :: r).length / 2 - 1, by omega⟩
    rw [hm, List.take_succ_cons]
theorem then_at {K : Act → World → Prop} {Q : Exit → Act → World → Prop} {a : Act} {W : World} (X : World) (h : W = X) (g : Exit.then K Q .normal a X) : Exit.then K Q .normal a W := h ▸ g
theorem Par.fstN {m : Nat} {w : World} {F0 : List Nat} {W : World} {h : Hd} {lv : Nat} {sl : List Sl} {A B : List (En m)} {c : En m} (x : Par w F0 W h lv sl (A ++ c :: B)) : (foot m c).Nodup := by
  have := x.nd
  rw [footL_append, footL_cons] at this
  exact (List.nodup_append.1 (List.nodup_append.1 (List.nodup_append.1 this).2.1).2.1).1
set_option maxHeartbeats 8000000 in
theorem put_keep {n : Nat} (F : Nat) (hF : 4 ≤ F) (hF2 : F ≤ 64) (k v : K) (ih : Below1 F k v n) (w : World) (t : En (n + 2)) (i g N cap : Nat) (A B : List (En (n + 1))) (c : En (n + 1)) (x : Ctx w t i g N cap A B c)
    (hg : Good F (n + 1) (abs (n + 2) t)) (hi : place k (abs (n + 2) t).l = i) (C : El (n + 1)) (hC : put F k v n (abs (n + 1) c) = C) (hCl : C.l.length ≤ F) :
    Calls Try.prog 53 #[.pointer (some ⟨t.h.p, 0, none⟩), slA ⟨k, v, none⟩, .int .i64 (F : Nat)] w fun e w' => e = .returned (.tuple #[]) ∧ ∃ t', Went w t t' w' ∧ abs (n + 2) t' = .nd true (putIn F i (abs (n + 2) t).l C) := by
  have hcm : c ∈ t.l := by rw [x.e]; simp
  have hcm' : abs (n + 1) c ∈ (abs (n + 2) t).l := by rw [abs_l]; exact List.mem_map_of_mem hcm
  obtain ⟨f1, f2, f3⟩ := hg.kids _ hcm'
  rw [abs_l, List.length_map] at f1 f2
  have hgc := hg.kid hcm'
  have hpo := put_ok hF k v n (abs (n + 1) c) hgc (by rw [abs_l, List.length_map]; exact f2) (fun _ => by rw [abs_l, List.length_map]; omega)
  rw [hC] at hpo
  have hC0 : 0 < C.l.length := hpo.2.2.2.2
  have hCb : C.l.length ≤ F + 1 := by have := hpo.2.2.2.1; rw [abs_l, List.length_map] at this; omega
  obtain ⟨S0, hS0⟩ : ∃ S0, S0 = t.l.map (slE (n + 1)) := ⟨_, rfl⟩
  obtain ⟨W0, hW0⟩ : ∃ W0, W0 = w.alloc (.cells #[.string k, .string v, .pointer none] 77) := ⟨_, rfl⟩
  have b0 : Below w.heap.size w W0 := by rw [hW0]; exact below_new w _
  obtain ⟨W1, hW1⟩ : ∃ W1, W1 = W0.setCell ⟨t.h.p, 2, none⟩ (.bool true) := ⟨_, rfl⟩
  have hP : Stage w t W1 S0 (A ++ c :: B) := by rw [← x.e, hS0]; exact marked x.lies x.nd b0 W1 hW1
  have hpw : t.h.p < w.heap.size := x.lies.1.row.lt
  have hB1 : Whole W1 w.heap.size [.string k, .string v, .pointer none] 77 := (by rw [hW0]; exact Whole.new w _ _ : Whole W0 w.heap.size [.string k, .string v, .pointer none] 77).same (by rw [hW1]; exact Below.heap_setCell _ _ _ _ (by show w.heap.size ≠ t.h.p; omega))
  have hPl := placed hF x hg hi hS0 hP
  have hsl : S0[i]? = some (slE (n + 1) c) := by rw [hS0, List.getElem?_map, x.at_i]; rfl
  have hlen : S0.length = N := by rw [hS0, List.length_map, x.hN]
  obtain ⟨S1, hS1⟩ : ∃ S1, S1 = S0.set i ⟨ek (n + 1) C, ⟨#[]⟩, some c.h.p⟩ := ⟨_, rfl⟩
  have HX : Hid (Ctx w t i g N cap A B c) := x
  have HL0 : Hid (S0.length = N) := hlen
  have HR : Hid (∀ W, Below W1.heap.size W1 W → Stage w t W S0 (A ++ c :: B) ∧ W.cell? ⟨t.h.p, 1, none⟩ = some (.slice (some ⟨g, 0, none⟩) N cap) ∧ W.cell? ⟨g, i * 3 + 2, none⟩ = some (.pointer (some ⟨c.h.p, 0, none⟩)) ∧ W.cell? ⟨w.heap.size, 0, none⟩ = some (.string k) ∧ W.cell? ⟨w.heap.size, 1, none⟩ = some (.string v) ∧ W.cell? ⟨w.heap.size, 2, none⟩ = some (.pointer none)) := fun W hb => by
    have y := hP.later hb
    obtain ⟨q1, _, _, q4, _⟩ := x.slots y hsl hlen
    exact ⟨y, q1, q4, (hB1.later hb).row.cell (i := 0) rfl, (hB1.later hb).row.cell (i := 1) rfl, (hB1.later hb).row.cell (i := 2) rfl⟩
  have HSl : Hid (∀ W ks, Stage w t W S0 ks → W.cell? ⟨t.h.p, 1, none⟩ = some (.slice (some ⟨g, 0, none⟩) N cap) ∧ W.cell? ⟨g, i * 3, none⟩ = some (.string (slE (n + 1) c).k) ∧ W.cell? ⟨g, i * 3 + 1, none⟩ = some (.string (slE (n + 1) c).v) ∧ W.cell? ⟨g, i * 3 + 2, none⟩ = some (.pointer ((slE (n + 1) c).kid.map fun b => ⟨b, 0, none⟩)) ∧ (∀ j, W.frozen? ⟨g, j, none⟩ = false) ∧ t.h.p ≠ g) := fun W ks y => x.slots y hsl hlen
  have HIH : Hid (∀ W2, Stage w t W2 S0 (A ++ c :: B) → Calls Try.prog 53 #[.pointer (some ⟨c.h.p, 0, none⟩), .agg #[.string k, .string v, .pointer none], .int .i64 (F : Nat)] W2 fun e W3 => e = .returned (.tuple #[]) ∧ ∃ c', Stage w t W3 S0 (A ++ c' :: B) ∧ c'.h.p = c.h.p ∧ abs (n + 1) c' = C) := fun W2 y => by
    refine (ih c W2 (y.lies c (by simp)) (Par.fstN y) hgc f2 (fun _ => by omega)).mono ?_
    rintro e W3 ⟨rfl, c', g3, e3⟩
    exact ⟨rfl, c', Par.kid y g3, g3.p, e3.trans hC⟩
  have HSt : Hid (∀ W c', Stage w t W S0 (A ++ c' :: B) → Stage w t (W.setCells g (i * 3) [.string (ek (n + 1) C), .string ⟨#[]⟩, .pointer (some ⟨c.h.p, 0, none⟩)]) S1 (A ++ c' :: B)) := fun W c' y => by
    rw [hS1]
    exact x.store y hlen i x.lt ⟨ek (n + 1) C, ⟨#[]⟩, some c.h.p⟩
  have hS1' : ∀ c' : En (n + 1), abs (n + 1) c' = C → c'.h.p = c.h.p → S1 = (A ++ c' :: B).map (slE (n + 1)) := fun c' e1 e2 => by
    have es : slE (n + 1) c' = ⟨ek (n + 1) C, ⟨#[]⟩, some c.h.p⟩ := by show Sl.mk (ek (n + 1) (abs (n + 1) c')) _ (some c'.h.p) = _; rw [e1, e2]
    rw [hS1, hS0, x.e, set_mid _ _ _ _ _ x.hi, List.map_append, List.map_cons, es]
  have fin : ∀ W c', Stage w t W S1 (A ++ c' :: B) → abs (n + 1) c' = C → c'.h.p = c.h.p → ∃ t', Went w t t' W ∧ abs (n + 2) t' = .nd true (putIn F i (abs (n + 2) t).l C) := fun W c' y e1 e2 => by
    rw [hS1' c' e1 e2] at y
    refine stage_fin y ?_
    unfold putIn
    rw [if_neg (by omega), abs_l, x.e, set_mid _ _ _ _ _ x.hi, List.map_append, List.map_cons, e1]
  have HF : Hid (∀ W c', Stage w t W S1 (A ++ c' :: B) → abs (n + 1) c' = C → c'.h.p = c.h.p → ∃ t', Went w t t' W ∧ abs (n + 2) t' = .nd true (putIn F i (abs (n + 2) t).l C)) := fin
  obtain ⟨u, hu⟩ : ∃ u, w.cell? ⟨t.h.p, 2, none⟩ = some u := ⟨_, x.lies.1.row.cell (i := 2) rfl⟩
  have c0 : w.cell? ⟨t.h.p, 0, none⟩ = some (.int .i64 ((n + 1 : Nat) : Int)) := x.lies.1.row.cell (i := 0) rfl
  have hfz := x.lies.1.row.frozen 2
  have hn1 : ((((n + 1 : Nat) : Int)) == 0) = false := by simp; omega
  have hn2 : ¬ ((n + 1 : Nat) : Int) = 0 := by omega
  generalize ((n + 1 : Nat) : Int) = lv at c0 hn1 hn2
  have hiN : (i : Int) < (N : Int) := by have := x.lt; omega
  have hwi : IntKind.i64.wrap ((i : Int) + 1) = (i : Int) + 1 := by rw [IntKind.wrap_i64]; have := x.lt; have := x.le; omega
  obtain ⟨hNc, hcm2⟩ := x.capN
  have hN100 := x.le
  unfold maxLen at hcm2
  have hW : Hid ((w.setCell ⟨t.h.p, 2, none⟩ (.bool true)).alloc (.cells #[.string k, .string v, .pointer none] 77) = W1) := by show _ = _; rw [hW1, hW0, alloc_setCell _ _ _ _ hpw]
  obtain ⟨M, hM⟩ : ∃ M, M = C.l.length := ⟨_, rfl⟩
  have HM : Hid (M = C.l.length) := hM
  rw [← hM] at hC0 hCb hCl
  have HC0 : Hid (0 < C.l.length) := by show 0 < _; rw [← hM]; exact hC0
  have hMF : (M : Int) ≤ (F : Int) := by omega
  unfold slA
  simp only [Option.map_none]
  clear hP hB1 hg b0 hW1 hW0 hcm hcm' f1 f2 f3 hgc hpo hsl hlen hS0 hS1 hS1' ih hC hi x hM fin
  go_enter Try.func53, Try.ntmps53
  go_wp2_with (first
    | (go_at_call 62; rw [hW.out]; refine hPl.mono ?_; rintro e W2 ⟨rfl, hb⟩; obtain ⟨y2, q1, q2, q3, q4, q5⟩ := HR.out W2 hb; have HY2 : Hid (Stage w t W2 S0 (A ++ c :: B)) := y2; clear y2 hb)
    | (go_at_call 53; refine (HIH.out W2 HY2.out).mono ?_; rintro e W3 ⟨rfl, c', y3, e3, e4⟩; obtain ⟨d1, d2, d3, d4, d5, d6⟩ := HSl.out W3 _ y3; have HY3 : Hid (Stage w t W3 S0 (A ++ c' :: B)) := y3; have E3 : Hid (c'.h.p = c.h.p) := e3; have E4 : Hid (abs (n + 1) c' = C) := e4; clear y3 e3 e4))
  clear q1 q2 q3 q4 q5 hPl hW HR
  go_region_with (first
    | (go_at_call 65; refine (lead_kid (Stage.kidAt (Stage.later HY3.out (below_drawn W3 1)) (c := c') (by simp)) E4.out E3.out HC0.out).mono ?_; rintro e W4 ⟨rfl, hb4⟩; have HY4 : Hid (Stage w t W4 S0 (A ++ c' :: B)) := Stage.later (Stage.later HY3.out (below_drawn W3 1)) hb4; obtain ⟨g1, g2, g3, g4, g5, g6⟩ := HSl.out W4 _ HY4.out; clear hb4))
  all_goals
    refine then_at (W4.setCells g (i * 3) [.string (ek (n + 1) C), .string ⟨#[]⟩, .pointer (some ⟨c.h.p, 0, none⟩)]) rfl ?_
    have HY5 : Hid (Stage w t (W4.setCells g (i * 3) [.string (ek (n + 1) C), .string ⟨#[]⟩, .pointer (some ⟨c.h.p, 0, none⟩)]) S1 (A ++ c' :: B)) := HSt.out W4 c' HY4.out
    obtain ⟨a5, cap5, l5⟩ := kid_len (Stage.kidAt HY5.out (c := c') (by simp)) E4.out
    rw [E3.out, ← HM.out] at l5
    generalize W4.setCells g (i * 3) [.string (ek (n + 1) C), .string ⟨#[]⟩, .pointer (some ⟨c.h.p, 0, none⟩)] = W5 at *
    clear g1 g2 g3 g4 g5 g6 d1 d2 d3 d4 d5 d6
    go_wp2
    go_end0
    exact ⟨rfl, HF.out _ c' HY5.out E4.out E3.out⟩
end Go.Proofs.Ytlfgeanafidopaa.Bt
