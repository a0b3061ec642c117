/-
  The walk of join, where two kids share.
-/
import Derived.Test.YtlfgeanafidopaaQL
import Derived.Deep.RegionLaw
import Derived.Deep.RegionWith
namespace Go.Proofs.Ytlfgeanafidopaa.Bt
open Go.RowKit
set_option maxRecDepth 10000

set_option maxHeartbeats 8000000 in
theorem join_big {n : Nat} (F : Nat) (hF2 : F ≤ 64) {w : World} {F0 : List Nat} {W : World} {h : Hd} {A B : List (En (n + 1))} {a b : En (n + 1)} (x : Par w F0 W h (n + 1) ((A ++ a :: b :: B).map (slE (n + 1))) (A ++ a :: b :: B)) (i : Nat) (hi : i = A.length) (hla : 0 < a.l.length) (hlb : 0 < b.l.length) (hla2 : a.l.length ≤ 100) (hlb2 : b.l.length ≤ 100) (hN2 : (A ++ a :: b :: B).length ≤ 100) (hm : F < a.l.length + b.l.length) :
    Calls Try.prog 66 #[.pointer (some ⟨h.p, 0, none⟩), .int .i64 (i : Nat), .int .i64 (F : Nat)] W fun e W' => e = .returned (.tuple #[]) ∧ ∃ h' ks', Par w F0 W' h' (n + 1) (ks'.map (slE (n + 1))) ks' ∧ h'.p = h.p ∧ h'.d = h.d ∧ ks'.map (abs (n + 1)) = joined F i ((A ++ a :: b :: B).map (abs (n + 1))) := by
  obtain ⟨S, hS⟩ : ∃ S, S = (A ++ a :: b :: B).map (slE (n + 1)) := ⟨_, rfl⟩
  obtain ⟨N, hN⟩ : ∃ N, N = (A ++ a :: b :: B).length := ⟨_, rfl⟩
  have hSl : S.length = N := by rw [hS, List.length_map, hN]
  have hiN : i + 1 < N := by rw [hN, hi]; simp
  rw [← hS] at x
  rcases x.at_.own.form with ⟨_, e⟩ | ⟨g, cap, cs, hv, _, _, c1, c2, _⟩
  · rw [e] at hSl; simp at hSl; omega
  rw [hSl] at hv c1
  have s1 : S[i]? = some (slE (n + 1) a) := by rw [hS, List.getElem?_map, hi, (at_mid A a b B).1]; rfl
  have s2 : S[i + 1]? = some (slE (n + 1) b) := by rw [hS, List.getElem?_map, hi, (at_mid A a b B).2]; rfl
  obtain ⟨p1, _, _, p2, _, _⟩ := x.slotsAt hv s1
  obtain ⟨_, _, _, p3, _, _⟩ := x.slotsAt hv s2
  have hal := x.lies a (by simp)
  have hbl := x.lies b (by simp)
  obtain ⟨sa, hsa⟩ : ∃ sa, (a.l.map (slE n))[0]? = some sa := ⟨_, List.getElem?_eq_getElem (by rw [List.length_map]; exact hla)⟩
  obtain ⟨sb, hsb⟩ : ∃ sb, (b.l.map (slE n))[0]? = some sb := ⟨_, List.getElem?_eq_getElem (by rw [List.length_map]; exact hlb)⟩
  obtain ⟨ga, capa, hva, _⟩ := hal.1.own.at hsa
  obtain ⟨gb, capb, hvb, _⟩ := hbl.1.own.at hsb
  rw [List.length_map] at hva hvb
  obtain ⟨la, hla'⟩ : ∃ la, la = a.l.length := ⟨_, rfl⟩
  obtain ⟨lb', hlb'⟩ : ∃ lb', lb' = b.l.length := ⟨_, rfl⟩
  rw [← hla'] at hva hla hla2 hm
  rw [← hlb'] at hvb hlb hlb2 hm
  have HMk : Hid (∀ X, Below W.heap.size W X → Par w F0 (X.setCell ⟨a.h.p, 2, none⟩ (.bool true)) h (n + 1) S (A ++ En.nd (Hd.mk a.h.p a.h.v true) a.l :: b :: B)) := fun X hb => Par.markKid (x.later hb) _ rfl
  have HRd : Hid (∀ X, Par w F0 X h (n + 1) S (A ++ En.nd (Hd.mk a.h.p a.h.v true) a.l :: b :: B) → X.cell? ⟨a.h.p, 1, none⟩ = some (.slice (some ⟨ga, 0, none⟩) la capa) ∧ X.frozen? ⟨a.h.p, 1, none⟩ = false ∧ X.cell? ⟨b.h.p, 1, none⟩ = some (.slice (some ⟨gb, 0, none⟩) lb' capb) ∧ X.ownsRow 0 77 3 (.slice (some ⟨ga, 0, none⟩) la capa) la ((a.l.map (slE n)).flatMap slv) ∧ (∀ j u, ((b.l.map (slE n)).flatMap slv)[j]? = some u → X.cell? ((⟨gb, 0, none⟩ : Addr).add j) = some u) ∧ (∀ w1, X.grownBy w1 (some ga) → w1.cell? ⟨a.h.p, 1, none⟩ = some (.slice (some ⟨ga, 0, none⟩) la capa) ∧ w1.frozen? ⟨a.h.p, 1, none⟩ = false)) := fun X y => by
    have ya : At X (Hd.mk a.h.p a.h.v true) n (a.l.map (slE n)) := (y.lies (En.nd (Hd.mk a.h.p a.h.v true) a.l) (by simp)).1
    have yb := (y.lies b (by simp)).1
    refine ⟨by rw [← hva]; exact ya.row.cell (i := 1) rfl, ya.row.frozen 1, by rw [← hvb]; exact yb.row.cell (i := 1) rfl, ?_, fun j u hj => ?_, fun w1 hg => ?_⟩
    · have := ya.own
      unfold Slots at this
      rw [List.length_map, ← hla'] at this
      rw [← hva]; exact this
    · rcases yb.own.form with ⟨e, _⟩ | ⟨g', cap', cs, hv', _, hw, _, _, _, c4⟩
      · rw [hvb] at e; cases e
      · have e : g' = gb := by rw [hvb] at hv'; injection hv' with e1; injection e1 with e1; injection e1 with e1; exact e1.symm
        subst e
        have hj' := (List.getElem?_eq_some_iff.1 hj).1
        rw [flat_len slv 3 slv_len] at hj'
        rw [Addr.add_lit, Nat.zero_add]
        refine hw.cell.trans ?_
        rw [← c4, List.getElem?_take, if_pos hj'] at hj
        exact hj
    · have hr := ya.row.same (hg.block a.h.p ya.row.lt (fun e => ya.ne ga (by show a.h.v.ownBlock = _; rw [hva]; rfl) (Option.some.inj e).symm))
      exact ⟨by rw [← hva]; exact hr.cell (i := 1) rfl, hr.frozen 1⟩
  have HAp : Hid (∀ X w1 g3 cap3, Par w F0 X h (n + 1) S (A ++ En.nd (Hd.mk a.h.p a.h.v true) a.l :: b :: B) → w1.ownsRow 0 77 3 (.slice (some ⟨g3, 0, none⟩) (la + lb') cap3) (la + lb') ((a.l.map (slE n)).flatMap slv ++ (b.l.map (slE n)).flatMap slv) → X.grownBy w1 (some ga) → (some ga = some g3 ∨ g3 = X.heap.size) → Par w F0 (w1.setCell ⟨a.h.p, 1, none⟩ (.slice (some ⟨g3, 0, none⟩) (la + lb') cap3)) h (n + 1) S (A ++ En.nd (Hd.mk a.h.p (.slice (some ⟨g3, 0, none⟩) (la + lb') cap3) true) (a.l ++ b.l) :: B)) := fun X w1 g3 cap3 y q1 q2 q3 => by
    have ya : At X (Hd.mk a.h.p a.h.v true) n (a.l.map (slE n)) := (y.lies (En.nd (Hd.mk a.h.p a.h.v true) a.l) (by simp)).1
    have ho : (Hd.mk a.h.p a.h.v true).v.ownBlock = some ga := by show a.h.v.ownBlock = _; rw [hva]; rfl
    have e1 : (a.l.map (slE n)).length = la := by rw [List.length_map, hla']
    have e2 : (b.l.map (slE n)).length = lb' := by rw [List.length_map, hlb']
    have := appFin (l2 := b.l.map (slE n)) ya (g := g3) (cap := cap3) (w1 := w1) (by rw [e1, e2]; exact q1) (by rw [ho]; exact q2) (by rw [ho]; exact q3)
    rw [e1, e2, ← List.map_append] at this
    exact Par.merge (a := En.nd (Hd.mk a.h.p a.h.v true) a.l) y this
  have HL : Hid ((a.l.map (slE n)).flatMap slv ++ (b.l.map (slE n)).flatMap slv = ((a.l ++ b.l).map (slE n)).flatMap slv ∧ ((b.l.map (slE n)).flatMap slv).length = lb' * 3 ∧ (∀ u ∈ (b.l.map (slE n)).flatMap slv, u.oneCell' = true)) := ⟨by rw [List.map_append, List.flatMap_append], by rw [flat_len slv 3 slv_len, List.length_map, hlb'], slv_one _⟩
  obtain ⟨u, hu⟩ : ∃ u, W.cell? ⟨a.h.p, 2, none⟩ = some u := ⟨_, hal.1.row.cell (i := 2) rfl⟩
  have hfz := hal.1.row.frozen 2
  obtain ⟨Cm, hCm⟩ : ∃ Cm : El (n + 1), Cm = .nd true ((a.l ++ b.l).map (abs n)) := ⟨_, rfl⟩
  have hCl : Cm.l.length = la + lb' := by rw [hCm, El.l_nd, List.length_map, List.length_append, ← hla', ← hlb']
  have HSlot : Hid (∀ X (ks : List (En (n + 1))), Par w F0 X h (n + 1) S ks → X.cell? ⟨h.p, 1, none⟩ = some (.slice (some ⟨g, 0, none⟩) N cap)) := fun X ks y => (y.slotsAt hv s2).1
  have HS2 : Hid (∀ X (ks : List (En (n + 1))), Par w F0 X h (n + 1) S ks → X.cell? ⟨h.p, 1, none⟩ = some (.slice (some ⟨g, 0, none⟩) N cap) ∧ X.cell? ⟨g, (i + 1) * 3, none⟩ = some (.string (slE (n + 1) b).k) ∧ X.cell? ⟨g, (i + 1) * 3 + 1, none⟩ = some (.string (slE (n + 1) b).v) ∧ X.cell? ⟨g, (i + 1) * 3 + 2, none⟩ = some (.pointer ((slE (n + 1) b).kid.map fun b => ⟨b, 0, none⟩)) ∧ (∀ j, X.frozen? ⟨g, j, none⟩ = false) ∧ h.p ≠ g) := fun X ks y => y.slotsAt hv s2
  have HPt : Hid (∀ X g3 cap3, Par w F0 X h (n + 1) S (A ++ En.nd (Hd.mk a.h.p (.slice (some ⟨g3, 0, none⟩) (la + lb') cap3) true) (a.l ++ b.l) :: B) → Calls Try.prog 69 #[.pointer (some ⟨a.h.p, 0, none⟩)] X fun e w' => ∃ c1 cr : En (n + 1), e = .returned (.pointer (some ⟨cr.h.p, 0, none⟩)) ∧ Par w F0 w' h (n + 1) S (A ++ c1 :: cr :: B) ∧ c1.h.p = a.h.p ∧ abs (n + 1) c1 = halfL Cm ∧ abs (n + 1) cr = halfR Cm) := fun X g3 cap3 y => part_kidP y (C := Cm) (by rw [hCm]; rfl) rfl (by omega) (by omega)
  have HR0 : Hid (0 < (halfR Cm).l.length) := by show 0 < (El.nd true (Cm.l.drop (Cm.l.length / 2))).l.length; rw [El.l_nd, List.length_drop]; omega
  have fin : ∀ X (c1 cr : En (n + 1)), Par w F0 X h (n + 1) S (A ++ c1 :: cr :: B) → c1.h.p = a.h.p → abs (n + 1) c1 = halfL Cm → abs (n + 1) cr = halfR Cm → ∃ h' ks', Par w F0 (X.setCells g ((i + 1) * 3) [.string (ek (n + 1) (halfR Cm)), .string ⟨#[]⟩, .pointer (some ⟨cr.h.p, 0, none⟩)]) h' (n + 1) (ks'.map (slE (n + 1))) ks' ∧ h'.p = h.p ∧ h'.d = h.d ∧ ks'.map (abs (n + 1)) = joined F i ((A ++ a :: b :: B).map (abs (n + 1))) := fun X c1 cr y e1 e2 e3 => by
    have z := y.setSlot hv (i + 1) (by rw [hSl]; omega) ⟨ek (n + 1) (halfR Cm), ⟨#[]⟩, some cr.h.p⟩
    have ekA : ek (n + 1) Cm = ek (n + 1) (abs (n + 1) a) := by
      have := congrArg Sl.k (slE_app a b (Hd.mk a.h.p a.h.v true) (by rw [← hla']; exact hla) rfl)
      rw [slE_k, slE_k] at this
      rw [hCm]; exact this
    have q1 : slE (n + 1) c1 = slE (n + 1) a := by
      show Sl.mk (ek (n + 1) (abs (n + 1) c1)) _ (some c1.h.p) = Sl.mk (ek (n + 1) (abs (n + 1) a)) _ (some a.h.p)
      rw [e1, e2, ek_halfL Cm (by omega), ekA]
    have q2 : slE (n + 1) cr = ⟨ek (n + 1) (halfR Cm), ⟨#[]⟩, some cr.h.p⟩ := by show Sl.mk (ek (n + 1) (abs (n + 1) cr)) _ (some cr.h.p) = _; rw [e3]
    have eS : S.set (i + 1) ⟨ek (n + 1) (halfR Cm), ⟨#[]⟩, some cr.h.p⟩ = (A ++ c1 :: cr :: B).map (slE (n + 1)) := by
      rw [hS, show A ++ a :: b :: B = (A ++ [a]) ++ b :: B by simp, set_mid _ _ _ _ _ (by rw [List.length_append, hi]; rfl)]
      simp [q1, q2]
    rw [eS] at z
    refine ⟨h, A ++ c1 :: cr :: B, z, rfl, rfl, ?_⟩
    rw [List.map_append, List.map_cons, List.map_cons, List.map_append, List.map_cons, List.map_cons, hi, show A.length = (A.map (abs (n + 1))).length by rw [List.length_map], joined_mid, if_pos (by rw [abs_l, abs_l, List.length_map, List.length_map, ← hla', ← hlb']; omega), e2, e3, hCm, List.map_append, abs_l, abs_l]
  have HF : Hid (∀ X (c1 cr : En (n + 1)), Par w F0 X h (n + 1) S (A ++ c1 :: cr :: B) → c1.h.p = a.h.p → abs (n + 1) c1 = halfL Cm → abs (n + 1) cr = halfR Cm → ∃ h' ks', Par w F0 (X.setCells g ((i + 1) * 3) [.string (ek (n + 1) (halfR Cm)), .string ⟨#[]⟩, .pointer (some ⟨cr.h.p, 0, none⟩)]) h' (n + 1) (ks'.map (slE (n + 1))) ks' ∧ h'.p = h.p ∧ h'.d = h.d ∧ ks'.map (abs (n + 1)) = joined F i ((A ++ a :: b :: B).map (abs (n + 1)))) := fin
  clear hCl hCm
  have hMF : (F : Int) < ((la : Int) + (lb' : Int)) := by have := hla2; have := hlb2; omega
  have k1 : (slE (n + 1) a).kid.map (fun b => (⟨b, 0, none⟩ : Addr)) = some ⟨a.h.p, 0, none⟩ := rfl
  have k2 : (slE (n + 1) b).kid.map (fun b => (⟨b, 0, none⟩ : Addr)) = some ⟨b.h.p, 0, none⟩ := rfl
  rw [k1] at p2
  rw [k2] at p3
  have hwi : IntKind.i64.wrap ((i : Int) + 1) = (i : Int) + 1 := by rw [IntKind.wrap_i64]; omega
  have hwi2 : IntKind.i64.wrap ((i : Int) + 2) = (i : Int) + 2 := by rw [IntKind.wrap_i64]; omega
  have hi1 : (i : Int) < (N : Int) := by omega
  have hi2 : (i : Int) + 1 < (N : Int) := by omega
  have ht : ((i : Int) + 1).toNat = i + 1 := by omega
  have hi0 : (0 : Int) ≤ (i : Int) + 1 := by omega
  have hNN : N ≤ 100 := by omega
  obtain ⟨i0, hi00, hz0, hz1, hz2⟩ := info_parts infoS
  unfold maxLen at c2
  generalize (a.l.map (slE n)).flatMap slv = XA at *
  generalize (b.l.map (slE n)).flatMap slv = XB at *
  clear fin hal hbl hsa hsb hva hvb x hv s1 s2 hS hSl hi hN hm hla' hlb' k1 k2
  go_enter Try.func66, Try.ntmps66
  go_wp2
  go_quiet (fail)
  go_wp2
  refine wp_at ((W.drewN nq).setCell ⟨a.h.p, 2, none⟩ (.bool true)) rfl ?_
  have HY1 : Hid (Par w F0 ((W.drewN nq).setCell ⟨a.h.p, 2, none⟩ (.bool true)) h (n + 1) S (A ++ En.nd (Hd.mk a.h.p a.h.v true) a.l :: b :: B)) := HMk.out (W.drewN nq) (below_drawn W nq)
  generalize (W.drewN nq).setCell ⟨a.h.p, 2, none⟩ (.bool true) = W1 at *
  have HY1d : Hid (Par w F0 W1.drew h (n + 1) S (A ++ En.nd (Hd.mk a.h.p a.h.v true) a.l :: b :: B)) := HY1.out.later (below_drawn W1 1)
  obtain ⟨d1, d2, d3, _, _, _⟩ := HRd.out W1 HY1.out
  clear hu hfz p1 p2 p3
  go_region_law (refine step_append_lies _ rfl (.tmp 32) (.tmp 36) 72 rfl 0 77 i0 _ 3 40 Try.underlying72 hi00 hz0 hz1 hz2 rfl (by decide) (.slice (some ⟨ga, 0, none⟩) la capa) la XA (by simp [Act.eval]) (HRd.out _ HY1d.out).2.2.2.1 ⟨gb, 0, none⟩ lb' capb XB (by simp [Act.eval]) HL.out.2.1 (HRd.out _ HY1d.out).2.2.2.2.1 HL.out.2.2 hlb (by unfold maxLen; omega) (by omega) (Nat.zero_le _) _ rfl ?_; intro g3 cap3 w2 q1 q2 q3 q4; obtain ⟨r1, r2⟩ := (HRd.out _ HY1d.out).2.2.2.2.2 w2 q2)
  all_goals
    have HY3 : Hid (Par w F0 (w2.setCell ⟨a.h.p, 1, none⟩ (.slice (some ⟨g3, 0, none⟩) (la + lb') cap3)) h (n + 1) S (A ++ En.nd (Hd.mk a.h.p (.slice (some ⟨g3, 0, none⟩) (la + lb') cap3) true) (a.l ++ b.l) :: B)) := HAp.out _ w2 g3 cap3 HY1d.out q1 q2 q3
    refine then_at (w2.setCell ⟨a.h.p, 1, none⟩ (.slice (some ⟨g3, 0, none⟩) (la + lb') cap3)) rfl ?_
    have l3 : (w2.setCell ⟨a.h.p, 1, none⟩ (.slice (some ⟨g3, 0, none⟩) (la + lb') cap3)).cell? ⟨a.h.p, 1, none⟩ = some (.slice (some ⟨g3, 0, none⟩) (la + lb') cap3) := (HY3.out.lies (En.nd (Hd.mk a.h.p (.slice (some ⟨g3, 0, none⟩) (la + lb') cap3) true) (a.l ++ b.l)) (by simp)).1.row.cell (i := 1) rfl
    have l4 := HSlot.out _ _ HY3.out
    generalize w2.setCell ⟨a.h.p, 1, none⟩ (.slice (some ⟨g3, 0, none⟩) (la + lb') cap3) = W3 at *
    clear q1 q2 q3 q4 r1 r2 d1 d2 d3
    go_wp2
    clear l3
    go_region_with (first
      | (go_at_call 69; refine (HPt.out W3.drew g3 cap3 (HY3.out.later (below_drawn W3 1))).mono ?_; rintro e W6 ⟨c1, cr, rfl, y6, e6, e7, e8⟩; obtain ⟨s6, t1, t2, t3, t4, t5⟩ := HS2.out W6 _ y6; have HY6 : Hid (Par w F0 W6 h (n + 1) S (A ++ c1 :: cr :: B)) := y6; have E6 : Hid (c1.h.p = a.h.p) := e6; have E7 : Hid (abs (n + 1) c1 = halfL Cm) := e7; have E8 : Hid (abs (n + 1) cr = halfR Cm) := e8; clear y6 e6 e7 e8)
      | (go_at_call 65; refine (lead_kid (HY6.out.lies cr (by simp)).1 E8.out rfl HR0.out).mono ?_; rintro e W7 ⟨rfl, hb7⟩; have HY7 : Hid (Par w F0 W7 h (n + 1) S (A ++ c1 :: cr :: B)) := HY6.out.later hb7; obtain ⟨s7, u1, u2, u3, u4, u5⟩ := HS2.out W7 _ HY7.out; clear hb7))
    all_goals go_wp2
    all_goals refine bodyPost_ret (results_none rfl _ _ _) rfl ?_
    all_goals exact ⟨rfl, HF.out W7 c1 cr HY7.out E6.out E7.out E8.out⟩
end Go.Proofs.Ytlfgeanafidopaa.Bt
