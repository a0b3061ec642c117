/-
  What holds at each try of a page, of a manager that is right.
-/
import Derived.Test.YtccfalafphjkpaaGreatDoorKI
namespace Go.Proofs.YtccfalafphjkpaaGreatDoor
open Go.RowKit
set_option maxRecDepth 10000

set_option maxHeartbeats 1000000 in
theorem extV_ok (data : List Nat) : ∀ (fuel t : Nat) (m : Mg) (c : CS) (P : List (List (List Nat))) (n : Nat) (x : Bl) (p : List (List Nat)), MRep t m c P → m.bl[n]? = some x → x.st = 4 → P[n]? = some p → 2 + p.length < c.gp → data.length ≤ c.gz → c.fs.length < fuel → t < 4611686018427387904 → ExtV data fuel m c n
  | 0, t, m, c, P, n, x, p, h, hx, hs, hp, hl, hd, hf, ht => by omega
  | fuel + 1, t, m, c, P, n, x, p, h, hx, hs, hp, hl, hd, hf, ht => by
    obtain ⟨b, p0, hb, hp0, hk, hpl, hnx⟩ := h.mapped hx hs
    rw [hp] at hp0
    cases hp0
    obtain ⟨k, leb, seq, must, rfl, k1, k2, k3, k4, k5, k6, k7, k8, k9, k10⟩ := bok_mapped hk hs
    have hnl : n < c.gb := by rw [← h.rb.lb]; exact (List.getElem?_eq_some_iff.1 hx).1
    have e2 : ((2 + p.length : Nat) : Int) = 2 + (p.length : Int) := by omega
    have tls : ∀ (v : Pg) (nx : Int) i l, i < 2 + p.length → Tl c.gz b i l → Tl c.gz { b with pgs := b.pgs.set (2 + p.length) v, next := nx } i l := fun v nx i l hi ⟨q, h1, h2⟩ => ⟨q, by show (b.pgs.set _ _)[i]? = _; rw [List.getElem?_set_ne (by omega)]; exact h1, h2⟩
    have hgeo := h.rb.geo
    have hbud := h.bud
    refine ⟨leb, p.length, _, hx, by show (4 : Int) ≠ 2; decide, rfl, rfl, by omega, k5, by omega, hgeo.2.2.2.2.1, fun h5 => ?_⟩
    rcases progM_cases (p := 2 + p.length) (d := data) h.rb.on hb k3 (by rw [hnx, e2]) hl hd h.rb.fs with ⟨c1, e1, u1⟩ | ⟨c1, f, r, hfr, e1, u1⟩
    · rw [e2] at e1
      rw [e1] at h5
      exact absurd h5 (by show (0 : Int) ≠ 5; decide)
    · rw [e2] at e1
      rw [e1]
      simp only
      have g := u1.gm (fun q => absurd q.1 (by rw [hfr]; simp))
      have sm := u1.same
      have hfl : c.fs.length = r.length + 1 := by rw [hfr]; simp
      have hr1 : RB m.bl c1 P := by
        have hroom := h.rb.room
        have e3 : m.bl.set n ⟨4, k, leb, p.length, seq, false⟩ = m.bl := set_self hx
        have e4 : P.set n p = P := set_self hp
        have := h.rb.upd (x := ⟨4, k, leb, p.length, seq, false⟩) (p := p) hx u1 (BOk.mapped k leb seq must p k1 k2 k3 (tls _ _ _ _ (by omega) k4) k5 k6 k7 (tls _ _ _ _ (by omega) k8) (fun i l hi => tls _ _ _ _ (by have := (List.getElem?_eq_some_iff.1 hi).1; omega) (k9 i l hi)) k10) (by simpa using hpl) (fun f hx => by rw [hfr]; simp [hx]) (by rw [e3]; omega)
        rwa [e3, e4] at this
      have hcp : copyL c1 n p.length = p := copyL_eq hr1.on (u1.at hb) (fun i l hi => by rw [g.gz]; exact tls _ _ _ _ (by have := (List.getElem?_eq_some_iff.1 hi).1; omega) (k9 i l hi))
      have hb0 := h.bud
      obtain ⟨n', m2, c2, P2, s1, s2, s3, s4, s5, s6, s7⟩ := settle_ok (leb := leb) (must := p.length) (L := p) (m := m) hr1 k5 (Nat.le_refl _) (by rw [g.gp]; omega) (fun d hd => by rw [k10 d hd, g.gz]; exact Nat.le_refl _) (by
        have := free_room hr1 h.uq h.sp (fun i x hi h4 => by rw [g.gr, g.gb]; exact h.lb i x hi h4)
        omega) (by rw [sm.2.2.2.2.2.1]; omega)
      obtain ⟨hne, a1, a2, a3⟩ := s3.ne hx (by show (4 : Int) ≠ 2; decide)
      have a3' := (a3 (by show (4 : Int) ≠ 1; decide)).trans (u1.at hb)
      have u3 := mark_upd0 a3' s2.on
      have g3 := u3.gm0
      have hrs : rescueM m c1 n = ((n' : Int), 0, m2.put n badBl, (c2.mark n).2) := by
        unfold rescueM
        rw [hx]
        simp only [Option.getD_some, Int.toNat_natCast]
        rw [hcp, s1]
        simp only [if_pos]
      have hc1 := cntS_set (st := 1) a1 badBl
      simp [badBl] at hc1
      have hr3 : RB (m2.bl.set n badBl) (c2.mark n).2 (P2.set n []) := s2.upd a1 u3 (.bad rfl) (by show (b.pgs.set _ _).length = _; rw [s5.gp, g.gp]; simpa using hpl) (fun _ q => q) (by
        have hroom := h.rb.room
        rw [sm.2.2.2.2.2.1] at s7
        rw [s5.gr, g.gr]
        simp [badBl]
        omega)
      have hnl2 : n < m2.bl.length := (List.getElem?_eq_some_iff.1 a1).1
      have hself : (m2.bl.set n badBl)[n]? = some badBl := List.getElem?_set_self hnl2
      have hoth : ∀ (j : Nat) y, (m2.bl.set n badBl)[j]? = some y → y.st ≠ 1 → j ≠ n ∧ m2.bl[j]? = some y := fun j y hy h1 => by
        by_cases hj : j = n
        · subst hj
          rw [hself] at hy
          cases hy
          exact absurd rfl h1
        · exact ⟨hj, by rwa [List.getElem?_set_ne (fun e => hj e.symm)] at hy⟩
      obtain ⟨kk, ss, z1, z2, z3, z4⟩ := s3.new
      have hn3 : (m2.bl.set n badBl)[n']? = some ⟨4, kk, leb, p.length, ss, false⟩ := by
        rw [List.getElem?_set_ne hne]; exact z2
      have hfp : p.map (fillP c.gz) = p := by
        have : ∀ l ∈ p, fillP c.gz l = id l := fun l hl => fillP_full (k10 l hl)
        rw [List.map_congr_left this, List.map_id]
      have hpn : (P2.set n [])[n']? = some p := by
        rw [List.getElem?_set_ne hne, s3.pg, g.gz, hfp]
      obtain ⟨uq3, hc3⟩ := shift (P := P) (P' := P2.set n []) h.uq h.len (leb : Int) n' ⟨4, kk, leb, p.length, ss, false⟩ p hn3 rfl rfl hpn
        (fun j y hj hy h4 => by
          obtain ⟨q1, q2⟩ := hoth j y hy (by rw [h4]; decide)
          obtain ⟨r1, r2, _⟩ := s3.back hj q2 (by rw [h4]; decide)
          refine ⟨r1, fun e => q1 (h.uq j n y _ r1 hx h4 rfl e), ?_⟩
          rw [List.getElem?_set_ne (fun e => q1 e.symm)]; exact r2)
        (fun j y hy h4 he => by
          obtain ⟨q1, q2, _⟩ := s3.ne hy (by rw [h4]; decide)
          have hj : j ≠ n := by
            rintro rfl
            rw [hx] at hy
            cases hy
            exact he rfl
          exact ⟨q1, by rw [List.getElem?_set_ne (fun e => hj e.symm)]; exact q2⟩)
      have hr3' : MRep t (m2.put n badBl) (c2.mark n).2 (P2.set n []) := by
        refine ⟨hr3, ?_, uq3, ?_, ?_, ?_, ?_, ?_, s3.st.2.2.2.trans h.lost, by rw [g3.wrong, s5.wrong, g.wrong]; exact h.wrong⟩
        · intro i b' y q _ hb' hy hq h4
          obtain ⟨q1, q2⟩ := hoth i y hy (by rw [h4]; decide)
          rw [u3.other q1] at hb'
          rw [List.getElem?_set_ne (fun e => q1 e.symm)] at hq
          by_cases hi : i = n'
          · subst hi
            obtain ⟨bb, w1, w2⟩ := s3.bk
            rw [w1] at hb'
            rw [s3.pg] at hq
            cases hb'
            cases hq
            rw [w2, List.length_map]
          · obtain ⟨r1, r2, r3⟩ := s3.back hi q2 (by rw [h4]; decide)
            rw [r3, u1.other q1] at hb'
            rw [r2] at hq
            exact h.wh i b' y q (by simp) hb' r1 hq h4
        · intro i y hy h3
          obtain ⟨q1, q2⟩ := hoth i y hy (by rw [h3]; decide)
          by_cases hi : i = n'
          · subst hi
            rw [z2] at q2
            cases q2
            exact absurd h3 (by show (4 : Int) ≠ 3; decide)
          · exact h.sp i y (s3.back hi q2 (by rw [h3]; decide)).1 h3
        · intro i y hy h4
          rw [g3.gr, g3.gb, s5.gr, s5.gb, g.gr, g.gb]
          obtain ⟨q1, q2⟩ := hoth i y hy (by rw [h4]; decide)
          by_cases hi : i = n'
          · subst hi
            rw [z2] at q2
            cases q2
            have := h.lb n _ hx rfl
            exact this
          · exact h.lb i y (s3.back hi q2 (by rw [h4]; decide)).1 h4
        · intro i y hy h4
          obtain ⟨q1, q2⟩ := hoth i y hy (by rw [h4]; decide)
          show y.seq ≤ (m2.seq : Int)
          by_cases hi : i = n'
          · subst hi
            rw [z2] at q2
            cases q2
            show (ss : Int) ≤ _
            omega
          · have := h.sq i y (s3.back hi q2 (by rw [h4]; decide)).1 h4
            omega
        · intro i y hy
          by_cases h1 : y.st = 1
          · have hil : i < (c2.mark n).2.gb := by rw [← hr3.lb]; exact (List.getElem?_eq_some_iff.1 hy).1
            obtain ⟨b', y', q, _, hy', _, hk', _⟩ := hr3.at hil
            have : y' = y := Option.some.inj (hy'.symm.trans hy)
            subst this
            cases hk' with
            | bad _ => show (0 : Int) ≤ _; omega
            | free => simp at h1
            | spoilt => simp at h1
            | mapped => simp at h1
          · obtain ⟨q1, q2⟩ := hoth i y hy h1
            by_cases hi : i = n'
            · subst hi
              rw [z2] at q2
              cases q2
              have := h.cb _ _ z1
              exact this
            · exact h.cb i y (s3.back hi q2 h1).1
        · rw [u3.same.2.2.2.2.2.1]
          show m2.seq + _ ≤ _
          rw [sm.2.2.2.2.2.1] at s4
          omega
      refine ⟨hr1.on, fun i hi => ?_, fun _ => ⟨n', by rw [hrs], ?_⟩⟩
      · have ht1 := (tls ⟨2, []⟩ (((2 + p.length : Nat) : Int) + 1) _ _ (by omega) (k9 i _ (List.getElem?_eq_getElem hi)))
        rw [← g.gz] at ht1
        have := ht1.read hr1.on (u1.at hb)
        rw [show ((2 + i : Nat) : Int) = 2 + (i : Int) by omega] at this
        rw [this]
      · rw [hrs]
        exact extV_ok data fuel t (m2.put n badBl) (c2.mark n).2 (P2.set n []) n' _ p hr3' hn3 rfl hpn (by rw [g3.gp, s5.gp, g.gp]; exact hl) (by rw [g3.gz, s5.gz, g.gz]; exact hd) (by rw [u3.same.2.2.2.2.2.1]; rw [sm.2.2.2.2.2.1] at s6; omega) ht
end Go.Proofs.YtccfalafphjkpaaGreatDoor
