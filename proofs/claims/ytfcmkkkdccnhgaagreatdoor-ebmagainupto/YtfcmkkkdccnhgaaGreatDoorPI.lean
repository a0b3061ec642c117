/-
  Same: both managers tell the same of each page.
-/
import Derived.Test.YtfcmkkkdccnhgaaGreatDoorPH
import Derived.Test.YtfcmkkkdccnhgaaGreatDoorPB
import Derived.Test.YtfcmkkkdccnhgaaGreatDoorKMA
namespace Go.Proofs.YtfcmkkkdccnhgaaGreatDoor
open Go.RowKit
set_option maxRecDepth 10000

/-- Both managers, side by side, with the same contents. -/
def BoS (X : World) (c0 : CS) (p t : Nat) (f : Cont) (d : DMg) (W : World) : Prop := ∃ m c P, AlC X c0 p t f W m c P ∧ DMs X.heap.size W c0.gb c0.gp c0.gz c0.gr d ∧ Agree c0.gb c0.gr f d
theorem BoS.later {X : World} {c0 : CS} {p t : Nat} {f : Cont} {d : DMg} {W W' : World} (h : BoS X c0 p t f d W) (hb : Below W.heap.size W W') : BoS X c0 p t f d W' := by
  obtain ⟨m, c, P, h1, h2, h3⟩ := h
  exact ⟨m, c, P, h1.at hb, h2.later hb, h3⟩
theorem BoS.below {X : World} {c0 : CS} {p t : Nat} {f : Cont} {d : DMg} {W : World} (h : BoS X c0 p t f d W) : Below X.heap.size X W := by
  obtain ⟨m, c, P, h1, h2, h3⟩ := h
  exact h1.al.below (Nat.le_refl _)
theorem BoS.geo {X : World} {c0 : CS} {p t : Nat} {f : Cont} {d : DMg} {W : World} (h : BoS X c0 p t f d W) : 16 ≤ c0.gb ∧ c0.gb ≤ 256 ∧ 8 ≤ c0.gp ∧ c0.gp ≤ 64 ∧ 64 ≤ c0.gz ∧ c0.gz ≤ 512 ∧ c0.gr + 2 ≤ c0.gb := by
  obtain ⟨m, c, P, h1, h2, h3⟩ := h
  exact h1.geo
theorem bo_lebs {X : World} {c0 : CS} {p t : Nat} {f : Cont} {d : DMg} {W : World} (h : BoS X c0 p t f d W) :
    Calls Tryz.prog 25 #[.pointer (some ⟨p, 0, none⟩)] W fun e w' => e = .returned (.int .i64 (d.ls.length : Nat)) ∧ Below W.heap.size W w' := by
  obtain ⟨m, c, P, h1, h2, h3⟩ := h
  obtain rfl := h1.p
  have := mlebs_any h1.al.ms.ml
  rw [h1.al.ms.lebs, h1.gm.gb, h1.gm.gr] at this
  have e : ((c0.gb : Int) - c0.gr - 2) = (d.ls.length : Nat) := by have := h3.len; omega
  rw [e] at this
  exact this
theorem bo_pages {X : World} {c0 : CS} {p t : Nat} {f : Cont} {d : DMg} {W : World} (h : BoS X c0 p t f d W) :
    Calls Tryz.prog 38 #[.pointer (some ⟨p, 0, none⟩)] W fun e w' => e = .returned (.int .i64 ((c0.gp : Int) - 2)) ∧ Below W.heap.size W w' := by
  obtain ⟨m, c, P, h1, h2, h3⟩ := h
  obtain rfl := h1.p
  have hg := h1.al.ms.rp.rb.geo
  have := mpages_any h1.al.ms.ml (by omega)
  rw [h1.gm.gp] at this
  exact this
theorem bo_page {X : World} {c0 : CS} {p t : Nat} {f : Cont} {d : DMg} {W : World} (h : BoS X c0 p t f d W) :
    Calls Tryz.prog 40 #[.pointer (some ⟨p, 0, none⟩)] W fun e w' => e = .returned (.int .i64 c0.gz) ∧ Below W.heap.size W w' := by
  obtain ⟨m, c, P, h1, h2, h3⟩ := h
  obtain rfl := h1.p
  have := mpage_any h1.al.ms.ml
  rw [h1.gm.gz] at this
  exact this
theorem bo_used {X : World} {c0 : CS} {p t : Nat} {f : Cont} {d : DMg} {W : World} (h : BoS X c0 p t f d W) (j : Nat) (x : LB) (hx : d.ls[j]? = some x) :
    Calls Tryz.prog 21 #[.pointer (some ⟨p, 0, none⟩), .int .i64 (j : Nat)] W fun e w' => e = .returned (.int .i64 (x.pg.length : Nat)) ∧ Below W.heap.size W w' := by
  obtain ⟨m, c, P, h1, h2, h3⟩ := h
  obtain rfl := h1.p
  have := used_go h1.al.ms (j : Nat)
  rw [h1.al.fn, h3.each j x hx] at this
  exact this
theorem bo_closed {X : World} {c0 : CS} {p t : Nat} {f : Cont} {d : DMg} {W : World} (h : BoS X c0 p t f d W) (j : Int) :
    Calls Tryz.prog 41 #[.pointer (some ⟨p, 0, none⟩), .int .i64 j] W fun e w' => e = .returned (.bool false) ∧ Below W.heap.size W w' := by
  obtain ⟨m, c, P, h1, h2, h3⟩ := h
  obtain rfl := h1.p
  have := mclosed_any h1.al.ms.ml j
  rcases find_home h1.al.ms.rp j with ⟨_, _, hz⟩ | ⟨i, x, p', hf, hx, h4', he, hpi, hc, hh, hu, hcl⟩
  · rw [hz] at this; exact this
  · rw [hh, hcl] at this; exact this
theorem bo_read {X : World} {c0 : CS} {p t : Nat} {f : Cont} {d : DMg} {W : World} (h : BoS X c0 p t f d W) (j k : Nat) (x : LB) (hx : d.ls[j]? = some x) (hk : k + 2 < c0.gp) :
    Calls Tryz.prog 20 #[.pointer (some ⟨p, 0, none⟩), .int .i64 (j : Nat), .int .i64 (k : Nat)] W fun e w' => ∃ a cap, e = .returned (.tuple #[.slice a ((x.pg[k]?).getD (List.replicate c0.gz 255)).length cap, .int .i64 0]) ∧ BRow w' a ((x.pg[k]?).getD (List.replicate c0.gz 255)) ∧ BoS X c0 p t f d w' := by
  obtain ⟨m, c, P, h1, h2, h3⟩ := h
  obtain rfl := h1.p
  have hA := h1.al
  have hg := hA.ms.rp.rb.geo
  have e1 := h1.gm.gb
  have e2 := h1.gm.gr
  have e3 := h1.gm.gz
  have e4 := h1.gm.gp
  have hjl := (List.getElem?_eq_some_iff.1 hx).1
  have hlen := h3.len
  have hfj := h3.each j x hx
  have nxt : ∀ (l : List Nat) a n cap w', RdP X.heap.size W m c l a n cap w' → BoS X c0 m.p t f d w' := fun l a n cap w' hr =>
    ⟨m, c, P, ⟨hA.rd hr, h1.gm, rfl⟩, h2.beside hA.ms.ml (hr.kp.mono fun _ e => .inl e), h3⟩
  by_cases hkl : k < x.pg.length
  · rw [List.getElem?_eq_getElem hkl]
    simp only [Option.getD_some]
    have hc : cont m.bl P (j : Nat) = f (j : Nat) := hA.fn _
    cases hf : f (j : Nat) with
    | none =>
      rw [hf] at hfj
      have e0 : x.pg = [] := hfj.symm
      rw [e0] at hkl
      simp at hkl
    | some pp =>
      rw [hf] at hfj
      simp only [Option.getD_some] at hfj
      subst hfj
      refine (read_go hA.ms (j : Nat) k (by omega) (by omega) x.pg (by rw [hc, hf]) x.pg[k] (List.getElem?_eq_getElem hkl)).mono ?_
      rintro e w' ⟨a, n, cap, rfl, hr⟩
      exact ⟨a, cap, by rw [hr.len], hr.row, nxt _ _ _ _ _ hr⟩
  · rw [List.getElem?_eq_none (by omega)]
    simp only [Option.getD_none]
    have hh : hasB c (j : Nat) = true := by rw [hA.hasB]; exact decide_eq_true ⟨by omega, by omega⟩
    have hu : (homeB m.bl (j : Nat)).used ≤ (k : Int) := by
      rcases find_home hA.ms.rp (j : Nat) with ⟨_, _, hz⟩ | ⟨i, y, p', hf, hy, h4', he, hpi, hc, hhb, hu, hcl⟩
      · rw [hz]; show (0 : Int) ≤ _; omega
      · rw [hhb, hu]
        have hc2 := hA.fn (j : Nat)
        rw [hc] at hc2
        rw [← hc2] at hfj
        simp only [Option.getD_some] at hfj
        rw [hfj]
        omega
    refine (mread_blank hA.ms.ml hA.ms.rp.lost hA.ms.rp.rb.on (by omega) (j : Nat) k hh (by omega) hu).mono ?_
    rintro e w' ⟨a, n, cap, rfl, hr⟩
    refine ⟨a, cap, by rw [hr.len, e3], by rw [← e3]; exact hr.row, nxt _ _ _ _ _ hr⟩
theorem bo_dread {X : World} {c0 : CS} {p t : Nat} {f : Cont} {d : DMg} {W : World} (h : BoS X c0 p t f d W) (j k : Nat) (x : LB) (hx : d.ls[j]? = some x) (hk : k + 2 < c0.gp) :
    Calls Tryz.prog 42 #[.pointer (some ⟨d.p, 0, none⟩), .int .i64 (j : Nat), .int .i64 (k : Nat)] W fun e w' => ∃ a cap, e = .returned (.tuple #[.slice a ((x.pg[k]?).getD (List.replicate c0.gz 255)).length cap, .int .i64 0]) ∧ BRow w' a ((x.pg[k]?).getD (List.replicate c0.gz 255)) ∧ (∀ y ∈ (x.pg[k]?).getD (List.replicate c0.gz 255), y < 256) ∧ Below W.heap.size W w' := by
  have hg := h.geo
  obtain ⟨m, c, P, h1, h2, h3⟩ := h
  by_cases hkl : k < x.pg.length
  · rw [List.getElem?_eq_getElem hkl]
    simp only [Option.getD_some]
    refine (dread_page h2 (by omega) j k x hx x.pg[k] (List.getElem?_eq_getElem hkl) hk).mono ?_
    rintro e w' ⟨a, cap, rfl, hr, hlt, rfl⟩
    exact ⟨a, cap, rfl, hr, hlt, Below.refl _ _⟩
  · rw [List.getElem?_eq_none (by omega)]
    simp only [Option.getD_none]
    refine (dread_blank h2 (by omega) (by omega) j k x hx (by omega) hk).mono ?_
    rintro e w' ⟨a, cap, rfl, hr, hb⟩
    exact ⟨a, cap, by simp, hr, fun y hy => by simp at hy; omega, hb⟩
set_option maxHeartbeats 16000000 in
theorem same_go {X : World} {c0 : CS} {p t : Nat} {f : Cont} {d : DMg} {w : World} (h : BoS X c0 p t f d w) (loose : Bool) :
    Calls Tryz.prog 14 #[.pointer (some ⟨p, 0, none⟩), .pointer (some ⟨d.p, 0, none⟩), .bool loose] w fun e w' => e = .returned (.bool true) ∧ BoS X c0 p t f d w' := by
  have HB : Hid (BoS X c0 p t f d w) := h
  have hg := h.geo
  have HGe : Hid (2 ≤ c0.gp ∧ c0.gp ≤ 64) := (by omega : 2 ≤ c0.gp ∧ c0.gp ≤ 64)
  have HDm : Hid (∀ W, BoS X c0 p t f d W → DMs X.heap.size W c0.gb c0.gp c0.gz c0.gr d) := fun W hW => by obtain ⟨m, c, P, _, h2, _⟩ := hW; exact h2
  have hll : d.ls.length ≤ 256 := by obtain ⟨m, c, P, h1, h2, h3⟩ := h; have := h3.len; have := h1.geo; omega
  have ne := Wd.non w
  have cL := fun q : Wd w => quiet_call q (bo_lebs (HB.out.later q.h))
  have cPs := fun q : Wd w => quiet_call q (bo_pages (HB.out.later q.h))
  have cPg := fun q : Wd w => quiet_call q (bo_page (HB.out.later q.h))
  have cM := fun q : Wd w => quiet_same q (dmax_any (HDm.out _ (HB.out.later q.h)) HGe.out)
  have z4 : ∀ q : Wd w, q.v.cell? ⟨d.p, 4, none⟩ = some (.slice (some ⟨d.q, 0, none⟩) d.ls.length d.qc) := fun q => (HDm.out _ (HB.out.later q.h)).cells.2.2.2.2
  have z2 : ∀ q : Wd w, q.v.cell? ⟨d.p, 2, none⟩ = some (.int .i64 c0.gz) := fun q => (HDm.out _ (HB.out.later q.h)).cells.2.2.1
  clear h
  go_enter Tryz.func14, Tryz.ntmps14
  go_wp2
  refine quiet_below (by kernel_rfl) ?_
  repeat (first | go_big_quiet_skip | go_big_quiet_step (first
    | (go_at_call 25; exact cL _)
    | (go_at_call 38; exact cPs _)
    | (go_at_call 40; exact cPg _)
    | (go_at_call 39; exact cM _)))
  refine wpQuiet_nil ?_
  rintro _ ⟨p1, rfl⟩
  obtain ⟨w1, hw1⟩ : ∃ W, W = p1.v := ⟨_, rfl⟩
  have HB1 : Hid (BoS X c0 p t f d w1) := by rw [hw1]; exact HB.out.later p1.h
  rw [← hw1]
  clear hw1
  clear p1 cL cPs cPg cM z4 z2 ne
  go_wp2
  go_loopw [7] (fun s7 wr => ∃ j : Nat, s7 = .int .i64 (j : Int) ∧ j ≤ d.ls.length ∧ Hid (BoS X c0 p t f d wr)) (fun s7 _ => d.ls.length - (intOf s7).toNat)
  case atStart => exact ⟨0, rfl, by omega, HB1⟩
  case round =>
    obtain ⟨j, rfl, hj, HJ⟩ := hrel
    have y4 := (HDm.out _ HJ.out).cells.2.2.2.2
    by_cases hjl : j < d.ls.length
    · obtain ⟨x, hx⟩ : ∃ x, d.ls[j]? = some x := ⟨_, List.getElem?_eq_getElem hjl⟩
      have hlt : (j : Int) < (d.ls.length : Int) := by omega
      have HJL : Hid (j < d.ls.length ∧ d.ls[j]? = some x) := ⟨hjl, hx⟩
      have ne := Wd.non wr
      have cU := fun q : Wd wr => quiet_call q (bo_used (HJ.out.later q.h) j x hx)
      have cC := fun q : Wd wr => quiet_call q (bo_closed (HJ.out.later q.h) (j : Nat))
      have z4 : ∀ q : Wd wr, q.v.cell? ⟨d.p, 4, none⟩ = some (.slice (some ⟨d.q, 0, none⟩) d.ls.length d.qc) := fun q => (HDm.out _ (HJ.out.later q.h)).cells.2.2.2.2
      obtain ⟨av, cv, e1⟩ := ((HDm.out _ HJ.out).each x (List.mem_of_getElem? hx)).form
      have z0 : ∀ q : Wd wr, q.v.cell? ⟨d.q, j * 2, none⟩ = some (.slice av x.pg.length cv) := fun q => by rw [← e1]; exact ((HDm.out _ (HJ.out.later q.h)).at hx).1
      have z1 : ∀ q : Wd wr, q.v.cell? ⟨d.q, j * 2 + 1, none⟩ = some (.bool false) := fun q => ((HDm.out _ (HJ.out.later q.h)).at hx).2
      clear hx hjl e1
      go_wp2
      have j0 : ¬ (j : Int) < 0 := by omega
      refine quiet_below (by kernel_rfl) ?_
      repeat (first | go_big_quiet_skip | go_big_quiet_step (first
        | (go_at_call 21; exact cU _)
        | (go_at_call 41; exact cC _)))
      refine wpQuiet_nil ?_
      rintro _ ⟨p2, rfl⟩
      obtain ⟨w2, hw2⟩ : ∃ W, W = p2.v := ⟨_, rfl⟩
      have HJ2 : Hid (BoS X c0 p t f d w2) := by rw [hw2]; exact HJ.out.later p2.h
      rw [← hw2]
      clear hw2
      clear p2 cU cC z4 z0 z1 ne y4
      go_wp2
      go_loopw [8] (fun s8 wr => ∃ k : Nat, s8 = .int .i64 (k : Int) ∧ k + 2 ≤ c0.gp ∧ Hid (BoS X c0 p t f d wr)) (fun s8 _ => c0.gp - (intOf s8).toNat)
      case atStart => exact ⟨0, rfl, by omega, HJ2⟩
      case round =>
        obtain ⟨k, rfl, hk, HK⟩ := hrel
        have kM := dmax_any (HDm.out _ HK.out) HGe.out
        by_cases hkl : k + 2 < c0.gp
        · have hlk : (k : Int) < (c0.gp : Int) - 2 := by omega
          have hk64 : (k : Int) ≤ 64 := by omega
          have kR := bo_read HK.out j k x HJL.out.2 hkl
          have HKL : Hid (k + 2 < c0.gp) := hkl
          obtain ⟨l, hl⟩ : ∃ l, l = (x.pg[k]?).getD (List.replicate c0.gz 255) := ⟨_, rfl⟩
          have HDr : Hid (∀ W, BoS X c0 p t f d W → Calls Tryz.prog 42 #[.pointer (some ⟨d.p, 0, none⟩), .int .i64 (j : Nat), .int .i64 (k : Nat)] W fun e w' => ∃ a cap, e = .returned (.tuple #[.slice a l.length cap, .int .i64 0]) ∧ BRow w' a l ∧ (∀ y ∈ l, y < 256) ∧ Below W.heap.size W w') := fun W hW => by rw [hl]; exact bo_dread hW j k x HJL.out.2 hkl
          rw [← hl] at kR
          obtain ⟨ln, hln⟩ : ∃ n, n = l.length := ⟨_, rfl⟩
          have HLn : Hid (ln = l.length) := hln
          rw [← hln] at kR HDr
          clear hkl hl hln
          go_wp2_with (first
            | (go_at_call 39; refine kM.mono ?_; rintro e u1 ⟨rfl, rfl⟩)
            | (go_at_call 20; refine kR.mono ?_; rintro e u2 ⟨a2, c2, rfl, hr2, hb2⟩; have HU2 : Hid (BoS X c0 p t f d u2 ∧ BRow u2 a2 l) := ⟨hb2, hr2⟩; clear hr2 hb2)
            | (go_at_call 42; refine (HDr.out _ HU2.out.1).mono ?_; rintro e u3 ⟨a3, c3, rfl, hr3, hlt3, hb3⟩; have HU3 : Hid (BoS X c0 p t f d u3 ∧ BRow u3 a2 l ∧ BRow u3 a3 l ∧ ∀ y ∈ l, y < 256) := ⟨HU2.out.1.later hb3, HU2.out.2.later hb3, hr3, hlt3⟩; clear hr3 hlt3 hb3)
            | (go_at_call 23; have kS := same_any a2 c2 l a3 c3 l u3 HU3.out.2.2.2 HU3.out.2.2.2 HU3.out.2.1 HU3.out.2.2.1; rw [decide_eq_true rfl, ← HLn.out] at kS; refine kS.mono ?_; rintro e u4 ⟨rfl, rfl⟩; clear kS))
          go_roundw
          case rel => exact ⟨k + 1, by go_num, by have := HKL.out; omega, HU3.out.1⟩
          case measure => simp [intOf]; have := HKL.out; omega
        · have hlk : ¬ (k : Int) < (c0.gp : Int) - 2 := by omega
          clear hkl
          go_wp2_with (go_at_call 39; refine kM.mono ?_; rintro e u1 ⟨rfl, rfl⟩)
          go_roundw
          case rel => exact ⟨j + 1, by go_num, by have := HJL.out.1; omega, HK⟩
          case measure => simp [intOf]; have := HJL.out.1; omega
    · have hlt : ¬ (j : Int) < (d.ls.length : Int) := by omega
      clear hjl
      go_wp2
      go_ret
      exact ⟨rfl, HJ.out⟩
end Go.Proofs.YtfcmkkkdccnhgaaGreatDoor
