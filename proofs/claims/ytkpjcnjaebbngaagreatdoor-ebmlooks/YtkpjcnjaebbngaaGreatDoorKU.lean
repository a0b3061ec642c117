/-
  Calls of a manager that is not there.
  A new chip formatted, and how many of its blocks are good.
-/
import Derived.Test.YtkpjcnjaebbngaaGreatDoorKS
namespace Go.Proofs.YtkpjcnjaebbngaaGreatDoor
open Go.RowKit
set_option maxRecDepth 10000

theorem geometry_nil (w : World) : Calls Tryz.prog 70 #[.pointer none] w fun e w' => e = .returned (.agg #[.int .i64 0, .int .i64 0, .int .i64 0, .int .i64 0]) ∧ Below w.heap.size w w' := by
  go_enter Tryz.func70, Tryz.ntmps70
  go_wp2
  first
    | (go_ret; exact ⟨rfl, Below.refl _ _⟩)
    | (refine bodyPost_ret (v := .agg #[.int .i64 0, .int .i64 0, .int .i64 0, .int .i64 0]) ?_ rfl ⟨rfl, ?_⟩
       · simp [results, Tryz.f70, go_sem]
       · first | exact below_new w _ | exact Below.refl _ _)
theorem lebs_zero : lebsI ((0 : Nat) : Int) ((0 : Nat) : Int) ((0 : Nat) : Int) ((0 : Nat) : Int) = 0 := by
  unfold lebsI rightB
  rfl
theorem nlebs (w : World) : Calls Tryz.prog 29 #[.pointer none] w fun e w' => e = .returned (.int .i64 0) ∧ Below w.heap.size w w' := by
  have k1 := mchip_nil w
  have k2 := geometry_nil w
  have k3 := fun W => lebs_any (0 : Nat) (0 : Nat) (0 : Nat) (0 : Nat) W
  rw [lebs_zero] at k3
  go_enter Tryz.func29, Tryz.ntmps29
  go_wp2_with (first
    | (go_at_call 35; refine k1.mono ?_; rintro e w1 ⟨rfl, rfl⟩)
    | (go_at_call 70; refine k2.mono ?_; rintro e w1 ⟨rfl, hb⟩)
    | (go_at_call 36; refine (k3 _).mono ?_; rintro e w2 ⟨rfl, hb2⟩))
  go_ret
  exact ⟨rfl, Below.after hb hb2⟩
theorem npages (w : World) : Calls Tryz.prog 30 #[.pointer none] w fun e w' => e = .returned (.int .i64 0) ∧ Below w.heap.size w w' := by
  have k1 := mchip_nil w
  have k2 := geometry_nil w
  have fB := geo1
  go_enter Tryz.func30, Tryz.ntmps30
  go_wp2_with (first
    | (go_at_call 35; refine k1.mono ?_; rintro e w1 ⟨rfl, rfl⟩)
    | (go_at_call 70; refine k2.mono ?_; rintro e w1 ⟨rfl, hb⟩))
  go_ret
  exact ⟨rfl, hb⟩
theorem npage (w : World) : Calls Tryz.prog 31 #[.pointer none] w fun e w' => e = .returned (.int .i64 0) ∧ Below w.heap.size w w' := by
  have k1 := mchip_nil w
  have k2 := geometry_nil w
  have fB := geo2
  go_enter Tryz.func31, Tryz.ntmps31
  go_wp2_with (first
    | (go_at_call 35; refine k1.mono ?_; rintro e w1 ⟨rfl, rfl⟩)
    | (go_at_call 70; refine k2.mono ?_; rintro e w1 ⟨rfl, hb⟩))
  go_ret
  exact ⟨rfl, hb⟩
theorem ngood (w : World) : Calls Tryz.prog 52 #[.pointer none] w fun e w' => e = .returned (.int .i64 0) ∧ Below w.heap.size w w' := by
  have k1 := mchip_nil w
  have k2 := geometry_nil w
  have fB := geo0
  go_enter Tryz.func52, Tryz.ntmps52
  go_wp2_with (first
    | (go_at_call 35; refine k1.mono ?_; rintro e w1 ⟨rfl, rfl⟩)
    | (go_at_call 70; refine k2.mono ?_; rintro e w1 ⟨rfl, hb⟩))
  go_loopg [3, 9] 0 (fun kx s3 s9 wr => s3 = .int .i64 0 ∧ s9 = .int .i64 0 ∧ Below w.heap.size w wr)
  case atStart => exact ⟨rfl, rfl, hb⟩
  case round =>
    obtain ⟨rfl, rfl, hb⟩ := hrel
    go_wp2
    go_ret
    exact ⟨rfl, hb⟩
theorem nspare (w : World) : Calls Tryz.prog 33 #[.pointer none] w fun e w' => e = .returned (.int .i64 0) ∧ Below w.heap.size w w' := by
  have k1 := ngood w
  have k2 := fun W => nlebs W
  go_enter Tryz.func33, Tryz.ntmps33
  go_wp2_with (first
    | (go_at_call 52; refine k1.mono ?_; rintro e w1 ⟨rfl, hb⟩)
    | (go_at_call 29; refine (k2 _).mono ?_; rintro e w2 ⟨rfl, hb2⟩))
  go_ret
  exact ⟨rfl, Below.after hb hb2⟩
theorem nused (w : World) (leb : Int) : Calls Tryz.prog 32 #[.pointer none, .int .i64 leb] w fun e w' => e = .returned (.int .i64 0) ∧ Below w.heap.size w w' := by
  have k1 := mhome_nil leb w
  have f3 := blf3
  unfold blV zeroB at k1
  go_enter Tryz.func32, Tryz.ntmps32
  go_wp2_with (go_at_call 71; refine k1.mono ?_; rintro e w1 ⟨rfl, hb⟩)
  go_ret
  exact ⟨rfl, hb⟩
theorem nclosed (w : World) (leb : Int) : Calls Tryz.prog 34 #[.pointer none, .int .i64 leb] w fun e w' => e = .returned (.bool false) ∧ Below w.heap.size w w' := by
  have k1 := mhome_nil leb w
  have f5 := blf5
  unfold blV zeroB at k1
  go_enter Tryz.func34, Tryz.ntmps34
  go_wp2_with (go_at_call 71; refine k1.mono ?_; rintro e w1 ⟨rfl, hb⟩)
  go_ret
  exact ⟨rfl, hb⟩
theorem nread (w : World) (leb page : Int) : Calls Tryz.prog 24 #[.pointer none, .int .i64 leb, .int .i64 page] w fun e w' => e = .returned (.tuple #[.slice none 0 0, .int .i64 14]) ∧ Below w.heap.size w w' := by
  go_enter Tryz.func24, Tryz.ntmps24
  go_wp2
  go_ret2
  exact ⟨rfl, Below.refl _ _⟩
theorem nwear (w : World) : Calls Tryz.prog 25 #[.pointer none] w fun e w' => e = .returned (.tuple #[.bool false, .int .i64 14]) ∧ Below w.heap.size w w' := by
  have hb := below_new w (.cells #[.pointer none] 34)
  go_enter Tryz.func25, Tryz.ntmps25
  go_wp2
  go_ret2
  exact ⟨rfl, hb⟩
theorem nwrite (w : World) (leb : Int) (a : Option Addr) (n dc : Nat) : Calls Tryz.prog 26 #[.pointer none, .int .i64 leb, .slice a n dc] w fun e w' => e = .returned (.int .i64 14) ∧ Below w.heap.size w w' := by
  have hb := Below.after (Below.after (below_new w (.cells #[.pointer none] 34)) (below_new _ (.cells #[.int .i64 leb] 3))) (below_new _ (.cells #[.slice a n dc] 39))
  have HB : Hid _ := hb
  clear hb
  go_enter Tryz.func26, Tryz.ntmps26
  go_wp2
  go_ret
  exact ⟨rfl, HB.out⟩
theorem nchange (w : World) (leb : Int) (a : Option Addr) (n dc : Nat) : Calls Tryz.prog 28 #[.pointer none, .int .i64 leb, .slice a n dc] w fun e w' => e = .returned (.int .i64 14) ∧ Below w.heap.size w w' := by
  have hb := Below.after (Below.after (below_new w (.cells #[.pointer none] 34)) (below_new _ (.cells #[.int .i64 leb] 3))) (below_new _ (.cells #[.slice a n dc] 40))
  have HB : Hid _ := hb
  clear hb
  go_enter Tryz.func28, Tryz.ntmps28
  go_wp2
  go_ret
  exact ⟨rfl, HB.out⟩
theorem nunmap (w : World) (leb : Int) : Calls Tryz.prog 27 #[.pointer none, .int .i64 leb] w fun e w' => e = .returned (.int .i64 14) ∧ Below w.heap.size w w' := by
  have hb := Below.after (below_new w (.cells #[.pointer none] 34)) (below_new _ (.cells #[.int .i64 leb] 3))
  have HB : Hid _ := hb
  clear hb
  go_enter Tryz.func27, Tryz.ntmps27
  go_wp2
  go_ret
  exact ⟨rfl, HB.out⟩
theorem nscan (w : World) : Calls Tryz.prog 80 #[.pointer none] w fun e w' => e = .returned (.tuple #[.slice none 0 0, .int .i64 14]) ∧ w = w' := by
  go_enter Tryz.func80, Tryz.ntmps80
  go_wp2
  go_ret2
  exact ⟨rfl, rfl⟩
theorem nover (w : World) : Calls Tryz.prog 45 #[.pointer none] w fun e w' => e = .returned (.tuple #[.pointer none, .int .i64 14]) ∧ w = w' := by
  have k1 := nscan w
  go_enter Tryz.func45, Tryz.ntmps45
  go_wp2_with (go_at_call 80; refine k1.mono ?_; rintro e w' ⟨rfl, rfl⟩)
  go_ret2
  exact ⟨rfl, rfl⟩
theorem nformat (w : World) : Calls Tryz.prog 13 #[.pointer none] w fun e w' => e = .returned (.tuple #[.pointer none, .int .i64 14]) ∧ w = w' := by
  have k1 := nover w
  go_enter Tryz.func13, Tryz.ntmps13
  go_wp2_with (go_at_call 45; refine k1.mono ?_; rintro e w' ⟨rfl, rfl⟩)
  go_ret2
  exact ⟨rfl, rfl⟩
theorem nattach (w : World) : Calls Tryz.prog 23 #[.pointer none] w fun e w' => e = .returned (.tuple #[.pointer none, .int .i64 14]) ∧ w = w' := by
  have k1 := nover w
  go_enter Tryz.func23, Tryz.ntmps23
  go_wp2_with (go_at_call 45; refine k1.mono ?_; rintro e w' ⟨rfl, rfl⟩)
  go_ret2
  exact ⟨rfl, rfl⟩
end Go.Proofs.YtkpjcnjaebbngaaGreatDoor
namespace Go.Proofs.YtkpjcnjaebbngaaGreatDoor
open Go.RowKit
set_option maxRecDepth 10000

theorem format_two {base : Nat} {w : World} {c : CS} (h : Lies base w c) (hf : Fresh c) (hg : Hd.Glb w) (hgb : 1 < base) (ht : Typed w) (hte : 2 < base) :
    Calls Tryz.prog 13 #[.pointer (some ⟨c.p, 0, none⟩)] w fun e w' => ∃ m c' P, e = .returned (.tuple #[.pointer (some ⟨m.p, 0, none⟩), .int .i64 0]) ∧ Ms base 1 w' m c' P ∧ (∀ l, cont m.bl P l = none) ∧ Gm c c' ∧ c'.foot = c.foot ∧ Kept (fun k => base ≤ k) w w' ∧ c'.fs = [] ∧ goodN c'.bks = c.gb := by
  have hgeo := hf.geo
  have hrb := hf.rb
  have key : ∀ m : Mg, m.bl = scanV c.vw → ∃ m' c' P', clearM (amongN [3] 0 m.bl ++ amongN [2, 4] 0 m.bl) m c = (0, m', c') ∧ ClearV (amongN [3] 0 m.bl ++ amongN [2, 4] 0 m.bl) m c ∧ RB m'.bl c' P' ∧ Gm c c' ∧ c'.fs = [] ∧ (m'.p = m.p ∧ m'.bb = m.bb ∧ m'.seq = m.seq ∧ m'.lost = m.lost) ∧ (∀ j, j < c.gb → m'.bl[j]? = some ⟨2, 1, 0, 0, 0, false⟩ ∧ P'[j]? = some []) := by
    intro m hm
    rw [hf.scan] at hm
    obtain ⟨e1, e2⟩ := among_all c.gb 0
    rw [hm, e1, e2, List.append_nil]
    obtain ⟨m', c', P', g1, g2, g3, g4, g5, g6, g7, g8⟩ := clear_ok (List.range' 0 c.gb) m c (List.replicate c.gb []) (by rw [hm]; exact hrb) hf.fs List.nodup_range' (fun n hn => by
      have : n < c.gb := by simpa using hn
      exact ⟨⟨3, 0, 0, 0, 0, false⟩, by rw [hm, List.getElem?_replicate, if_pos this], by show (3 : Int) ≠ 1; decide, by show (0 : Int) < _; decide⟩)
    refine ⟨m', c', P', g1, g2, g3, g4, g5, g6, fun j hj => ?_⟩
    have := g8 j (by simpa using hj) ⟨3, 0, 0, 0, 0, false⟩ (by rw [hm, List.getElem?_replicate, if_pos hj])
    exact this
  have hsp : spentB c = false := by
    unfold spentB lebsI
    rw [if_pos hf.rt]
    have := hrb.good
    rw [cnt_zero (fun i x hx => by
      rw [List.getElem?_replicate] at hx
      split at hx
      · cases hx; show (3 : Int) ≠ 1; decide
      · cases hx)] at this
    simp
    omega
  refine (format_any h hf.on hg hgb hsp (fun i o ho h3 => ?_) (fun m hm => (key m hm).choose_spec.choose_spec.choose_spec.2.1)).mono ?_
  · rw [hf.scan, List.getElem?_replicate] at ho
    split at ho
    · cases ho
      rename_i hi
      have := hf.read hgeo.2.2.1 hi (k := 0) (by omega)
      rw [show ((0 : Nat) : Int) = 0 from rfl] at this
      rw [this, parseC_ffs]
      rfl
    · cases ho
  · rintro e w' ⟨m, hbl, hsq, hlo, rfl, hml, hp, hft, hk⟩
    obtain ⟨m', c', P', g1, g2, g3, g4, g5, g6, g7⟩ := key m hbl
    rw [g1] at hml hp hft
    have hst : ∀ (i : Nat) x, m'.bl[i]? = some x → x = ⟨2, 1, 0, 0, 0, false⟩ := fun i x hx => by
      have hi : i < c.gb := by rw [← g4.gb, ← g3.lb]; exact (List.getElem?_eq_some_iff.1 hx).1
      rw [(g7 i hi).1] at hx
      exact (Option.some.inj hx).symm
    have hseq : m'.seq = 0 := by
      have : (m.seq : Int) = 0 := by rw [hsq, hf.scan, maxS_zero]
      rw [g6.2.2.1]; omega
    refine ⟨m', c', P', by rw [g6.1], ⟨hml, ⟨g3, ?_, ?_, ?_, ?_, ?_, ?_, by rw [hseq, g5]; simp, g6.2.2.2.trans hlo, by rw [g4.wrong]; exact hf.wrong⟩, ?_, hte, by rw [g4.gb, g4.gp, g4.gz, g4.gr]; exact hf.rt⟩, ?_, g4, hft, hk, g5, ?_⟩
    · intro i b x p _ _ hx _ h4
      rw [hst i x hx] at h4
      exact absurd h4 (by show (2 : Int) ≠ 4; decide)
    · intro i j x y hx _ h4
      rw [hst i x hx] at h4
      exact absurd h4 (by show (2 : Int) ≠ 4; decide)
    · intro i x hx
      rw [hst i x hx]
      show (2 : Int) ≠ 3; decide
    · intro i x hx h4
      rw [hst i x hx] at h4
      exact absurd h4 (by show (2 : Int) ≠ 4; decide)
    · intro i x hx h4
      rw [hst i x hx] at h4
      exact absurd h4 (by show (2 : Int) ≠ 4; decide)
    · intro i x hx
      rw [hst i x hx]
      show (1 : Int) ≤ 1; decide
    · exact ht.keep hk (by omega)
    · intro l
      exact cont_none fun i x hx h4 => by
        rw [hst i x hx] at h4
        exact absurd h4 (by show (2 : Int) ≠ 4; decide)
    · have := g3.good
      rw [cnt_zero (fun i x hx => by rw [hst i x hx]; show (2 : Int) ≠ 1; decide)] at this
      have := g4.gb
      omega
end Go.Proofs.YtkpjcnjaebbngaaGreatDoor
