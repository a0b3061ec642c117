/-
  Mild plans; what a plan that is armed leaves of a manager.
-/
import Derived.Test.YteodcjbbkekidaaGreatDoorZQL
import Derived.Test.YteodcjbbkekidaaGreatDoorZQW
namespace Go.Proofs.YteodcjbbkekidaaGreatDoor
open Go.RowKit
set_option maxRecDepth 10000

theorem MRep.armed {t : Nat} {m : Mg} {c : CS} {P : List (List (List Nat))} (h : MRep t m c P) (hf : Fine c) {s : List Flt} (hs : ∀ x ∈ s, x.kind = 2) (hl : s.length ≤ c.gr) : MRep (t + 256) m { c with fs := s, steps := 0 } P := by
  have hg := h.rb.geo
  have hb := h.bud
  have hc : cntS 1 m.bl = 0 := cnt_zero fun i x hx h1 => by
    have hi : i < c.gb := by rw [← h.rb.lb]; exact (List.getElem?_eq_some_iff.1 hx).1
    obtain ⟨b, y, p, hbk, hy, _, hk, _⟩ := h.rb.at hi
    rw [hx] at hy
    cases hy
    cases hk with
    | bad hbad => rw [hf.2 b (List.mem_of_getElem? hbk)] at hbad; cases hbad
    | free => exact absurd h1 (by show (2 : Int) ≠ 1; decide)
    | spoilt => exact absurd h1 (by show (3 : Int) ≠ 1; decide)
    | mapped => exact absurd h1 (by show (4 : Int) ≠ 1; decide)
  exact ⟨⟨h.rb.lc, h.rb.lb, h.rb.lp, h.rb.geo, h.rb.on, h.rb.pl, h.rb.blk, hs, by show cntS 1 m.bl + s.length ≤ c.gr; omega⟩, h.wh, h.uq, h.sp, h.lb, h.sq, fun i x hx => by have := h.cb i x hx; omega, by show m.seq + s.length ≤ _; omega, h.lost, h.wrong⟩
set_option maxHeartbeats 4000000 in
theorem mild_any (b p z r : Int) (a : Option Addr) (n cap : Nat) (l : List Flt) (w : World) (hF : FArg w a n cap l) :
    Calls Tryz.prog 9 #[.agg #[.int .i64 b, .int .i64 p, .int .i64 z, .int .i64 r], .slice a n cap] w fun e w' => ∃ B, e = .returned (.bool B) ∧ (B = true → (∀ x ∈ l, x.kind = 2) ∧ (n ≤ 256 ∧ planOk l) ∧ (n : Int) ≤ r) ∧ Below w.heap.size w w' := by
  obtain ⟨W, hW⟩ : ∃ W, W = w.alloc (.cells #[.int .i64 b, .int .i64 p, .int .i64 z, .int .i64 r] 23) := ⟨_, rfl⟩
  have HB : Hid (Below w.heap.size w W) := by rw [hW]; exact below_new w _
  have hr : Row W w.heap.size [.int .i64 b, .int .i64 p, .int .i64 z, .int .i64 r] 23 := by rw [hW]; exact Row.new w _ _
  have HR : Hid (Row W w.heap.size [.int .i64 b, .int .i64 p, .int .i64 z, .int .i64 r] 23) := hr
  have hmx : n ≤ 9223372036854775807 := Nat.le_trans hF.le hF.max
  have hfr : FRow W a l := frow_later hF.row HB.out
  have hpl := d_plan a n cap l W hF.len_eq hmx hfr
  have HF : Hid (FRow W a l ∧ n = l.length) := ⟨hfr, hF.len_eq⟩
  clear hF hfr hr
  go_enter Tryz.func9, Tryz.ntmps9
  go_wp2_with fail
  rw [← hW]
  clear hW
  go_loopw [5] (fun s5 wr => ∃ k : Nat, s5 = .int .i64 (k : Int) ∧ k ≤ n ∧ Hid (∀ x ∈ l.take k, x.kind = 2) ∧ W = wr) (fun s5 _ => n - (intOf s5).toNat)
  case atStart => exact ⟨0, rfl, by omega, (by simp : ∀ x ∈ l.take 0, x.kind = 2), rfl⟩
  case round =>
    obtain ⟨k, rfl, hk, HK, rfl⟩ := hrel
    by_cases hkl : k < n
    · have hkl2 : k < l.length := by rw [← HF.out.2]; exact hkl
      have hg := List.getElem?_eq_getElem hkl2
      obtain ⟨x, hx⟩ : ∃ x, x = l[k] := ⟨_, rfl⟩
      rw [← hx] at hg
      rcases HF.out.1 with e | ⟨bb, off, rfl, hc⟩
      · rw [e] at hkl2; simp at hkl2
      · obtain ⟨q0, q1, q2⟩ := hc k x hg
        have hlt : (k : Int) < (n : Int) := by omega
        have HKL : Hid (k < n ∧ l[k]? = some x) := ⟨hkl, hg⟩
        have k0 : ¬ (k : Int) < 0 := by omega
        clear hkl hg hx hc hkl2
        by_cases h2 : x.kind = 2
        · have HT : Hid (∀ x ∈ l.take (k + 1), x.kind = 2) := fun y hy => by
            rw [List.take_add_one, HKL.out.2] at hy
            rcases List.mem_append.1 hy with hy | hy
            · exact HK.out y hy
            · simp at hy; subst hy; exact h2
          go_wp2
          go_roundw
          case rel => first | exact ⟨k + 1, by go_num, HKL.out.1, HT, rfl⟩ | exact ⟨k + 1, by go_num, HKL.out.1, HT, trivial⟩
          case measure => simp [intOf]; have := HKL.out.1; omega
        · go_wp2
          refine bodyPost_ret (v := .bool false) ?_ rfl ?_
          · simp [results, Tryz.f9, go_sem]
          · first
            | exact ⟨false, rfl, by simp, HB.out⟩
            | exact .inl ⟨rfl, HB.out⟩
    · have hlt : ¬ (k : Int) < (n : Int) := by omega
      have HAll : Hid (∀ x ∈ l, x.kind = 2) := fun y hy => by
        have : l.take k = l := List.take_of_length_le (by have := HF.out.2; omega)
        exact HK.out y (by rw [this]; exact hy)
      clear hkl
      by_cases hP : l.length ≤ 256 ∧ planOk l
      · rw [planB_yes hP] at hpl
        have HP : Hid (l.length ≤ 256 ∧ planOk l) := hP
        clear hP
        by_cases hnr : (n : Int) ≤ r
        · have HN : Hid ((n : Int) ≤ r) := hnr
          go_wp2_with (go_at_call 33; refine hpl.mono ?_; rintro e w2 ⟨rfl, hb2⟩; have y3 : w2.cell? ⟨w.heap.size, 3, none⟩ = some (.int .i64 r) := (HR.out.later hb2).cell (i := 3) rfl; have HB2 : Hid (Below w.heap.size w w2) := Below.after HB.out hb2; clear hb2)
          refine bodyPost_ret (v := .bool true) ?_ rfl ⟨true, rfl, fun _ => ⟨HAll.out, ⟨by rw [HF.out.2]; exact HP.out.1, HP.out.2⟩, HN.out⟩, HB2.out⟩
          simp [results, Tryz.f9, go_sem]
        · have HN : Hid (¬ (n : Int) ≤ r) := hnr
          go_wp2_with (go_at_call 33; refine hpl.mono ?_; rintro e w2 ⟨rfl, hb2⟩; have y3 : w2.cell? ⟨w.heap.size, 3, none⟩ = some (.int .i64 r) := (HR.out.later hb2).cell (i := 3) rfl; have HB2 : Hid (Below w.heap.size w w2) := Below.after HB.out hb2; clear hb2)
          refine bodyPost_ret (v := .bool false) ?_ rfl ⟨false, rfl, by simp, HB2.out⟩
          simp [results, Tryz.f9, go_sem, HN.out]
      · rw [planB_no hP] at hpl
        clear hP
        go_wp2_with (go_at_call 33; refine hpl.mono ?_; rintro e w2 ⟨rfl, hb2⟩; have HB2 : Hid (Below w.heap.size w w2) := Below.after HB.out hb2; clear hb2)
        refine bodyPost_ret (v := .bool false) ?_ rfl ⟨false, rfl, by simp, HB2.out⟩
        simp [results, Tryz.f9, go_sem]

/-- A manager of a new chip, and nothing wrong with it. -/
theorem fresh_fine (gb gp gz gr : Nat) (w : World) (hr : rightB gb gp gz gr = true) (hG : Hd.Glb w) (hT : Typed w) (h1 : 0 < w.heap.size) (h2 : 1 < w.heap.size) :
    Calls Tryz.prog 8 #[.agg #[.int .i64 gb, .int .i64 gp, .int .i64 gz, .int .i64 gr]] w fun e w' => ∃ m c P, e = .returned (.pointer (some ⟨m.p, 0, none⟩)) ∧ New w gb gp gz gr m c P w' ∧ Fine c := by
  have hb0 := below_new w (.cells #[.int .i64 gb, .int .i64 gp, .int .i64 gz, .int .i64 gr] 23)
  have HB0 := hidV hb0
  have cN := fun W => new_chip gb gp gz gr W hr
  have HF : Hid (∀ c W, Lies w.heap.size W c → Fresh c → Below w.heap.size w W → Calls Tryz.prog 32 #[.pointer (some ⟨c.p, 0, none⟩)] W fun e w' => ∃ m c' P, e = .returned (.tuple #[.pointer (some ⟨m.p, 0, none⟩), .int .i64 0]) ∧ Al w.heap.size 1 w c.gz w' m c' P (fun _ => none) ∧ Gm c c' ∧ c'.fs = []) := fun c W hl hf hb =>
    format_al hl hf (hG.later hb) h1 (hT.later hb) h2 ⟨hb.os, hb.tape, hb.output, hb.size, fun k hk _ => hb.block k hk⟩
  clear hG hT h1 h2 hb0 hr
  go_enter Tryz.func8, Tryz.ntmps8
  go_wp2_with (first
    | (go_at_call 31; refine (cN _).mono ?_; rintro e w1 ⟨c, rfl, hl, hf, hn1, hn2, hn3, hn4, hb1⟩; have HN := hidV (show c.gb = gb ∧ c.gp = gp ∧ c.gz = gz ∧ c.gr = gr from ⟨hn1, hn2, hn3, hn4⟩); have HL : Hid (Lies w.heap.size w1 c ∧ Fresh c ∧ Below w.heap.size w w1) := ⟨lies_low hl HB0.out.size, hf, Below.after HB0.out hb1⟩; clear hl hf hn1 hn2 hn3 hn4 hb1)
    | (go_at_call 32; refine (HF.out c _ HL.out.1 HL.out.2.1 HL.out.2.2).mono ?_; rintro e w2 ⟨m, c', P, rfl, ha, hgm, hfs⟩; have HA := hidV (show New w gb gp gz gr m c' P w2 ∧ Fine c' from ⟨⟨by rw [hgm.gz]; exact ha, ⟨hgm.gb.trans HN.out.1, hgm.gp.trans HN.out.2.1, hgm.gz.trans HN.out.2.2.1, hgm.gr.trans HN.out.2.2.2⟩, ⟨ha.kp.os, ha.kp.tape, ha.kp.output, ha.kp.size, fun k hk => ha.kp.block k hk (by omega)⟩, hfs⟩, hgm.fine ⟨HL.out.2.1.fs, fun b hb => (HL.out.2.1.blk b hb).2.2.2⟩⟩); clear ha hgm hfs))
  go_ret
  exact ⟨m, c', P, rfl, HA.out.1, HA.out.2⟩
/-- A new manager whose chip has a plan armed. -/
theorem New.arm {W0 wr : World} {gb gp gz gr : Nat} {m : Mg} {c : CS} {P : List (List (List Nat))} (h : New W0 gb gp gz gr m c P wr) (hf : Fine c) (a : Option Addr) (n cap : Nat) (l : List Flt) (hF : FArg wr a n cap l) (hk : ∀ x ∈ l, x.kind = 2) (hp : n ≤ 256 ∧ planOk l) (hl : (n : Int) ≤ gr) :
    Calls Tryz.prog 12 #[.pointer (some ⟨c.p, 0, none⟩), .slice a n cap] wr fun e w' => e = .returned (.int .i64 0) ∧ ∃ c5 : CS, c5.p = c.p ∧ (c5.gb = gb ∧ c5.gp = gp ∧ c5.gz = gz ∧ c5.gr = gr) ∧ Al W0.heap.size 257 W0 gz w' m c5 P (fun _ => none) := by
  have hA := h.al
  refine (arm_yes hA.ms.ml.chip c.p rfl a n cap l hF.len_eq hF.row hp).mono ?_
  rintro e w' ⟨rfl, s, hperm, _, hlies, hkf⟩
  have hlow : ∀ k, c.foot k → W0.heap.size ≤ k := hA.ms.ml.chip.low
  have nf : ∀ {B : Nat} {cs : List Value} {ty : TypeId}, Row wr B cs ty → ty ≠ 77 → ty ≠ 119 → ty ≠ 216 → ¬ c.foot B := fun hr h1 h2 h3 => hA.ms.ml.chip.apart hr h1 h2 h3
  refine ⟨rfl, { c with fs := s, steps := 0 }, rfl, h.num, ⟨⟨⟨?_, ?_, hlies, hA.ms.ml.len, hA.ms.ml.cap, hA.ms.ml.low⟩, hA.ms.rp.armed hf (fun x hx => hk x (hperm.mem_iff.1 hx)) (by rw [hperm.length_eq, ← hF.len_eq, h.num.2.2.2]; omega), ?_, hA.ms.gb, hA.ms.rt⟩, ?_, hA.fn, hA.kp.trans (hkf.mono hlow), hA.hb, h.num.2.2.1⟩⟩
  · exact hA.ms.ml.box.kept hkf (nf hA.ms.ml.box (by decide) (by decide) (by decide))
  · exact hA.ms.ml.row.kept hkf (nf hA.ms.ml.row (by decide) (by decide) (by decide))
  · exact hA.ms.ty.keep hkf (fun e => by have := hlow _ e; have := hA.ms.gb; omega)
  · exact Glb.kp hA.gl hkf (fun e => by have := hlow _ e; have := hA.hb; omega)
end Go.Proofs.YteodcjbbkekidaaGreatDoor
