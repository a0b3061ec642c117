/-
  The reader's walk: which frames it hands over.
-/
import Derived.Test.YtkfecngkdlajgaaGreatDoorQC
import Derived.RangeFuncNested
import Derived.RangeFuncBound
import Derived.RangeFuncCalls
import Derived.RangeFuncLeaves
import Derived.Shelf.Abstract
import Derived.Shelf.RegionOpen
import Derived.OwnWalkIn
import Derived.TacticsInMore
import Derived.LoopNIn
import Derived.LoopIn
import Derived.Stop.RegionWithIn
import Derived.Sort.LoopGhostIn
import Derived.Sort.BigQuietIn
namespace Go.Proofs.YtkfecngkdlajgaaGreatDoor
open Go.RowKit Go.Shelf
attribute [local go_sem] Oper.semAt_some
set_option maxRecDepth 10000

/-- A reader on its way: the frames that it has handed over, where it stands. -/
structure Way (Bx Br g cap : Nat) (b : List Nat) (gz : Nat) (J : List Fm → World → Prop) (f : Nat) (pre : List Fm) (q : Nat) (sp : Bool) (X : World) : Prop where
  rd : Rdr X Br g cap b gz q sp
  bx : X.cell? ⟨Bx, 0, none⟩ = some (.pointer (some ⟨Br, 0, none⟩))
  j : J pre X
  le : q ≤ b.length
  md : q % gz ≠ gz - 1
  run : sp = false → rdr gz b (b.length + 1) 0 = (pre ++ (rdr gz b f q).1, (rdr gz b f q).2) ∧ b.length < f + q
  fin : sp = true → rdr gz b (b.length + 1) 0 = (pre, q, true)
theorem Way.out {Bx Br g cap : Nat} {b : List Nat} {gz : Nat} {J : List Fm → World → Prop} {f : Nat} {pre : List Fm} {q : Nat} {sp : Bool} {X : World} (h : Way Bx Br g cap b gz J f pre q sp X) (he : sp = true ∨ b.length ≤ q) :
    J (rdr gz b (b.length + 1) 0).1 X ∧ Rdr X Br g cap b gz (rdr gz b (b.length + 1) 0).2.1 (rdr gz b (b.length + 1) 0).2.2 := by
  cases hs : sp with
  | true =>
    have := h.fin hs
    have hr := h.rd
    rw [hs] at hr
    rw [this]
    exact ⟨h.j, hr⟩
  | false =>
    rw [hs] at he
    have hq : b.length ≤ q := by rcases he with e | e; cases e; exact e
    have := (h.run hs).1
    rw [rdr_end hq, List.append_nil] at this
    have hr := h.rd
    rw [hs] at hr
    rw [this]
    exact ⟨h.j, hr⟩
theorem Way.later {Bx Br g cap : Nat} {b : List Nat} {gz : Nat} {J : List Fm → World → Prop} {f : Nat} {pre : List Fm} {q : Nat} {sp : Bool} {X Y : World} (hJ : ∀ xs A B, J xs A → Kept (fun k => k = Br) A B → J xs B) (h : Way Bx Br g cap b gz J f pre q sp X) (hb : Below X.heap.size X Y) : Way Bx Br g cap b gz J f pre q sp Y :=
  ⟨h.rd.later hb, by rw [hb.cell (World.block_lt_of_cell? X _ h.bx)]; exact h.bx, hJ _ _ _ h.j (.of_below hb), h.le, h.md, h.run, h.fin⟩
/-- .. behind a skip. -/
theorem Way.skip {Bx Br g cap : Nat} {b : List Nat} {gz N : Nat} {J : List Fm → World → Prop} {f : Nat} {pre : List Fm} {q : Nat} {X Y : World} (hJ : ∀ xs A B, J xs A → Kept (fun k => k = Br) A B → J xs B) (hgz : 64 ≤ gz) (hN : b.length = gz * N) (hne : Bx ≠ Br) (h : Way Bx Br g cap b gz J f pre q false X) (hq : q < b.length) (hm : mrk b q = true)
    (hr : Rdr Y Br g cap b gz (if okS gz b q then rup gz (q + 1) else q) (!okS gz b q)) (hk : Kept (fun k => k = Br) X Y) : ∃ f' q' sp', f' < f ∧ Way Bx Br g cap b gz J f' pre q' sp' Y := by
  obtain ⟨r1, r2⟩ := h.run rfl
  obtain ⟨f', rfl⟩ : ∃ f', f = f' + 1 := ⟨f - 1, by omega⟩
  have hbx : Y.cell? ⟨Bx, 0, none⟩ = some (.pointer (some ⟨Br, 0, none⟩)) := (World.cell?_of_block (a := ⟨Bx, 0, none⟩) (hk.block Bx (World.block_lt_of_cell? X _ h.bx) hne)).trans h.bx
  have hj := hJ _ _ _ h.j hk
  cases ho : okS gz b q with
  | true =>
    rw [ho] at hr
    rw [rdr_skip hq hm ho] at r1
    have g1 := rup_ge (page := gz) (q + 1) (by omega)
    refine ⟨f', rup gz (q + 1), false, by omega, hr, hbx, hj, by rw [hN]; exact rup_fit (by omega) (by omega), by rw [rup_mod (by omega)]; omega, fun _ => ⟨r1, by omega⟩, fun e => by cases e⟩
  | false =>
    rw [ho] at hr
    rw [rdr_skip_no hq hm ho, List.append_nil] at r1
    exact ⟨f', q, true, by omega, hr, hbx, hj, h.le, h.md, (fun e => by cases e), fun _ => r1⟩
/-- .. behind a frame. -/
theorem Way.frame {Bx Br g cap : Nat} {b : List Nat} {gz N : Nat} {J : List Fm → World → Prop} {f : Nat} {pre : List Fm} {q : Nat} {X Y Z : World} (hgz : 64 ≤ gz) (hN : b.length = gz * N) (h : Way Bx Br g cap b gz J f pre q false X) (hq : q < b.length) (hm : mrk b q = false) (hf : isF b q = true)
    (hr : Rdr Y Br g cap b gz (bgn gz (fend b q)) (!okF gz b q)) (hbx : Y.cell? ⟨Bx, 0, none⟩ = some (.pointer (some ⟨Br, 0, none⟩))) (hh : Holds (fun k => k = Bx ∨ k = Br ∨ k = g) Y Z) (hj : J (pre ++ [(q, Hd.bodyL (b.drop q))]) Z) :
    pre ++ [(q, Hd.bodyL (b.drop q))] <+: (rdr gz b (b.length + 1) 0).1 ∧ ∃ f' q' sp', f' < f ∧ Way Bx Br g cap b gz J f' (pre ++ [(q, Hd.bodyL (b.drop q))]) q' sp' Z := by
  obtain ⟨r1, r2⟩ := h.run rfl
  obtain ⟨f', rfl⟩ : ∃ f', f = f' + 1 := ⟨f - 1, by omega⟩
  obtain ⟨a1, a2, a3, a4, a5⟩ := isF_facts hf
  have hb := bgn_le gz (fend b q)
  have hz := hr.holds hh (.inr (.inl rfl)) (.inr (.inr rfl))
  have hbz : Z.cell? ⟨Bx, 0, none⟩ = some (.pointer (some ⟨Br, 0, none⟩)) := (World.cell?_of_block (a := ⟨Bx, 0, none⟩) (hh Bx (.inl rfl))).trans hbx
  have hle : bgn gz (fend b q) ≤ b.length := by rw [hN]; exact bgn_fit (by omega) (by omega)
  have hmd := bgn_mod (page := gz) (by omega) (fend b q)
  cases ho : okF gz b q with
  | true =>
    rw [ho] at hz
    rw [rdr_frame hq hm hf ho] at r1
    refine ⟨by rw [r1]; exact ⟨(rdr gz b f' (bgn gz (fend b q))).1, by simp⟩, f', bgn gz (fend b q), false, by omega, hz, hbz, hj, hle, hmd, fun _ => ⟨by rw [r1]; simp, by omega⟩, fun e => by cases e⟩
  | false =>
    rw [ho] at hz
    rw [rdr_frame_no hq hm hf ho] at r1
    exact ⟨by rw [r1]; exact List.prefix_refl _, f', bgn gz (fend b q), true, by omega, hz, hbz, hj, hle, hmd, (fun e => by cases e), fun _ => r1⟩
theorem Way.pre {Bx Br g cap : Nat} {b : List Nat} {gz : Nat} {J : List Fm → World → Prop} {f : Nat} {pre : List Fm} {q : Nat} {X : World} (h : Way Bx Br g cap b gz J f pre q false X) (hq : q < b.length) (hm : mrk b q = false) (hf : isF b q = true) : pre ++ [(q, Hd.bodyL (b.drop q))] <+: (rdr gz b (b.length + 1) 0).1 := by
  obtain ⟨r1, r2⟩ := h.run rfl
  obtain ⟨f', rfl⟩ : ∃ f', f = f' + 1 := ⟨f - 1, by omega⟩
  cases ho : okF gz b q with
  | true => rw [rdr_frame hq hm hf ho] at r1; rw [r1]; exact ⟨(rdr gz b f' (bgn gz (fend b q))).1, by simp⟩
  | false => rw [rdr_frame_no hq hm hf ho] at r1; rw [r1]; exact List.prefix_refl _
/-- .. where no frame stands. -/
theorem Way.stop {Bx Br g cap : Nat} {b : List Nat} {gz : Nat} {J : List Fm → World → Prop} {f : Nat} {pre : List Fm} {q : Nat} {X Y : World} (hJ : ∀ xs A B, J xs A → Kept (fun k => k = Br) A B → J xs B) (hne : Bx ≠ Br) (h : Way Bx Br g cap b gz J f pre q false X) (hq : q < b.length) (hm : mrk b q = false) (hf : isF b q = false)
    (hr : Rdr Y Br g cap b gz q true) (hk : Kept (fun k => k = Br) X Y) : ∃ f', f' < f ∧ Way Bx Br g cap b gz J f' pre q true Y := by
  obtain ⟨r1, r2⟩ := h.run rfl
  obtain ⟨f', rfl⟩ : ∃ f', f = f' + 1 := ⟨f - 1, by omega⟩
  have hbx : Y.cell? ⟨Bx, 0, none⟩ = some (.pointer (some ⟨Br, 0, none⟩)) := (World.cell?_of_block (a := ⟨Bx, 0, none⟩) (hk.block Bx (World.block_lt_of_cell? X _ h.bx) hne)).trans h.bx
  rw [rdr_none hq hm hf, List.append_nil] at r1
  exact ⟨f', by omega, hr, hbx, hJ _ _ _ h.j hk, h.le, h.md, (fun e => by cases e), fun _ => r1⟩
theorem hidV {p : Prop} (h : p) : Hid p := h
/-- How a frame is handed over. -/
def fmA (g : Nat) (x : Fm) : Array Value := #[.agg #[.int .i64 (x.1 : Nat), .slice (some ⟨g, x.1 + 6, none⟩) x.2.length x.2.length]]
set_option maxHeartbeats 8000000 in
theorem frames1_stops {w : World} {Bx Br g cap : Nat} {b : List Nat} {gz N : Nat} (h : Rdr w Br g cap b gz 0 false) (hx : w.cell? ⟨Bx, 0, none⟩ = some (.pointer (some ⟨Br, 0, none⟩))) (hne : Bx ≠ Br) (hgz : 64 ≤ gz ∧ gz ≤ 512) (hc : b.length ≤ cap ∧ cap ≤ 31744) (hN : b.length = gz * N) (hlt : ∀ x ∈ b, x < 256) (n : Nat) :
    SeqSt Fence.wide n Tryz.prog 140 #[.pointer (some ⟨Bx, 0, none⟩)] (fmA g) Br (fun k => k = Bx ∨ k = Br ∨ k = g) (rdr gz b (b.length + 1) 0).1 (fun X => Rdr X Br g cap b gz (rdr gz b (b.length + 1) 0).2.1 (rdr gz b (b.length + 1) 0).2.2) w := by
  intro l J W hW hJ hY h0
  have hw0 : Way Bx Br g cap b gz J (b.length + 1) [] 0 false W := ⟨h.later hW, (hW.cell (World.block_lt_of_cell? w _ hx)).trans hx, h0, Nat.zero_le _, by simp; omega, fun _ => ⟨by simp, by omega⟩, fun e => by cases e⟩
  have HWay : Hid (Way Bx Br g cap b gz J (b.length + 1) [] 0 false W) := hw0
  obtain ⟨n0, hn⟩ : ∃ n0, n0 = b.length := ⟨_, rfl⟩
  have HN : Hid (n0 = b.length) := hn
  have HJ : Hid (∀ xs A B, J xs A → Kept (fun k => k = Br) A B → J xs B) := hJ
  have HY : Hid (∀ pre x A, J pre A → pre ++ [x] <+: (rdr gz b (b.length + 1) 0).1 → YieldAt Fence.wide (n - 1) Tryz.prog l (fmA g x) A fun e B => e = .returned (.bool true) ∧ J (pre ++ [x]) B ∧ Holds (fun k => k = Bx ∨ k = Br ∨ k = g) A B) := hY
  have HG : Hid (64 ≤ gz ∧ gz ≤ 512 ∧ b.length ≤ cap ∧ cap ≤ 31744 ∧ b.length = gz * N ∧ (∀ x ∈ b, x < 256) ∧ Bx ≠ Br) := (⟨hgz.1, hgz.2, hc.1, hc.2, hN, hlt, hne⟩ : _ ∧ _)
  have i2 : (n0 : Int) ≤ (cap : Int) := by omega
  have i3 : (cap : Int) ≤ 31744 := by omega
  clear h hx hw0 hW hJ hY h0 hn hgz hc hN hlt hne
  refine callsIn_of_wp Tryz.func140 rfl trivial ?_ rfl
  simp only [Tryz.ntmps140, List.size_toArray, List.length_cons, List.length_nil, Nat.reduceAdd, Nat.reduceSub, Array.replicate_succ, Array.replicate_zero, List.push_toArray, List.append_toArray, List.nil_append, List.cons_append]
  gi_wp2
  gi_loopg [] (b.length + 1) (fun f wr => ∃ pre q sp, Hid (Way Bx Br g cap b gz J f pre q sp wr))
  case atStart => exact ⟨[], 0, false, HWay.out⟩
  case round =>
    obtain ⟨pre, q, sp, I⟩ := hrel
    have c0 : wr.cell? ⟨Br, 0, none⟩ = some (.slice (some ⟨g, 0, none⟩) n0 cap) := by rw [HN.out]; exact I.out.rd.cells.1
    have c2 := I.out.rd.cells.2.2.1
    have c3 := I.out.rd.cells.2.2.2
    have cx := I.out.bx
    have iq : (q : Int) ≤ (n0 : Int) := by have := I.out.le; have := HN.out; omega
    by_cases hq : q < n0
    · cases sp with
      | true =>
        have HO : Hid (J (rdr gz b (b.length + 1) 0).1 wr.drew ∧ Rdr wr.drew Br g cap b gz (rdr gz b (b.length + 1) 0).2.1 (rdr gz b (b.length + 1) 0).2.2) := (I.out.later HJ.out (Below.refl _ wr).drew).out (.inl rfl)
        gi_wp2
        gi_region
        all_goals
          gi_wp2
          go_end0
          exact ⟨⟨_, rfl⟩, HO.out.2, HO.out.1⟩
      | false =>
        have hq1 : q + 2 ≤ n0 := by
          have hm := I.out.md
          have hg := HG.out
          have hn0 := HN.out
          by_cases e : q + 1 = n0
          · exfalso
            have : q + 1 = gz * N := by omega
            have e2 : (q + 1) % gz = 0 := by rw [this]; exact Nat.mul_mod_right _ _
            have hl := Nat.mod_lt q (show 0 < gz by omega)
            have hdm := Nat.div_add_mod q gz
            have : q % gz + 1 < gz := by omega
            rw [← hdm, Nat.add_assoc, Nat.mul_add_mod, Nat.mod_eq_of_lt this] at e2
            omega
          · omega
        have HQ : Hid (q < b.length) := by have := HN.out; show _ < _; omega
        obtain ⟨q2, hq2⟩ : ∃ q2, q2 = q + 2 := ⟨_, rfl⟩
        have r1 : IntKind.i64.wrap ((q : Int) + 2) = (q2 : Int) := by rw [IntKind.wrap_i64]; omega
        have r2 : q2 - q = 2 := by omega
        have r3 : (q : Int) ≤ (q2 : Int) := by omega
        have r4 : (q2 : Int) ≤ (cap : Int) := by omega
        have r5 : ¬ cap = q := by omega
        have r6 : (q : Int) < (n0 : Int) := by omega
        have r7 : (q : Int) + 2 = (q2 : Int) := by omega
        have r8 : IntKind.i64.wrap (q2 : Int) = (q2 : Int) := by rw [IntKind.wrap_i64]; omega
        have HB : Hid (∀ X c, Below wr.heap.size wr X → Calls Tryz.prog 141 #[.slice (some ⟨g, q, none⟩) 2 c] X fun e w' => e = .returned (.bool (mrk b q)) ∧ X = w') := fun X c hX => (I.out.rd.later hX).blank q 2 c (by have := HN.out; omega) (by have := HG.out; omega)
        have HI : Hid (∀ X, Below wr.heap.size wr X → Way Bx Br g cap b gz J gk pre q false X) := fun X hX => I.out.later HJ.out hX
        obtain ⟨mk, hmk⟩ : ∃ mk, mk = mrk b q := ⟨_, rfl⟩
        have HMK : Hid (mk = mrk b q) := hmk
        rw [← hmk] at HB
        clear hq1 hq2 hmk I
        gi_wp2
        gi_big_quiet_th (fail)
        obtain ⟨X, hX⟩ : ∃ X, X = wr.drewN nq := ⟨_, rfl⟩
        have HX : Hid (Below wr.heap.size wr X) := by rw [hX]; exact below_drawn wr nq
        rw [← hX]
        clear hX c0 c2 c3 cx
        have c0 : X.cell? ⟨Br, 0, none⟩ = some (.slice (some ⟨g, 0, none⟩) n0 cap) := by rw [HN.out]; exact (HI.out X HX.out).rd.cells.1
        have c2 := (HI.out X HX.out).rd.cells.2.2.1
        have cx := (HI.out X HX.out).bx
        have HBq : Hid (∀ r k c, CallsIn Fence.wide r Tryz.prog 141 #[.slice (some ⟨g, q, none⟩) 2 c] (X.drewN k) fun e w' => e = .returned (.bool mk) ∧ w' = X.drewN k) := fun r k c => callsIn_wide.2 ((HB.out _ c (Below.after HX.out (below_drawn X k))).mono fun _ _ h => ⟨h.1, h.2.symm⟩)
        clear HB
        gi_wp2
        refine wpIn_region_quiet_lit rfl (by kernel_rfl) (by kernel_rfl) ?_
        repeat (gi_big_quiet_step (fail))
        refine BigFrame.wpQuietIn_want (fun _ _ _ _ => trivial) (by rfl) ?_
        intro KK hKK
        gi_big_quiet_op
        gi_big_quiet_call (first | (refine ⟨(fun h => by cases h), ?_⟩; gi_at_call 141; refine CallsIn.quiet_of_same (HBq.out _ _ _)) | (refine ⟨trivial, (fun h => by cases h), ?_⟩; gi_at_call 141; refine CallsIn.quiet_of_same (HBq.out _ _ _)) | (trace_state; fail))
        refine wpQuietIn_nil ?_
        rintro _ ⟨nq, rfl⟩
        obtain ⟨X2, hX2⟩ : ∃ X2, X2 = X.drewN nq := ⟨_, rfl⟩
        have HX2 : Hid (Below wr.heap.size wr X2) := by rw [hX2]; exact Below.after HX.out (below_drawn X nq)
        rw [← hX2]
        clear hX2 c0 c2 cx HBq
        have HW2 : Hid (Way Bx Br g cap b gz J gk pre q false X2) := HI.out X2 HX2.out
        have cx := HW2.out.bx
        clear HI
        cases mk with
        | true =>
          have kS := skip_any HW2.out.rd ⟨HG.out.1, HG.out.2.1⟩ ⟨HG.out.2.2.1, HG.out.2.2.2.1⟩ HG.out.2.2.2.2.1 HQ.out
          gi_wp2_with (refine ⟨trivial, (fun h => by cases h), ?_⟩; gi_at_call 142; refine (callsIn_wide.2 kS).mono ?_; rintro e X3 ⟨rfl, hr3, hk3⟩; have H3 : Hid (∃ f' q' sp', f' < gk ∧ Way Bx Br g cap b gz J f' pre q' sp' X3) := (HW2.out.skip HJ.out HG.out.1 HG.out.2.2.2.2.1 HG.out.2.2.2.2.2.2 HQ.out HMK.out.symm hr3 hk3); clear hr3 hk3)
          obtain ⟨f', q', sp', hl3, hw3⟩ := H3.out
          have HW3 := hidV hw3
          clear hw3
          go_roundg f'
          case measure => exact hl3
          case rel => exact ⟨pre, q', sp', HW3.out⟩
        | false =>
          cases hf : isF b q with
          | true =>
            have kN := next_yes HW2.out.rd ⟨HG.out.1, HG.out.2.1⟩ ⟨HG.out.2.2.1, HG.out.2.2.2.1⟩ HG.out.2.2.2.2.1 HQ.out HG.out.2.2.2.2.2.1 hf
            have HF := hidV hf
            obtain ⟨z, hz⟩ : ∃ z, z = (Hd.bodyL (b.drop q)).length := ⟨_, rfl⟩
            have HZ := hidV hz
            rw [← hz] at kN
            clear hf hz
            gi_wp2_with (refine ⟨trivial, (fun h => by cases h), ?_⟩; gi_at_call 143; refine (callsIn_wide.2 kN).mono ?_; rintro e X3 ⟨rfl, hr3, hk3⟩; have HR3 := hidV hr3; have HK3 := hidV hk3; have hne3 := HG.out.2.2.2.2.2.2; have hb3 : Below X3.heap.size X3 (X3.alloc (.cells #[.int .i64 (q : Nat), .slice (some ⟨g, q + 6, none⟩) z z] 173)) := below_new X3 _; have HR4 := hidV (hr3.later hb3); have HX4 : Hid ((X3.alloc (.cells #[.int .i64 (q : Nat), .slice (some ⟨g, q + 6, none⟩) z z] 173)).cell? ⟨Bx, 0, none⟩ = some (.pointer (some ⟨Br, 0, none⟩))) := (by have := (World.cell?_of_block (a := ⟨Bx, 0, none⟩) (hk3.block Bx (World.block_lt_of_cell? X2 _ HW2.out.bx) hne3)).trans HW2.out.bx; exact (hb3.cell (World.block_lt_of_cell? X3 _ this)).trans this); obtain ⟨fn, tmps, assign, body, hy, hR⟩ := HY.out pre (q, Hd.bodyL (b.drop q)) (X3.alloc (.cells #[.int .i64 (q : Nat), .slice (some ⟨g, q + 6, none⟩) z z] 173)) (HJ.out _ _ _ (HJ.out _ _ _ HW2.out.j hk3) (.of_below hb3)) (HW2.out.pre HQ.out HMK.out.symm HF.out); unfold fmA at hy; rw [← HZ.out] at hy; clear hr3 hk3 hb3 hne3)
            have HYX : Hid (∀ X5, Holds (fun k => k = Bx ∨ k = Br ∨ k = g) (X3.alloc (.cells #[.int .i64 (q : Nat), .slice (some ⟨g, q + 6, none⟩) z z] 173)) X5 → J (pre ++ [(q, Hd.bodyL (b.drop q))]) X5 → ∃ f' q' sp', f' < gk ∧ Way Bx Br g cap b gz J f' (pre ++ [(q, Hd.bodyL (b.drop q))]) q' sp' X5) := fun X5 h1 h2 => (HW2.out.frame HG.out.1 HG.out.2.2.2.2.1 HQ.out HMK.out.symm HF.out HR4.out HX4.out h1 h2).2
            refine ⟨(fun h => by cases h), hR.mono ?_⟩
            rintro e X5 ⟨rfl, hj5, hh5⟩
            obtain ⟨f', q', sp', hl3, hw3⟩ := HYX.out X5 hh5 hj5
            have HW3 := hidV hw3
            clear hw3 hj5 hh5 hy hR
            gi_wp2
            go_roundg f'
            case measure => exact hl3
            case rel => exact ⟨_, q', sp', HW3.out⟩
          | false =>
            have kN := next_no HW2.out.rd ⟨HG.out.1, HG.out.2.1⟩ ⟨HG.out.2.2.1, HG.out.2.2.2.1⟩ HQ.out HW2.out.md HG.out.2.2.2.2.2.1 hf
            have HF := hidV hf
            clear hf
            gi_wp2_with (refine ⟨trivial, (fun h => by cases h), ?_⟩; gi_at_call 143; refine (callsIn_wide.2 kN).mono ?_; rintro e X3 ⟨rfl, hr3, hk3⟩; have H3 : Hid (∃ f', f' < gk ∧ Way Bx Br g cap b gz J f' pre q true (X3.alloc (.cells #[.int .i64 0, .slice none 0 0] 173))) := (by obtain ⟨f', h1, h2⟩ := HW2.out.stop HJ.out HG.out.2.2.2.2.2.2 HQ.out HMK.out.symm HF.out hr3 hk3; exact ⟨f', h1, h2.later HJ.out (below_new X3 _)⟩); clear hr3 hk3)
            refine ⟨(fun f h => trivial), ?_⟩
            gi_wp2
            obtain ⟨f', hl3, hw3⟩ := H3.out
            have HW3 := hidV hw3
            clear hw3
            go_roundg f'
            case measure => exact hl3
            case rel => exact ⟨pre, q, true, HW3.out⟩
    · have HO : Hid (J (rdr gz b (b.length + 1) 0).1 wr.drew ∧ Rdr wr.drew Br g cap b gz (rdr gz b (b.length + 1) 0).2.1 (rdr gz b (b.length + 1) 0).2.2) := (I.out.later HJ.out (Below.refl _ wr).drew).out (.inr (by have := HN.out; omega))
      gi_wp2
      gi_region
      all_goals
        gi_wp2
        go_end0
        exact ⟨⟨_, rfl⟩, HO.out.2, HO.out.1⟩
end Go.Proofs.YtkfecngkdlajgaaGreatDoor
