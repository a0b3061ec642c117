/-
  A manager over a chip as it is: it is new.
  A right manager's chip is attached anew: the new manager is right, and what lay there is as it was.
  The example that must come at any rate.
-/
import Derived.Test.YtccfalafphjkpaaGreatDoorKD
import Derived.Test.YtccfalafphjkpaaGreatDoorKQ
import Derived.Lib.SlBytesConst
namespace Go.Proofs.YtccfalafphjkpaaGreatDoor
open Go.RowKit
set_option maxRecDepth 10000

set_option maxHeartbeats 2000000 in
theorem over_new {base : Nat} {w : World} {c : CS} (h : Lies base w c) (hon : c.on = true) (hg : Hd.Glb w) :
    Calls Tryz.prog 25 #[.pointer (some ⟨c.p, 0, none⟩)] w fun e w' => ∃ m : Mg, e = .returned (.tuple #[.pointer (some ⟨m.p, 0, none⟩), .int .i64 0]) ∧ MLies base w' m c ∧ m.bl = scanV c.vw ∧ (m.seq : Int) = maxS (scanV c.vw) ∧ m.lost = false ∧ Below w.heap.size w w' ∧ w.heap.size ≤ m.p ∧ w.heap.size ≤ m.bb := by
  have k1 := scan_on h c.p rfl hon hg
  have HLI : Hid (Lies base w c) := h
  have hgb := h.chip
  clear hon hgb
  have hgs := h.good.gs
  have HLen : Hid ((scanV c.vw).length = c.gb) := scanV_length c.vw
  obtain ⟨l, hl⟩ : ∃ l, l = scanV c.vw := ⟨_, rfl⟩
  rw [← hl] at k1 HLen ⊢
  have hb1 : 1 ≤ c.gb := hgs.1
  have hb2 : c.gb ≤ 256 := hgs.2.1
  clear hl h hg hgs
  go_enter Tryz.func25, Tryz.ntmps25
  go_wp2_with (go_at_call 18; refine k1.mono ?_; rintro e w1 ⟨g, cap, rfl, ho, hb⟩; have HO : Hid (OwnL w.heap.size w1 g c.gb cap l) := ho; have HB : Hid (Below w.heap.size w w1) := hb; clear ho hb)
  go_loopg [23] c.gb (fun kx s23 wr => ∃ k : Nat, k + kx = c.gb ∧ s23 = .int .i64 (k : Nat) ∧ Hid (Ov w1 wr c.p g c.gb cap (maxS (l.take k))))
  case atStart => exact ⟨0, by omega, rfl, ⟨Row.new w1 [_, _, _, _] _, below_new w1 _⟩⟩
  case round =>
    obtain ⟨k, hk, rfl, HV⟩ := hrel
    by_cases hlt : k < c.gb
    · obtain ⟨b, hb⟩ : ∃ b, l[k]? = some b := ⟨_, List.getElem?_eq_getElem (by have := HLen.out; omega)⟩
      have HS : Hid (maxS (l.take (k + 1)) = max (maxS (l.take k)) b.seq) := maxS_take hb
      have hA : BlAt wr g (k * 6) b := by
        rcases (HO.out.later HV.out.bel).row with e | ⟨b', off, e, hx⟩
        · rw [e] at hb; simp at hb
        · cases e
          have := hx k b hb
          rwa [Nat.zero_add] at this
      obtain ⟨g0, g1, g2, g3, g4, g5⟩ := hA
      obtain ⟨S, hS⟩ : ∃ S, S = maxS (l.take k) := ⟨_, rfl⟩
      rw [← hS] at HV HS
      clear hS hb
      have c2 : wr.cell? ⟨w1.heap.size, 2, none⟩ = some (.int .u64 S) := HV.out.box.cell (i := 2) rfl
      have n0 : ¬ (k : Int) < 0 := by omega
      have n1 : (k : Int) < (c.gb : Int) := by omega
      have hw : w1.heap.size < wr.heap.size := HV.out.box.lt
      have fz := HV.out.box.frozen
      go_wp2
      have HV2 : Hid (Ov w1 (wr.alloc (.cells #[.int .i64 b.st, .int .i64 b.cnt, .int .i64 b.leb, .int .i64 b.used, .int .u64 b.seq, .bool b.closed] 51)) c.p g c.gb cap S) := ⟨HV.out.box.later (below_new _ _), Below.after HV.out.bel (below_new _ _)⟩
      have hR : Row (wr.alloc (.cells #[.int .i64 b.st, .int .i64 b.cnt, .int .i64 b.leb, .int .i64 b.used, .int .u64 b.seq, .bool b.closed] 51)) wr.heap.size (blCells b) 51 := Row.new wr (blCells b) _
      obtain ⟨W2, hW2⟩ : ∃ W2, W2 = wr.alloc (.cells #[.int .i64 b.st, .int .i64 b.cnt, .int .i64 b.leb, .int .i64 b.used, .int .u64 b.seq, .bool b.closed] 51) := ⟨_, rfl⟩
      rw [← hW2] at HV2 hR ⊢
      clear hW2 g0 g1 g2 g3 g4 g5 c2 fz HV
      have d2 : W2.cell? ⟨w1.heap.size, 2, none⟩ = some (.int .u64 S) := HV2.out.box.cell (i := 2) rfl
      have d4 : W2.cell? ⟨wr.heap.size, 4, none⟩ = some (.int .u64 b.seq) := hR.cell (i := 4) rfl
      have fz := HV2.out.box.frozen
      clear hR
      go_region
      have HV3 : Hid (Ov w1 (W2.setCell ⟨w1.heap.size, 2, none⟩ (.int .u64 (max S b.seq))).drew c.p g c.gb cap (max S b.seq)) := ⟨(HV2.out.box.set (i := 2) (.int .u64 (max S b.seq)) (by simp [mgRow])).later (below_drew' _), (HV2.out.bel.setCell (Nat.le_refl _) _).drew⟩
      go_wp2
      go_roundg (c.gb - (k + 1))
      case measure => omega
      case rel => exact ⟨k + 1, by omega, by go_num, by rw [HS.out]; exact HV3⟩
    · have hkl : k = c.gb := by omega
      have HT : Hid (l.take k = l) := List.take_of_length_le (by have := HLen.out; omega)
      rw [HT.out] at HV
      clear HT
      go_wp2
      refine bodyPost_ret (v := .tuple #[.pointer (some ⟨w1.heap.size, 0, none⟩), .int .i64 0]) ?_ rfl ⟨⟨w1.heap.size, g, cap, l, (maxS l).toNat, false⟩, rfl, ?_, rfl, maxS_nat l, rfl, Below.after HB.out HV.out.bel, HB.out.size, ?_⟩
      · simp [results, Tryz.f25, go_sem]
      · obtain ⟨g', cap', e, q1, q2, q3, hr⟩ := Row.of_owns (HO.out.later HV.out.bel).2 hb1
        simp only [Value.slice.injEq, Option.some.injEq, Addr.mk.injEq] at e
        obtain rfl := e.1.1
        obtain rfl := e.2.2
        have hbs : base ≤ w.heap.size := Nat.le_trans (HLI.out.low _ (.inl rfl)) (Nat.le_of_lt (HLI.out.foot_lt (.inl rfl)))
        refine ⟨?_, hr, (HLI.out.later HB.out).later' HV.out.bel, HLen.out, ⟨by show l.length ≤ _; rw [HLen.out]; exact q1, q2⟩, ⟨Nat.le_trans hbs HB.out.size, Nat.le_trans hbs q3⟩⟩
        have := HV.out.box
        unfold mgRow at this
        unfold mgCells
        simp only [HLen.out, maxS_nat]
        exact this
      · obtain ⟨g', cap', e, q1, q2, q3, hr⟩ := Row.of_owns (HO.out.later HV.out.bel).2 hb1
        simp only [Value.slice.injEq, Option.some.injEq, Addr.mk.injEq] at e
        obtain rfl := e.1.1
        exact q3
end Go.Proofs.YtccfalafphjkpaaGreatDoor
namespace Go.Proofs.YtccfalafphjkpaaGreatDoor
open Go.RowKit
set_option maxRecDepth 10000

theorem kept_fresh {w w1 w2 : World} {m : Mg} {c : CS} (hp : w.heap.size ≤ m.p) (hbb : w.heap.size ≤ m.bb) (hb : Below w.heap.size w w1) (hk : Kept (MFoot m c) w1 w2) : Kept c.foot w w2 :=
  ⟨hk.os.trans hb.os, hk.tape.trans hb.tape, hk.output.trans hb.output, Nat.le_trans hb.size hk.size, fun k hk1 hk2 => by
    rw [hk.block k (Nat.lt_of_lt_of_le hk1 hb.size) (by
      rintro (e | e | e)
      · omega
      · omega
      · exact hk2 e)]
    exact hb.block k hk1⟩
set_option maxHeartbeats 4000000 in
/-- A right manager's chip is attached anew. -/
theorem attach_go {base t : Nat} {w : World} {m0 : Mg} {c : CS} {P : List (List (List Nat))} (h0 : Ms base t w m0 c P) (hg : Hd.Glb w) :
    Calls Tryz.prog 12 #[.pointer (some ⟨c.p, 0, none⟩)] w fun e w' => ∃ m : Mg, e = .returned (.tuple #[.pointer (some ⟨m.p, 0, none⟩), .int .i64 0]) ∧ Ms base t w' m c P ∧ m.bl = m0.bl ∧ Kept c.foot w w' ∧ w.heap.size ≤ m.p ∧ w.heap.size ≤ m.bb := by
  have kO := over_new h0.ml.chip h0.rp.rb.on hg
  rw [h0.rp.scan h0.rt] at kO
  have hsp := h0.spent
  have HN : Hid (amongF [3] 0 m0.bl = []) := among_none m0.bl 0 h0.rp.sp
  have HS : Hid (maxS m0.bl ≤ (m0.seq : Int)) := (by
    unfold maxS
    have : ∀ (l : List Bl) (a : Int), a ≤ (m0.seq : Int) → (∀ x ∈ l, x.seq ≤ (m0.seq : Int)) → l.foldl (fun a b => max a b.seq) a ≤ (m0.seq : Int) := by
      intro l
      induction l with
      | nil => intro a ha _; exact ha
      | cons y l ih =>
        intro a ha hl
        exact ih _ (by have := hl y (by simp); show max a y.seq ≤ _; omega) (fun z hz => hl z (by simp [hz]))
    refine this m0.bl 0 (by omega) (fun x hx => ?_)
    obtain ⟨i, hi⟩ := List.getElem?_of_mem hx
    by_cases h4 : x.st = 4
    · exact h0.rp.sq i x hi h4
    · have hil : i < c.gb := by rw [← h0.rp.rb.lb]; exact (List.getElem?_eq_some_iff.1 hi).1
      obtain ⟨b, y, p, _, hy, _, hk, _⟩ := h0.rp.rb.at hil
      rw [hi] at hy
      cases hy
      cases hk with
      | bad _ => show (0 : Int) ≤ _; omega
      | free => show (0 : Int) ≤ _; omega
      | spoilt => show (0 : Int) ≤ _; omega
      | mapped => exact absurd rfl h4 : maxS m0.bl ≤ (m0.seq : Int))
  have H0 : Hid (Ms base t w m0 c P) := h0
  have HC : Hid (∀ (m : Mg) (X : World) (a : Option Addr) (cc : Nat), MLies base X m c → Calls Tryz.prog 28 #[.pointer (some ⟨m.p, 0, none⟩), .slice a 0 cc] X fun e w' => e = .returned (.tuple #[.pointer (some ⟨m.p, 0, none⟩), .int .i64 0]) ∧ Ex base X m c w' m c) := fun m X a cc hX => mcleared_any hX a cc [] (.inl rfl) (fun _ _ _ h => absurd rfl h) trivial (by simp)
  clear h0 hg
  go_enter Tryz.func12, Tryz.ntmps12
  go_wp2_with (first
    | (go_at_call 25; refine kO.mono ?_; rintro e w1 ⟨m, rfl, hm, hbl, hsq, hlo, hb, hpn, hbn⟩; have HM : Hid (MLies base w1 m c ∧ m.bl = m0.bl ∧ (m.seq : Int) = maxS m0.bl ∧ m.lost = false ∧ Below w.heap.size w w1) := ⟨hm, hbl, hsq, hlo, hb⟩; have HNw : Hid (w.heap.size ≤ m.p ∧ w.heap.size ≤ m.bb) := ⟨hpn, hbn⟩; clear hpn hbn; have kS := mspent_any hm; rw [hsp] at kS; clear hm hbl hsq hlo hb)
    | (go_at_call 26; refine kS.mono ?_; rintro e w2 ⟨rfl, hb2⟩; have hm2 := HM.out.1.later hb2; have HM2 : Hid (MLies base w2 m c ∧ Below w.heap.size w w2) := ⟨hm2, Below.after HM.out.2.2.2.2 hb2⟩; have kA := among3 hm2; rw [HM.out.2.1, HN.out] at kA; clear hb2 hm2 kS)
    | (go_at_call 29; refine kA.mono ?_; rintro e w5 ⟨v5, rfl, ho5, hb5⟩; obtain ⟨a5, c5, e5, _⟩ := ho5.form2; subst e5; have HB5 : Hid (Below w.heap.size w w5) := Below.after HM2.out.2 hb5; have kC := HC.out m w5 a5 c5 (HM2.out.1.later hb5); clear ho5 hb5 kA)
    | (go_at_call 28; refine kC.mono ?_; rintro e w9 ⟨rfl, hx9⟩; have HX9 : Hid (Ex base w5 m c w9 m c) := hx9; clear hx9 kC))
  refine bodyPost_ret (v := .tuple #[.pointer (some ⟨m.p, 0, none⟩), .int .i64 0]) ?_ rfl ⟨m, rfl, ?_, HM.out.2.1, ?_, HNw.out.1, HNw.out.2⟩
  · simp [results, Tryz.f12, go_sem]
  · have h0 := H0.out
    have hbl := HM.out.2.1
    have hk : Kept (MFoot m c) w w9 := (Kept.of_below HB5.out).trans HX9.out.kp
    have hsq := HM.out.2.2.1
    refine ⟨HX9.out.ml, ⟨by rw [hbl]; exact h0.rp.rb, by rw [hbl]; exact h0.rp.wh, by rw [hbl]; exact h0.rp.uq, by rw [hbl]; exact h0.rp.sp, by rw [hbl]; exact h0.rp.lb, ?_, by rw [hbl]; exact h0.rp.cb, ?_, HM.out.2.2.2.1, h0.rp.wrong⟩, ?_, h0.gb, h0.rt⟩
    · intro i x hx _
      rw [hbl] at hx
      rw [hsq]
      exact maxS_mem m0.bl x (List.mem_of_getElem? hx)
    · have := h0.rp.bud
      have := HS.out
      omega
    · exact h0.ty.keep hk (fun hf => by have := HM.out.1.foot_ge _ hf; have := h0.gb; omega)
  · exact kept_fresh HNw.out.1 HNw.out.2 HB5.out HX9.out.kp
end Go.Proofs.YtccfalafphjkpaaGreatDoor
namespace Go.Proofs.YtccfalafphjkpaaGreatDoor
open Go.RowKit
set_option maxRecDepth 10000

/-- A right manager, with what stands in its logical blocks; all that lay below base is as it was in w0. -/
structure Al (base t : Nat) (w0 : World) (gz : Nat) (w : World) (m : Mg) (c : CS) (P : List (List (List Nat))) (f : Int → Option (List (List Nat))) : Prop where
  ms : Ms base t w m c P
  gl : Hd.Glb w
  fn : ∀ l, cont m.bl P l = f l
  kp : Kept (fun k => base ≤ k) w0 w
  hb : 1 < base
  z : c.gz = gz
theorem Al.later {base t : Nat} {w0 : World} {gz : Nat} {w w' : World} {m : Mg} {c : CS} {P : List (List (List Nat))} {f : Int → Option (List (List Nat))} (h : Al base t w0 gz w m c P f) (hb : Below w.heap.size w w') : Al base t w0 gz w' m c P f :=
  ⟨h.ms.later hb, h.gl.later hb, h.fn, h.kp.trans (.of_below hb), h.hb, h.z⟩
theorem Glb.kp {w w' : World} {S : Nat → Prop} (h : Hd.Glb w) (hk : Kept S w w') (hn : ¬ S 1) : Hd.Glb w' := by
  obtain ⟨x, hx⟩ := h
  exact ⟨x, cell_kept hk hn hx⟩
theorem Al.done {base t t' : Nat} {w0 : World} {gz : Nat} {w w' : World} {m : Mg} {c : CS} {P : List (List (List Nat))} {f g : Int → Option (List (List Nat))} (h : Al base t w0 gz w m c P f) (hd : Done base t' w m c g w') : ∃ m' c' P', Al base t' w0 gz w' m' c' P' g ∧ Gm c c' ∧ m'.p = m.p ∧ MFoot m' c' = MFoot m c ∧ Kept (MFoot m c) w w' := by
  obtain ⟨m', c', P', h1, h2, h3, h4, h5, h6⟩ := hd
  refine ⟨m', c', P', ⟨h1, Glb.kp h.gl h6 (fun hf => ?_), h2, h.kp.trans (h6.mono h.ms.ml.foot_ge), h.hb, by rw [h3.gz]; exact h.z⟩, h3, h4, h5, h6⟩
  have := h.ms.ml.foot_ge _ hf
  have := h.hb
  omega
theorem Al.rd {base t : Nat} {w0 : World} {gz : Nat} {w w' : World} {m : Mg} {c : CS} {P : List (List (List Nat))} {f : Int → Option (List (List Nat))} {l : List Nat} {a : Option Addr} {n cap : Nat} (h : Al base t w0 gz w m c P f) (hr : RdP base w m c l a n cap w') : Al base t w0 gz w' m c P f :=
  ⟨h.ms.rd hr, Glb.kp h.gl hr.kp (fun e => by have := h.ms.ml.low.1; have := h.hb; omega), h.fn, h.kp.trans (hr.kp.mono fun k e => by rw [e]; exact h.ms.ml.low.1), h.hb, h.z⟩
theorem Al.below {base t : Nat} {w0 : World} {gz : Nat} {w : World} {m : Mg} {c : CS} {P : List (List (List Nat))} {f : Int → Option (List (List Nat))} (h : Al base t w0 gz w m c P f) (hb : base ≤ w0.heap.size) : Below base w0 w := h.kp.below hb (fun _ e => e)
theorem small_any (w : World) : Calls Tryz.prog 22 #[] w fun e w' => e = .returned (.agg #[.int .i64 16, .int .i64 16, .int .i64 128, .int .i64 2]) ∧ Below w.heap.size w w' := by
  go_enter Tryz.func22, Tryz.ntmps22
  go_wp2
  refine bodyPost_ret (v := .agg #[.int .i64 16, .int .i64 16, .int .i64 128, .int .i64 2]) ?_ rfl ⟨rfl, ?_⟩
  · simp [results, Tryz.f22, go_sem]
  · exact below_new w _
theorem new_bytes (w : World) (x : Nat) : BRow (w.alloc (.cells #[.int .u8 (x : Int)] 5 (1, 2))) (some ⟨w.heap.size, 0, none⟩) [x] := by
  refine .inr ⟨w.heap.size, 0, rfl, fun i hi => ?_⟩
  simp at hi
  subst hi
  rw [Nat.zero_add, World.cell?_alloc_mark]
  rfl
theorem dt_lit {base : Nat} {W : World} {m : Mg} {c : CS} (h : MLies base W m c) (x : Nat) (hx : x < 256) : Dt (MFoot m c) (W.alloc (.cells #[.int .u8 (x : Int)] 5 (1, 2))) (some ⟨W.heap.size, 0, none⟩) [x] := by
  refine ⟨by simpa using hx, .inr ⟨W.heap.size, 0, rfl, MFoot_new h (Nat.le_refl _), ?_⟩⟩
  rcases new_bytes W x with e | ⟨b, off, e, hc⟩
  · cases e
  · cases e
    exact hc
theorem format_al {w : World} {c : CS} {base : Nat} {w0 : World} (h : Lies base w c) (hf : Fresh c) (hg : Hd.Glb w) (hgb : 1 < base) (ht : Typed w) (hte : 2 < base) (hk : Kept (fun k => base ≤ k) w0 w) :
    Calls Tryz.prog 7 #[.pointer (some ⟨c.p, 0, none⟩)] w fun e w' => ∃ m c' P, e = .returned (.tuple #[.pointer (some ⟨m.p, 0, none⟩), .int .i64 0]) ∧ Al base 1 w0 c.gz w' m c' P (fun _ => none) ∧ Gm c c' ∧ c'.fs = [] := by
  refine (format_new h hf hg hgb ht hte).mono ?_
  rintro e w' ⟨m, c', P, rfl, h1, h2, h3, h4, h5, h6⟩
  exact ⟨m, c', P, rfl, ⟨h1, Glb.kp hg h5 (by omega), h2, hk.trans h5, hgb, h3.gz⟩, h3, h6⟩
theorem al_write {base t : Nat} {w0 : World} {gz : Nat} {W : World} {m : Mg} {c : CS} {P : List (List (List Nat))} {f : Int → Option (List (List Nat))} (h : Al base t w0 gz W m c P f) (x : Nat) (hx : x < 256) (hg : (c.gr : Int) + 2 < c.gb) (hl : 2 + ((f 0).getD []).length < c.gp) (ht : t < 1000) :
    Calls Tryz.prog 23 #[.pointer (some ⟨m.p, 0, none⟩), .int .i64 0, .slice (some ⟨W.heap.size, 0, none⟩) 1 1] (W.alloc (.cells #[.int .u8 (x : Int)] 5 (1, 2))) fun e w' => e = .returned (.int .i64 0) ∧ ∃ m' c' P', Al base (t + 1) w0 gz w' m' c' P' (fun l => if l = 0 then some ((f 0).getD [] ++ [fillP gz [x]]) else f l) ∧ Gm c c' ∧ m'.p = m.p ∧ MFoot m' c' = MFoot m c ∧ Kept (MFoot m c) W w' := by
  have hb := below_new W (.cells #[.int .u8 (x : Int)] 5 (1, 2))
  have hA := h.later hb
  have hgz := h.ms.rp.rb.geo
  have := write_go hA.ms 0 1 (some ⟨W.heap.size, 0, none⟩) [x] (dt_lit h.ms.ml x hx) (by show (0 : Int) + _ + 2 < _; omega) (by simp; omega) (by show 2 + ((cont m.bl P 0).getD []).length < _; rw [h.fn 0]; exact hl) (by omega)
  refine Calls.mono this ?_
  rintro e w' ⟨rfl, hd⟩
  obtain ⟨m', c', P', h1, h2, h3, h4, h5⟩ := hA.done hd
  refine ⟨rfl, m', c', P', ⟨h1.ms, h1.gl, fun l => ?_, h1.kp, h1.hb, h1.z⟩, h2, h3, h4, (Kept.of_below hb).trans h5⟩
  rw [h1.fn l]
  show (if l = ((0 : Nat) : Int) then some ((cont m.bl P ((0 : Nat) : Int)).getD [] ++ [fillP c.gz [x]]) else cont m.bl P l) = _
  rw [h.z, h.fn l]
  have e0 : cont m.bl P ((0 : Nat) : Int) = f 0 := h.fn 0
  rw [e0]
  rfl
theorem al_change {base t : Nat} {w0 : World} {gz : Nat} {W : World} {m : Mg} {c : CS} {P : List (List (List Nat))} {f : Int → Option (List (List Nat))} (h : Al base t w0 gz W m c P f) (x : Nat) (hx : x < 256) (hg : (c.gr : Int) + 2 < c.gb) (ht : t < 1000) :
    Calls Tryz.prog 10 #[.pointer (some ⟨m.p, 0, none⟩), .int .i64 0, .slice (some ⟨W.heap.size + 1, 0, none⟩) 1 1] ((W.alloc (.cells #[.int .u8 (x : Int)] 5 (1, 2))).alloc (.cells #[.slice (some ⟨W.heap.size, 0, none⟩) 1 1] 24)) fun e w' => e = .returned (.int .i64 0) ∧ ∃ m' c' P', Al base (t + 1) w0 gz w' m' c' P' (fun l => if l = 0 then some [fillP gz [x]] else f l) ∧ Gm c c' ∧ m'.p = m.p ∧ MFoot m' c' = MFoot m c ∧ Kept (MFoot m c) W w' := by
  obtain ⟨W1, hW1⟩ : ∃ W1, W1 = W.alloc (.cells #[.int .u8 (x : Int)] 5 (1, 2)) := ⟨_, rfl⟩
  have hs1 : W1.heap.size = W.heap.size + 1 := by rw [hW1]; simp
  have hb1 : Below W.heap.size W W1 := by rw [hW1]; exact below_new W _
  have hd1 : Dt (MFoot m c) W1 (some ⟨W.heap.size, 0, none⟩) [x] := by rw [hW1]; exact dt_lit h.ms.ml x hx
  rw [← hW1, ← hs1]
  have hb2 := below_new W1 (.cells #[.slice (some ⟨W.heap.size, 0, none⟩) 1 1] 24)
  have hA := (h.later hb1).later hb2
  have hgz := h.ms.rp.rb.geo
  have hpd : PDt (MFoot m c) (W1.alloc (.cells #[.slice (some ⟨W.heap.size, 0, none⟩) 1 1] 24)) (some ⟨W1.heap.size, 0, none⟩) [[x]] := by
    refine .inr ⟨W1.heap.size, 0, rfl, MFoot_new (h.later hb1).ms.ml (Nat.le_refl _), fun i d hd => ?_⟩
    cases i with
    | succ i => simp at hd
    | zero =>
      simp at hd
      subst hd
      exact ⟨some ⟨W.heap.size, 0, none⟩, 1, (Row.new W1 [.slice (some ⟨W.heap.size, 0, none⟩) 1 1] 24).cell (i := 0) rfl, hd1.kept (.of_below hb2)⟩
  have := change_go hA.ms 0 1 (some ⟨W1.heap.size, 0, none⟩) [[x]] hpd (by show (0 : Int) + _ + 2 < _; omega) (by simp; omega) (by simp; omega) (by omega)
  refine Calls.mono this ?_
  rintro e w' ⟨rfl, hd⟩
  obtain ⟨m', c', P', h1, h2, h3, h4, h5⟩ := hA.done hd
  refine ⟨rfl, m', c', P', ⟨h1.ms, h1.gl, fun l => ?_, h1.kp, h1.hb, h1.z⟩, h2, h3, h4, (Kept.of_below (Below.after hb1 hb2)).trans h5⟩
  rw [h1.fn l]
  show (if l = ((0 : Nat) : Int) then some ([[x]].map (fillP c.gz)) else cont m.bl P l) = _
  rw [h.z, h.fn l]
  rfl
theorem al_attach {base t : Nat} {w0 : World} {gz : Nat} {W : World} {m : Mg} {c : CS} {P : List (List (List Nat))} {f : Int → Option (List (List Nat))} (h : Al base t w0 gz W m c P f) :
    Calls Tryz.prog 12 #[.pointer (some ⟨c.p, 0, none⟩)] W fun e w' => ∃ m', e = .returned (.tuple #[.pointer (some ⟨m'.p, 0, none⟩), .int .i64 0]) ∧ Al base t w0 gz w' m' c P f ∧ Kept c.foot W w' ∧ W.heap.size ≤ m'.p ∧ W.heap.size ≤ m'.bb := by
  refine (attach_go h.ms h.gl).mono ?_
  rintro e w' ⟨m', rfl, h1, h2, h3, h4, h5⟩
  refine ⟨m', rfl, ⟨h1, Glb.kp h.gl h3 (fun hf => ?_), by rw [h2]; exact h.fn, h.kp.trans (h3.mono fun k hk => h.ms.ml.chip.low k hk), h.hb, h.z⟩, h3, h4, h5⟩
  have := h.ms.ml.chip.low _ hf
  have := h.hb
  omega
theorem fill_lt (gz x : Nat) (hx : x < 256) : ∀ y ∈ fillP gz [x], y < 256 := by
  intro y hy
  unfold fillP at hy
  rcases List.mem_append.1 hy with h | h
  · simp at h; omega
  · simp at h; omega
theorem rd_open {base : Nat} {W w' : World} {m : Mg} {c : CS} {x : Nat} {a : Option Addr} {n cap : Nat} (hr : RdP base W m c (fillP c.gz [x]) a n cap w') (h : MLies base W m c) (hx : x < 256) (hz : c.gz = 128) : n = 128 ∧ ∃ b o, a = some ⟨b, o, none⟩ ∧ Dt (MFoot m c) w' (some ⟨b, o, none⟩) (fillP c.gz [x]) ∧ w'.cell? ⟨b, o, none⟩ = some (.int .u8 (x : Int)) := by
  refine ⟨by rw [hr.len, fillP_length (by simp; omega), hz], ?_⟩
  rcases hr.row with e | ⟨b, o, rfl, hc⟩
  · unfold fillP at e; simp at e
  · refine ⟨b, o, rfl, ⟨fill_lt _ _ hx, .inr ⟨b, o, rfl, ?_, hc⟩⟩, ?_⟩
    · rcases hr.fresh with e | e
      · unfold fillP at e; simp at e
      · exact MFoot_new h (e b o rfl)
    · have := hc 0 (by rw [fillP_length (by simp; omega)]; omega)
      rw [Nat.add_zero] at this
      rw [this]
      unfold fillP
      rfl
theorem dt_cell {S : Nat → Prop} {w : World} {b o x gz : Nat} (h : Dt S w (some ⟨b, o, none⟩) (fillP gz [x])) (hz : gz = 128) : w.cell? ⟨b, o, none⟩ = some (.int .u8 (x : Int)) := by
  rcases h.row with e | ⟨b', o', e, _, hc⟩
  · unfold fillP at e; simp at e
  · cases e
    have := hc 0 (by rw [fillP_length (by simp; omega)]; omega)
    rw [Nat.add_zero] at this
    rw [this]
    unfold fillP
    rfl
/-- The bytes lie on for a manager that is new. -/
theorem dt_fresh {w w' : World} {m m' : Mg} {c : CS} {a : Option Addr} {d : List Nat} (h : Dt (MFoot m c) w a d) (hk : Kept c.foot w w') (hp : w.heap.size ≤ m'.p) (hb : w.heap.size ≤ m'.bb) : Dt (MFoot m' c) w' a d := by
  refine ⟨h.lt, ?_⟩
  rcases h.row with e | ⟨b, off, e, hn, hc⟩
  · exact .inl e
  · by_cases hd : d = []
    · exact .inl hd
    · have hlt : b < w.heap.size := by
        have := hc 0 (List.length_pos_iff.2 hd)
        exact World.block_lt_of_cell? w _ this
      refine .inr ⟨b, off, e, ?_, fun i hi => cell_kept hk (fun hf => hn (.inr (.inr hf))) (hc i hi)⟩
      rintro (e2 | e2 | e2)
      · omega
      · omega
      · exact hn (.inr (.inr e2))
theorem al_read {base t : Nat} {w0 : World} {gz : Nat} {W : World} {m : Mg} {c : CS} {P : List (List (List Nat))} {f : Int → Option (List (List Nat))} (h : Al base t w0 gz W m c P f) (k : Nat) (hg : (c.gr : Int) + 2 < c.gb) (p : List (List Nat)) (hp : f 0 = some p) (l : List Nat) (hl : p[k]? = some l) :
    Calls Tryz.prog 14 #[.pointer (some ⟨m.p, 0, none⟩), .int .i64 0, .int .i64 (k : Nat)] W fun e w' => ∃ a n cap, e = .returned (.tuple #[.slice a n cap, .int .i64 0]) ∧ RdP base W m c l a n cap w' ∧ Al base t w0 gz w' m c P f := by
  refine (read_go h.ms 0 k (by omega) (by omega) p (by rw [h.fn 0]; exact hp) l hl).mono ?_
  rintro e w' ⟨a, n, cap, rfl, hr⟩
  exact ⟨a, n, cap, rfl, hr, h.rd hr⟩
end Go.Proofs.YtccfalafphjkpaaGreatDoor
