/-
  A chip with a right manager's blocks, whatever is planned for it: Arm, Attach as often as may be; no operation is begun.
-/
import Derived.Test.YtfcmkkkdccnhgaaGreatDoorPJ
namespace Go.Proofs.YtfcmkkkdccnhgaaGreatDoor
open Go.RowKit
set_option maxRecDepth 10000

set_option maxHeartbeats 4000000 in
/-- A chip none of whose blocks is spoilt is attached: nothing is done to it. -/
theorem attach_raw {base : Nat} {w : World} {c : CS} {bl : List Bl} (h : Lies base w c) (hon : c.on = true) (hg : Hd.Glb w) (hsc : scanV c.vw = bl) (hsp : spentB c = false) (hno : ∀ (i : Nat) x, bl[i]? = some x → x.st ≠ 3) :
    Calls Tryz.prog 11 #[.pointer (some ⟨c.p, 0, none⟩)] w fun e w' => ∃ m : Mg, e = .returned (.tuple #[.pointer (some ⟨m.p, 0, none⟩), .int .i64 0]) ∧ MLies base w' m c ∧ m.bl = bl ∧ (m.seq : Int) = maxS bl ∧ m.lost = false ∧ Kept c.foot w w' ∧ w.heap.size ≤ m.p ∧ w.heap.size ≤ m.bb := by
  have kO := over_new h hon hg
  rw [hsc] at kO
  have HN : Hid (amongF [3] 0 bl = []) := among_none bl 0 hno
  have HC : Hid (∀ (m : Mg) (X : World) (a : Option Addr) (cc : Nat), MLies base X m c → Calls Tryz.prog 31 #[.pointer (some ⟨m.p, 0, none⟩), .slice a 0 cc] X fun e w' => e = .returned (.tuple #[.pointer (some ⟨m.p, 0, none⟩), .int .i64 0]) ∧ Ex base X m c w' m c) := fun m X a cc hX => mcleared_any hX a cc [] (.inl rfl) (fun _ _ _ h => absurd rfl h) trivial (by simp)
  clear h hg hon hsc hno
  go_enter Tryz.func11, Tryz.ntmps11
  go_wp2_with (first
    | (go_at_call 28; refine kO.mono ?_; rintro e w1 ⟨m, rfl, hm, hbl, hsq, hlo, hb, hpn, hbn⟩; have HM : Hid (MLies base w1 m c ∧ m.bl = bl ∧ (m.seq : Int) = maxS bl ∧ m.lost = false ∧ Below w.heap.size w w1) := ⟨hm, hbl, hsq, hlo, hb⟩; have HNw : Hid (w.heap.size ≤ m.p ∧ w.heap.size ≤ m.bb) := ⟨hpn, hbn⟩; clear hpn hbn; have kS := mspent_any hm; rw [hsp] at kS; clear hm hbl hsq hlo hb)
    | (go_at_call 29; refine kS.mono ?_; rintro e w2 ⟨rfl, hb2⟩; have hm2 := HM.out.1.later hb2; have HM2 : Hid (MLies base w2 m c ∧ Below w.heap.size w w2) := ⟨hm2, Below.after HM.out.2.2.2.2 hb2⟩; have kA := among3 hm2; rw [HM.out.2.1, HN.out] at kA; clear hb2 hm2 kS)
    | (go_at_call 32; refine kA.mono ?_; rintro e w5 ⟨v5, rfl, ho5, hb5⟩; obtain ⟨a5, c5, e5, _⟩ := ho5.form2; subst e5; have HB5 : Hid (Below w.heap.size w w5) := Below.after HM2.out.2 hb5; have kC := HC.out m w5 a5 c5 (HM2.out.1.later hb5); clear ho5 hb5 kA)
    | (go_at_call 31; refine kC.mono ?_; rintro e w9 ⟨rfl, hx9⟩; have HX9 : Hid (Ex base w5 m c w9 m c) := hx9; clear hx9 kC))
  refine bodyPost_ret (v := .tuple #[.pointer (some ⟨m.p, 0, none⟩), .int .i64 0]) ?_ rfl ⟨m, rfl, HX9.out.ml, HM.out.2.1, HM.out.2.2.1, HM.out.2.2.2.1, ?_, HNw.out.1, HNw.out.2⟩
  · simp [results, Tryz.f11, go_sem]
  · exact kept_fresh HNw.out.1 HNw.out.2 HB5.out HX9.out.kp
/-- Another manager over the same blocks. -/
theorem MRep.again {t : Nat} {m0 m : Mg} {c : CS} {P : List (List (List Nat))} (h : MRep t m0 c P) (hbl : m.bl = m0.bl) (hsq : (m.seq : Int) = maxS m0.bl) (hlo : m.lost = false) : MRep t m c P := by
  have HS : maxS m0.bl ≤ (m0.seq : Int) := by
    unfold maxS
    have : ∀ (l : List Bl) (a : Int), a ≤ (m0.seq : Int) → (∀ x ∈ l, x.seq ≤ (m0.seq : Int)) → l.foldl (fun a b => max a b.seq) a ≤ (m0.seq : Int) := by
      intro l
      induction l with
      | nil => intro a ha _; exact ha
      | cons y l ih =>
        intro a ha hl
        exact ih _ (by have := hl y (by simp); show max a y.seq ≤ _; omega) (fun z hz => hl z (by simp [hz]))
    refine this m0.bl 0 (by omega) (fun x hx => ?_)
    obtain ⟨i, hi⟩ := List.getElem?_of_mem hx
    by_cases h4 : x.st = 4
    · exact h.sq i x hi h4
    · have hil : i < c.gb := by rw [← h.rb.lb]; exact (List.getElem?_eq_some_iff.1 hi).1
      obtain ⟨b, y, p, _, hy, _, hk, _⟩ := h.rb.at hil
      rw [hi] at hy
      cases hy
      cases hk with
      | bad _ => show (0 : Int) ≤ _; omega
      | free => show (0 : Int) ≤ _; omega
      | spoilt => show (0 : Int) ≤ _; omega
      | mapped => exact absurd rfl h4
  refine ⟨by rw [hbl]; exact h.rb, by rw [hbl]; exact h.wh, by rw [hbl]; exact h.uq, by rw [hbl]; exact h.sp, by rw [hbl]; exact h.lb, ?_, by rw [hbl]; exact h.cb, ?_, hlo, h.wrong⟩
  · intro i x hx _
    rw [hbl] at hx
    rw [hsq]
    exact maxS_mem m0.bl x (List.mem_of_getElem? hx)
  · have := h.bud
    omega
/-- A chip whose blocks are a right manager's m, beside the document's manager; whatever is planned for it. -/
structure Cc (X : World) (c0 : CS) (t : Nat) (f : Cont) (d : DMg) (W : World) (m : Mg) (c : CS) (P : List (List (List Nat))) (s : List Flt) (k : Int) : Prop where
  rp : MRep t m c P
  rt : rightB c.gb c.gp c.gz c.gr = true
  ch : Lies X.heap.size W { c with fs := s, steps := k }
  ty : Typed W
  gl : Hd.Glb W
  kp : Kept (fun k => X.heap.size ≤ k) X W
  e1 : 2 < X.heap.size
  e2 : 1 < X.heap.size
  fn : ∀ l, cont m.bl P l = f l
  gm : Gm c0 c
  fine : Fine c
  dm : DMs X.heap.size W c0.gb c0.gp c0.gz c0.gr d
  ag : Agree c0.gb c0.gr f d
theorem cc_of {X : World} {c0 : CS} {p t : Nat} {f : Cont} {d : DMg} {W : World} {m : Mg} {c : CS} {P : List (List (List Nat))} (h : AlC X c0 p t f W m c P) (hD : DMs X.heap.size W c0.gb c0.gp c0.gz c0.gr d) (hA : Agree c0.gb c0.gr f d) (hf : Fine c0) : Cc X c0 t f d W m c P c.fs c.steps :=
  ⟨h.al.ms.rp, h.al.ms.rt, h.al.ms.ml.chip, h.al.ms.ty, h.al.gl, h.al.kp, h.al.ms.gb, h.al.hb, h.al.fn, h.gm, h.gm.fine hf, hD, hA⟩
theorem Cc.below {X : World} {c0 : CS} {t : Nat} {f : Cont} {d : DMg} {W : World} {m : Mg} {c : CS} {P : List (List (List Nat))} {s : List Flt} {k : Int} (h : Cc X c0 t f d W m c P s k) : Below X.heap.size X W := by
  have hk := h.kp
  exact ⟨hk.os, hk.tape, hk.output, hk.size, fun k h1 => hk.block k h1 (by show ¬ X.heap.size ≤ k; omega)⟩
theorem Cc.keep {X : World} {c0 : CS} {t : Nat} {f : Cont} {d : DMg} {W : World} {m : Mg} {c : CS} {P : List (List (List Nat))} {s : List Flt} {k : Int} (h : Cc X c0 t f d W m c P s k) {W' : World} {s' : List Flt} {k' : Int} (hl : Lies X.heap.size W' { c with fs := s', steps := k' }) (hk : Kept c.foot W W') : Cc X c0 t f d W' m c P s' k' := by
  have hlow : ∀ k, c.foot k → X.heap.size ≤ k := h.ch.low
  refine ⟨h.rp, h.rt, hl, h.ty.keep hk (fun e => ?_), Glb.kp h.gl hk (fun e => ?_), h.kp.trans (hk.mono hlow), h.e1, h.e2, h.fn, h.gm, h.fine, h.dm.kept hk (fun k cs t hr ht => ?_), h.ag⟩
  · have := hlow _ e
    have := h.e1
    omega
  · have := hlow _ e
    have := h.e2
    omega
  · exact h.ch.apart hr (by rcases ht with rfl | rfl | rfl | rfl <;> decide) (by rcases ht with rfl | rfl | rfl | rfl <;> decide) (by rcases ht with rfl | rfl | rfl | rfl <;> decide)
theorem Cc.later {X : World} {c0 : CS} {t : Nat} {f : Cont} {d : DMg} {W : World} {m : Mg} {c : CS} {P : List (List (List Nat))} {s : List Flt} {k : Int} (h : Cc X c0 t f d W m c P s k) {W' : World} (hb : Below W.heap.size W W') : Cc X c0 t f d W' m c P s k :=
  h.keep (h.ch.later hb) (.of_below hb)
theorem Cc.arm {X : World} {c0 : CS} {t : Nat} {f : Cont} {d : DMg} {W : World} {m : Mg} {c : CS} {P : List (List (List Nat))} {s : List Flt} {k : Int} (h : Cc X c0 t f d W m c P s k) (a : Option Addr) (n cap : Nat) (l : List Flt) (hn : n = l.length) (hr : FRow W a l) (hp : n ≤ 256 ∧ planOk l) :
    Calls Tryz.prog 10 #[.pointer (some ⟨c0.p, 0, none⟩), .slice a n cap] W fun e w' => e = .returned (.int .i64 0) ∧ ∃ s', s'.Perm l ∧ Cc X c0 t f d w' m c P s' 0 := by
  refine (arm_yes h.ch c0.p h.gm.p a n cap l hn hr hp).mono ?_
  rintro e w' ⟨rfl, s', hperm, _, hl, hk⟩
  exact ⟨rfl, s', hperm, h.keep hl hk⟩
theorem Cc.spent {X : World} {c0 : CS} {t : Nat} {f : Cont} {d : DMg} {W : World} {m : Mg} {c : CS} {P : List (List (List Nat))} {s : List Flt} {k : Int} (h : Cc X c0 t f d W m c P s k) : spentB c = false := by
  unfold spentB
  have hl : lebsI c.gb c.gp c.gz c.gr = (c.gb : Int) - c.gr - 2 := by unfold lebsI; rw [if_pos h.rt]
  rw [hl]
  have := h.rp.rb.good
  have := h.rp.rb.room
  have := h.rp.rb.geo
  simp
  omega
theorem Cc.raw {X : World} {c0 : CS} {t : Nat} {f : Cont} {d : DMg} {W : World} {m : Mg} {c : CS} {P : List (List (List Nat))} {s : List Flt} {k : Int} (h : Cc X c0 t f d W m c P s k) :
    Calls Tryz.prog 11 #[.pointer (some ⟨c0.p, 0, none⟩)] W fun e w' => ∃ m' : Mg, e = .returned (.tuple #[.pointer (some ⟨m'.p, 0, none⟩), .int .i64 0]) ∧ MLies X.heap.size w' m' { c with fs := s, steps := k } ∧ m'.bl = m.bl ∧ (m'.seq : Int) = maxS m.bl ∧ m'.lost = false ∧ Cc X c0 t f d w' m c P s k := by
  rw [← h.gm.p]
  refine (attach_raw (bl := m.bl) h.ch h.rp.rb.on h.gl (h.rp.scan h.rt) h.spent h.rp.sp).mono ?_
  rintro e w' ⟨m', rfl, hm, hbl, hsq, hlo, hk, _, _⟩
  exact ⟨m', rfl, hm, hbl, hsq, hlo, h.keep hm.chip hk⟩
/-- With nothing planned: both managers go on. -/
theorem Cc.last {X : World} {c0 : CS} {t : Nat} {f : Cont} {d : DMg} {W : World} {m : Mg} {c : CS} {P : List (List (List Nat))} (h : Cc X c0 t f d W m c P [] 0) :
    Calls Tryz.prog 11 #[.pointer (some ⟨c0.p, 0, none⟩)] W fun e w' => ∃ p', e = .returned (.tuple #[.pointer (some ⟨p', 0, none⟩), .int .i64 0]) ∧ BoS X c0 p' (t + 256) f d w' := by
  refine h.raw.mono ?_
  rintro e w' ⟨m', rfl, hm, hbl, hsq, hlo, h'⟩
  have hr := (h.rp.armed h.fine (s := []) (fun _ hx => by simp at hx) (Nat.zero_le _)).again hbl hsq hlo
  exact ⟨m'.p, rfl, m', _, P, ⟨⟨⟨hm, hr, h'.ty, h'.e1, h'.rt⟩, h'.gl, fun l => by rw [hbl]; exact h.fn l, h'.kp, h'.e2, h'.gm.gz⟩, ⟨⟨h.gm.gb, h.gm.gp, h.gm.gz, h.gm.gr, h.gm.p, h.gm.wrong⟩, fun f0 => ⟨rfl, (h.gm.fine f0).2⟩⟩, rfl⟩, h'.dm, h'.ag⟩
/-- The chip tells that it is on. -/
theorem Cc.isOn {X : World} {c0 : CS} {t : Nat} {f : Cont} {d : DMg} {W : World} {m : Mg} {c : CS} {P : List (List (List Nat))} {s : List Flt} {k : Int} (h : Cc X c0 t f d W m c P s k) :
    Calls Tryz.prog 12 #[.pointer (some ⟨c0.p, 0, none⟩)] W fun e w' => e = .returned (.bool true) ∧ W = w' := by
  have := on_any h.ch
  rw [show ({ c with fs := s, steps := k } : CS).p = c0.p from h.gm.p, show ({ c with fs := s, steps := k } : CS).on = true from h.rp.rb.on] at this
  exact this
theorem Cc.power {X : World} {c0 : CS} {t : Nat} {f : Cont} {d : DMg} {W : World} {m : Mg} {c : CS} {P : List (List (List Nat))} {s : List Flt} {k : Int} (h : Cc X c0 t f d W m c P s k) :
    Calls Tryz.prog 13 #[.pointer (some ⟨c0.p, 0, none⟩)] W fun e w' => e = .returned (.tuple #[]) ∧ Cc X c0 t f d w' m c P s k := by
  have e0 : c.p = c0.p := h.gm.p
  rw [← e0]
  refine (power_any h.ch).mono ?_
  rintro e w' ⟨rfl, hl, hk, _⟩
  have e1 : ({ c with fs := s, steps := k, on := true } : CS) = { c with fs := s, steps := k } := by
    have ho := h.rp.rb.on
    cases c
    simp only at ho
    subst ho
    rfl
  have hl2 : Lies X.heap.size w' ({ c with fs := s, steps := k, on := true } : CS) := hl
  rw [e1] at hl2
  exact ⟨rfl, h.keep hl2 hk⟩
theorem bo_doesP {X : World} {c0 : CS} {p t : Nat} {f : Cont} {W : World} {m : Mg} {c : CS} {P : List (List (List Nat))} {d' : DMg} (o : EOp) (h1 : AlC X c0 p t f W m c P) (hD : DMs X.heap.size W c0.gb c0.gp c0.gz c0.gr d') (hA : Agree c0.gb c0.gr (opC c0.gb c0.gp c0.gz c0.gr o f).2 d') (hB : BArg X o.da o.dl o.dc o.data) (hP : PArg X o.pa o.pl o.pc o.pages) (ht : t < 2000000000) (n5 : ¬ o.kind = 5) :
    Calls Tryz.prog 9 #[.pointer (some ⟨p, 0, none⟩), .agg #[.int .i64 o.kind, .int .i64 o.leb, .slice o.da o.dl o.dc, .slice o.pa o.pl o.pc]] W fun e w' => e = .returned (.tuple #[.pointer (some ⟨p, 0, none⟩), .int .i64 (opC c0.gb c0.gp c0.gz c0.gr o f).1]) ∧ BoS X c0 p (t + 1) (opC c0.gb c0.gp c0.gz c0.gr o f).2 d' w' := by
  refine (doesP_go h1 o hB hP ht n5).mono ?_
  rintro e w' ⟨rfl, ⟨m', c', P', h2⟩, hk⟩
  exact ⟨rfl, m', c', P', h2, hD.beside h1.al.ms.ml hk, hA⟩
theorem i64_and7 (n : Int) : bits .and .i64 n 7 = n % 8 := by
  have h7 : (BitVec.ofInt 64 7).toNat = 2 ^ 3 - 1 := by decide
  have key : (BitVec.ofInt 64 n &&& BitVec.ofInt 64 7).toNat = (n % ((2 ^ 64 : Nat) : Int)).toNat % 2 ^ 3 := by
    rw [BitVec.toNat_and, BitVec.toNat_ofInt, h7, Nat.and_two_pow_sub_one_eq_mod]
  show IntKind.i64.wrap ((BitVec.ofInt 64 n &&& BitVec.ofInt 64 7).toNat : Nat) = n % 8
  rw [key, IntKind.wrap_i64]
  omega
theorem i64_and1 (n : Int) : bits .and .i64 n 1 = n % 2 := by
  have h1 : (BitVec.ofInt 64 1).toNat = 2 ^ 1 - 1 := by decide
  have key : (BitVec.ofInt 64 n &&& BitVec.ofInt 64 1).toNat = (n % ((2 ^ 64 : Nat) : Int)).toNat % 2 ^ 1 := by
    rw [BitVec.toNat_and, BitVec.toNat_ofInt, h1, Nat.and_two_pow_sub_one_eq_mod]
  show IntKind.i64.wrap ((BitVec.ofInt 64 n &&& BitVec.ofInt 64 1).toNat : Nat) = n % 2
  rw [key, IntKind.wrap_i64]
  omega
/-- The one cut that is armed. -/
theorem cut_ok (x y : Int) : 1 ≤ 256 ∧ planOk [⟨1 + x % 8, 1, y % 2⟩] := by
  refine ⟨by decide, fun f hf => ?_, by simp⟩
  simp at hf
  subst hf
  refine ⟨?_, .inl ⟨rfl, ?_⟩⟩
  · show (1 : Int) ≤ 1 + x % 8; omega
  · show y % 2 = 0 ∨ y % 2 = 1 ∨ y % 2 = 2; omega
end Go.Proofs.YtfcmkkkdccnhgaaGreatDoor
