/-
  Plans and scripts that come in, as the walks are told of them.
  A plan of failures is armed; Mild.
-/
import Derived.Test.YtfcmkkkdccnhgaaGreatDoorKS
import Derived.Test.YtfcmkkkdccnhgaaGreatDoorPI
import Derived.Test.YtfcmkkkdccnhgaaGreatDoorPG
import Derived.Test.YtfcmkkkdccnhgaaGreatDoorPF
import Derived.Deep.Slices
import Derived.Deep.SlicePairs
namespace Go.Proofs.YtfcmkkkdccnhgaaGreatDoor
open Go.ChangeShapes Go.WideShapes Go.ChangeAt Go.RowKit Go.Deep

/-- A step of a script. -/
structure OpD where
  kind : Int
  block : Int
  page : Int
  da : Option Addr
  dl : Nat
  dc : Nat
  data : List Nat
  pa : Option Addr
  pl : Nat
  pc : Nat
  plan : List Flt
theorem add_plain' (b off i : Nat) : (⟨b, off, none⟩ : Addr).add i = ⟨b, off + i, none⟩ := by unfold Addr.add; split <;> simp_all
/-- The slice's elements are the faults l. -/
structure FArg (w : World) (a : Option Addr) (len cap : Nat) (l : List Flt) : Prop where
  len_eq : len = l.length
  le : len ≤ cap
  max : cap ≤ maxLen
  row : FRow w a l
  nil : a = none → len = 0 ∧ cap = 0

set_option maxRecDepth 100000 in
theorem farg_open {H : Type} {enc : TypeId × Value → H} {w : World} {a : Option Addr} {len cap fuel : Nat} {x : DataW H × List MemPlace}
    (hf : DataW.trod enc Tryz.prog w 0 (fun _ => true) true fuel 25 [.slice a len cap] = some x) : ∃ l, FArg w a len cap l := by
  rcases open_slice Tryz.underlying25 hf with ⟨hcs, _⟩ | ⟨ad, len', cap', m, n, D, Pl, hcs, _, hl, hm, hmm, _, hx⟩
  · simp at hcs
    obtain ⟨rfl, rfl, rfl⟩ := hcs
    exact ⟨[], rfl, Nat.le_refl _, by decide, .inl rfl, fun _ => ⟨rfl, rfl⟩⟩
  · simp at hcs
    obtain ⟨rfl, rfl, rfl⟩ := hcs
    have hmm' : m = cap := by simpa using hmm
    subst hmm'
    have each : ∀ i, ∃ f : Flt, i < len → w.cell? (ad.add (i * 3)) = some (.int .i64 f.num) ∧ w.cell? (ad.add (i * 3 + 1)) = some (.int .i64 f.kind) ∧ w.cell? (ad.add (i * 3 + 2)) = some (.int .i64 f.torn) := by
      intro i
      by_cases hi : i < len
      · obtain ⟨cs', h1, h2⟩ := hx i (by omega)
        rw [show Tryz.prog.cellsOf 43 = 3 by kernel_rfl] at h1
        obtain ⟨_, hlen, hcell⟩ := World.cells?_some h1
        obtain ⟨xs, k, hk, hxy, _, hxl, hff⟩ := DataW.trod_struct Tryz.underlying43 h2
        match xs, hxl, cs', hlen with
        | [y0, y1, y2], _, [v0, v1, v2], _ =>
          have g0 := hff 0 _ rfl
          have g1 := hff 1 _ rfl
          have g2 := hff 2 _ rfl
          have ci : Tryz.prog.cellsOf 3 = 1 := by kernel_rfl
          simp [ci] at g0 g1 g2
          obtain ⟨z0, e0, _, _⟩ := DataW.trod_int Tryz.underlying3 g0
          obtain ⟨z1, e1, _, _⟩ := DataW.trod_int Tryz.underlying3 g1
          obtain ⟨z2, e2, _, _⟩ := DataW.trod_int Tryz.underlying3 g2
          have c0 := hcell 0 (by omega)
          have c1 := hcell 1 (by omega)
          have c2 := hcell 2 (by omega)
          rw [add_add] at c0 c1 c2
          simp at e0 e1 e2
          subst e0 e1 e2
          exact ⟨⟨z0, z1, z2⟩, fun _ => ⟨by simpa using c0, by simpa using c1, by simpa using c2⟩⟩
      · exact ⟨⟨0, 0, 0⟩, fun h => absurd h hi⟩
    obtain ⟨F, hF⟩ := Classical.axiomOfChoice each
    refine ⟨(List.range len).map F, by simp, hl, hm, ?_, fun h => by cases h⟩
    by_cases h0 : len = 0
    · exact .inl (by simp [h0])
    · obtain ⟨b, off, spot⟩ := ad
      have hspot : spot = none := by
        have := World.cell?_spot (hF 0 (by omega)).1
        simpa [Addr.add] using this
      subst hspot
      refine .inr ⟨b, off, rfl, fun i f hf => ?_⟩
      have hil : i < len := by
        have := (List.getElem?_eq_some_iff.1 hf).1
        simpa using this
      have hfi : F i = f := by simpa [hil] using hf
      have := hF i hil
      rw [hfi, add_plain', add_plain', add_plain'] at this
      exact this
/-- The slice's elements are the steps l. -/
structure OArg (w : World) (a : Option Addr) (len cap : Nat) (l : List OpD) : Prop where
  len_eq : len = l.length
  le : len ≤ cap
  max : cap ≤ maxLen
  row : l = [] ∨ ∃ b off, a = some ⟨b, off, none⟩ ∧ ∀ i o, l[i]? = some o → w.cell? ⟨b, off + i * 5, none⟩ = some (.int .i64 o.kind) ∧ w.cell? ⟨b, off + i * 5 + 1, none⟩ = some (.int .i64 o.block) ∧ w.cell? ⟨b, off + i * 5 + 2, none⟩ = some (.int .i64 o.page) ∧ w.cell? ⟨b, off + i * 5 + 3, none⟩ = some (.slice o.da o.dl o.dc) ∧ w.cell? ⟨b, off + i * 5 + 4, none⟩ = some (.slice o.pa o.pl o.pc)
  each : ∀ o ∈ l, BArg w o.da o.dl o.dc o.data ∧ FArg w o.pa o.pl o.pc o.plan
theorem slice_of {H : Type} {enc : TypeId × Value → H} {w : World} {t e : TypeId} {v : Value} {fuel : Nat} {x : DataW H × List MemPlace} (ht : Tryz.prog.underlying t = some (.slice e))
    (hf : DataW.trod enc Tryz.prog w 0 (fun _ => true) true fuel t [v] = some x) : ∃ a l c, v = .slice a l c := by
  rcases open_slice ht hf with ⟨hcs, _⟩ | ⟨ad, len', cap', m, n, D, Pl, hcs, _⟩
  · simp at hcs; exact ⟨_, _, _, hcs⟩
  · simp at hcs; exact ⟨_, _, _, hcs⟩
end Go.Proofs.YtfcmkkkdccnhgaaGreatDoor
namespace Go.Proofs.YtfcmkkkdccnhgaaGreatDoor
open Go.RowKit
set_option maxRecDepth 10000

theorem plies_low {base B : Nat} {w : World} {c : CS} (h : Lies base w c) (hB : B ≤ base) : Lies B w c := ⟨h.chip, h.bks, h.pgs, h.nd, fun k hk => Nat.le_trans hB (h.low k hk), h.good⟩
theorem Al.lower {base base' t : Nat} {w0 X : World} {gz : Nat} {w : World} {m : Mg} {c : CS} {P : List (List (List Nat))} {f : Cont} (h : Al base t w0 gz w m c P f) (hb : base' ≤ base) (hk : Kept (fun k => base' ≤ k) X w) (h1 : 2 < base') (h2 : 1 < base') : Al base' t X gz w m c P f :=
  ⟨⟨⟨h.ms.ml.box, h.ms.ml.row, plies_low h.ms.ml.chip hb, h.ms.ml.len, h.ms.ml.cap, ⟨Nat.le_trans hb h.ms.ml.low.1, Nat.le_trans hb h.ms.ml.low.2⟩⟩, h.ms.rp, h.ms.ty, h1, h.ms.rt⟩, h.gl, h.fn, hk, h2, h.z⟩
theorem MRep.armed {t : Nat} {m : Mg} {c : CS} {P : List (List (List Nat))} (h : MRep t m c P) (hf : Fine c) {s : List Flt} (hs : ∀ x ∈ s, x.kind = 2) (hl : s.length ≤ c.gr) : MRep (t + 256) m { c with fs := s, steps := 0 } P := by
  have hg := h.rb.geo
  have hb := h.bud
  have hc : cntS 1 m.bl = 0 := cnt_zero fun i x hx h1 => by
    have hi : i < c.gb := by rw [← h.rb.lb]; exact (List.getElem?_eq_some_iff.1 hx).1
    obtain ⟨b, y, p, hbk, hy, _, hk, _⟩ := h.rb.at hi
    rw [hx] at hy
    cases hy
    cases hk with
    | bad hbad => rw [hf.2 b (List.mem_of_getElem? hbk)] at hbad; cases hbad
    | free => exact absurd h1 (by show (2 : Int) ≠ 1; decide)
    | spoilt => exact absurd h1 (by show (3 : Int) ≠ 1; decide)
    | mapped => exact absurd h1 (by show (4 : Int) ≠ 1; decide)
  exact ⟨⟨h.rb.lc, h.rb.lb, h.rb.lp, h.rb.geo, h.rb.on, h.rb.pl, h.rb.blk, hs, by show cntS 1 m.bl + s.length ≤ c.gr; omega⟩, h.wh, h.uq, h.sp, h.lb, h.sq, fun i x hx => by have := h.cb i x hx; omega, by show m.seq + s.length ≤ _; omega, h.lost, h.wrong⟩
theorem ac_arm {X : World} {c0 : CS} {p t : Nat} {f : Cont} {W : World} {m : Mg} {c : CS} {P : List (List (List Nat))} (h : AlC X c0 p t f W m c P) (hf : Fine c) (a : Option Addr) (n cap : Nat) (l : List Flt) (hn : n = l.length) (hr : FRow W a l) (hk : ∀ x ∈ l, x.kind = 2) (hp : n ≤ 256 ∧ planOk l) (hl : l.length ≤ c.gr) :
    Calls Tryz.prog 10 #[.pointer (some ⟨c0.p, 0, none⟩), .slice a n cap] W fun e w' => e = .returned (.int .i64 0) ∧ ∃ c5 : CS, (c5.gb = c0.gb ∧ c5.gp = c0.gp ∧ c5.gz = c0.gz ∧ c5.gr = c0.gr ∧ c5.p = c0.p) ∧ AlC X c5 p (t + 256) f w' m c5 P ∧ Kept (MFoot m c) W w' := by
  have hA := h.al
  have hg := h.gm
  refine (arm_yes hA.ms.ml.chip c0.p hg.p a n cap l hn hr hp).mono ?_
  rintro e w' ⟨rfl, s, hperm, _, hlies, hkf⟩
  have hkM : Kept (MFoot m c) W w' := hkf.mono fun _ e => .inr (.inr e)
  have hlow : ∀ k, c.foot k → X.heap.size ≤ k := hA.ms.ml.chip.low
  have nf : ∀ {B : Nat} {cs : List Value} {ty : TypeId}, Row W B cs ty → ty ≠ 67 → ty ≠ 72 → ty ≠ 182 → ¬ c.foot B := fun hr h1 h2 h3 => hA.ms.ml.chip.apart hr h1 h2 h3
  refine ⟨rfl, { c with fs := s, steps := 0 }, ⟨hg.gb, hg.gp, hg.gz, hg.gr, hg.p⟩, ⟨⟨⟨⟨?_, ?_, hlies, hA.ms.ml.len, hA.ms.ml.cap, hA.ms.ml.low⟩, hA.ms.rp.armed hf (fun x hx => hk x (hperm.mem_iff.1 hx)) (by rw [hperm.length_eq]; exact hl), ?_, hA.ms.gb, hA.ms.rt⟩, ?_, hA.fn, hA.kp.trans (hkf.mono hlow), hA.hb, rfl⟩, Gm.refl _, h.p⟩, hkM⟩
  · exact hA.ms.ml.box.kept hkf (nf hA.ms.ml.box (by decide) (by decide) (by decide))
  · exact hA.ms.ml.row.kept hkf (nf hA.ms.ml.row (by decide) (by decide) (by decide))
  · exact hA.ms.ty.keep hkf (fun e => by have := hlow _ e; have := hA.ms.gb; omega)
  · exact Glb.kp hA.gl hkf (fun e => by have := hlow _ e; have := hA.hb; omega)
theorem bo_spent {X : World} {c0 : CS} {p t : Nat} {f : Cont} {d : DMg} {W : World} (h : BoS X c0 p t f d W) :
    Calls Tryz.prog 29 #[.pointer (some ⟨p, 0, none⟩)] W fun e w' => e = .returned (.bool false) ∧ Below W.heap.size W w' := by
  obtain ⟨m, c, P, h1, h2, h3⟩ := h
  obtain rfl := h1.p
  have := mspent_any h1.al.ms.ml
  rw [h1.al.ms.spent] at this
  exact this
theorem bo_wrong {X : World} {c0 : CS} {p t : Nat} {f : Cont} {d : DMg} {W : World} (h : BoS X c0 p t f d W) :
    Calls Tryz.prog 15 #[.pointer (some ⟨c0.p, 0, none⟩)] W fun e w' => e = .returned (.int .i64 0) ∧ W = w' := by
  obtain ⟨m, c, P, h1, h2, h3⟩ := h
  have := wrong_any h1.al.ms.ml.chip
  rw [h1.gm.p, h1.al.ms.rp.wrong] at this
  exact this
/-- A step on the document's manager, then on the code's. -/
theorem bo_models {X : World} {c0 : CS} {p t : Nat} {f : Cont} {d : DMg} {W : World} (h : BoS X c0 p t f d W) (o : EOp) (hB : BArg X o.da o.dl o.dc o.data) (hP : PArg X o.pa o.pl o.pc o.pages) :
    Calls Tryz.prog 8 #[.pointer (some ⟨d.p, 0, none⟩), .agg #[.int .i64 o.kind, .int .i64 o.leb, .slice o.da o.dl o.dc, .slice o.pa o.pl o.pc]] W fun e w' => e = .returned (.int .i64 (opC c0.gb c0.gp c0.gz c0.gr o f).1) ∧ ∃ m c P d', d'.p = d.p ∧ AlC X c0 p t f w' m c P ∧ DMs X.heap.size w' c0.gb c0.gp c0.gz c0.gr d' ∧ Agree c0.gb c0.gr (opC c0.gb c0.gp c0.gz c0.gr o f).2 d' := by
  have hg := h.geo
  have hb := h.below
  obtain ⟨m, c, P, h1, h2, h3⟩ := h
  refine (models_go h2 h3 o (PBArg.later hB hb) (hP.later hb) (by omega) (by omega)).mono ?_
  rintro e w' ⟨rfl, ⟨d', e1, hD, hA⟩, hk⟩
  exact ⟨rfl, m, c, P, d', e1, ⟨h1.al.beside hk h2.typed h2.foot_ge, h1.gm, h1.p⟩, hD, hA⟩
theorem bo_does {X : World} {c0 : CS} {p t : Nat} {f : Cont} {W : World} {m : Mg} {c : CS} {P : List (List (List Nat))} {d' : DMg} (o : EOp) (h1 : AlC X c0 p t f W m c P) (hD : DMs X.heap.size W c0.gb c0.gp c0.gz c0.gr d') (hA : Agree c0.gb c0.gr (opC c0.gb c0.gp c0.gz c0.gr o f).2 d') (hB : BArg X o.da o.dl o.dc o.data) (hP : PArg X o.pa o.pl o.pc o.pages) (ht : t < 2000000000) :
    Calls Tryz.prog 9 #[.pointer (some ⟨p, 0, none⟩), .agg #[.int .i64 o.kind, .int .i64 o.leb, .slice o.da o.dl o.dc, .slice o.pa o.pl o.pc]] W fun e w' => ∃ p', e = .returned (.tuple #[.pointer (some ⟨p', 0, none⟩), .int .i64 (opC c0.gb c0.gp c0.gz c0.gr o f).1]) ∧ BoS X c0 p' (t + 1) (opC c0.gb c0.gp c0.gz c0.gr o f).2 d' w' := by
  refine (doesE_go h1 o hB hP ht).mono ?_
  rintro e w' ⟨p', rfl, ⟨m', c', P', h2⟩, hk⟩
  exact ⟨p', rfl, m', c', P', h2, hD.beside h1.al.ms.ml hk, hA⟩
end Go.Proofs.YtfcmkkkdccnhgaaGreatDoor
