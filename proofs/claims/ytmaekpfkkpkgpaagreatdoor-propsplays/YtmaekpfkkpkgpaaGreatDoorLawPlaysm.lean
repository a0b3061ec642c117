/-
  For all numbers and scripts: PropsPlays answers true (any calls on a book, and on a nil one, answer as the document says; all that it tells behind each does, too), and leaves its arguments as they were; given that the five variables of the library that it reaches hold what their initialisers lay (the card ties them).
-/
import Derived.Test.YtmaekpfkkpkgpaaGreatDoorYE
import Derived.Test.YtmaekpfkkpkgpaaGreatDoorYF
import Derived.Test.YtmaekpfkkpkgpaaGreatDoorBCard
namespace Go.Proofs.YtmaekpfkkpkgpaaGreatDoor.propsPlays
open Go.ChangeShapes Go.WideShapes Go.ChangeAt Go.RowKit
set_option maxRecDepth 10000

set_option maxHeartbeats 4000000 in
theorem walk_no (n size : Int) (h : ¬ newOk n size) (a : Option Addr) (m cap : Nat) (use : Int) (w : World) (hg : Gl w) :
    Calls Tryz.prog 3 #[.int .i64 n, .int .i64 size, .slice a m cap, .int .i64 use] w fun e w' => e = .returned (.bool true) ∧ Below w.heap.size w w' := by
  have kM := hidW (fun W => new_no n size h W)
  have kD := hidW (fun W => dnew_no n size h W)
  have HG := hidW hg
  clear h hg
  go_enter Tryz.func3, Tryz.ntmps3
  go_wp2_with (first
    | (go_at_call 5; refine (kM.out _).mono ?_; rintro e w1 ⟨rfl, rfl⟩)
    | (go_at_call 6; refine (kD.out _).mono ?_; rintro e w2 ⟨rfl, rfl⟩)
    | (go_at_call 7; refine (alive_any _ HG.out).mono ?_; rintro e w3 ⟨rfl, hb3⟩; have HB3 := hidW hb3; clear hb3))
  go_ret
  exact ⟨rfl, HB3.out⟩
/-- Both books behind some calls. -/
structure Pw (w : World) (p q cap P Q C : Nat) (size : Int) (l : List PB) (W : World) : Prop where
  b : BLies W p q cap size l
  d : DLies W P Q C size l
  ok : BkOk size l
  bel : Below w.heap.size w W
  hq : w.heap.size ≤ q
  hQ : w.heap.size ≤ Q
theorem Pw.later {w : World} {p q cap P Q C : Nat} {size : Int} {l : List PB} {W W' : World} (h : Pw w p q cap P Q C size l W) (hb : Below W.heap.size W W') : Pw w p q cap P Q C size l W' := ⟨h.b.later hb, h.d.later hb, h.ok, Below.after h.bel hb, h.hq, h.hQ⟩
theorem Pw.both {w : World} {p q cap P Q C : Nat} {size : Int} {l l' : List PB} {W W' : World} (h : Pw w p q cap P Q C size l W) (hb : Both W W' p q cap P Q C size l') (ho : BkOk size l') : Pw w p q cap P Q C size l' W' :=
  ⟨hb.1, hb.2.1, ho, h.bel.trans (hb.2.2.below h.bel.size (fun k e => by rcases e with rfl | rfl; exact h.hq; exact h.hQ)), h.hq, h.hQ⟩
theorem Pw.bo {w : World} {p q cap P Q C : Nat} {size : Int} {l : List PB} {W : World} (h : Pw w p q cap P Q C size l W) (hg : Gl w) : Bo p q cap P Q C size l W W := ⟨h.b, h.d, hg.later h.bel, Below.refl _ _⟩
set_option maxHeartbeats 8000000 in
theorem walk_go (n : Nat) (size : Int) (h : newOk n size) (a : Option Addr) (m cap : Nat) (os : List BOp) (use : Int) (w : World) (hA : OArg w a m cap os) (hg : Gl w) :
    Calls Tryz.prog 3 #[.int .i64 (n : Nat), .int .i64 size, .slice a m cap, .int .i64 use] w fun e w' => e = .returned (.bool true) ∧ Below w.heap.size w w' := by
  have kM := hidW (new_go n size h w)
  have kD := hidW (fun W => dnew_go n size h W)
  have HO := hidW (bkOk_new h)
  have HA := hidW hA.row
  have HL := hidW hA.len_eq
  have hm : (m : Int) ≤ 9223372036854775807 := by have h1 := hA.le; have h2 := hA.max; unfold maxLen at h2; omega
  have HG := hidW hg
  clear h hA hg
  go_enter Tryz.func3, Tryz.ntmps3
  go_wp2_with (first
    | (go_at_call 5; refine kM.out.mono ?_; rintro e w1 ⟨rfl, hl1, hb1⟩; have HM1 := hidW (And.intro hl1 hb1); clear hl1 hb1)
    | (go_at_call 6; refine (kD.out _).mono ?_; rintro e w2 ⟨rfl, hl2, hb2⟩; have HP2 := hidW (show Pw w (w.heap.size + 1) w.heap.size n (w1.heap.size + 1) w1.heap.size n size (List.replicate n PB.none) w2 from ⟨HM1.out.1.later hb2, hl2, HO.out, Below.after HM1.out.2 hb2, Nat.le_refl _, HM1.out.2.size⟩); clear hl2 hb2)
    | (go_at_call 7; refine (alive_any _ (HG.out.later HP2.out.bel)).mono ?_; rintro e w3 ⟨rfl, hb3⟩; have HP3 := hidW (HP2.out.later hb3); clear hb3))
  go_loopw [13] (fun s13 wr => ∃ (k : Nat) (l : List PB), s13 = .int .i64 (k : Int) ∧ k ≤ m ∧ k ≤ 200 ∧ Hid (Pw w (w.heap.size + 1) w.heap.size n (w1.heap.size + 1) w1.heap.size n size l wr)) (fun s13 _ => m - (intOf s13).toNat)
  case atStart => exact ⟨0, _, rfl, by omega, by omega, HP3⟩
  case round =>
    obtain ⟨k, l, rfl, hk, hk2, HK⟩ := hrel
    by_cases hkl : k < m
    · have hlt : (k : Int) < (m : Int) := by omega
      by_cases hk3 : k < 200
      · have hlt2 : (k : Int) < 200 := by omega
        have h1 : k < os.length := by rw [← HL.out]; exact hkl
        obtain ⟨o, ho⟩ : ∃ o, os[k]? = some o := ⟨_, List.getElem?_eq_getElem h1⟩
        obtain ⟨b, off, rfl⟩ : ∃ b off, a = some ⟨b, off, none⟩ := by
          rcases HA.out with e | ⟨b, off, e, _⟩
          · rw [e] at h1; simp at h1
          · exact ⟨b, off, e⟩
        have HC := hidW (fun W (hb : Below w.heap.size w W) => show W.cell? ⟨b, off + k * 3, none⟩ = some (.int .i64 o.kind) ∧ W.cell? ⟨b, off + k * 3 + 1, none⟩ = some (.int .i64 o.leb) ∧ W.cell? ⟨b, off + k * 3 + 2, none⟩ = some (.int .i64 o.n) by
          rcases orow_later HA.out hb with e | ⟨b', off', e, hc⟩
          · rw [e] at h1; simp at h1
          · cases e
            exact hc k o ho)
        obtain ⟨q0, q1, q2⟩ := HC.out wr HK.out.bel
        have hk0 : ¬ (k : Int) < 0 := by omega
        have HKL := hidW (And.intro hkl hk3)
        clear h1 ho hkl hk3
        go_wp2_with (first
          | (go_at_call 8; refine (both_any HK.out.b HK.out.d HK.out.ok o).mono ?_; rintro e u1 ⟨rfl, hb1⟩; have H1 := hidW (HK.out.both hb1 (op_ok HK.out.ok o)); obtain ⟨x0, x1, x2⟩ := HC.out u1 H1.out.bel; clear hb1 HK)
          | (go_at_call 8; refine (nil_any o _).mono ?_; rintro e u2 ⟨rfl, hb2⟩; have H2 := hidW (H1.out.later hb2); obtain ⟨y0, y1, y2⟩ := HC.out u2 H2.out.bel; clear hb2 H1)
          | (go_at_call 9; refine (looks_any (H2.out.bo HG.out) H2.out.ok o.leb use).mono ?_; rintro e u3 ⟨rfl, hb3⟩; have H3 := hidW (H2.out.later hb3); obtain ⟨z0, z1, z2⟩ := HC.out u3 H3.out.bel; clear hb3 H2)
          | (go_at_call 9; refine (looks_nil o.leb use _).mono ?_; rintro e u4 ⟨rfl, hb4⟩; have H4 := hidW (H3.out.later hb4); clear hb4 H3))
        go_roundw
        case rel => exact ⟨k + 1, _, by go_num, HKL.out.1, HKL.out.2, H4⟩
        case measure => simp [intOf]; have := HKL.out.1; omega
      · have hlt2 : ¬ (k : Int) < 200 := by omega
        clear hk3 hkl
        go_wp2_with (go_at_call 9; refine (looks_any (HK.out.bo HG.out) HK.out.ok 0 1).mono ?_; rintro e u5 ⟨rfl, hb5⟩; have H5 := hidW (HK.out.later hb5); clear hb5)
        go_ret
        exact ⟨rfl, H5.out.bel⟩
    · have hlt : ¬ (k : Int) < (m : Int) := by omega
      clear hkl
      go_wp2_with (go_at_call 9; refine (looks_any (HK.out.bo HG.out) HK.out.ok 0 1).mono ?_; rintro e u5 ⟨rfl, hb5⟩; have H5 := hidW (HK.out.later hb5); clear hb5)
      go_ret
      exact ⟨rfl, H5.out.bel⟩
theorem walk (n size : Int) (a : Option Addr) (m cap : Nat) (os : List BOp) (use : Int) (w : World) (hg : Gl w) (hA : OArg w a m cap os) :
    Calls Tryz.prog 3 #[.int .i64 n, .int .i64 size, .slice a m cap, .int .i64 use] w fun e w' => e = .returned (.bool true) ∧ Below w.heap.size w w' := by
  by_cases h : newOk n size
  · obtain ⟨k, rfl⟩ : ∃ k : Nat, n = (k : Int) := ⟨n.toNat, by have := h.1; omega⟩
    exact walk_go k size h a m cap os use w hA hg
  · exact walk_no n size h a m cap use w hg
set_option maxHeartbeats 2000000 in
set_option maxRecDepth 100000 in
theorem contract (H : Type) (enc : TypeId × Value → H) (W : World) (base : Nat) (args : Array Value) (ds gs : List (DataW H)) (before : List MemPlace)
    (hval : ∀ (j : Nat) t v, Tryz.f3.params[j]? = some t → args[j]? = some v → Value.okWide Tryz.prog W .any base t v)
    (hW : DataW.Whole enc Tryz.prog Tryz.f3.params.toList Rows.propsPlaysSpec.vars false W args.toList ds gs before) (hL : laidMetH Tryz.prog laid W)
    : Calls Tryz.prog 3 args W fun e W' => ∃ v, e = .returned v ∧ Rows.propsPlaysSpec.post enc Tryz.prog Tryz.f3 false true false false W args v W' := by
  have hW' := hW
  obtain ⟨p, q, hA0, hV, rfl, hfz, hnd⟩ := hW
  have hA : DataW.TrodAll enc Tryz.prog W 0 (fun _ => true) true Tryz.f3.params.toList args.toList ds p := hA0
  rw [Tryz.params3] at hA hval
  obtain ⟨v0, vs0, d0, ds0, p0, q0, hargs, rfl, rfl, h0, r0⟩ := trodAll_cons hA
  obtain ⟨v1, vs1, d1, ds1, p1, q1, rfl, rfl, rfl, h1, r1⟩ := trodAll_cons r0
  obtain ⟨v2, vs2, d2, ds2, p2, q2, rfl, rfl, rfl, h2, r2⟩ := trodAll_cons r1
  obtain ⟨v3, vs3, d3, ds3, p3, q3, rfl, rfl, rfl, h3, r3⟩ := trodAll_cons r2
  obtain ⟨rfl, rfl, rfl⟩ := trodAll_nil r3
  obtain rfl : args = #[v0, v1, v2, v3] := by cases args; simp_all
  obtain ⟨rfl, rfl⟩ := trodVars_none hV
  obtain ⟨a0, rfl, rfl, rfl, w0⟩ := open_int Tryz.underlying3 (hval 0 3 v0 rfl rfl) h0
  obtain ⟨a1, rfl, rfl, rfl, w1⟩ := open_int Tryz.underlying3 (hval 1 3 v1 rfl rfl) h1
  obtain ⟨a2, len2, cap2, rfl⟩ := okWide_slice Tryz.underlying22 (hval 2 22 v2 rfl rfl)
  have k2 := h2
  have lt2 : ∀ x ∈ p2, x.block < W.heap.size := by obtain ⟨m, hm⟩ := k2; exact DataW.trod_lt m _ _ _ hm
  obtain ⟨l2, w2⟩ : ∃ l, OArg W a2 len2 cap2 l := by
    obtain ⟨fuel, hf⟩ := h2
    exact oarg_open hf
  obtain ⟨a3, rfl, rfl, rfl, w3⟩ := open_int Tryz.underlying3 (hval 3 3 v3 rfl rfl) h3
  clear hA0
  refine (walk a0 a1 a2 len2 cap2 l2 a3 W (gl_of hL) w2).mono fun e W' ⟨he, bel⟩ => ?_
  subst he
  exact ⟨_, rfl, _, _, _, [], _, [], hW', trodAll_mk1 (shut_bool Tryz.underlying4 _), (trodAll_cons_mk (shut_int Tryz.underlying3 w0) (trodAll_cons_mk (shut_int Tryz.underlying3 w1) (trodAll_cons_mk (Below.trod laidOut (by kernel_rfl) (of_decide_eq_true (by kernel_rfl)) k2 bel lt2) (trodAll_cons_mk (shut_int Tryz.underlying3 w3) trodAll_mk0)))), rfl, bel.frame _, fun h => by cases h⟩

theorem reads (os : Os) {H : Type} (enc : TypeId × Value → H) : ∃ places, DataW.whole enc Tryz.prog ((laidWorld os).forCall (fun _ _ => 0) ⟨#[], #[.int .i64 0, .int .i64 0, .slice none 0 0, .int .i64 0], []⟩).memory Tryz.f3.params.toList Rows.propsPlaysSpec.vars false (#[.int .i64 0, .int .i64 0, .slice none 0 0, .int .i64 0] : Array Value).toList 8 = some ([.lit (.int .i64 0), .lit (.int .i64 0), .nil, .lit (.int .i64 0)], [], places) :=
  ⟨[], by kernel_rfl⟩
set_option maxRecDepth 100000 in
theorem lifted (os : Os) (started : os.Started) (H : Type) (enc : TypeId × Value → H) (F : Stop.Interp) :
    ReturnsInHanded {} Tryz.checked os 3 .any ((OpenSpec.ofChange Rows.propsPlaysSpec).preRow enc Tryz.prog Tryz.f3 Rows.propsPlaysRow.domain false Rows.propsPlaysRow.laid) (((OpenSpec.ofChange Rows.propsPlaysSpec).at F).post enc Tryz.prog Tryz.f3 false true false false) := by
  obtain ⟨places, hx⟩ := reads os enc
  refine returnsInHanded_of_row (C := Tryz.checked) (s := OpenSpec.ofChange Rows.propsPlaysSpec) own started (by kernel_rfl) Tryz.func3
    (witness_row_at (enc := enc) (C := Tryz.checked) false (laidWorld os) #[.int .i64 0, .int .i64 0, .slice none 0 0, .int .i64 0] (laid_os os) (by kernel_rfl) (by kernel_rfl) (by kernel_rfl)
      (OpenSpec.preRow_of_cond 8 hx (by kernel_rfl) (fun k hk => by cases hk) (by kernel_rfl) (laid_met os _))) ?_
  intro W base args ds gs before hval hW _ _ hsz hL _ _
  exact contract H enc W base args ds gs before hval hW hL
theorem said : Rows.PropsPlaysSaid :=
  OpenClaim.holds_of_cond 3 Tryz.f3 rfl rfl rfl rfl rfl rfl rfl ⟨rfl, rfl, rfl, rfl, rfl⟩ rfl rfl rfl rfl rfl (by kernel_rfl) Tryz.func3 (by kernel_rfl)
    (of_decide_eq_true (by kernel_rfl)) (by unfold Func.isWrapper; first | (rw [if_pos (by decide +kernel)]; kernel_rfl) | (rw [if_neg (by decide +kernel)]; exact ⟨rfl, rfl⟩))
    (fun os started H enc _ F => by rw [OpenClaim.pre_eq_preRow]; exact lifted os started H enc F)
set_option maxRecDepth 100000 in
theorem plain (f : FuncId) (fn : Func) (hf : Tryz.pinned.checked.prog.funcNamed "pumice/pumicelaw14.PropsPlays" = some f) (hfn : Tryz.pinned.checked.prog.funcs[f]? = some fn) :
    true = Tryz.pinned.checked.prog.looks [] ∧ ∀ (j : Nat) t, fn.params[j]? = some t → Tryz.pinned.checked.prog.wantsStandIn t = false := by
  obtain rfl : f = 3 := Option.some.inj ((show Tryz.prog.funcNamed "pumice/pumicelaw14.PropsPlays" = some 3 by kernel_rfl).symm.trans hf) |>.symm
  obtain rfl : fn = Tryz.f3 := (Option.some.inj (Tryz.func3.symm.trans hfn)).symm
  refine ⟨by kernel_rfl, fun j t ht => ?_⟩
  rw [Tryz.params3] at ht
  have hm : t ∈ [3, 3, 22, 3] := by simpa using Array.mem_of_getElem? ht
  have hall : ∀ u ∈ [3, 3, 22, 3], Tryz.prog.wantsStandIn u = false := by
    intro u hu
    simp only [List.mem_cons, List.not_mem_nil, or_false] at hu
    rcases hu with rfl | rfl | rfl | rfl
    · exact (show Tryz.prog.wantsStandIn 3 = false by kernel_rfl)
    · exact (show Tryz.prog.wantsStandIn 3 = false by kernel_rfl)
    · exact (show Tryz.prog.wantsStandIn 22 = false by kernel_rfl)
    · exact (show Tryz.prog.wantsStandIn 3 = false by kernel_rfl)
  exact hall t hm
theorem card : Rows.PropsPlaysCardSaid :=
  Claim7.holds_tied_plain_at .later [] _ _ _ _ said (fun _ h => by cases h) (by kernel_rfl) (fun _ h => by cases h) propsPlays_row_tie rfl ⟨rfl, rfl⟩ (by kernel_rfl) rfl plain (by kernel_rfl)
end Go.Proofs.YtmaekpfkkpkgpaaGreatDoor.propsPlays

namespace Go.Proofs.YtmaekpfkkpkgpaaGreatDoor
theorem propsPlays_holds : Rows.PropsPlaysCardSaid := propsPlays.card
#print axioms propsPlays_holds
end Go.Proofs.YtmaekpfkkpkgpaaGreatDoor
