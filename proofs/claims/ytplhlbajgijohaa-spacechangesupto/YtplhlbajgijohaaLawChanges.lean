/-
  SpaceChanges, second form: of any nodes, any group and any limit Change and Room of the program answer what those of the document answer, and the chapter's examples come out. Condition: the arguments are together of bulk at most 1048576 (the first form is false by size: the document's own list outgrows what can be).
-/
import Derived.Test.YtplhlbajgijohaaPU
namespace Go.Proofs.Ytplhlbajgijohaa.spaceChanges
open Go.ChangeShapes Go.WideShapes Go.ChangeAt Go.RowKit Go.Deep Go.Proofs.Ytplhlbajgijohaa
set_option maxRecDepth 10000

set_option maxHeartbeats 4000000 in
theorem walk (a : Option Addr) (len cap : Nat) (l : List Nw) (a2 : Option Addr) (len2 cap2 : Nat) (g : List Nw) (limit : Int) (w : World) (hl' : NArg w a len cap l ∧ cap ≤ 1048576 ∧ okU l ∧ (a = none → len = 0 ∧ cap = 0)) (hg' : NArg w a2 len2 cap2 g ∧ cap2 ≤ 1048576 ∧ okU g ∧ (a2 = none → len2 = 0 ∧ cap2 = 0)) (_ : (Lit.int .i64 limit).wf = true) :
    Calls Try.prog 5 #[.slice a len cap, .slice a2 len2 cap2, .int .i64 limit] w fun e w' => e = .returned (.bool true) ∧ Below w.heap.size w w' := by
  obtain ⟨hl, hc1, _, _⟩ := hl'
  obtain ⟨hg, hc2, _, _⟩ := hg'
  have h1 := hl.le
  have h2 := hg.le
  have k1 := fun W (h : Below w.heap.size w W) => changeC_any a len cap l a2 len2 cap2 g W (hl.later h) (hg.later h) (by omega) (by omega)
  have k2 := fun W (h : Below w.heap.size w W) => rchange_any a len cap l a2 len2 cap2 g W (hl.later h) (hg.later h) (by omega) (by omega)
  have k3 := fun W (h : Below w.heap.size w W) => roomC_any a len cap l a2 len2 cap2 g limit W (hl.later h) (hg.later h) (by omega) (by omega)
  have k4 := fun W (h : Below w.heap.size w W) => rroom_any a len cap l a2 len2 cap2 g limit W (hl.later h) (hg.later h) (by omega) (by omega)
  have k5 := fun W => alive_any W
  generalize roomF l g limit = R at *
  generalize aft l = A at *
  generalize aft (l ++ g) = B at *
  clear hl hg hc1 hc2 h1 h2
  go_enter Try.func5, Try.ntmps5
  go_wp2_with (first
    | (go_at_call 28; refine (k1 _ (Below.refl _ _)).mono ?_; rintro e w1 ⟨rfl, hb⟩; have B1 : Hid (Below w.heap.size w w1) := hb; clear hb k1)
    | (go_at_call 29; refine (k2 _ B1.out).mono ?_; rintro e w2 ⟨rfl, hb⟩; have B2 : Hid (Below w.heap.size w w2) := Below.after B1.out hb; clear hb k2)
    | (go_at_call 30; refine (k3 _ B2.out).mono ?_; rintro e w3 ⟨rfl, hb⟩; have B3 : Hid (Below w.heap.size w w3) := Below.after B2.out hb; clear hb k3)
    | (go_at_call 31; refine (k4 _ B3.out).mono ?_; rintro e w4 ⟨rfl, hb⟩; have B4 : Hid (Below w.heap.size w w4) := Below.after B3.out hb; clear hb k4)
    | (go_at_call 17; refine (k5 _).mono ?_; rintro e w5 ⟨rfl, hb⟩; have B5 : Hid (Below w.heap.size w w5) := Below.after B4.out hb; clear hb k5))
  go_ret
  exact ⟨rfl, B5.out⟩

set_option maxRecDepth 100000 in
theorem contract (H : Type) (enc : TypeId × Value → H) (W : World) (base : Nat) (args : Array Value) (ds gs : List (DataW H)) (before : List MemPlace)
    (hval : ∀ (j : Nat) t v, Try.f5.params[j]? = some t → args[j]? = some v → Value.okWide Try.prog W .any base t v)
    (hW : DataW.Whole enc Try.prog Try.f5.params.toList Rows.spaceChangesSpec.vars false W args.toList ds gs before) (hk : Rows.uptoSmall H (ds ++ gs) = true) :
    Calls Try.prog 5 args W fun e W' => ∃ v, e = .returned v ∧ Rows.spaceChangesSpec.post enc Try.prog Try.f5 false true false false W args v W' := by
  have hW' := hW
  obtain ⟨p, q, hA0, hV, rfl, hfz, hnd⟩ := hW
  have hA : DataW.TrodAll enc Try.prog W 0 (fun _ => true) true Try.f5.params.toList args.toList ds p := hA0
  rw [Try.params5] at hA hval
  obtain ⟨v0, vs0, d0, ds0, p0, q0, hargs, rfl, rfl, h0, r0⟩ := trodAll_cons hA
  obtain ⟨v1, vs1, d1, ds1, p1, q1, rfl, rfl, rfl, h1, r1⟩ := trodAll_cons r0
  obtain ⟨v2, vs2, d2, ds2, p2, q2, rfl, rfl, rfl, h2, r2⟩ := trodAll_cons r1
  obtain ⟨rfl, rfl, rfl⟩ := trodAll_nil r2
  obtain rfl : args = #[v0, v1, v2] := by cases args; simp_all
  obtain ⟨rfl, rfl⟩ := trodVars_none hV
  simp only [List.append_nil] at hk
  have hb : Rows.uptoBulkAll ([d0, d1, d2] : List (DataW H)) ≤ 1048576 := of_decide_eq_true hk
  simp only [Rows.uptoBulkAll] at hb
  obtain ⟨a0, len0, cap0, rfl⟩ := okWide_slice Try.underlying27 (hval 0 27 v0 rfl rfl)
  have k0 := h0
  have lt0 : ∀ x ∈ p0, x.block < W.heap.size := by obtain ⟨m, hm⟩ := k0; exact DataW.trod_lt m _ _ _ hm
  obtain ⟨l0, w0⟩ : ∃ l, NArg W a0 len0 cap0 l ∧ cap0 ≤ 1048576 ∧ okU l ∧ (a0 = none → len0 = 0 ∧ cap0 = 0) := by
    obtain ⟨fuel, hf⟩ := h0
    obtain ⟨l, hl⟩ := narg_open hf
    obtain ⟨q1, q2, q3⟩ := narg_bulk hl (by omega)
    exact ⟨l, q1, q2, q3, narg_nil hf⟩
  obtain ⟨a1, len1, cap1, rfl⟩ := okWide_slice Try.underlying27 (hval 1 27 v1 rfl rfl)
  have k1 := h1
  have lt1 : ∀ x ∈ p1, x.block < W.heap.size := by obtain ⟨m, hm⟩ := k1; exact DataW.trod_lt m _ _ _ hm
  obtain ⟨l1, w1⟩ : ∃ l, NArg W a1 len1 cap1 l ∧ cap1 ≤ 1048576 ∧ okU l ∧ (a1 = none → len1 = 0 ∧ cap1 = 0) := by
    obtain ⟨fuel, hf⟩ := h1
    obtain ⟨l, hl⟩ := narg_open hf
    obtain ⟨q1, q2, q3⟩ := narg_bulk hl (by omega)
    exact ⟨l, q1, q2, q3, narg_nil hf⟩
  obtain ⟨a2, rfl, rfl, rfl, w2⟩ := open_int Try.underlying3 (hval 2 3 v2 rfl rfl) h2
  clear hA0
  refine (walk a0 len0 cap0 l0 a1 len1 cap1 l1 a2 W w0 w1 w2).mono fun e W' ⟨he, bel⟩ => ?_
  subst he
  exact ⟨_, rfl, _, _, _, [], _, [], hW', trodAll_mk1 (shut_bool Try.underlying4 _), (trodAll_cons_mk (Below.trod laidOut (by kernel_rfl) (of_decide_eq_true (by kernel_rfl)) k0 bel lt0) (trodAll_cons_mk (Below.trod laidOut (by kernel_rfl) (of_decide_eq_true (by kernel_rfl)) k1 bel lt1) (trodAll_cons_mk (shut_int Try.underlying3 w2) trodAll_mk0))), rfl, bel.frame _, fun h => by cases h⟩

set_option maxRecDepth 100000 in
theorem lifted (os : Os) (started : os.Started) (H : Type) (enc : TypeId × Value → H) (F : Stop.Interp) :
    ReturnsInHanded {} Try.checked os 5 .any ((Rows.OpenSpec.upto Rows.spaceChangesSpec).pre6 enc Try.prog Try.f5 Rows.spaceChangesUptoRow.domain false) (((Rows.OpenSpec.upto Rows.spaceChangesSpec).at F).post enc Try.prog Try.f5 false true false false) := by
  refine returnsInHanded_of_cond (C := Try.checked) (s := Rows.OpenSpec.upto Rows.spaceChangesSpec) (k := Rows.uptoSmall) rfl own started (by kernel_rfl) Try.func5
    (OpenSpec.witness (enc := enc) (C := Try.checked) (s := Rows.OpenSpec.upto Rows.spaceChangesSpec) (k := Rows.uptoSmall) rfl false ⟨#[], #[.slice none 0 0, .slice none 0 0, .int .i64 0], []⟩ 8 (by kernel_rfl) (by kernel_rfl) (by kernel_rfl)
      (x := ([.nil, .nil, .lit (.int .i64 0)], [], [])) (by kernel_rfl) rfl (by kernel_rfl)) ?_
  intro W base args ds gs before hval hW _ hk _
  exact contract H enc W base args ds gs before hval hW hk

theorem over : Rows.SpaceChangesUptoSaid :=
  OpenClaim.holds_of_cond 5 Try.f5 rfl rfl rfl rfl rfl rfl rfl ⟨rfl, rfl, rfl, rfl, rfl⟩ rfl rfl rfl rfl rfl (by kernel_rfl) Try.func5 (by kernel_rfl)
    (of_decide_eq_true (by kernel_rfl)) (by unfold Func.isWrapper; first | (rw [if_pos (by decide +kernel)]; kernel_rfl) | (rw [if_neg (by decide +kernel)]; exact ⟨rfl, rfl⟩))
    (fun os started H enc _ F => lifted os started H enc F)
end Go.Proofs.Ytplhlbajgijohaa.spaceChanges

namespace Go.Proofs.Ytplhlbajgijohaa
theorem spaceChangesUpto_holds : Rows.SpaceChangesUptoSaid := spaceChanges.over
#print axioms spaceChangesUpto_holds
end Go.Proofs.Ytplhlbajgijohaa
