/-
  Proved: the statement that of any node and key the document's kid is told (ImageChildren), for every input.
-/
import Derived.Test.YtfalbbcbgkiejaaRIChild
import Derived.Test.YtfalbbcbgkiejaaIAlive
import Derived.OwnWalk
namespace Go.Proofs.Ytfalbbcbgkiejaa.imageChildren
open Go.ChangeShapes Go.WideShapes Go.ChangeAt Go.RowKit M
set_option maxRecDepth 10000

set_option maxHeartbeats 8000000 in
theorem walk (lv : Int) (a : Option Addr) (len cap : Nat) (l : List St) (x : K) (w : World) (_ : i64B lv) (hA : ZIn w a len cap l) (hs : cap * 40 ≤ 140737488351232) (hx : x.size ≤ maxLen) :
    Calls Try.prog 5 #[.agg #[.int .i64 lv, .slice a len cap], .string x] w fun e w' => e = .returned (.bool true) ∧ Below w.heap.size w w' := by
  have hlc := hA.arg.le
  have hln := hA.arg.len_eq
  have HM : Hid (∀ W, Bx w W w.heap.size lv a len cap l → Calls Try.prog 10 #[.agg #[.int .i64 lv, .slice a len cap]] W fun e w' => ∃ a1 n1 c1, e = .returned (.agg #[.int .i64 lv, .slice a1 n1 c1]) ∧ ZArg w' a1 n1 c1 l ∧ Bx w w' w.heap.size lv a len cap l) := fun W h => by
    refine (mine_any lv a len cap l W h.arg (by omega)).mono ?_
    rintro e w' ⟨a1, n1, c1, rfl, hz, _, hb⟩
    exact ⟨a1, n1, c1, rfl, hz, h.later hb⟩
  have HCh : Hid (∀ W a1 n1 c1, ZArg W a1 n1 c1 l → Calls Try.prog 20 #[.agg #[.int .i64 lv, .slice a1 n1 c1], .string x] W fun e w' => e = .returned (.int .i64 (chl l x)) ∧ Below W.heap.size W w') := fun W a1 n1 c1 h => child_any lv a1 n1 c1 l x W h (by have := h.len_eq; omega)
  have HRf : Hid (∀ W, Bx w W w.heap.size lv a len cap l → Calls Try.prog 21 #[.agg #[.int .i64 lv, .slice a len cap], .string x] W fun e w' => e = .returned (.int .i64 (chl l x)) ∧ Below W.heap.size W w') := fun W h => rchild_any lv a len cap l x W h.arg hx
  obtain ⟨X, hX⟩ : ∃ X, X = chl l x := ⟨_, rfl⟩
  rw [← hX] at HCh HRf
  obtain ⟨W0, hW0⟩ : ∃ W0, W0 = w.alloc (.cells #[.int .i64 lv, .slice a len cap] 24) := ⟨_, rfl⟩
  have G0 : Hid (Bx w W0 w.heap.size lv a len cap l) := by rw [hW0]; exact Bx.new hA.arg
  obtain ⟨x0, x1⟩ := G0.out.seen
  clear hA hs hx hln hX
  go_enter Try.func5, Try.ntmps5
  go_wp2_with fail
  rw [← hW0]
  clear hW0
  go_region_held3 (fun w' => w'.cell? ⟨w.heap.size, 0, none⟩ = some (.int .i64 lv) ∧ w'.cell? ⟨w.heap.size, 1, none⟩ = some (.slice a len cap)) (first | assumption | go_keep) (first
    | (go_at_call 10; refine (HM.out W0.drew G0.out.drew).mono ?_; rintro e w1 ⟨a1, n1, c1, rfl, hz1, hb1⟩; have HZ1 : Hid (ZArg w1 a1 n1 c1 l) := hz1; have G1 : Hid (Bx w w1 w.heap.size lv a len cap l) := hb1; have y0 := hb1.seen.1; have y1 := hb1.seen.2; clear hz1 hb1)
    | (go_at_call 20; refine (HCh.out _ _ _ _ HZ1.out).mono ?_; rintro e w2 ⟨rfl, hb2⟩; have G2 : Hid (Bx w w2 w.heap.size lv a len cap l) := G1.out.later hb2; have z0 := G2.out.seen.1; have z1 := G2.out.seen.2; clear hb2)
    | (go_at_call 21; refine (HRf.out w2 G2.out).mono ?_; rintro e w3 ⟨rfl, hb3⟩; have G3 : Hid (Bx w w3 w.heap.size lv a len cap l) := G2.out.later hb3; have v0 := G3.out.seen.1; have v1 := G3.out.seen.2; clear hb3)
    | (go_at_call 16; refine (alive_any _).mono ?_; rintro e w5 ⟨rfl, hb5⟩; have G5 : Hid (Bx w w5 w.heap.size lv a len cap l) := G3.out.later hb5; have u0 := G5.out.seen.1; have u1 := G5.out.seen.2; clear hb5))
  go_wp2
  go_ret
  exact ⟨rfl, G5.out.bel⟩
set_option maxRecDepth 100000 in
theorem lifted (os : Os) (started : os.Started) (H : Type) (enc : TypeId × Value → H) :
    ReturnsInHanded {} Try.checked os 5 .any (Rows.imageChildrenSpec.pre6 enc Try.prog Try.f5 Rows.imageChildrenRow.domain false) (Rows.imageChildrenSpec.post enc Try.prog Try.f5 false true false false) := by
  refine returnsInHanded_of_change_sized (C := Try.checked) own started (by kernel_rfl) Try.func5
    (ChangeSpec.witness6 (enc := enc) (C := Try.checked) false ⟨#[], #[.agg #[.int .i64 0, .slice none 0 0], .string ⟨#[]⟩], []⟩ 8 (by kernel_rfl) (by kernel_rfl) (by kernel_rfl) (by kernel_rfl)) ?_
  intro W base args ds gs before hval0 hW hcnd hsz0 _
  have hval : ∀ (j : Nat) t v, Try.f5.params[j]? = some t → args[j]? = some v → Value.okWide Try.prog W .any base t v := hval0
  have hsz : (DataW.weightsEach Try.prog (Try.f5.params.toList ++ Rows.imageChildrenSpec.plain.varTypes Try.prog) (ds ++ gs)).all (· ≤ reachBytes) = true := hsz0
  have hW' := hW
  obtain ⟨p, q, hA0, hV, rfl, hfz, hnd⟩ := hW
  have hA : DataW.TrodAll enc Try.prog W 0 (fun _ => true) true Try.f5.params.toList args.toList ds p := hA0
  rw [Try.params5] at hA hval hsz
  obtain ⟨v0, vs0, d0, ds0, p0, q0, hargs, rfl, rfl, h0, r0⟩ := trodAll_cons hA
  obtain ⟨v1, vs1, d1, ds1, p1, q1, rfl, rfl, rfl, h1, r1⟩ := trodAll_cons r0
  obtain ⟨rfl, rfl, rfl⟩ := trodAll_nil r1
  obtain rfl : args = #[v0, v1] := by cases args; simp_all
  obtain ⟨rfl, rfl⟩ := trodVars_none hV
  obtain ⟨cs0, rfl, sz0⟩ := okWide_struct Try.underlying24 (hval 0 24 v0 rfl rfl)
  have k0 := h0
  have lt0 : ∀ x ∈ p0, x.block < W.heap.size := by obtain ⟨m, hm⟩ := k0; exact DataW.trod_lt m _ _ _ hm
  obtain ⟨lv0, a0, len0, cap0, l0, rfl, b0, w0, s0⟩ : ∃ lv a len cap l, cs0 = #[.int .i64 lv, .slice a len cap] ∧ i64B lv ∧ ZIn W a len cap l ∧ cap * 40 ≤ 140737488351232 := by
    obtain ⟨fuel, hf⟩ := h0
    obtain ⟨lv, a, len, cap, l, e, hb, hl, hd⟩ := iarg_open sz0 hf
    refine ⟨lv, a, len, cap, l, e, hb, hl, ?_⟩
    rcases hd with h | ⟨d0, elems, spare, rfl, hc⟩
    · omega
    have := sized_img hsz (j := 0) rfl rfl
    rw [hc] at this
    simp only [reachBytes] at this
    omega
  obtain ⟨a1, rfl, rfl, rfl, w1⟩ := Go.ChangeMaps.open_string Try.underlying9 (hval 1 9 v1 rfl rfl) h1
  clear hA0 hval0
  refine (walk lv0 a0 len0 cap0 l0 a1 W b0 w0 s0 w1).mono fun e W' ⟨he, bel⟩ => ?_
  subst he
  exact ⟨_, rfl, _, _, _, [], _, [], hW', trodAll_mk1 (shut_bool Try.underlying4 _), (trodAll_cons_mk (Below.trod laidOut (by kernel_rfl) (of_decide_eq_true (by kernel_rfl)) k0 bel lt0) (trodAll_cons_mk (Go.ChangeMaps.shut_string Try.underlying9 w1) trodAll_mk0)), rfl, bel.frame _, fun h => by cases h⟩

theorem over : Rows.imageChildrenRow.holds Try.pinned (OpenSpec.ofChange Rows.imageChildrenSpec) :=
  OpenClaim.holds_of_wide 5 Try.f5 rfl rfl rfl rfl rfl rfl rfl ⟨rfl, rfl, rfl, rfl, rfl⟩ rfl rfl rfl rfl rfl (by kernel_rfl) Try.func5 (by kernel_rfl)
    (of_decide_eq_true (by kernel_rfl)) (by unfold Func.isWrapper; first | (rw [if_pos (by decide +kernel)]; kernel_rfl) | (rw [if_neg (by decide +kernel)]; exact ⟨rfl, rfl⟩))
    (fun os started H enc _ => lifted os started H enc)
end Go.Proofs.Ytfalbbcbgkiejaa.imageChildren

namespace Go.Proofs.Ytfalbbcbgkiejaa
theorem imageChildren_holds : Rows.ImageChildrenSaid := imageChildren.over
#print axioms imageChildren_holds
end Go.Proofs.Ytfalbbcbgkiejaa
