/-
  SpaceCosts: of any key and value, any list of nodes, any text as a name and any size: Node, Nodes, Inode, Entry and File of the program answer what those of the document answer, and the chapter's examples come out. No condition but the reach that every statement has.
-/
import Derived.Test.YtplhlbajgijohaaPE
namespace Go.Proofs.Ytplhlbajgijohaa.spaceCosts
open Go.ChangeShapes Go.WideShapes Go.ChangeAt Go.RowKit Go.Deep Go.Proofs.Ytplhlbajgijohaa
set_option maxRecDepth 10000

set_option maxHeartbeats 4000000 in
theorem walk (k v : ByteArray) (a : Option Addr) (len cap : Nat) (l : List Nw) (n : Int) (w : World) (hk : k.size ≤ 140737488351232) (hv : v.size ≤ 140737488351232) (hl : NArg w a len cap l) (_ : cap * 40 ≤ 140737488351232) (_ : (Lit.int .i64 n).wf = true) :
    Calls Try.prog 4 #[.string k, .string v, .slice a len cap, .int .i64 n] w fun e w' => e = .returned (.bool true) ∧ Below w.heap.size w w' := by
  have k1 := fun W => node_any k v (by omega) (by omega) W
  have k2 := fun W => rnode_any k v (by omega) (by omega) W
  have k3 : ∀ W, Below w.heap.size w W → _ := fun W h => nodes_any a len cap l W (hl.later h)
  have k4 : ∀ W, Below w.heap.size w W → _ := fun W h => rnodes_any a len cap l W (hl.later h)
  have k5 := fun W => inodeC_any W
  have k6 := fun W => rinodeC_any W
  have k7 := fun W => entryC_any k (by omega) W
  have k8 := fun W => rentryC_any k hk W
  have k9 := fun W => fileC_any n W
  have k10 := fun W => rfileC_any n W
  have k11 := fun W => alive_any W
  generalize cst k v = n1 at *
  generalize nodesF l = n2 at *
  generalize 73 + k.size + k.size = n3 at *
  generalize filF (clampF n) = n4 at *
  clear hl hk hv
  go_enter Try.func4, Try.ntmps4
  go_wp2_with (first
    | (go_at_call 18; refine (k1 _).mono ?_; rintro e w1 ⟨rfl, hb⟩; have B1 : Hid (Below w.heap.size w w1) := hb; clear hb k1)
    | (go_at_call 19; refine (k2 _).mono ?_; rintro e w2 ⟨rfl, rfl⟩; clear k2)
    | (go_at_call 20; refine (k3 _ B1.out).mono ?_; rintro e w3 ⟨rfl, hb⟩; have B3 : Hid (Below w.heap.size w w3) := Below.after B1.out hb; clear hb k3)
    | (go_at_call 21; refine (k4 _ B3.out).mono ?_; rintro e w4 ⟨rfl, hb⟩; have B4 : Hid (Below w.heap.size w w4) := Below.after B3.out hb; clear hb k4)
    | (go_at_call 22; refine (k5 _).mono ?_; rintro e w5 ⟨rfl, hb⟩; have B5 : Hid (Below w.heap.size w w5) := Below.after B4.out hb; clear hb k5)
    | (go_at_call 23; refine (k6 _).mono ?_; rintro e w6 ⟨rfl, hb⟩; have B6 : Hid (Below w.heap.size w w6) := Below.after B5.out hb; clear hb k6)
    | (go_at_call 24; refine (k7 _).mono ?_; rintro e w7 ⟨rfl, hb⟩; have B7 : Hid (Below w.heap.size w w7) := Below.after B6.out hb; clear hb k7)
    | (go_at_call 25; refine (k8 _).mono ?_; rintro e w8 ⟨rfl, hb⟩; have B8 : Hid (Below w.heap.size w w8) := Below.after B7.out hb; clear hb k8)
    | (go_at_call 26; refine (k9 _).mono ?_; rintro e w9 ⟨rfl, hb⟩; have B9 : Hid (Below w.heap.size w w9) := Below.after B8.out hb; clear hb k9)
    | (go_at_call 27; refine (k10 _).mono ?_; rintro e w10 ⟨rfl, hb⟩; have B10 : Hid (Below w.heap.size w w10) := Below.after B9.out hb; clear hb k10)
    | (go_at_call 17; refine (k11 _).mono ?_; rintro e w11 ⟨rfl, hb⟩; have B11 : Hid (Below w.heap.size w w11) := Below.after B10.out hb; clear hb k11))
  go_ret
  exact ⟨rfl, B11.out⟩

set_option maxRecDepth 100000 in
theorem lifted (os : Os) (started : os.Started) (H : Type) (enc : TypeId × Value → H) :
    ReturnsInHanded {} Try.checked os 4 .any (Rows.spaceCostsSpec.pre6 enc Try.prog Try.f4 Rows.spaceCostsRow.domain false) (Rows.spaceCostsSpec.post enc Try.prog Try.f4 false true false false) := by
  refine returnsInHanded_of_change_sized (C := Try.checked) own started (by kernel_rfl) Try.func4
    (ChangeSpec.witness6 (enc := enc) (C := Try.checked) false ⟨#[], #[.string ⟨#[]⟩, .string ⟨#[]⟩, .slice none 0 0, .int .i64 0], []⟩ 8 (by kernel_rfl) (by kernel_rfl) (by kernel_rfl) (by kernel_rfl)) ?_
  intro W base args ds gs before hval0 hW hcnd hsz0 _
  have hval : ∀ (j : Nat) t v, Try.f4.params[j]? = some t → args[j]? = some v → Value.okWide Try.prog W .any base t v := hval0
  have hsz : (DataW.weightsEach Try.prog (Try.f4.params.toList ++ Rows.spaceCostsSpec.plain.varTypes Try.prog) (ds ++ gs)).all (· ≤ reachBytes) = true := hsz0
  have hW' := hW
  obtain ⟨p, q, hA0, hV, rfl, hfz, hnd⟩ := hW
  have hA : DataW.TrodAll enc Try.prog W 0 (fun _ => true) true Try.f4.params.toList args.toList ds p := hA0
  rw [Try.params4] at hA hval hsz
  obtain ⟨v0, vs0, d0, ds0, p0, q0, hargs, rfl, rfl, h0, r0⟩ := trodAll_cons hA
  obtain ⟨v1, vs1, d1, ds1, p1, q1, rfl, rfl, rfl, h1, r1⟩ := trodAll_cons r0
  obtain ⟨v2, vs2, d2, ds2, p2, q2, rfl, rfl, rfl, h2, r2⟩ := trodAll_cons r1
  obtain ⟨v3, vs3, d3, ds3, p3, q3, rfl, rfl, rfl, h3, r3⟩ := trodAll_cons r2
  obtain ⟨rfl, rfl, rfl⟩ := trodAll_nil r3
  obtain rfl : args = #[v0, v1, v2, v3] := by cases args; simp_all
  obtain ⟨rfl, rfl⟩ := trodVars_none hV
  obtain ⟨a0, rfl, rfl, rfl, w0⟩ := Go.ChangeMaps.open_string Try.underlying9 (hval 0 9 v0 rfl rfl) h0
  have s0 : a0.size ≤ 140737488351232 := by
    have := sized_string hsz (j := 0) (t := 9) rfl rfl
    rw [Array.length_toList] at this
    exact this
  obtain ⟨a1, rfl, rfl, rfl, w1⟩ := Go.ChangeMaps.open_string Try.underlying9 (hval 1 9 v1 rfl rfl) h1
  have s1 : a1.size ≤ 140737488351232 := by
    have := sized_string hsz (j := 1) (t := 9) rfl rfl
    rw [Array.length_toList] at this
    exact this
  obtain ⟨a2, len2, cap2, rfl⟩ := okWide_slice Try.underlying27 (hval 2 27 v2 rfl rfl)
  have k2 := h2
  have lt2 : ∀ x ∈ p2, x.block < W.heap.size := by obtain ⟨m, hm⟩ := k2; exact DataW.trod_lt m _ _ _ hm
  obtain ⟨l2, w2, s2⟩ : ∃ l, NArg W a2 len2 cap2 l ∧ cap2 * 40 ≤ 140737488351232 := by
    obtain ⟨fuel, hf⟩ := h2
    obtain ⟨l, hl⟩ := narg_open hf
    exact ⟨l, narg_sized hl hsz (j := 2) rfl rfl⟩
  obtain ⟨a3, rfl, rfl, rfl, w3⟩ := open_int Try.underlying3 (hval 3 3 v3 rfl rfl) h3
  clear hA0 hval0
  refine (walk a0 a1 a2 len2 cap2 l2 a3 W s0 s1 w2 s2 w3).mono fun e W' ⟨he, bel⟩ => ?_
  subst he
  exact ⟨_, rfl, _, _, _, [], _, [], hW', trodAll_mk1 (shut_bool Try.underlying4 _), (trodAll_cons_mk (Go.ChangeMaps.shut_string Try.underlying9 w0) (trodAll_cons_mk (Go.ChangeMaps.shut_string Try.underlying9 w1) (trodAll_cons_mk (Below.trod laidOut (by kernel_rfl) (of_decide_eq_true (by kernel_rfl)) k2 bel lt2) (trodAll_cons_mk (shut_int Try.underlying3 w3) trodAll_mk0)))), rfl, bel.frame _, fun h => by cases h⟩

theorem over : Rows.spaceCostsRow.holds Try.pinned (OpenSpec.ofChange Rows.spaceCostsSpec) :=
  OpenClaim.holds_of_wide 4 Try.f4 rfl rfl rfl rfl rfl rfl rfl ⟨rfl, rfl, rfl, rfl, rfl⟩ rfl rfl rfl rfl rfl (by kernel_rfl) Try.func4 (by kernel_rfl)
    (of_decide_eq_true (by kernel_rfl)) (by unfold Func.isWrapper; first | (rw [if_pos (by decide +kernel)]; kernel_rfl) | (rw [if_neg (by decide +kernel)]; exact ⟨rfl, rfl⟩))
    (fun os started H enc _ => lifted os started H enc)
end Go.Proofs.Ytplhlbajgijohaa.spaceCosts

namespace Go.Proofs.Ytplhlbajgijohaa
theorem spaceCosts_holds : Rows.SpaceCostsSaid := spaceCosts.over
#print axioms spaceCosts_holds
end Go.Proofs.Ytplhlbajgijohaa
