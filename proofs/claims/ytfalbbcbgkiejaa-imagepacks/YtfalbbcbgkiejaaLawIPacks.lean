/-
  Proved: the statement that any node of the index is written as the document's bytes, or refused (ImagePacks), for every input.
-/
import Derived.Test.YtfalbbcbgkiejaaRIPack
import Derived.Test.YtfalbbcbgkiejaaIAlive
import Derived.OwnWalk
namespace Go.Proofs.Ytfalbbcbgkiejaa.imagePacks
open Go.ChangeShapes Go.WideShapes Go.ChangeAt Go.RowKit M
set_option maxRecDepth 10000

/-- What Pack answers: bytes, an error. -/
def pkL (lv : Int) (l : List St) : List Nat := if imgOk lv l then imgL lv l else []
def pkE (lv : Int) (l : List St) : Int := if imgOk lv l then 0 else 22
theorem pack_any (lv : Int) (a : Option Addr) (len cap : Nat) (l : List St) (w : World) (h : ZArg w a len cap l) :
    Calls Try.prog 9 #[.agg #[.int .i64 lv, .slice a len cap]] w fun e w' => ∃ aa ca, e = .returned (.tuple #[.slice aa (pkL lv l).length ca, .int .i64 (pkE lv l)]) ∧ Below w.heap.size w w' ∧ BRow w' aa (pkL lv l) := by
  unfold pkL pkE
  cases hi : imgOk lv l with
  | false =>
    refine (pack_no lv a len cap l w h hi).mono ?_
    rintro e w' ⟨rfl, hb⟩
    exact ⟨none, 0, rfl, hb, .inl rfl⟩
  | true =>
    refine (pack_yes lv a len cap l w h hi).mono ?_
    rintro e w' ⟨v, rfl, ho⟩
    obtain ⟨aa, ca, rfl, h1, _, _⟩ := ho.row
    exact ⟨aa, ca, rfl, ho.2, h1⟩
theorem rpack_any (lv : Int) (a : Option Addr) (len cap : Nat) (l : List St) (w : World) (h : ZArg w a len cap l) :
    Calls Try.prog 11 #[.agg #[.int .i64 lv, .slice a len cap]] w fun e w' => ∃ aa ca, e = .returned (.tuple #[.slice aa (pkL lv l).length ca, .int .i64 (pkE lv l)]) ∧ Below w.heap.size w w' ∧ BRow w' aa (pkL lv l) := by
  unfold pkL pkE
  cases hi : imgOk lv l with
  | false =>
    refine (rpack_no lv a len cap l w h hi).mono ?_
    rintro e w' ⟨rfl, hb⟩
    exact ⟨none, 0, rfl, hb, .inl rfl⟩
  | true =>
    refine (rpack_yes lv a len cap l w h hi).mono ?_
    rintro e w' ⟨v, rfl, ho⟩
    obtain ⟨aa, ca, rfl, h1, _, _⟩ := ho.row
    exact ⟨aa, ca, rfl, ho.2, h1⟩
/-- The box of the image, and both lists of bytes. -/
structure P3 (w W : World) (lv : Int) (a : Option Addr) (len cap : Nat) (l : List St) (aa ab : Option Addr) (L : List Nat) : Prop where
  x : Bx w W w.heap.size lv a len cap l
  ra : BRow W aa L
  rb : BRow W ab L
theorem P3.later {w W W' : World} {lv : Int} {a : Option Addr} {len cap : Nat} {l : List St} {aa ab : Option Addr} {L : List Nat} (h : P3 w W lv a len cap l aa ab L) (hb : Below W.heap.size W W') : P3 w W' lv a len cap l aa ab L := ⟨h.x.later hb, h.ra.later hb, h.rb.later hb⟩
set_option maxHeartbeats 16000000 in
theorem walk (lv : Int) (a : Option Addr) (len cap : Nat) (l : List St) (w : World) (_ : i64B lv) (hA : ZIn w a len cap l) (hs : cap * 40 ≤ 140737488351232) :
    Calls Try.prog 3 #[.agg #[.int .i64 lv, .slice a len cap]] w fun e w' => e = .returned (.bool true) ∧ Below w.heap.size w w' := by
  have hlc := hA.arg.le
  have HM0 : Hid (∀ W, Bx w W w.heap.size lv a len cap l → Calls Try.prog 10 #[.agg #[.int .i64 lv, .slice a len cap]] W fun e w' => ∃ a1 n1 c1, e = .returned (.agg #[.int .i64 lv, .slice a1 n1 c1]) ∧ ZArg w' a1 n1 c1 l ∧ Below W.heap.size W w') := fun W h => by
    refine (mine_any lv a len cap l W h.arg (by omega)).mono ?_
    rintro e w' ⟨a1, n1, c1, rfl, hz, _, hb⟩
    exact ⟨a1, n1, c1, rfl, hz, hb⟩
  have HP1 : Hid (∀ W a1 n1 c1, ZArg W a1 n1 c1 l → Calls Try.prog 9 #[.agg #[.int .i64 lv, .slice a1 n1 c1]] W fun e w' => ∃ aa ca, e = .returned (.tuple #[.slice aa (pkL lv l).length ca, .int .i64 (pkE lv l)]) ∧ Below W.heap.size W w' ∧ BRow w' aa (pkL lv l)) := fun W a1 n1 c1 h => pack_any lv a1 n1 c1 l W h
  have HP2 : Hid (∀ W, Bx w W w.heap.size lv a len cap l → Calls Try.prog 11 #[.agg #[.int .i64 lv, .slice a len cap]] W fun e w' => ∃ aa ca, e = .returned (.tuple #[.slice aa (pkL lv l).length ca, .int .i64 (pkE lv l)]) ∧ Below W.heap.size W w' ∧ BRow w' aa (pkL lv l)) := fun W h => rpack_any lv a len cap l W h.arg
  have HR1 : Hid (∀ W a1 n1 c1, ZArg W a1 n1 c1 l → Calls Try.prog 12 #[.agg #[.int .i64 lv, .slice a1 n1 c1]] W fun e w' => e = .returned (.bool (imgOk lv l)) ∧ Below W.heap.size W w') := fun W a1 n1 c1 h => right_any lv a1 n1 c1 l W h
  have HR2 : Hid (∀ W, Bx w W w.heap.size lv a len cap l → Calls Try.prog 13 #[.agg #[.int .i64 lv, .slice a len cap]] W fun e w' => e = .returned (.bool (imgOk lv l)) ∧ Below W.heap.size W w') := fun W h => rright_any lv a len cap l W h.arg
  have HS1 : Hid (∀ W a1 n1 c1, ZArg W a1 n1 c1 l → Calls Try.prog 14 #[.agg #[.int .i64 lv, .slice a1 n1 c1]] W fun e w' => e = .returned (.int .i64 (sizeN lv l : Nat)) ∧ Below W.heap.size W w') := fun W a1 n1 c1 h => size_any lv a1 n1 c1 l W h
  have HS2 : Hid (∀ W, Bx w W w.heap.size lv a len cap l → Calls Try.prog 15 #[.agg #[.int .i64 lv, .slice a len cap]] W fun e w' => e = .returned (.int .i64 (sizeN lv l : Nat)) ∧ Below W.heap.size W w') := fun W h => rsize_any lv a len cap l W h.arg
  obtain ⟨S, hS⟩ : ∃ S, S = bs (u8s (pkL lv l)) := ⟨_, rfl⟩
  obtain ⟨NA, hNA⟩ : ∃ N, N = (pkL lv l).length := ⟨_, rfl⟩
  have HCA : Hid (∀ W aa ca, BRow W aa (pkL lv l) → (convert 25 9 (.slice aa NA ca)).run Try.prog W = .ok (.string S) W) := fun W aa ca h => by rw [hNA, hS]; exact conv_row ca h
  rw [← hNA] at HP1 HP2
  obtain ⟨L, hL⟩ : ∃ L, L = pkL lv l := ⟨_, rfl⟩
  obtain ⟨E, hE⟩ : ∃ E, E = pkE lv l := ⟨_, rfl⟩
  obtain ⟨O, hO⟩ : ∃ O, O = imgOk lv l := ⟨_, rfl⟩
  obtain ⟨Z, hZ⟩ : ∃ Z, Z = sizeN lv l := ⟨_, rfl⟩
  rw [← hL] at HP1 HP2 HCA
  rw [← hE] at HP1 HP2
  rw [← hO] at HR1 HR2
  rw [← hZ] at HS1 HS2
  have hoo : (O == O) = true := by simp
  have hee : (E == E) = true := by simp
  have hzz : ((Z : Int) == (Z : Int)) = true := by simp
  have hst : (S.toList == S.toList) = true := by simp
  have G0 : Hid (Bx w (w.alloc (.cells #[.int .i64 lv, .slice a len cap] 24)) w.heap.size lv a len cap l) := Bx.new hA.arg
  clear hA hs hS hNA hL hE hO hZ
  go_enter Try.func3, Try.ntmps3
  go_wp2_with (first
    | (go_at_call 10; refine (HM0.out _ G0.out).mono ?_; rintro e w1 ⟨a1, n1, c1, rfl, hz1, hb1⟩; have HZ1 : Hid (ZArg w1 a1 n1 c1 l) := hz1; have G1 : Hid (Bx w w1 w.heap.size lv a len cap l) := G0.out.later hb1; clear hz1 hb1)
    | (go_at_call 9; refine (HP1.out _ _ _ _ HZ1.out).mono ?_; rintro e w2 ⟨aa, ca, rfl, hb2, hr2⟩; have HRA : Hid (BRow w2 aa L) := hr2; have G2 : Hid (Bx w w2 w.heap.size lv a len cap l) := G1.out.later hb2; obtain ⟨x0, x1⟩ := G2.out.seen; clear hb2 hr2)
    | (go_at_call 11; refine (HP2.out _ G2.out).mono ?_; rintro e w3 ⟨ab, cb, rfl, hb3, hr3⟩; have G3 : Hid (P3 w w3 lv a len cap l aa ab L) := ⟨G2.out.later hb3, HRA.out.later hb3, hr3⟩; clear x0 x1; obtain ⟨x0, x1⟩ := G3.out.x.seen; clear hb3 hr3))
  have HSn : Hid (∀ W, P3 w W lv a len cap l aa ab L → W.cell? ⟨w.heap.size, 0, none⟩ = some (.int .i64 lv) ∧ W.cell? ⟨w.heap.size, 1, none⟩ = some (.slice a len cap) ∧ (convert 25 9 (.slice aa NA ca)).run Try.prog W = .ok (.string S) W ∧ (convert 25 9 (.slice ab NA cb)).run Try.prog W = .ok (.string S) W) := fun W h => ⟨h.x.seen.1, h.x.seen.2, HCA.out W aa ca h.ra, HCA.out W ab cb h.rb⟩
  have hs0 := HSn.out w3 G3.out
  have hs1 := HSn.out w3.drew (G3.out.later (below_drawn w3 1))
  have M1 : Hid True := trivial
  go_region_held3 (fun w' => w'.cell? ⟨w.heap.size, 0, none⟩ = some (.int .i64 lv) ∧ w'.cell? ⟨w.heap.size, 1, none⟩ = some (.slice a len cap) ∧ (convert 25 9 (.slice aa NA ca)).run Try.prog w' = .ok (.string S) w' ∧ (convert 25 9 (.slice ab NA cb)).run Try.prog w' = .ok (.string S) w') (first | assumption | exact hs1 | go_keep) (first
    | (clear M1; go_at_call 10; refine (HM0.out w3.drew (G3.out.later (below_drawn w3 1)).x).mono ?_; rintro e w4 ⟨a4, n4, c4, rfl, hz4, hb4⟩; have HZ4 : Hid (ZArg w4 a4 n4 c4 l) := hz4; have G4 : Hid (P3 w w4 lv a len cap l aa ab L) := (G3.out.later (below_drawn w3 1)).later hb4; have s4 := HSn.out w4 G4.out; clear hz4 hb4)
    | (go_at_call 12; refine (HR1.out _ _ _ _ HZ4.out).mono ?_; rintro e w5 ⟨rfl, hb5⟩; have G5 : Hid (P3 w w5 lv a len cap l aa ab L) := G4.out.later hb5; have s5 := HSn.out w5 G5.out; clear hb5)
    | (go_at_call 13; refine (HR2.out _ G5.out.x).mono ?_; rintro e w6 ⟨rfl, hb6⟩; have G6 : Hid (P3 w w6 lv a len cap l aa ab L) := G5.out.later hb6; have s6 := HSn.out w6 G6.out; clear hb6)
    | (go_at_call 10; refine (HM0.out w6 G6.out.x).mono ?_; rintro e w7 ⟨a7, n7, c7, rfl, hz7, hb7⟩; have HZ7 : Hid (ZArg w7 a7 n7 c7 l) := hz7; have G7 : Hid (P3 w w7 lv a len cap l aa ab L) := G6.out.later hb7; have s7 := HSn.out w7 G7.out; clear hz7 hb7)
    | (go_at_call 14; refine (HS1.out _ _ _ _ HZ7.out).mono ?_; rintro e w8 ⟨rfl, hb8⟩; have G8 : Hid (P3 w w8 lv a len cap l aa ab L) := G7.out.later hb8; have s8 := HSn.out w8 G8.out; clear hb8)
    | (go_at_call 15; refine (HS2.out _ G8.out.x).mono ?_; rintro e w9 ⟨rfl, hb9⟩; have G9 : Hid (P3 w w9 lv a len cap l aa ab L) := G8.out.later hb9; have s9 := HSn.out w9 G9.out; clear hb9)
    | (go_at_call 16; refine (alive_any _).mono ?_; rintro e w10 ⟨rfl, hb10⟩; have G10 : Hid (P3 w w10 lv a len cap l aa ab L) := G9.out.later hb10; have s10 := HSn.out w10 G10.out; clear hb10))
  all_goals
    go_wp2
    go_ret
    exact ⟨rfl, G10.out.x.bel⟩
set_option maxRecDepth 100000 in
theorem lifted (os : Os) (started : os.Started) (H : Type) (enc : TypeId × Value → H) :
    ReturnsInHanded {} Try.checked os 3 .any (Rows.imagePacksSpec.pre6 enc Try.prog Try.f3 Rows.imagePacksRow.domain false) (Rows.imagePacksSpec.post enc Try.prog Try.f3 false true false false) := by
  refine returnsInHanded_of_change_sized (C := Try.checked) own started (by kernel_rfl) Try.func3
    (ChangeSpec.witness6 (enc := enc) (C := Try.checked) false ⟨#[], #[.agg #[.int .i64 0, .slice none 0 0]], []⟩ 8 (by kernel_rfl) (by kernel_rfl) (by kernel_rfl) (by kernel_rfl)) ?_
  intro W base args ds gs before hval0 hW hcnd hsz0 _
  have hval : ∀ (j : Nat) t v, Try.f3.params[j]? = some t → args[j]? = some v → Value.okWide Try.prog W .any base t v := hval0
  have hsz : (DataW.weightsEach Try.prog (Try.f3.params.toList ++ Rows.imagePacksSpec.plain.varTypes Try.prog) (ds ++ gs)).all (· ≤ reachBytes) = true := hsz0
  have hW' := hW
  obtain ⟨p, q, hA0, hV, rfl, hfz, hnd⟩ := hW
  have hA : DataW.TrodAll enc Try.prog W 0 (fun _ => true) true Try.f3.params.toList args.toList ds p := hA0
  rw [Try.params3] at hA hval hsz
  obtain ⟨v0, vs0, d0, ds0, p0, q0, hargs, rfl, rfl, h0, r0⟩ := trodAll_cons hA
  obtain ⟨rfl, rfl, rfl⟩ := trodAll_nil r0
  obtain rfl : args = #[v0] := by cases args; simp_all
  obtain ⟨rfl, rfl⟩ := trodVars_none hV
  obtain ⟨cs0, rfl, sz0⟩ := okWide_struct Try.underlying24 (hval 0 24 v0 rfl rfl)
  have k0 := h0
  have lt0 : ∀ x ∈ p0, x.block < W.heap.size := by obtain ⟨m, hm⟩ := k0; exact DataW.trod_lt m _ _ _ hm
  obtain ⟨lv0, a0, len0, cap0, l0, rfl, b0, w0, s0⟩ : ∃ lv a len cap l, cs0 = #[.int .i64 lv, .slice a len cap] ∧ i64B lv ∧ ZIn W a len cap l ∧ cap * 40 ≤ 140737488351232 := by
    obtain ⟨fuel, hf⟩ := h0
    obtain ⟨lv, a, len, cap, l, e, hb, hl, hd⟩ := iarg_open sz0 hf
    refine ⟨lv, a, len, cap, l, e, hb, hl, ?_⟩
    rcases hd with h | ⟨d0, elems, spare, rfl, hc⟩
    · omega
    have := sized_img hsz (j := 0) rfl rfl
    rw [hc] at this
    simp only [reachBytes] at this
    omega
  clear hA0 hval0
  refine (walk lv0 a0 len0 cap0 l0 W b0 w0 s0).mono fun e W' ⟨he, bel⟩ => ?_
  subst he
  exact ⟨_, rfl, _, _, _, [], _, [], hW', trodAll_mk1 (shut_bool Try.underlying4 _), (trodAll_cons_mk (Below.trod laidOut (by kernel_rfl) (of_decide_eq_true (by kernel_rfl)) k0 bel lt0) trodAll_mk0), rfl, bel.frame _, fun h => by cases h⟩

theorem over : Rows.imagePacksRow.holds Try.pinned (OpenSpec.ofChange Rows.imagePacksSpec) :=
  OpenClaim.holds_of_wide 3 Try.f3 rfl rfl rfl rfl rfl rfl rfl ⟨rfl, rfl, rfl, rfl, rfl⟩ rfl rfl rfl rfl rfl (by kernel_rfl) Try.func3 (by kernel_rfl)
    (of_decide_eq_true (by kernel_rfl)) (by unfold Func.isWrapper; first | (rw [if_pos (by decide +kernel)]; kernel_rfl) | (rw [if_neg (by decide +kernel)]; exact ⟨rfl, rfl⟩))
    (fun os started H enc _ => lifted os started H enc)
end Go.Proofs.Ytfalbbcbgkiejaa.imagePacks

namespace Go.Proofs.Ytfalbbcbgkiejaa
theorem imagePacks_holds : Rows.ImagePacksSaid := imagePacks.over
#print axioms imagePacks_holds
end Go.Proofs.Ytfalbbcbgkiejaa
