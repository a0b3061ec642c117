/-
  Proved: the statement that any bytes are the image that the document reads, or none (ImageUnpacks), for every slice of bytes.
-/
import Derived.Test.YtfalbbcbgkiejaaRIUnpG
import Derived.Test.YtfalbbcbgkiejaaIUnpL
import Derived.Test.YtfalbbcbgkiejaaISame
import Derived.Test.YtfalbbcbgkiejaaIAlive
import Derived.Test.YtfalbbcbgkiejaaIArgS
import Derived.OwnWalk
namespace Go.Proofs.Ytfalbbcbgkiejaa.imageUnpacks
open Go.ChangeShapes Go.WideShapes Go.ChangeAt Go.RowKit M
set_option maxRecDepth 10000

theorem runpack_any (a : Option Addr) (n cap : Nat) (L : List Nat) (w : World) (hn : n = L.length) (hnc : n ≤ cap) (hcm : cap ≤ maxLen) (hb : ∀ x ∈ L, x < 256) (hr : BRow w a L) (h47 : n ≤ 140737488355328) :
    Calls Try.prog 18 #[.slice a n cap] w fun e w' => UnpPost w (upk (u8s L)) e w' := by
  by_cases h3 : n < 3
  · exact runp_bad a n cap L w hn (by omega) hb hr (.inl h3)
  · by_cases h84 : upM (u8s L) = 84
    · exact runp_go a n cap L w hn hnc hcm hb hr h47 (by omega) h84
    · exact runp_bad a n cap L w hn (by omega) hb hr (.inr h84)
/-- What was read: its level, its slots, whether it was one. -/
def oLv : Option (Nat × List St) → Int | none => 0 | some (l, _) => (l : Int)
def oL : Option (Nat × List St) → List St | none => [] | some (_, l) => l
def oOk : Option (Nat × List St) → Bool | none => false | some _ => true
theorem UnpPost.form {w w' : World} {o : Option (Nat × List St)} {e : Ending} (h : UnpPost w o e w') : ∃ a n c, e = .returned (.tuple #[.agg #[.int .i64 (oLv o), .slice a n c], .bool (oOk o)]) ∧ Below w.heap.size w w' ∧ ZArg w' a n c (oL o) := by
  obtain ⟨lv, a, n, c, ok, rfl, hb, hs, hn⟩ := h
  cases o with
  | none =>
    obtain ⟨rfl, rfl, rfl, rfl, rfl⟩ := hn rfl
    exact ⟨none, 0, 0, rfl, hb, ⟨rfl, Nat.le_refl _, by decide, (fun _ h => absurd h (by simp [oL])), .inl rfl⟩⟩
  | some p =>
    obtain ⟨L, l⟩ := p
    obtain ⟨rfl, rfl, hz⟩ := hs L l rfl
    exact ⟨a, n, c, rfl, hb, hz⟩
theorem own_empty (w : World) (base : Nat) (h : base ≤ w.heap.size) : (w.alloc (.cells #[] 5)).ownsRow base 5 1 (.slice (some ⟨w.heap.size, 0, none⟩) 0 0) 0 [] :=
  World.ownsRow_lit (e := 5) (size := 1) w #[] 0 h (by decide) rfl
theorem below_copy {w w' : World} (hg : (w.alloc (.cells #[] 5)).grownBy w' (Value.ownBlock (.slice (some ⟨w.heap.size, 0, none⟩) 0 0))) : Below w.heap.size w w' :=
  (below_new w _).grown hg (by simp) (fun k hk => by simp [Value.ownBlock] at hk; omega)
theorem copy_row {w' : World} {base n : Nat} {v : Value} {l : List Nat} (hn : n = l.length) (h : w'.ownsRow base 5 1 v (0 + n) ([] ++ l.map u8v)) : ∃ a c, v = .slice a n c ∧ BRow w' a l := by
  rw [Nat.zero_add, List.nil_append] at h
  obtain ⟨a, c, e, hr, _⟩ := own_shape' hn h
  exact ⟨a, c, e, hr⟩
structure Lie (w W : World) (a : Option Addr) (l : List Nat) : Prop where
  row : BRow W a l
  bel : Below w.heap.size w W
theorem Lie.later {w W W' : World} {a : Option Addr} {l : List Nat} (h : Lie w W a l) (hb : Below W.heap.size W W') : Lie w W' a l := ⟨h.row.later hb, bafter h.bel hb⟩

set_option maxHeartbeats 8000000 in
theorem walk_l (a : Option Addr) (n cap : Nat) (l : List Nat) (lv : Int) (ok : Bool) (S : List St) (hn : n = l.length) (hnil : a = none → n = 0 ∧ cap = 0) (hbig : n ≤ 140737488351232) (w : World) (hr : BRow w a l)
    (hU : ∀ W a c, BRow W a l → Calls Try.prog 17 #[.slice a n c] W fun e w' => ∃ a2 n2 c2, e = .returned (.tuple #[.agg #[.int .i64 lv, .slice a2 n2 c2], .bool ok]) ∧ Below W.heap.size W w' ∧ ZArg w' a2 n2 c2 S)
    (hV : ∀ W, BRow W a l → Calls Try.prog 18 #[.slice a n cap] W fun e w' => ∃ a2 n2 c2, e = .returned (.tuple #[.agg #[.int .i64 lv, .slice a2 n2 c2], .bool ok]) ∧ Below W.heap.size W w' ∧ ZArg w' a2 n2 c2 S) :
    Calls Try.prog 4 #[.slice a n cap] w fun e w' => e = .returned (.bool true) ∧ Below w.heap.size w w' := by
  have L0 : Hid (Lie w w a l) := ⟨hr, Below.refl _ _⟩
  have HN : Hid (n = l.length) := hn
  have HNIL : Hid (a = none → n = 0 ∧ cap = 0) := hnil
  have HBG : Hid (0 + n ≤ maxLen ∧ (0 + n) * 1 ≤ 140737488355328) := ⟨by unfold maxLen; omega, by omega⟩
  have hoo : (ok == ok) = true := by simp
  have hll : (lv == lv) = true := by simp
  have HSm : Hid (∀ W a1 n1 c1 a2 n2 c2, ZArg W a1 n1 c1 S → ZArg W a2 n2 c2 S → Calls Try.prog 19 #[.slice a1 n1 c1, .slice a2 n2 c2] W fun e w' => e = .returned (.bool true) ∧ Below W.heap.size W w') := fun W a1 n1 c1 a2 n2 c2 h1 h2 => by
    have := same_any a1 a2 n1 n2 c1 c2 S S W h1 h2
    rwa [eqL_iff.2 rfl] at this
  clear hr hn hnil hbig
  go_enter Try.func4, Try.ntmps4
  go_wp2_with (first
    | (at_builtin; refine wpList_append_bytes rfl (.tmp 8) (.tmp 9) rfl w.heap.size (.slice (some ⟨w.heap.size, 0, none⟩) 0 0) 0 [] rfl (own_empty w _ (Nat.le_refl _)) a n cap l rfl HN.out (L0.out.row.later (below_new _ _)) HNIL.out HBG.out.1 HBG.out.2 (by simp) ?_; intro v1 w1 ho hg; have hb := below_copy hg; have L1 : Hid (Lie w w1 a l) := L0.out.later hb; obtain ⟨a1, c1, rfl, hr1⟩ := copy_row HN.out ho; have R1 : Hid (BRow w1 a1 l) := hr1; clear ho hg hb hr1)
    | (go_at_call 17; refine (hU _ _ _ R1.out).mono ?_; rintro e w2 ⟨a2, n2, c2, rfl, hb, hz⟩; have L2 : Hid (Lie w w2 a l) := L1.out.later hb; have Z2 : Hid (ZArg w2 a2 n2 c2 S) := hz; clear hb hz)
    | (go_at_call 18; refine (hV _ (L2.out.row.later (below_new _ _))).mono ?_; rintro e w3 ⟨a3, n3, c3, rfl, hb, hz⟩; have L3 : Hid (Lie w w3 a l) := (L2.out.later (below_new _ _)).later hb; have Z3 : Hid (ZArg w3 a3 n3 c3 S) := hz; have Y2 : Hid (ZArg w3 a2 n2 c2 S) := (Z2.out.later (below_new _ _)).later hb; have x0 : w3.cell? ⟨w2.heap.size, 0, none⟩ = some (.int .i64 lv) := ((Row.new w2 [.int .i64 lv, .slice a2 n2 c2] 31).later hb).cell (i := 0) rfl; have x1 : w3.cell? ⟨w2.heap.size, 1, none⟩ = some (.slice a2 n2 c2) := ((Row.new w2 [.int .i64 lv, .slice a2 n2 c2] 31).later hb).cell (i := 1) rfl; have x2 := fun o => Lib.cell?_alloc_some (W := w3) o x0; have x3 := fun o => Lib.cell?_alloc_some (W := w3) o x1; clear hb hz)
    | (go_at_call 19; refine (HSm.out _ _ _ _ _ _ _ (Y2.out.later (below_new _ _)) (Z3.out.later (below_new _ _))).mono ?_; rintro e w4 ⟨rfl, hb⟩; have L4 : Hid (Lie w w4 a l) := (L3.out.later (below_new _ _)).later hb; clear hb)
    | (go_at_call 16; refine (alive_any _).mono ?_; rintro e w8 ⟨rfl, hb⟩; have L8 : Hid (Lie w w8 a l) := L4.out.later hb; clear hb))
  go_ret
  exact ⟨rfl, L8.out.bel⟩

theorem walk (a : Option Addr) (n cap : Nat) (l : List Nat) (w : World) (hA : BArg w a n cap l) (hs : cap ≤ 140737488351232) :
    Calls Try.prog 4 #[.slice a n cap] w fun e w' => e = .returned (.bool true) ∧ Below w.heap.size w w' := by
  have hlc := hA.le
  exact walk_l a n cap l (oLv (upk (u8s l))) (oOk (upk (u8s l))) (oL (upk (u8s l))) hA.len_eq hA.nil (by omega) w hA.row
    (fun W a c h => (unpack_any a n c l W hA.len_eq (by unfold maxLen; omega) h).mono fun _ _ p => UnpPost.form p)
    (fun W h => (runpack_any a n cap l W hA.len_eq hA.le hA.max hA.lt h (by omega)).mono fun _ _ p => UnpPost.form p)

set_option maxRecDepth 100000 in
theorem lifted (os : Os) (started : os.Started) (H : Type) (enc : TypeId × Value → H) :
    ReturnsInHanded {} Try.checked os 4 .any (Rows.imageUnpacksSpec.pre6 enc Try.prog Try.f4 Rows.imageUnpacksRow.domain false) (Rows.imageUnpacksSpec.post enc Try.prog Try.f4 false true false false) := by
  refine returnsInHanded_of_change_sized (C := Try.checked) own started (by kernel_rfl) Try.func4
    (ChangeSpec.witness6 (enc := enc) (C := Try.checked) false ⟨#[], #[.slice none 0 0], []⟩ 8 (by kernel_rfl) (by kernel_rfl) (by kernel_rfl) (by kernel_rfl)) ?_
  intro W base args ds gs before hval0 hW hcnd hsz0 _
  have hval : ∀ (j : Nat) t v, Try.f4.params[j]? = some t → args[j]? = some v → Value.okWide Try.prog W .any base t v := hval0
  have hsz : (DataW.weightsEach Try.prog (Try.f4.params.toList ++ Rows.imageUnpacksSpec.plain.varTypes Try.prog) (ds ++ gs)).all (· ≤ reachBytes) = true := hsz0
  have hW' := hW
  obtain ⟨p, q, hA0, hV, rfl, hfz, hnd⟩ := hW
  have hA : DataW.TrodAll enc Try.prog W 0 (fun _ => true) true Try.f4.params.toList args.toList ds p := hA0
  rw [Try.params4] at hA hval hsz
  obtain ⟨v0, vs0, d0, ds0, p0, q0, hargs, rfl, rfl, h0, r0⟩ := trodAll_cons hA
  obtain ⟨rfl, rfl, rfl⟩ := trodAll_nil r0
  obtain rfl : args = #[v0] := by cases args; simp_all
  obtain ⟨rfl, rfl⟩ := trodVars_none hV
  obtain ⟨a0, len0, cap0, rfl⟩ := okWide_slice Try.underlying25 (hval 0 25 v0 rfl rfl)
  have k0 := h0
  have lt0 : ∀ x ∈ p0, x.block < W.heap.size := by obtain ⟨m, hm⟩ := k0; exact DataW.trod_lt m _ _ _ hm
  obtain ⟨l0, w0, s0⟩ : ∃ l, BArg W a0 len0 cap0 l ∧ cap0 ≤ 140737488351232 := by
    obtain ⟨fuel, hf⟩ := h0
    obtain ⟨l, hl, hd⟩ := barg_open_sized hf
    refine ⟨l, hl, ?_⟩
    rcases hd with h | ⟨elems, spare, rfl, hcap⟩
    · omega
    have := sized_slice hsz (j := 0) (t := 25) (e := 5) rfl rfl Try.underlying25
    rw [bytes8] at this
    simp only [reachBytes] at this
    omega
  clear hA0 hval0
  refine (walk a0 len0 cap0 l0 W w0 s0).mono fun e W' ⟨he, bel⟩ => ?_
  subst he
  exact ⟨_, rfl, _, _, _, [], _, [], hW', trodAll_mk1 (shut_bool Try.underlying4 _), (trodAll_cons_mk (Below.trod laidOut (by kernel_rfl) (of_decide_eq_true (by kernel_rfl)) k0 bel lt0) trodAll_mk0), rfl, bel.frame _, fun h => by cases h⟩

theorem over : Rows.imageUnpacksRow.holds Try.pinned (OpenSpec.ofChange Rows.imageUnpacksSpec) :=
  OpenClaim.holds_of_wide 4 Try.f4 rfl rfl rfl rfl rfl rfl rfl ⟨rfl, rfl, rfl, rfl, rfl⟩ rfl rfl rfl rfl rfl (by kernel_rfl) Try.func4 (by kernel_rfl)
    (of_decide_eq_true (by kernel_rfl)) (by unfold Func.isWrapper; first | (rw [if_pos (by decide +kernel)]; kernel_rfl) | (rw [if_neg (by decide +kernel)]; exact ⟨rfl, rfl⟩))
    (fun os started H enc _ => lifted os started H enc)
end Go.Proofs.Ytfalbbcbgkiejaa.imageUnpacks

namespace Go.Proofs.Ytfalbbcbgkiejaa
theorem imageUnpacks_holds : Rows.ImageUnpacksSaid := imageUnpacks.over
#print axioms imageUnpacks_holds
end Go.Proofs.Ytfalbbcbgkiejaa
