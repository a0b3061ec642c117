/-
  Proved: the statement on clones (NandClones): for every two scripts; no condition.
-/
import Derived.Test.YtiejkbncpbhcdaaDScript
import Derived.Deep.CutBlock
namespace Go.Proofs.Ytiejkbncpbhcdaa.nandClones
open Go.ChangeShapes Go.WideShapes Go.ChangeAt Go.RowKit

/-- Both chips, new, of the statement's geometry. -/
theorem new_both {w w1 : World} (p q : Nat) (rs : List Nat) (hrs : rs.length = 16) (hl : Lies w.heap.size w1 (smallC p q rs)) (hb : Below w.heap.size w w1) (W : World) (hW : Below w1.heap.size w1 W) :
    Calls Try.prog 6 #[.agg #[.int .i64 16, .int .i64 16, .int .i64 128, .int .i64 2], .slice none 0 0] W fun e w' => ∃ (P : Nat) (d : DS), e = .returned (.tuple #[.pointer (some ⟨P, 0, none⟩), .int .i64 0]) ∧ Hid (St w w' p P 0 (smallC p q rs) d) := by
  refine (d_new_go 16 16 128 2 none 0 0 [] W rfl (.inl rfl) ⟨by decide, by simp, by simp⟩ (by kernel_rfl) (by decide) (by decide) (by decide) (by decide) (by decide) (by decide)).mono ?_
  rintro e w' ⟨P, q2, qc, rs2, rfl, h2, hd, hb2⟩
  have hbW := Below.after hb hW
  have hbb := Below.after hW hb2
  refine ⟨P, _, rfl, ⟨⟨hl.later hbb, hd.lower hbW.size, Rel.new 16 16 128 2 p q [] [] rs rs2 P q2 qc none 0 0 hrs h2 (List.Perm.refl _) List.Pairwise.nil ⟨by simp, by simp⟩ (by simp), fun b o e => by cases e⟩, rfl, rfl, Below.after hbW hb2⟩⟩
/-- While the clone goes its own way. -/
structure Own2 (wa wr : World) (kp : Nat) (c : CS) : Prop where
  lies : Lies wa.heap.size wr c
  p : c.p = kp
  below : Below wa.heap.size wa wr
theorem Own2.stepped {wa W W' : World} {kp : Nat} {c c' : CS} (h : Own2 wa W kp c) (hl : Lies wa.heap.size W' c') (hk : Kept c.foot W W') (hp : c'.p = c.p) : Own2 wa W' kp c' :=
  ⟨hl, hp.trans h.p, h.below.trans (hk.low h.lies h.lies.size)⟩
theorem Own2.prog {w wa W : World} {kp : Nat} {c : CS} (h : Own2 wa W kp c) (hwa : Below w.heap.size w wa) (o : OpD) (ho : Brings w.heap.size W o) :
    Calls Try.prog 16 #[.pointer (some ⟨kp, 0, none⟩), .int .i64 o.block, .int .i64 o.page, .slice o.da o.dl o.dc] W fun e w' => ∃ x c', e = .returned (.int .i64 x) ∧ Hid (Own2 wa w' kp c') := by
  have h2 := h.lies
  have hp := h.p
  rw [← hp]
  refine (program_all h2 o.block o.page o.da o.dl o.dc o.data ho.len ho.row ho.lt (ho.old.imp id fun q b oo e hf => ?_)).mono ?_
  · have := q b oo e; have := h2.low b hf; have := hwa.size; omega
  · rintro e w' ⟨rfl, hl, hk, _⟩
    exact ⟨_, _, rfl, by have := h.stepped hl hk (CS.program_p _ _ _ _); rw [hp]; exact this⟩
theorem Own2.era {wa W : World} {kp : Nat} {c : CS} (h : Own2 wa W kp c) (b : Int) :
    Calls Try.prog 11 #[.pointer (some ⟨kp, 0, none⟩), .int .i64 b] W fun e w' => ∃ x c', e = .returned (.int .i64 x) ∧ Hid (Own2 wa w' kp c') := by
  have hp := h.p
  rw [← hp]
  refine (erase_all h.lies b).mono ?_
  rintro e w' ⟨rfl, hl, hk, _⟩
  exact ⟨_, _, rfl, by have := h.stepped hl hk (CS.erase_p _ _); rw [hp]; exact this⟩
theorem Own2.mar {wa W : World} {kp : Nat} {c : CS} (h : Own2 wa W kp c) (b : Int) :
    Calls Try.prog 12 #[.pointer (some ⟨kp, 0, none⟩), .int .i64 b] W fun e w' => ∃ x c', e = .returned (.int .i64 x) ∧ Hid (Own2 wa w' kp c') := by
  have hp := h.p
  rw [← hp]
  refine (mark_any h.lies b).mono ?_
  rintro e w' ⟨rfl, hl, hk, _⟩
  exact ⟨_, _, rfl, by have := h.stepped hl hk (CS.mark_p _ _); rw [hp]; exact this⟩
set_option maxRecDepth 20000 in
set_option maxHeartbeats 8000000 in
theorem walk (a : Option Addr) (n cap : Nat) (l : List OpD) (a2 : Option Addr) (n2 cap2 : Nat) (l2 : List OpD) (w : World) (ha : OArg w a n cap l) (ha2 : OArg w a2 n2 cap2 l2) :
    Calls Try.prog 4 #[.slice a n cap, .slice a2 n2 cap2] w fun e w' => e = .returned (.bool true) ∧ Below w.heap.size w w' := by
  have HA : Hid (OArg w a n cap l) := ha
  have HA2 : Hid (OArg w a2 n2 cap2 l2) := ha2
  have hnm : n ≤ 9223372036854775807 := by have := ha.le; have := ha.max; unfold maxLen at this; omega
  have hnm2 : n2 ≤ 9223372036854775807 := by have := ha2.le; have := ha2.max; unfold maxLen at this; omega
  have HN : Hid (n = l.length) := ha.len_eq
  have HN2 : Hid (n2 = l2.length) := ha2.len_eq
  have M1 : Hid True := trivial
  clear ha ha2
  go_enter Try.func4, Try.ntmps4
  go_wp2_with (first
    | (go_at_call 15; clear M1; refine (small_any _).mono ?_; rintro e w1 ⟨rfl, hb1⟩)
    | (go_at_call 5; refine (new_small' w w1 hb1).mono ?_; rintro e w2 ⟨p, q, rs, rfl, hrs, hl2, hb2⟩; have HL2 : Hid (Lies _ _ _) := hl2; have HB2 : Hid (Below _ _ _) := hb2; clear hl2 hb2 hb1)
    | (go_at_call 15; refine (small_any _).mono ?_; rintro e w3 ⟨rfl, hb3⟩; have HB3 : Hid (Below _ _ _) := hb3; clear hb3)
    | (go_at_call 6; refine (new_both p q rs hrs.out HL2.out HB2.out w3 HB3.out).mono ?_; rintro e w4 ⟨P, d0, rfl, HI4⟩)
    | (go_at_call 9; refine (alive_any _).mono ?_; rintro e w5 ⟨rfl, hb5⟩; have HI5 : Hid (St _ _ _ _ _ _ _) := HI4.out.later hb5; clear hb5 HI4 HB3 HL2 HB2))
  go_loopg [9] n (fun gm i wr => ∃ k : Nat, k ≤ n ∧ gm = n - k ∧ i = .int .i64 k ∧ ∃ c d, Hid (St w wr p P k c d))
  case atStart => exact ⟨0, by omega, by omega, rfl, _, _, HI5⟩
  case round =>
    obtain ⟨k, hk, rfl, rfl, c, d, hI⟩ := hrel
    clear HI5
    by_cases hlt : k < n
    · obtain ⟨o, ho⟩ : ∃ o, l[k]? = some o := ⟨_, List.getElem?_eq_getElem (by rw [← HN.out]; exact hlt)⟩
      obtain ⟨b, off, rfl, hbw, hcs⟩ := op_cells HA.out ho
      obtain ⟨g0, g1, g2, g3, g4⟩ := hcs wr hI.out.below
      have HBr : Hid (Brings _ _ _) := brings_of HA.out (List.mem_of_getElem? ho) hI.out.below
      have hki : (k : Int) < (n : Int) := by omega
      have hk63 : k < 9223372036854775807 := by omega
      clear hcs ho
      go_wp2_with (go_at_call 13; refine (does_any hI.out.duo hk63 o HBr.out p P hI.out.p hI.out.q).mono ?_; rintro e w6 ⟨rfl, c6, d6, hw6⟩; have HI6 : Hid (St _ _ _ _ _ _ _) := hI.out.went hw6; clear hw6)
      go_roundg (n - (k + 1))
      case measure => omega
      case rel => exact ⟨k + 1, by omega, rfl, by simp, c6, d6, HI6⟩
    · have hki : ¬ (k : Int) < (n : Int) := by omega
      obtain ⟨wA, hwA⟩ : ∃ x, x = wr := ⟨_, rfl⟩
      subst hwA
      go_wp2_with (go_at_call 10; refine (clone_any hI.out.duo.cl p hI.out.p hI.out.duo.rel.short).mono ?_; rintro e w6 ⟨c6, rfl, hT⟩; have HO6 : Hid (Own2 wA w6 c6.p c6) := ⟨hT.lies, rfl, hT.bel⟩; clear hT)
      obtain ⟨kp, hkp⟩ : ∃ kp, kp = c6.p := ⟨_, rfl⟩
      rw [← hkp] at HO6 ⊢
      clear hkp
      go_loopg [11] n2 (fun gm i wr2 => ∃ j : Nat, j ≤ n2 ∧ gm = n2 - j ∧ i = .int .i64 j ∧ ∃ c2, Hid (Own2 wA wr2 kp c2))
      case atStart => exact ⟨0, by omega, by omega, rfl, _, HO6⟩
      case round =>
        obtain ⟨j, hj, rfl, rfl, c2, hO⟩ := hrel
        obtain ⟨wr2, hwr2⟩ : ∃ x, x = wr := ⟨_, rfl⟩
        subst hwr2
        clear HO6
        by_cases hjl : j < n2
        · obtain ⟨o, ho⟩ : ∃ o, l2[j]? = some o := ⟨_, List.getElem?_eq_getElem (by rw [← HN2.out]; exact hjl)⟩
          obtain ⟨b, off, rfl, hbw, hcs⟩ := op_cells HA2.out ho
          have hbel : Below w.heap.size w wr2 := Below.after hI.out.below hO.out.below
          obtain ⟨g0, g1, g2, g3, g4⟩ := hcs wr2 hbel
          have HBr : Hid (Brings w.heap.size wr2 o) := brings_of HA2.out (List.mem_of_getElem? ho) hbel
          have HCS : Hid (∀ W, Below w.heap.size w W → W.cell? ⟨b, off + j * 5 + 1, none⟩ = some (.int .i64 o.block) ∧ W.cell? ⟨b, off + j * 5 + 2, none⟩ = some (.int .i64 o.page) ∧ W.cell? ⟨b, off + j * 5 + 3, none⟩ = some (.slice o.da o.dl o.dc)) := fun W hW => ⟨(hcs W hW).2.1, (hcs W hW).2.2.1, (hcs W hW).2.2.2.1⟩
          have HBW : Hid (Below w.heap.size w wA) := hI.out.below
          have hji : (j : Int) < (n2 : Int) := by omega
          have hj0 : (0 : Int) ≤ (j : Int) := by omega
          clear hcs ho hbel
          by_cases k1 : o.kind = 1
          · have e1 : (o.kind == 1) = true := by simpa using k1
            clear k1
            go_wp2_with fail
            go_region_held3 (fun w' => w'.cell? ⟨b, off + j * 5 + 1, none⟩ = some (.int .i64 o.block) ∧ w'.cell? ⟨b, off + j * 5 + 2, none⟩ = some (.int .i64 o.page) ∧ w'.cell? ⟨b, off + j * 5 + 3, none⟩ = some (.slice o.da o.dl o.dc)) (first | assumption | go_keep)
              (first
              | (go_at_call 16; have hO1 : Own2 wA wr2.drew kp c2 := ⟨hO.out.lies.later (below_drawn wr2 1), hO.out.p, hO.out.below.drew⟩; have hB1 : Brings w.heap.size wr2.drew o := HBr.out.below ((below_drawn wr2 1).mono (Below.after HBW.out hO.out.below).size); refine (hO1.prog HBW.out o hB1).mono ?_; rintro e w7 ⟨x7, c7, rfl, HO7⟩; have hS7 := HCS.out w7 (Below.after HBW.out HO7.out.below); clear hO1 hB1))
            all_goals go_wp2
            all_goals go_roundg (n2 - (j + 1))
            all_goals first
              | (show n2 - (j + 1) < n2 - j; omega)
              | exact ⟨j + 1, by omega, rfl, by simp, c7, HO7⟩
          by_cases k2 : o.kind = 2
          · have e1 : (o.kind == 1) = false := by simpa using k1
            have e2 : (o.kind == 2) = true := by simpa using k2
            clear k1 k2
            go_wp2_with (go_at_call 11; refine (hO.out.era o.block).mono ?_; rintro e w7 ⟨x7, c7, rfl, HO7⟩)
            all_goals go_roundg (n2 - (j + 1))
            all_goals first
              | (show n2 - (j + 1) < n2 - j; omega)
              | exact ⟨j + 1, by omega, rfl, by simp, c7, HO7⟩
          by_cases k3 : o.kind = 3
          · have e1 : (o.kind == 1) = false := by simpa using k1
            have e2 : (o.kind == 2) = false := by simpa using k2
            have e3 : (o.kind == 3) = true := by simpa using k3
            clear k1 k2 k3
            go_wp2_with (go_at_call 12; refine (hO.out.mar o.block).mono ?_; rintro e w7 ⟨x7, c7, rfl, HO7⟩)
            all_goals go_roundg (n2 - (j + 1))
            all_goals first
              | (show n2 - (j + 1) < n2 - j; omega)
              | exact ⟨j + 1, by omega, rfl, by simp, c7, HO7⟩
          · have e1 : (o.kind == 1) = false := by simpa using k1
            have e2 : (o.kind == 2) = false := by simpa using k2
            have e3 : (o.kind == 3) = false := by simpa using k3
            clear k1 k2 k3
            go_wp2
            all_goals go_roundg (n2 - (j + 1))
            all_goals first
              | (show n2 - (j + 1) < n2 - j; omega)
              | exact ⟨j + 1, by omega, rfl, by simp, c2, hO⟩
        · have hji : ¬ (j : Int) < (n2 : Int) := by omega
          have HE : Hid (Below wA.heap.size wA wr2) := hO.out.below
          clear hO
          go_wp2
          go_loopg [12] 16 (fun gm i wr3 => ∃ x : Nat, x ≤ 16 ∧ gm = 16 - x ∧ i = .int .i64 x ∧ Hid (Below wA.heap.size wA wr3))
          case atStart => exact ⟨0, by omega, by omega, rfl, HE⟩
          case round =>
            obtain ⟨x, hx, rfl, rfl, HX⟩ := hrel
            obtain ⟨wr3, hwr3⟩ : ∃ x, x = wr := ⟨_, rfl⟩
            subst hwr3
            clear HE
            by_cases hxl : x < 16
            · have hxi : (x : Int) < 16 := by omega
              go_wp2
              go_loopg [13] 16 (fun gm i wr4 => ∃ y : Nat, y ≤ 16 ∧ gm = 16 - y ∧ i = .int .i64 y ∧ Hid (Below wA.heap.size wA wr4))
              case atStart => exact ⟨0, by omega, by omega, rfl, HX⟩
              case round =>
                obtain ⟨y, hy, rfl, rfl, HY⟩ := hrel
                obtain ⟨wr4, hwr4⟩ : ∃ x, x = wr := ⟨_, rfl⟩
                subst hwr4
                clear HX
                by_cases hyl : y < 16
                · have hyi : (y : Int) < 16 := by omega
                  have HI7 : Hid (St w wr4 p P k c d) := hI.out.later HY.out
                  go_wp2_with (go_at_call 14; refine (looks_any HI7.out.duo p P HI7.out.p HI7.out.q (x : Int) (y : Int)).mono ?_; rintro e w8 ⟨rfl, hb8⟩; have HY8 : Hid (Below wA.heap.size wA w8) := Below.after HY.out hb8; clear hb8)
                  go_roundg (16 - (y + 1))
                  case measure => omega
                  case rel => exact ⟨y + 1, by omega, rfl, by simp, HY8⟩
                · have hyi : ¬ (y : Int) < 16 := by omega
                  go_wp2
                  go_roundg (16 - (x + 1))
                  case measure => omega
                  case rel => exact ⟨x + 1, by omega, rfl, by simp, HY⟩
            · have hxi : ¬ (x : Int) < 16 := by omega
              go_wp2
              go_ret
              exact ⟨rfl, Below.after hI.out.below HX.out⟩
set_option maxRecDepth 100000 in
theorem lifted (os : Os) (started : os.Started) (H : Type) (enc : TypeId × Value → H) :
    ReturnsInHanded {} Try.checked os 4 .any (Rows.nandClonesSpec.pre6 enc Try.prog Try.f4 Rows.nandClonesRow.domain false) (Rows.nandClonesSpec.post enc Try.prog Try.f4 false true false false) := by
  refine returnsInHanded_of_change (C := Try.checked) own started (by kernel_rfl) Try.func4
    (ChangeSpec.witness6 (enc := enc) (C := Try.checked) false ⟨#[], #[.slice none 0 0, .slice none 0 0], []⟩ 8 (by kernel_rfl) (by kernel_rfl) (by kernel_rfl) (by kernel_rfl)) ?_
  intro W base args ds gs before hval0 hW hcnd _
  have hval : ∀ (j : Nat) t v, Try.f4.params[j]? = some t → args[j]? = some v → Value.okWide Try.prog W .any base t v := hval0
  have hW' := hW
  obtain ⟨p, q, hA0, hV, rfl, hfz, hnd⟩ := hW
  have hA : DataW.TrodAll enc Try.prog W 0 (fun _ => true) true Try.f4.params.toList args.toList ds p := hA0
  rw [Try.params4] at hA hval
  obtain ⟨v0, vs0, d0, ds0, p0, q0, hargs, rfl, rfl, h0, r0⟩ := trodAll_cons hA
  obtain ⟨v1, vs1, d1, ds1, p1, q1, rfl, rfl, rfl, h1, r1⟩ := trodAll_cons r0
  obtain ⟨rfl, rfl, rfl⟩ := trodAll_nil r1
  obtain rfl : args = #[v0, v1] := by cases args; simp_all
  obtain ⟨rfl, rfl⟩ := trodVars_none hV
  obtain ⟨a0, len0, cap0, rfl⟩ := okWide_slice Try.underlying25 (hval 0 25 v0 rfl rfl)
  have k0 := h0
  have lt0 : ∀ x ∈ p0, x.block < W.heap.size := by obtain ⟨m, hm⟩ := k0; exact DataW.trod_lt m _ _ _ hm
  obtain ⟨l0, w0⟩ : ∃ l, OArg W a0 len0 cap0 l := by
    obtain ⟨fuel, hf⟩ := h0
    exact oarg_open hf
  obtain ⟨a1, len1, cap1, rfl⟩ := okWide_slice Try.underlying25 (hval 1 25 v1 rfl rfl)
  have k1 := h1
  have lt1 : ∀ x ∈ p1, x.block < W.heap.size := by obtain ⟨m, hm⟩ := k1; exact DataW.trod_lt m _ _ _ hm
  obtain ⟨l1, w1⟩ : ∃ l, OArg W a1 len1 cap1 l := by
    obtain ⟨fuel, hf⟩ := h1
    exact oarg_open hf
  clear hA0 hval0
  refine (walk a0 len0 cap0 l0 a1 len1 cap1 l1 W w0 w1).mono fun e W' ⟨he, bel⟩ => ?_
  subst he
  exact ⟨_, rfl, _, _, _, [], _, [], hW', trodAll_mk1 (shut_bool Try.underlying4 _), (trodAll_cons_mk (Below.trod laidOut (by kernel_rfl) (of_decide_eq_true (by kernel_rfl)) k0 bel lt0) (trodAll_cons_mk (Below.trod laidOut (by kernel_rfl) (of_decide_eq_true (by kernel_rfl)) k1 bel lt1) trodAll_mk0)), rfl, bel.frame _, fun h => by cases h⟩

theorem over : Rows.nandClonesRow.holds Try.pinned (OpenSpec.ofChange Rows.nandClonesSpec) :=
  OpenClaim.holds_of_wide 4 Try.f4 rfl rfl rfl rfl rfl rfl rfl ⟨rfl, rfl, rfl, rfl, rfl⟩ rfl rfl rfl rfl rfl (by kernel_rfl) Try.func4 (by kernel_rfl)
    (of_decide_eq_true (by kernel_rfl)) (by unfold Func.isWrapper; first | (rw [if_pos (by decide +kernel)]; kernel_rfl) | (rw [if_neg (by decide +kernel)]; exact ⟨rfl, rfl⟩))
    (fun os started H enc _ => lifted os started H enc)
end Go.Proofs.Ytiejkbncpbhcdaa.nandClones

namespace Go.Proofs.Ytiejkbncpbhcdaa
theorem nandClones_holds : Rows.NandClonesSaid := nandClones.over
#print axioms nandClones_holds
end Go.Proofs.Ytiejkbncpbhcdaa
