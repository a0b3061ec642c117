/-
  Proved: the statement that two trees that got the same values in either order tell the same (BtreeOrder), whatever comes in.
-/
import Derived.Test.YtpflacbinankmaaBOrdM
import Derived.Test.YtpflacbinankmaaBAlive
import Derived.Test.YtpflacbinankmaaRows
import Derived.OwnWalk
import Derived.JoinedCond
namespace Go.Proofs.Ytpflacbinankmaa.btreeOrder
open Go.ChangeShapes Go.WideShapes Go.ChangeAt Go.RowKit Bt
set_option maxRecDepth 10000

theorem wpList_append_nw {w : World} {ops : Array Oper} {rest : List Oper} {o : Oper} {a : Act} {Q : Exit → Act → World → Prop} (hgd : o.guard = none) (s x : Operand)
    (ho : o.op = .call { callee := .builtin .append, args := #[s, x], argTypes := #[22, 22] })
    (base : Nat) (v : Value) (n : Nat) (l1 : List Nw) (hs : a.eval s = v) (hown : w.ownsRow base 54 3 v n (l1.flatMap nwv))
    (g c : Nat) (y : Nw) (hx : a.eval x = .slice (some ⟨g, 0, none⟩) 1 c) (hu : ∀ j u, (nwv y)[j]? = some u → w.cell? ((⟨g, 0, none⟩ : Addr).add j) = some u) (hb : (n + 1) * 40 ≤ 140737488355328) (hbase : base ≤ w.heap.size)
    (h : ∀ v' w', w'.ownsRow base 54 3 v' (n + 1) ((l1 ++ [y]).flatMap nwv) → w.grownBy w' v.ownBlock → wpList Try.prog ops Q rest (a.put o.dst v') w') : wpList Try.prog ops Q (o :: rest) a w := by
  obtain ⟨i0, hi, hz0, hz1, hz2⟩ := info_parts infoNd
  refine wpList_append_own w hgd s x 22 ho base 54 i0 _ 3 40 Try.underlying22 hi hz0 hz1 hz2 rfl (by omega) v n _ hs hown ⟨g, 0, none⟩ 1 c (nwv y) hx rfl hu ?_ (by unfold maxLen; omega) hb hbase ?_
  · intro u hu'
    exact nwv_one [y] u (by simpa using hu')
  · intro v' w' h1 h2 _
    refine h v' w' ?_ h2
    rw [List.flatMap_append]
    simpa using h1
theorem own_later {base : Nat} {w w' : World} {v : Value} {n : Nat} {xs : List Value} (h : w.ownsRow base 54 3 v n xs) (hb : Below w.heap.size w w') : w'.ownsRow base 54 3 v n xs :=
  h.kept (below_grown hb) (own_ne h (row := none) (fun r e => by cases e))
theorem narg_later {w w' : World} {a : Option Addr} {len cap : Nat} {l : List Nw} (h : NArg w a len cap l) (hb : Below w.heap.size w w') : NArg w' a len cap l := ⟨h.len_eq, h.le, h.max, h.row.later hb⟩
theorem pair_step {l : List Nw} {i : Nat} {y : Nw} (hy : l[i]? = some y) (h1 : (l.take i).Pairwise (fun a b => a.k ≠ b.k)) (h2 : ∀ j z, j < i → l[j]? = some z → y.k ≠ z.k) : (l.take (i + 1)).Pairwise (fun a b => a.k ≠ b.k) := by
  have e : l.take (i + 1) = l.take i ++ [y] := by
    rw [List.take_add_one, hy]; rfl
  rw [e, List.pairwise_append]
  refine ⟨h1, by simp, fun a ha b hb => ?_⟩
  obtain ⟨j, hj⟩ := List.getElem?_of_mem ha
  rw [List.getElem?_take] at hj
  split at hj
  · rw [List.mem_singleton.1 hb]
    exact Ne.symm (h2 j a (by assumption) hj)
  · cases hj
/-- The turned list, so far. -/
structure Trn (w : World) (l : List Nw) (v : Value) (j : Nat) (wr : World) : Prop where
  own : wr.ownsRow w.heap.size 54 3 v j ((l.reverse.take j).flatMap nwv)
  below : Below w.heap.size w wr
theorem Trn.zero (w : World) (l : List Nw) (d : Nat) : Trn w l (.slice none 0 0) 0 (w.drewN d) := ⟨by rw [List.take_zero]; exact World.ownsRow_nil _ _ _ 3, below_drawn w d⟩
theorem Trn.step {w : World} {l : List Nw} {v v' : Value} {j : Nat} {wr X w' : World} {y : Nw} (h : Trn w l v j wr) (hX : Below wr.heap.size wr X) (hy : l.reverse[j]? = some y) (h1 : w'.ownsRow w.heap.size 54 3 v' (j + 1) ((l.reverse.take j ++ [y]).flatMap nwv)) (h2 : X.grownBy w' v.ownBlock) : Trn w l v' (j + 1) w' := by
  have e : l.reverse.take (j + 1) = l.reverse.take j ++ [y] := by
    rw [List.take_add_one, hy]; rfl
  refine ⟨by rw [e]; exact h1, ?_⟩
  have hb := bafter h.below hX
  exact hb.grown h2 hb.size (fun k ek => (h.own.lt k ek).1)
set_option maxHeartbeats 8000000 in
theorem walk (f : Int) (a : Option Addr) (len cap : Nat) (l : List Nw) (w : World) (_ : (Lit.int .i64 f).wf = true) (hA : NArg w a len cap l) (hs : cap * 40 ≤ 140737488351232) :
    Calls Try.prog 8 #[.int .i64 f, .slice a len cap] w fun e w' => e = .returned (.bool true) ∧ Below w.heap.size w w' := by
  have hlc := hA.le
  have HA : Hid (NArg w a len cap l) := hA
  have HL : Hid (len = l.length) := hA.len_eq
  have hlen : len * 40 ≤ 140737488351232 := by omega
  clear hA
  go_enter Try.func8, Try.ntmps8
  go_wp2
  go_loopg [5] len (fun kx s wr => ∃ i d : Nat, i + kx = len ∧ s = .int .i64 (i : Nat) ∧ wr = w.drewN d ∧ Hid ((l.take i).Pairwise (fun a b => a.k ≠ b.k)))
  case atStart => exact ⟨0, 0, by omega, rfl, rfl, (by simp : (l.take 0).Pairwise (fun a b => a.k ≠ b.k))⟩
  case round =>
    obtain ⟨i, d, hi, rfl, rfl, HP⟩ := hrel
    by_cases hlt : i < len
    · obtain ⟨y, hy⟩ : ∃ y, l[i]? = some y := ⟨_, List.getElem?_eq_getElem (by have := HL.out; omega)⟩
      have HY : Hid (l[i]? = some y) := hy
      clear hy
      have hi1 : (i : Int) < (len : Int) := by omega
      go_wp2
      go_loopg [6] i (fun kx s wr => ∃ k d2 : Nat, k + kx = i ∧ s = .int .i64 (k : Nat) ∧ wr = w.drewN d2 ∧ Hid (∀ j z, j < k → l[j]? = some z → y.k ≠ z.k))
      case atStart => exact ⟨0, d, by omega, rfl, rfl, (fun j z hj => absurd hj (Nat.not_lt_zero _) : ∀ j z, j < 0 → l[j]? = some z → y.k ≠ z.k)⟩
      case round =>
        obtain ⟨k, d2, hk, rfl, rfl, HK⟩ := hrel
        by_cases hlt2 : k < i
        · obtain ⟨z, hz⟩ : ∃ z, l[k]? = some z := ⟨_, List.getElem?_eq_getElem (by have := HL.out; omega)⟩
          have HZ : Hid (l[k]? = some z) := hz
          have hk1 : (k : Int) < (i : Int) := by omega
          rcases HA.out.row with e | ⟨b, off, rfl, hc⟩
          · exfalso; have := HL.out; rw [e] at this; simp at this; omega
          have hy0 := (hc i y HY.out).1
          have hz0 := (hc k z hz).1
          clear hz hc
          have ey : (w.drewN d2).cell? ⟨b, off + i * 3, none⟩ = some (.string y.k) := hy0
          have ez : (w.drewN d2).cell? ⟨b, off + k * 3, none⟩ = some (.string z.k) := hz0
          by_cases he : y.k.toList = z.k.toList
          · have he2 : (y.k.toList == z.k.toList) = true := by simpa using he
            go_wp2
            go_quiet (fail)
            go_wp2_with (go_at_call 11; refine (alive_any _).mono ?_; rintro e W9 ⟨rfl, hb9⟩)
            go_ret
            exact ⟨rfl, bafter (below_drawn w _) hb9⟩
          · have he2 : (y.k.toList == z.k.toList) = false := by simpa using he
            have HN : Hid (y.k ≠ z.k) := fun e => he (by rw [e])
            go_wp2
            go_quiet (fail)
            go_wp2
            go_roundg (i - (k + 1))
            case measure => omega
            case rel => exact ⟨k + 1, _, by omega, by go_num, rfl, (fun j z' hj hz' => by
              by_cases e : j = k
              · subst e; rw [HZ.out] at hz'; cases hz'; exact HN.out
              · exact HK.out j z' (by omega) hz' : ∀ j z, j < k + 1 → l[j]? = some z → y.k ≠ z.k)⟩
        · have hki : k = i := by omega
          subst hki
          go_wp2
          go_roundg (len - (k + 1))
          case measure => omega
          case rel => exact ⟨k + 1, _, by omega, by go_num, rfl, (pair_step HY.out HP.out HK.out : (l.take (k + 1)).Pairwise (fun a b => a.k ≠ b.k))⟩
    · have hil : i = len := by omega
      subst hil
      have HPP : Hid (l.Pairwise (fun a b => a.k ≠ b.k)) := by
        have := HP.out
        rw [List.take_of_length_le (by have := HL.out; omega)] at this
        exact this
      have HE : Hid (bErr f l.reverse = bErr f l) := order_err f l
      have HAl : Hid (bAll f l.reverse = bAll f l) := order_all f HPP.out
      clear HP
      go_wp2
      go_loopg [7, 8] i (fun kx s7 s8 wr => ∃ (j : Nat) (a2 : Option Addr) (c2 : Nat), j + kx = i ∧ s7 = .slice a2 j c2 ∧ s8 = .int .i64 ((i : Int) - 1 - (j : Int)) ∧ Hid (Trn w l (.slice a2 j c2) j wr))
      case atStart => exact ⟨0, none, 0, by omega, rfl, by go_num, Trn.zero w l d⟩
      case round =>
        obtain ⟨j, a2, c2, hj, rfl, h8, I⟩ := hrel
        by_cases hlt : j < i
        · obtain ⟨m, hm⟩ : ∃ m : Nat, m + j + 1 = i := ⟨i - 1 - j, by omega⟩
          obtain ⟨y, hy⟩ : ∃ y, l[m]? = some y := ⟨_, List.getElem?_eq_getElem (by have := HL.out; omega)⟩
          have HY : Hid (l.reverse[j]? = some y) := by
            show l.reverse[j]? = some y
            rw [List.getElem?_reverse (by have := HL.out; omega), ← hy]
            congr 1
            have := HL.out
            omega
          rcases (HA.out.row.later I.out.below) with e | ⟨b, off, rfl, hc⟩
          · exfalso; have := HL.out; rw [e] at this; simp at this; omega
          obtain ⟨y0, y1, y2⟩ := hc m y hy
          have hmi : (m : Int) < (i : Int) := by omega
          rw [show (i : Int) - 1 - (j : Int) = ((m : Nat) : Int) by omega] at h8
          subst h8
          clear hc hy
          go_wp2_with (at_builtin; refine wpList_append_nw rfl (.tmp 43) (.tmp 48) rfl w.heap.size (.slice a2 j c2) j (l.reverse.take j) rfl (own_later I.out.own (below_new wr _)) wr.heap.size 1 y rfl (nw_new wr y) (by omega) (by have := (bafter I.out.below (below_new wr (.cells #[.string y.k, .string y.v, .bool y.g] 54))).size; exact this) ?_; intro x1 W4 ho1 hg1; have HT : Hid (Trn w l x1 (j + 1) W4) := I.out.step (below_new wr _) HY.out ho1 hg1; clear ho1 hg1)
          obtain ⟨a3, c3, e3⟩ := own_slice HT.out.own
          subst e3
          go_roundg (i - (j + 1))
          case measure => omega
          case rel => exact ⟨j + 1, a3, c3, by omega, rfl, by go_num, HT⟩
        · have hji : j = i := by omega
          subst hji
          rw [show (j : Int) - 1 - (j : Int) = -1 by omega] at h8
          subst h8
          have HT : Hid (NArg wr a2 j c2 l.reverse) := by
            refine narg_row (base := w.heap.size) (by have := HL.out; rw [List.length_reverse]; exact this) ?_
            have := I.out.own
            rwa [List.take_of_length_le (by have := HL.out; rw [List.length_reverse]; omega)] at this
          have kB1 := build_tp f a j cap l wr (narg_later HA.out I.out.below) (by omega)
          have HB2 : Hid (∀ W, Below wr.heap.size wr W → Calls Try.prog 9 #[.int .i64 f, .slice a2 j c2] W fun e w' => ∃ p, e = .returned (.tuple #[.pointer p, .int .i64 (bErr f l)]) ∧ TP w' p (bAll f l) ∧ Below W.heap.size W w') := fun W hb => by
            have := build_tp f a2 j c2 l.reverse W (narg_later HT.out hb) (by omega)
            rwa [HE.out, HAl.out] at this
          obtain ⟨E, hE⟩ : ∃ E, E = bErr f l := ⟨_, rfl⟩
          obtain ⟨L, hL⟩ : ∃ L, L = bAll f l := ⟨_, rfl⟩
          rw [← hE, ← hL] at kB1 HB2
          clear hE hL HE HAl HT
          have M1 : Hid True := trivial
          have M2 : Hid True := trivial
          have R1 : Hid True := trivial
          have R2 : Hid True := trivial
          have L1 : Hid True := trivial
          have L2 : Hid True := trivial
          go_wp2_with (first
            | (clear M1; go_at_call 9; refine kB1.mono ?_; rintro e W1 ⟨p1, rfl, ht1, hb1⟩; have HT1 : Hid (TP W1 p1 L) := ht1; have Hb1 : Hid (Below wr.heap.size wr W1) := hb1; clear ht1 hb1)
            | (clear M2; go_at_call 9; refine (HB2.out W1 Hb1.out).mono ?_; rintro e W2 ⟨p2, rfl, ht2, hb2⟩; have HT2 : Hid (TP W2 p2 L) := ht2; have Hb2 : Hid (Below W1.heap.size W1 W2) := hb2; clear ht2 hb2)
            | (clear R1; go_at_call 17; refine (range_tp (HT1.out.later Hb2.out) ⟨#[]⟩ ⟨#[]⟩ 1073741824 (by decide) (by decide)).mono ?_; rintro e W3 ⟨v1, rfl, hv1, hb3⟩; have Hv1 : Hid (NdAt W3 v1 (rng ⟨#[]⟩ ⟨#[]⟩ 1073741824 L)) := hv1; have Hb3 : Hid (Below W2.heap.size W2 W3) := hb3; clear hv1 hb3)
            | (clear R2; go_at_call 17; refine (range_tp (HT2.out.later Hb3.out) ⟨#[]⟩ ⟨#[]⟩ 1073741824 (by decide) (by decide)).mono ?_; rintro e W4 ⟨v2, rfl, hv2, hb4⟩; have Hv2 : Hid (NdAt W4 v2 (rng ⟨#[]⟩ ⟨#[]⟩ 1073741824 L)) := hv2; have Hb4 : Hid (Below W3.heap.size W3 W4) := hb4; clear hv2 hb4)
            | (go_at_call 16; refine (same_yes _ _ _ _ (Hv1.out.later Hb4.out) Hv2.out (by have := rng_len ⟨#[]⟩ ⟨#[]⟩ 1073741824 L; omega)).mono ?_; rintro e W5 ⟨rfl, hb5⟩; have Hb5 : Hid (Below W4.heap.size W4 W5) := hb5; clear hb5)
            | (clear L1; go_at_call 14; refine (len_tp (((HT1.out.later Hb2.out).later Hb3.out).later (bafter Hb4.out Hb5.out))).mono ?_; rintro e W6 ⟨rfl, rfl⟩)
            | (clear L2; go_at_call 14; refine (len_tp ((HT2.out.later Hb3.out).later (bafter Hb4.out Hb5.out))).mono ?_; rintro e W7 ⟨rfl, rfl⟩)
            | (go_at_call 11; refine (alive_any _).mono ?_; rintro e W9 ⟨rfl, hb9⟩))
          go_ret
          exact ⟨rfl, bafter (bafter (bafter (bafter (bafter (bafter I.out.below Hb1.out) Hb2.out) Hb3.out) Hb4.out) Hb5.out) hb9⟩
set_option maxRecDepth 100000 in
theorem lifted (os : Os) (started : os.Started) (H : Type) (enc : TypeId × Value → H) :
    ReturnsInHanded {} Try.checked os 8 .any (Rows.btreeOrderSpec.pre6 enc Try.prog Try.f8 Rows.btreeOrderRow.domain false) (Rows.btreeOrderSpec.post enc Try.prog Try.f8 false true false false) := by
  refine returnsInHanded_of_change_sized (C := Try.checked) own started (by kernel_rfl) Try.func8
    (ChangeSpec.witness6 (enc := enc) (C := Try.checked) false ⟨#[], #[.int .i64 0, .slice none 0 0], []⟩ 8 (by kernel_rfl) (by kernel_rfl) (by kernel_rfl) (by kernel_rfl)) ?_
  intro W base args ds gs before hval0 hW hcnd hsz0 _
  have hval : ∀ (j : Nat) t v, Try.f8.params[j]? = some t → args[j]? = some v → Value.okWide Try.prog W .any base t v := hval0
  have hsz : (DataW.weightsEach Try.prog (Try.f8.params.toList ++ Rows.btreeOrderSpec.plain.varTypes Try.prog) (ds ++ gs)).all (· ≤ reachBytes) = true := hsz0
  have hW' := hW
  obtain ⟨p, q, hA0, hV, rfl, hfz, hnd⟩ := hW
  have hA : DataW.TrodAll enc Try.prog W 0 (fun _ => true) true Try.f8.params.toList args.toList ds p := hA0
  rw [Try.params8] at hA hval hsz
  obtain ⟨v0, vs0, d0, ds0, p0, q0, hargs, rfl, rfl, h0, r0⟩ := trodAll_cons hA
  obtain ⟨v1, vs1, d1, ds1, p1, q1, rfl, rfl, rfl, h1, r1⟩ := trodAll_cons r0
  obtain ⟨rfl, rfl, rfl⟩ := trodAll_nil r1
  obtain rfl : args = #[v0, v1] := by cases args; simp_all
  obtain ⟨rfl, rfl⟩ := trodVars_none hV
  obtain ⟨a0, rfl, rfl, rfl, w0⟩ := open_int Try.underlying3 (hval 0 3 v0 rfl rfl) h0
  obtain ⟨a1, len1, cap1, rfl⟩ := okWide_slice Try.underlying22 (hval 1 22 v1 rfl rfl)
  have k1 := h1
  have lt1 : ∀ x ∈ p1, x.block < W.heap.size := by obtain ⟨m, hm⟩ := k1; exact DataW.trod_lt m _ _ _ hm
  obtain ⟨l1, w1, s1⟩ : ∃ l, NArg W a1 len1 cap1 l ∧ cap1 * 40 ≤ 140737488351232 := by
    obtain ⟨fuel, hf⟩ := h1
    obtain ⟨l, hl, hd⟩ := narg_open hf
    refine ⟨l, hl, ?_⟩
    rcases hd with h | ⟨elems, spare, rfl, hc⟩
    · omega
    have := sized_slice hsz (j := 1) (t := 22) (e := 54) rfl rfl Try.underlying22
    rw [bytesNd, hc] at this
    simp only [reachBytes] at this
    omega
  clear hA0 hval0
  refine (walk a0 a1 len1 cap1 l1 W w0 w1 s1).mono fun e W' ⟨he, bel⟩ => ?_
  subst he
  exact ⟨_, rfl, _, _, _, [], _, [], hW', trodAll_mk1 (shut_bool Try.underlying4 _), (trodAll_cons_mk (shut_int Try.underlying3 w0) (trodAll_cons_mk (Below.trod laidOut (by kernel_rfl) (of_decide_eq_true (by kernel_rfl)) k1 bel lt1) trodAll_mk0)), rfl, bel.frame _, fun h => by cases h⟩

theorem over : Rows.btreeOrderRow.holds Try.pinned (OpenSpec.ofChange Rows.btreeOrderSpec) :=
  OpenClaim.holds_of_wide 8 Try.f8 rfl rfl rfl rfl rfl rfl rfl ⟨rfl, rfl, rfl, rfl, rfl⟩ rfl rfl rfl rfl rfl (by kernel_rfl) Try.func8 (by kernel_rfl)
    (of_decide_eq_true (by kernel_rfl)) (by unfold Func.isWrapper; first | (rw [if_pos (by decide +kernel)]; kernel_rfl) | (rw [if_neg (by decide +kernel)]; exact ⟨rfl, rfl⟩))
    (fun os started H enc _ => lifted os started H enc)
end Go.Proofs.Ytpflacbinankmaa.btreeOrder

namespace Go.Proofs.Ytpflacbinankmaa
theorem btreeOrder_holds : Rows.BtreeOrderSaid := btreeOrder.over
#print axioms btreeOrder_holds
end Go.Proofs.Ytpflacbinankmaa
