/-
  The leaves from a key on, as walk tells them.
-/
import Derived.Test.YtlfgeanafidopaaQJ
import Derived.RangeFuncNested
import Derived.RangeFuncBound
import Derived.RangeFuncCalls
import Derived.RangeFuncLeaves
import Derived.Shelf.Abstract
import Derived.Shelf.RegionOpen
import Derived.OwnWalkIn
import Derived.TacticsInMore
import Derived.LoopNIn
import Derived.LoopIn
import Derived.Stop.RegionWithIn
namespace Go.Proofs.Ytlfgeanafidopaa.Bt
open Go.RowKit Go.Shelf
attribute [local go_sem] Oper.semAt_some
set_option maxRecDepth 10000

theorem room_none (k : Nat) : Fence.wide.room k := fun d h => by cases h
theorem RoundIn.any {m m' : Nat} {P : Program} {l : Nat} {f : FuncId} {tmps : Array Value} {assign body : Code} {w : World} {R : Ending → World → Prop}
    (h : RoundIn Fence.wide m P l f tmps assign body w R) : RoundIn Fence.wide m' P l f tmps assign body w R := ⟨h.1, fun c cs _ => h.2 c cs (room_none _)⟩
theorem YieldAt.any {m : Nat} (m' : Nat) {P : Program} {l : Nat} {args : Array Value} {W : World} {R : Ending → World → Prop} (h : YieldAt Fence.wide m P l args W R) : YieldAt Fence.wide m' P l args W R := by
  obtain ⟨fn, tmps, assign, body, hy, hR⟩ := h
  exact ⟨fn, tmps, assign, body, hy, RoundIn.any hR⟩
theorem below_grown {W W' : World} (h : Below W.heap.size W W') : W.grownBy W' none := ⟨h.os, h.tape, h.output, h.size, fun k hk _ => h.block k hk⟩

structure Leaf (F : Nat) (w : World) (c : En 1) : Prop where
  at_ : At w c.h 0 (c.l.map (slE 0))
  keys : Ksrt ((c.l.map (slE 0)).map Sl.k)
  le : c.l.length ≤ F
abbrev Lf (F : Nat) (w : World) : Type := { c : En 1 // Leaf F w c }
def lfs {F : Nat} {w : World} (l : List (Lf F w)) : List (En 1) := l.map Subtype.val
theorem lfs_append {F : Nat} {w : World} (a b : List (Lf F w)) : lfs (a ++ b) = lfs a ++ lfs b := List.map_append
theorem lfs_len {F : Nat} {w : World} (a : List (Lf F w)) : (lfs a).length = a.length := List.length_map _
def lvs (k : K) : (n : Nat) → En (n + 1) → List (En 1)
  | 0, t => [t]
  | n + 1, t => (t.l.drop (place k (abs (n + 2) t).l)).flatMap (lvs k n)
structure Nod (F : Nat) (w : World) (n : Nat) (t : En (n + 1)) : Prop where
  lies : Lies w (n + 1) t
  good : Good F n (abs (n + 1) t)
  le : t.l.length ≤ F
  pos : 0 < n → 0 < t.l.length
theorem Nod.kid {F : Nat} (hF : 4 ≤ F) {w : World} {n : Nat} {t : En (n + 2)} (h : Nod F w (n + 1) t) {d : En (n + 1)} (hd : d ∈ t.l) : Nod F w n d := by
  have hm : (abs (n + 1) d) ∈ (abs (n + 2) t).l := by rw [abs_l]; exact List.mem_map_of_mem hd
  obtain ⟨f1, f2, f3⟩ := h.good.kids _ hm
  rw [abs_l, List.length_map] at f1 f2
  exact ⟨h.lies.2 d hd, h.good.kid hm, f2, fun _ => by omega⟩
theorem Nod.keys {F : Nat} (hF : 4 ≤ F) {w : World} {n : Nat} {t : En (n + 1)} (h : Nod F w n t) : Ksrt ((t.l.map (slE n)).map Sl.k) := by rw [keysE]; exact keys_srt _ (h.good.hd hF) h.good.srt
theorem Nod.leaf {F : Nat} (hF : 4 ≤ F) {w : World} {t : En 1} (h : Nod F w 0 t) : Leaf F w t := ⟨h.lies.1, h.keys hF, h.le⟩
theorem lvs_leaf {F : Nat} (hF : 4 ≤ F) {w : World} (k : K) : ∀ {n : Nat} {t : En (n + 1)}, Nod F w n t → ∀ c ∈ lvs k n t, Leaf F w c
  | 0, t, h, c, hc => by
    have e : lvs k 0 t = [t] := rfl
    rw [e] at hc
    rw [List.mem_singleton.1 hc]
    exact h.leaf hF
  | n + 1, t, h, c, hc => by
    have e : lvs k (n + 1) t = (t.l.drop (place k (abs (n + 2) t).l)).flatMap (lvs k n) := rfl
    rw [e] at hc
    obtain ⟨d, hd, hc⟩ := List.mem_flatMap.1 hc
    exact lvs_leaf hF k (h.kid hF (List.mem_of_mem_drop hd)) c hc
theorem to_lfs {F : Nat} {w : World} : ∀ (l : List (En 1)), (∀ c ∈ l, Leaf F w c) → ∃ xs : List (Lf F w), lfs xs = l
  | [], _ => ⟨[], rfl⟩
  | c :: l, h => by
    obtain ⟨xs, e⟩ := to_lfs l (fun d hd => h d (by simp [hd]))
    exact ⟨⟨c, h c (by simp)⟩ :: xs, by unfold lfs at *; rw [List.map_cons, e]⟩
theorem lfs_split {F : Nat} {w : World} {xs : List (Lf F w)} {a b : List (En 1)} (h : lfs xs = a ++ b) : ∃ ys zs, xs = ys ++ zs ∧ lfs ys = a ∧ lfs zs = b := by
  obtain ⟨ys, zs, e, e1, e2⟩ := List.map_eq_append_iff.1 h
  exact ⟨ys, zs, e, e1, e2⟩

/-- A node's kids from one on, as a walk goes over them. -/
structure Along (F : Nat) (w0 W : World) (k : K) (n : Nat) (ks : List (En (n + 1))) (J : List (Lf F w0) → World → Prop) (pre xs : List (Lf F w0)) (j : Nat) (wr : World) : Prop where
  part : ∃ ys zs, xs = ys ++ zs ∧ lfs zs = (ks.drop j).flatMap (lvs k n) ∧ J (pre ++ ys) wr
  below : Below w0.heap.size W wr
theorem Along.step {F : Nat} {w0 W : World} {k : K} {n : Nat} {ks : List (En (n + 1))} {J : List (Lf F w0) → World → Prop} {pre xs : List (Lf F w0)} {j : Nat} {wr : World} (h : Along F w0 W k n ks J pre xs j wr) {d : En (n + 1)} (hd : ks[j]? = some d) :
    ∃ ys zs us, xs = ys ++ (zs ++ us) ∧ lfs zs = lvs k n d ∧ J (pre ++ ys) wr ∧ ∀ W2, J (pre ++ ys ++ zs) W2 → Below w0.heap.size wr W2 → Along F w0 W k n ks J pre xs (j + 1) W2 := by
  obtain ⟨ys, zs, e1, e2, hJ⟩ := h.part
  have ed : ks.drop j = d :: ks.drop (j + 1) := by
    obtain ⟨hlt, he⟩ := List.getElem?_eq_some_iff.1 hd
    rw [List.drop_eq_getElem_cons hlt, he]
  rw [ed, List.flatMap_cons] at e2
  obtain ⟨z1, z2, rfl, f1, f2⟩ := lfs_split e2
  exact ⟨ys, z1, z2, e1, f1, hJ, fun W2 hJ2 hb2 => ⟨⟨ys ++ z1, z2, by rw [e1, List.append_assoc], f2, by rw [← List.append_assoc]; exact hJ2⟩, h.below.trans hb2⟩⟩
theorem Along.all {F : Nat} {w0 W : World} {k : K} {n : Nat} {ks : List (En (n + 1))} {J : List (Lf F w0) → World → Prop} {pre xs : List (Lf F w0)} {j : Nat} {wr : World} (h : Along F w0 W k n ks J pre xs j wr) (hj : ks.length ≤ j) : J (pre ++ xs) wr := by
  obtain ⟨ys, zs, e1, e2, hJ⟩ := h.part
  rw [List.drop_eq_nil_of_le hj] at e2
  have : zs = [] := by cases zs with | nil => rfl | cons a b => simp [lfs] at e2
  rw [e1, this, List.append_nil]; exact hJ

set_option maxHeartbeats 4000000 in
theorem walk_in {F : Nat} (hF : 4 ≤ F) (hF2 : F ≤ 64) (k : K) (w0 : World) (l N : Nat) (J Jx : List (Lf F w0) → World → Prop) (hJd : ∀ pre W W', J pre W → Below W.heap.size W W' → J pre W')
    (hY : ∀ m pre (x : Lf F w0) W, J pre W → pre.length < N → YieldAt Fence.wide m Try.prog l #[.pointer (some ⟨x.1.h.p, 0, none⟩)] W fun e W' =>
      (e = .returned (.bool true) ∧ J (pre ++ [x]) W' ∧ Below w0.heap.size W W') ∨ (e = .returned (.bool false) ∧ Jx (pre ++ [x]) W')) :
    ∀ (n m : Nat) (t : En (n + 1)) (pre xs : List (Lf F w0)) (W : World), Nod F w0 n t → Below w0.heap.size w0 W → J pre W → lfs xs = lvs k n t → pre.length + xs.length ≤ N →
      CallsIn Fence.wide m Try.prog 58 #[.pointer (some ⟨t.h.p, 0, none⟩), .string k, .func (.yield l) #[] #[]] W fun e W' =>
        (e = .returned (.bool true) ∧ J (pre ++ xs) W' ∧ Below w0.heap.size W W') ∨ (e = .returned (.bool false) ∧ ∃ q, q <+: xs ∧ Jx (pre ++ q) W')
  | 0, m, t, pre, xs, W, hN, hb, hJ, hxs, hle => by
    have e : lvs k 0 t = [t] := rfl
    rw [e] at hxs
    obtain ⟨x, rfl, hx⟩ : ∃ x, xs = [x] ∧ x.1 = t := by
      cases xs with
      | nil => simp [lfs] at hxs
      | cons x r => cases r with
        | nil => exact ⟨x, rfl, by simpa [lfs] using hxs⟩
        | cons y r => simp [lfs] at hxs
    have d0 : W.cell? ⟨t.h.p, 0, none⟩ = some (.int .i64 ((0 : Nat) : Int)) := (hN.lies.1.later hb).row.cell (i := 0) rfl
    have hpl : pre.length < N := by simp at hle; omega
    obtain ⟨fn, tmps, assign, body, hy, hR⟩ := hY (m - 1) pre x W hJ hpl
    rw [hx] at hy
    clear hN hxs hx hJ hle hpl hY
    generalize t.h.p = p at *
    refine callsIn_of_wp Try.func58 rfl trivial ?_ rfl
    simp only [Try.ntmps58, List.size_toArray, List.length_cons, List.length_nil, Nat.reduceAdd, Nat.reduceSub, Array.replicate_succ, Array.replicate_zero, List.push_toArray, List.append_toArray, List.nil_append, List.cons_append]
    gi_wp2
    refine ⟨(fun h => by cases h), hR.mono ?_⟩
    rintro e W3 (⟨rfl, hJ3, hk3⟩ | ⟨rfl, hJx3⟩)
    · gi_wp2
      go_ret
      exact .inl ⟨rfl, hJ3, hk3⟩
    · gi_wp2
      go_ret
      exact .inr ⟨rfl, [x], List.prefix_refl _, hJx3⟩
  | n + 1, m, t, pre, xs, W, hN, hb, hJ, hxs, hle => by
    have ih := walk_in hF hF2 k w0 l N J Jx hJd hY n
    have hA := hN.lies.1.later hb
    have d0 : W.cell? ⟨t.h.p, 0, none⟩ = some (.int .i64 ((n + 1 : Nat) : Int)) := hA.row.cell (i := 0) rfl
    have hpos := hN.pos (by omega)
    have hp := place_lt k (abs (n + 2) t).l (by rw [abs_l, List.length_map]; exact hpos)
    rw [abs_l, List.length_map, ← abs_l] at hp
    have hPl := fun X (hx : Below W.heap.size W X) => place_any t.h (n + 1) _ k X (hA.later hx) (hN.keys hF) (by rw [List.length_map]; have := hN.le; omega)
    rw [keysE] at hPl
    have e : lvs k (n + 1) t = (t.l.drop (place k (abs (n + 2) t).l)).flatMap (lvs k n) := rfl
    rw [e] at hxs
    obtain ⟨i, hi⟩ : ∃ i, i = place k (abs (n + 2) t).l := ⟨_, rfl⟩
    have HPl : Hid (∀ X, Below W.heap.size W X → Calls Try.prog 62 #[.pointer (some ⟨t.h.p, 0, none⟩), .string k] X fun e w' => e = .returned (.int .i64 (i : Nat)) ∧ Below X.heap.size X w') := by rw [hi]; exact hPl
    rw [← hi] at hxs hp
    obtain ⟨s0, hs0⟩ : ∃ s, (t.l.map (slE (n + 1)))[0]? = some s := ⟨_, List.getElem?_eq_getElem (by rw [List.length_map]; exact hpos)⟩
    obtain ⟨g, cap, hv, _, hcap, hcm, hgl, _⟩ := hA.own.at hs0
    rw [List.length_map] at hv hcap
    have d1 : ∀ X, Below W.heap.size W X → X.cell? ⟨t.h.p, 1, none⟩ = some (.slice (some ⟨g, 0, none⟩) t.l.length cap) := fun X hx => by rw [← hv]; exact (hA.later hx).row.cell (i := 1) rfl
    have HC : Hid (∀ X, Below w0.heap.size W X → ∀ j d, t.l[j]? = some d → ∃ s1 s2, X.cell? ⟨g, j * 3, none⟩ = some (.string s1) ∧ X.cell? ⟨g, j * 3 + 1, none⟩ = some (.string s2) ∧ X.cell? ⟨g, j * 3 + 2, none⟩ = some (.pointer (some ⟨d.h.p, 0, none⟩))) := fun X hx j d hd => by
      have hA2 := hN.lies.1.later (hb.trans hx)
      obtain ⟨g', cap', hv', _, _, _, _, q0, q1, q2, _⟩ := hA2.own.at (i := j) (s := slE (n + 1) d) (by rw [List.getElem?_map, hd]; rfl)
      rw [List.length_map, hv] at hv'; cases hv'
      exact ⟨_, _, q0, q1, q2⟩
    have HK : Hid (∀ d ∈ t.l, Nod F w0 n d) := fun d hd => hN.kid hF hd
    have HA : Hid (∀ X, Below W.heap.size W X → Along F w0 W k n (t.l.drop i) J pre xs 0 X) := fun X hx => ⟨⟨[], xs, rfl, by rw [List.drop_zero]; exact hxs, by rw [List.append_nil]; exact hJd _ _ _ hJ hx⟩, hx.mono hb.size⟩
    have HL : Hid (∀ j, j < t.l.length - i → ∃ d, t.l[i + j]? = some d ∧ (t.l.drop i)[j]? = some d) := fun j hj => ⟨_, List.getElem?_eq_getElem (by omega), by rw [List.getElem?_drop]; exact List.getElem?_eq_getElem (by omega)⟩
    have HLe : Hid (∀ j, ¬ j < t.l.length - i → (t.l.drop i).length ≤ j) := fun j hj => by rw [List.length_drop]; omega
    have HJd : Hid (∀ pre W W', J pre W → Below W.heap.size W W' → J pre W') := hJd
    have Hle : Hid (pre.length + xs.length ≤ N) := hle
    have Hb : Hid (Below w0.heap.size w0 W) := hb
    have HM : Hid (∀ d, ∀ j, t.l[j]? = some d → d ∈ t.l) := fun d j h => List.mem_of_getElem? h
    have hci : ¬ cap = i := by omega
    have h1 : (i : Int) ≤ (t.l.length : Int) := by omega
    have h2 : (t.l.length : Int) ≤ (cap : Int) := by omega
    have hn0 : ((n + 1 : Nat) : Int) ≠ 0 := by omega
    have hn1 : (((n + 1 : Nat) : Int) == 0) = false := by rw [beq_eq_false_iff_ne]; omega
    have Hgl : Hid (g < W.heap.size) := hgl
    unfold maxLen at hcm
    clear hJd hle hb hxs hA hN hJ hPl hs0 hv hi e hY
    generalize ((n + 1 : Nat) : Int) = L at *
    generalize hln : t.l.length = M at *
    refine callsIn_of_wp Try.func58 rfl trivial ?_ rfl
    simp only [Try.ntmps58, List.size_toArray, List.length_cons, List.length_nil, Nat.reduceAdd, Nat.reduceSub, Array.replicate_succ, Array.replicate_zero, List.push_toArray, List.append_toArray, List.nil_append, List.cons_append]
    gi_wp2
    have q1 := d1 W (Below.refl _ _)
    gi_region_with (refine ⟨trivial, (fun h => by cases h), ?_⟩; gi_at_call 62; refine (callsIn_wide.2 (HPl.out _ (by first | exact Below.refl _ _ | exact below_drawn W 1 | exact below_drawn W 2))).mono ?_; rintro e W1 ⟨rfl, hb1⟩; have HB1 : Hid (Below W.heap.size W W1) := (by first | exact hb1 | exact bafter (below_drawn W 1) hb1 | exact bafter (below_drawn W 2) hb1); have q2 := d1 W1 HB1.out; clear hb1)
    all_goals
      gi_wp2
      gi_loopw [26] (fun s wr => ∃ j : Nat, s = .int .i64 (j : Nat) ∧ j ≤ M - i ∧ Hid (Along F w0 W k n (t.l.drop i) J pre xs j wr)) (fun s _ => M - i - (intOf s).toNat)
      case atStart => exact ⟨0, rfl, by omega, HA.out _ (by first | exact HB1.out | exact bafter HB1.out (below_drawn _ 1))⟩
      case round =>
        obtain ⟨j, rfl, hj, I⟩ := hrel
        by_cases hlt : j < M - i
        · obtain ⟨d, hd1, hd2⟩ := HL.out j hlt
          obtain ⟨s1, s2, c0, c1, c2⟩ := HC.out wr I.out.below (i + j) d hd1
          have e3 : (i + j) * 3 = i * 3 + j * 3 := by omega
          rw [e3] at c0 c1 c2
          have HCall : Hid (∀ X, Below wr.heap.size wr X → CallsIn Fence.wide (m - 1) Try.prog 58 #[.pointer (some ⟨d.h.p, 0, none⟩), .string k, .func (.yield l) #[] #[]] X fun e W' =>
              (e = .returned (.bool true) ∧ Hid (Along F w0 W k n (t.l.drop i) J pre xs (j + 1) W')) ∨ (e = .returned (.bool false) ∧ Hid (∃ q, q <+: xs ∧ Jx (pre ++ q) W'))) := fun X hX => by
            obtain ⟨ys, zs, us, e1, e2, hJ1, hnext⟩ := I.out.step hd2
            have hlen := Hle.out
            rw [e1, List.length_append, List.length_append] at hlen
            have hwr := Hb.out.trans I.out.below
            refine (ih (m - 1) d (pre ++ ys) zs X (HK.out d (HM.out d _ hd1)) (hwr.trans (hX.mono hwr.size)) (HJd.out _ _ _ hJ1 hX) e2 (by rw [List.length_append]; omega)).mono ?_
            rintro e W' (⟨rfl, q1, q2⟩ | ⟨rfl, q, q1, q2⟩)
            · exact .inl ⟨rfl, hnext W' q1 ((hX.mono hwr.size).trans q2)⟩
            · exact .inr ⟨rfl, ys ++ q, by rw [e1]; exact (List.prefix_append_right_inj ys).2 (q1.trans (List.prefix_append _ _)), by rw [← List.append_assoc]; exact q2⟩
          have hi1 : (j : Int) < (M : Int) - (i : Int) := by omega
          have hi2 : (j : Int) < ((M - i : Nat) : Int) := by omega
          clear hd1 hd2 I
          gi_wp2_with (refine ⟨trivial, (fun h => by cases h), ?_⟩; gi_at_call 58; refine (HCall.out _ (by first | exact below_new _ _ | exact Below.refl _ _)).mono ?_; rintro e W2 (⟨rfl, I2⟩ | ⟨rfl, I2⟩))
          · refine ⟨⟨j + 1, by simp, by omega, I2⟩, ?_⟩
            simp [intOf]; omega
          · go_ret
            exact .inr ⟨rfl, I2.out⟩
        · have hi1 : ¬ (j : Int) < (M : Int) - (i : Int) := by omega
          have hi2 : ¬ (j : Int) < ((M - i : Nat) : Int) := by omega
          gi_wp2
          go_ret
          exact .inl ⟨rfl, I.out.all (HLe.out j hlt), I.out.below⟩
end Go.Proofs.Ytlfgeanafidopaa.Bt
