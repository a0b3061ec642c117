/-
  A tree as it lies; leaf and Get.
-/
import Derived.Test.YtpflacbinankmaaBTree
import Derived.Deep.RegionHeld3
import Derived.Deep.LoopGhost
namespace Go.Proofs.Ytpflacbinankmaa.Bt
open Go.RowKit
set_option maxRecDepth 10000

/-- What a tree's nodes keep to. -/
structure Inv (F n : Nat) (T : El (n + 1)) : Prop where
  good : Good F n T
  le : T.l.length ≤ F
  two : 0 < n → 2 ≤ T.l.length
structure TreeAt (w : World) (p F : Nat) {n : Nat} (t : En (n + 1)) : Prop where
  row : Row w p [.int .i64 (F : Nat), .int .i64 (((flats (abs (n + 1) t).l).length : Nat) : Int), .pointer (some ⟨t.h.p, 0, none⟩)] 67
  lies : Lies w (n + 1) t
  nd : (foot (n + 1) t).Nodup
theorem Row.notFoot {w : World} {p : Nat} {cs : List Value} {ty : TypeId} (h : Row w p cs ty) (h1 : ty ≠ 74) (h2 : ty ≠ 77) : ∀ {n : Nat} {t : En n}, Lies w n t → p ∉ foot n t
  | 0, _, _, hm => by simp [foot] at hm
  | n + 1, t, hl, hm => by
    rw [foot_succ, List.mem_append] at hm
    rcases hm with hm | hm
    · rcases List.mem_cons.1 hm with e | e
      · rw [e] at h; exact h.ne hl.1.row h1 rfl
      · obtain ⟨_, cs, hw⟩ := hl.1.own.lt p (by simpa using e)
        exact h.ne ⟨[], by rw [List.append_nil]; exact hw⟩ h2 rfl
    · obtain ⟨e, he, hb⟩ := mem_footL.1 hm
      exact Row.notFoot h h1 h2 (hl.2 e he) hb
theorem TreeAt.later {w w' : World} {p F n : Nat} {t : En (n + 1)} (h : TreeAt w p F t) (hb : Below w.heap.size w w') : TreeAt w' p F t := ⟨h.row.later hb, h.lies.later hb, h.nd⟩
theorem TreeAt.notIn {w : World} {p F n : Nat} {t : En (n + 1)} (h : TreeAt w p F t) : p ∉ foot (n + 1) t := h.row.notFoot (by decide) (by decide) h.lies
/-- A node on the way down to a key's leaf. -/
structure Way (F : Nat) (w : World) (k : K) (l : List KV) {m : Nat} (c : En (m + 1)) : Prop where
  lies : Lies w (m + 1) c
  good : Good F m (abs (m + 1) c)
  le : c.l.length ≤ F
  pos : 0 < m → 0 < c.l.length
  look : look k l = look k (flats (abs (m + 1) c).l)
theorem Way.down {F : Nat} (hF : 4 ≤ F) {w : World} {k : K} {l : List KV} {m : Nat} {c : En (m + 2)} (h : Way F w k l c) : ∃ d : En (m + 1), c.l[place k (abs (m + 2) c).l]? = some d ∧ Way F w k l d := by
  have hp := place_lt k (abs (m + 2) c).l (by rw [abs_l, List.length_map]; exact h.pos (by omega))
  rw [abs_l, List.length_map, ← abs_l] at hp
  obtain ⟨d, hd⟩ : ∃ d, c.l[place k (abs (m + 2) c).l]? = some d := ⟨_, List.getElem?_eq_getElem hp⟩
  have hd' : (abs (m + 2) c).l[place k (abs (m + 2) c).l]? = some (abs (m + 1) d) := by rw [abs_l, List.getElem?_map, ← abs_l, hd]; rfl
  have hm := List.mem_of_getElem? hd'
  obtain ⟨f1, f2, f3⟩ := h.good.kids _ hm
  rw [abs_l, List.length_map] at f1 f2
  obtain ⟨o1, o2⟩ := located (h.good.hd hF) h.good.srt hd'
  refine ⟨d, hd, h.lies.2 d (List.mem_of_getElem? hd), h.good.kid hm, f2, fun _ => by omega, ?_⟩
  rw [h.look]
  conv => lhs; rw [split_at hd', flats_append, flats_cons, look_left k _ _ o1, look_right k _ _ o2, flat_succ]
theorem Way.keys {F : Nat} (hF : 4 ≤ F) {w : World} {k : K} {l : List KV} {m : Nat} {c : En (m + 1)} (h : Way F w k l c) : Ksrt ((c.l.map (slE m)).map Sl.k) := by rw [keysE]; exact keys_srt _ (h.good.hd hF) h.good.srt
set_option maxHeartbeats 2000000 in
theorem leaf_any {F : Nat} (hF : 4 ≤ F) (hF2 : F ≤ 64) (k : K) (p n : Nat) (t : En (n + 1)) (w : World) (hT : TreeAt w p F t) (hI : Inv F n (abs (n + 1) t)) :
    Calls Try.prog 47 #[.pointer (some ⟨p, 0, none⟩), .string k] w fun e w' => ∃ c : En 1, e = .returned (.pointer (some ⟨c.h.p, 0, none⟩)) ∧ Below w.heap.size w w' ∧ Way F w k (flats (abs (n + 1) t).l) c := by
  have h0 : Way F w k (flats (abs (n + 1) t).l) t := ⟨hT.lies, hI.good, by have := hI.le; rwa [abs_l, List.length_map] at this, fun hn => by have := hI.two hn; rw [abs_l, List.length_map] at this; omega, rfl⟩
  have c2 : w.cell? ⟨p, 2, none⟩ = some (.pointer (some ⟨t.h.p, 0, none⟩)) := hT.row.cell (i := 2) rfl
  have H0 : Hid (Way F w k (flats (abs (n + 1) t).l) t) := h0
  clear h0 hT hI
  go_enter Try.func47, Try.ntmps47
  go_wp2
  go_loopg [5] n (fun kx s5 wr => ∃ (m : Nat) (c : En (m + 1)), m = kx ∧ s5 = .pointer (some ⟨c.h.p, 0, none⟩) ∧ Hid (Below w.heap.size w wr ∧ Way F w k (flats (abs (n + 1) t).l) c))
  case atStart => exact ⟨n, t, rfl, rfl, (⟨Below.refl _ _, H0.out⟩ : Below w.heap.size w w ∧ Way F w k (flats (abs (n + 1) t).l) t)⟩
  case round =>
    obtain ⟨m, c, rfl, rfl, I⟩ := hrel
    have hA := I.out.2.lies.1.later I.out.1
    have d0 : wr.cell? ⟨c.h.p, 0, none⟩ = some (.int .i64 (m : Nat)) := hA.row.cell (i := 0) rfl
    cases m with
    | zero =>
      clear hA
      go_wp2
      go_ret
      exact ⟨c, rfl, I.out.1, I.out.2⟩
    | succ m =>
      obtain ⟨d, hd, hW⟩ := I.out.2.down hF
      have hkeys := I.out.2.keys hF
      have hle := I.out.2.le
      have hPl := fun X (hb : Below wr.heap.size wr X) => place_any c.h (m + 1) _ k X (hA.later hb) hkeys (by rw [List.length_map]; omega)
      rw [keysE] at hPl
      obtain ⟨i, hi⟩ : ∃ i, i = place k (abs (m + 2) c).l := ⟨_, rfl⟩
      have hPl : ∀ X, Below wr.heap.size wr X → Calls Try.prog 62 #[.pointer (some ⟨c.h.p, 0, none⟩), .string k] X fun e w' => e = .returned (.int .i64 (i : Nat)) ∧ Below X.heap.size X w' := by rw [hi]; exact hPl
      rw [← hi] at hd
      have hsl : (c.l.map (slE (m + 1)))[i]? = some (slE (m + 1) d) := by rw [List.getElem?_map, hd]; rfl
      have HC : Hid (∀ X, Below wr.heap.size wr X → ∃ g cap, c.h.v = .slice (some ⟨g, 0, none⟩) c.l.length cap ∧ X.cell? ⟨c.h.p, 1, none⟩ = some (.slice (some ⟨g, 0, none⟩) c.l.length cap) ∧ X.cell? ⟨g, i * 3 + 2, none⟩ = some (.pointer (some ⟨d.h.p, 0, none⟩))) := fun X hb => by
        obtain ⟨g, cap, hv, _, _, _, _, _, _, q2, _⟩ := (hA.later hb).own.at hsl
        rw [List.length_map] at hv
        exact ⟨g, cap, hv, by rw [← hv]; exact (hA.later hb).row.cell (i := 1) rfl, q2⟩
      obtain ⟨g, cap, hv, q1, q2⟩ := HC.out wr (Below.refl _ _)
      have HC2 : Hid (∀ X, Below wr.heap.size wr X → X.cell? ⟨c.h.p, 1, none⟩ = some (.slice (some ⟨g, 0, none⟩) c.l.length cap) ∧ X.cell? ⟨g, i * 3 + 2, none⟩ = some (.pointer (some ⟨d.h.p, 0, none⟩))) := fun X hb => by
        obtain ⟨g', cap', hv', z1, z2⟩ := HC.out X hb
        rw [hv] at hv'; cases hv'
        exact ⟨z1, z2⟩
      have hil : (i : Int) < (c.l.length : Int) := by have := (List.getElem?_eq_some_iff.1 hd).1; omega
      have HPl : Hid (∀ X, Below wr.heap.size wr X → Calls Try.prog 62 #[.pointer (some ⟨c.h.p, 0, none⟩), .string k] X fun e w' => e = .returned (.int .i64 (i : Nat)) ∧ Below X.heap.size X w') := hPl
      have HW : Hid (Way F w k (flats (abs (n + 1) t).l) d) := hW
      have hm : (0 : Int) < ((m + 1 : Nat) : Int) := by omega
      generalize hlv : ((m + 1 : Nat) : Int) = lv at d0 hm
      clear hA hkeys hPl hd hsl hW hv HC hi hlv
      generalize c.l.length = N at *
      go_wp2
      go_region_held3 (fun w' => w'.cell? ⟨c.h.p, 1, none⟩ = some (.slice (some ⟨g, 0, none⟩) N cap) ∧ w'.cell? ⟨g, i * 3 + 2, none⟩ = some (.pointer (some ⟨d.h.p, 0, none⟩))) (first | assumption | go_keep)
        (first
        | (go_at_call 62; refine (HPl.out _ (below_drawn wr 1)).mono ?_; rintro e W2 ⟨rfl, hb⟩; have hS := HC2.out W2 (bafter (below_drawn wr 1) hb); have HB : Hid (Below wr.heap.size wr W2) := bafter (below_drawn wr 1) hb; clear hb))
      all_goals go_wp2
      all_goals
        go_roundg m
        case measure => omega
        case rel => exact ⟨m, d, rfl, rfl, (⟨bafter I.out.1 HB.out, HW.out⟩ : Below w.heap.size w W2 ∧ Way F w k (flats (abs (n + 1) t).l) d)⟩
/-- What Get tells of a list. -/
def gotV (o : Option K) : Value := .tuple #[.string (o.getD ⟨#[]⟩), .bool o.isSome]
theorem Way.leafLook {F : Nat} {w : World} {k : K} {l : List KV} {c : En 1} (h : Way F w k l c) : Bt.look k l = match (c.l)[lb k ((c.l.map (slE 0)).map Sl.k)]? with | none => none | some x => if (slE 0 x).k = k then some (slE 0 x).v else none := by
  have hs := h.good.srt
  rw [h.look, abs_l, flats_zero] at *
  rw [look_at hs]
  have e : ((c.l.map (abs 0)).map El.pair).map Prod.fst = (c.l.map (slE 0)).map Sl.k := by rw [keysE, keys_zero]
  rw [e, List.map_map, List.getElem?_map]
  cases (c.l)[lb k ((c.l.map (slE 0)).map Sl.k)]? with
  | none => rfl
  | some x => rfl
set_option maxHeartbeats 2000000 in
theorem get_any {F : Nat} (hF : 4 ≤ F) (hF2 : F ≤ 64) (k : K) (p n : Nat) (t : En (n + 1)) (w : World) (hT : TreeAt w p F t) (hI : Inv F n (abs (n + 1) t)) :
    Calls Try.prog 23 #[.pointer (some ⟨p, 0, none⟩), .string k] w fun e w' => e = .returned (gotV (look k (flats (abs (n + 1) t).l))) ∧ Below w.heap.size w w' := by
  have hL := leaf_any hF hF2 k p n t w hT hI
  obtain ⟨R, hR⟩ : ∃ R, R = look k (flats (abs (n + 1) t).l) := ⟨_, rfl⟩
  have HR : Hid (R = look k (flats (abs (n + 1) t).l)) := hR
  rw [← hR]
  clear hT hI hR
  go_enter Try.func23, Try.ntmps23
  go_wp2_with (go_at_call 47; refine hL.mono ?_; rintro e W1 ⟨c, rfl, hb, hW⟩; have HB : Hid (Below w.heap.size w W1) := hb; have HW : Hid (Way F w k (flats (abs (n + 1) t).l) c) := hW; have hA := hW.lies.1.later hb; have hFr := from_any c.h 0 _ k W1 hA (hW.keys hF) (by rw [List.length_map]; have := hW.le; omega); have hlk := hW.leafLook; rw [← HR.out] at hlk; clear hb hW)
  have hlb := lb_le k ((c.l.map (slE 0)).map Sl.k)
  rw [List.length_map, List.length_map] at hlb
  have hle := HW.out.le
  have hA2 := fun X (hb : Below W1.heap.size W1 X) => hA.later hb
  generalize lb k ((c.l.map (slE 0)).map Sl.k) = i at *
  cases hx : (c.l)[i]? with
  | none =>
    rw [hx] at hlk
    subst hlk
    have hin : i = c.l.length := by have := List.getElem?_eq_none_iff.1 hx; omega
    have HC : Hid (∀ X, Below W1.heap.size W1 X → ∃ a cap, X.cell? ⟨c.h.p, 1, none⟩ = some (.slice a c.l.length cap)) := fun X hb => by
      obtain ⟨a, cap, hv, _⟩ := (hA2 X hb).own.slice
      rw [List.length_map] at hv
      exact ⟨a, cap, by rw [← hv]; exact (hA2 X hb).row.cell (i := 1) rfl⟩
    subst hin
    clear hA hA2 hx HW hlb
    generalize c.l.length = N at *
    refine hFr.mono ?_
    rintro e W2 ⟨rfl, hb2⟩
    obtain ⟨a, cap, q1⟩ := HC.out W2 hb2
    have HB2 : Hid (Below w.heap.size w W2) := bafter HB.out hb2
    clear hb2
    go_wp2
    go_ret2
    exact ⟨rfl, HB2.out⟩
  | some x =>
    rw [hx] at hlk
    replace hlk : R = if (slE 0 x).k = k then some (slE 0 x).v else none := hlk
    have hsl : (c.l.map (slE 0))[i]? = some (slE 0 x) := by rw [List.getElem?_map, hx]; rfl
    have hin := (List.getElem?_eq_some_iff.1 hx).1
    have HC : Hid (∀ X, Below W1.heap.size W1 X → ∃ g cap, X.cell? ⟨c.h.p, 1, none⟩ = some (.slice (some ⟨g, 0, none⟩) c.l.length cap) ∧ X.cell? ⟨g, i * 3, none⟩ = some (.string (slE 0 x).k) ∧ X.cell? ⟨g, i * 3 + 1, none⟩ = some (.string (slE 0 x).v)) := fun X hb => by
      obtain ⟨g, cap, hv, _, _, _, _, q0, q1, _⟩ := (hA2 X hb).own.at hsl
      rw [List.length_map] at hv
      exact ⟨g, cap, by rw [← hv]; exact (hA2 X hb).row.cell (i := 1) rfl, q0, q1⟩
    generalize (slE 0 x).k = xk at *
    generalize (slE 0 x).v = xv at *
    have hi1 : (i : Int) < (c.l.length : Int) := by omega
    have hi2 : ¬ (i : Int) = (c.l.length : Int) := by omega
    have hi3 : ((i : Int) == (c.l.length : Int)) = false := by simpa using hi2
    clear hA hA2 hx HW hlb hsl hin
    generalize c.l.length = N at *
    by_cases he : xk = k
    · rw [if_pos he] at hlk
      subst hlk
      have e1 : (xk.toList == k.toList) = true := by rw [keq, he]; simp
      have e2 : (xk.toList != k.toList) = false := by rw [bne, e1]; rfl
      clear he
      refine hFr.mono ?_
      rintro e W2 ⟨rfl, hb2⟩
      obtain ⟨g, cap, q1, q2, q3⟩ := HC.out W2 hb2
      have HB2 : Hid (Below w.heap.size w W2) := bafter HB.out hb2
      clear hb2
      go_wp2
      go_ret2
      exact ⟨rfl, HB2.out⟩
    · rw [if_neg he] at hlk
      subst hlk
      have e1 : (xk.toList == k.toList) = false := by rw [keq]; simp [he]
      have e2 : (xk.toList != k.toList) = true := by rw [bne, e1]; rfl
      clear he
      refine hFr.mono ?_
      rintro e W2 ⟨rfl, hb2⟩
      obtain ⟨g, cap, q1, q2, q3⟩ := HC.out W2 hb2
      have HB2 : Hid (Below w.heap.size w W2) := bafter HB.out hb2
      clear hb2
      go_wp2
      go_ret2
      exact ⟨rfl, HB2.out⟩
end Go.Proofs.Ytpflacbinankmaa.Bt
