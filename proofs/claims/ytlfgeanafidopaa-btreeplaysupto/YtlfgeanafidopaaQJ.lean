/-
  put, at whatever level.
  A tree as it lies; leaf and Get.
  A tree without places: grow, fall, Put and Delete on it; small functions.
-/
import Derived.Test.YtlfgeanafidopaaQI
import Derived.Test.YtlfgeanafidopaaQE
import Derived.Deep.RegionHeld3
import Derived.Deep.LoopGhost
namespace Go.Proofs.Ytlfgeanafidopaa.Bt
open Go.RowKit

/-- A node that is no leaf, opened at the place of a key. -/
theorem ctx_of {n : Nat} {F : Nat} (hF2 : F ≤ 64) {w : World} {t : En (n + 2)} (h : Lies w (n + 2) t) (hn : (foot (n + 2) t).Nodup) (hl : t.l.length ≤ F) (h0 : 0 < t.l.length) (k : K) :
    ∃ g N cap A B c, Ctx w t (place k (abs (n + 2) t).l) g N cap A B c ∧ (abs (n + 2) t).l[place k (abs (n + 2) t).l]? = some (abs (n + 1) c) := by
  have hp : place k (abs (n + 2) t).l < t.l.length := by
    have := place_lt k (abs (n + 2) t).l (by rw [abs_l, List.length_map]; exact h0)
    rwa [abs_l, List.length_map, ← abs_l] at this
  obtain ⟨c, hc⟩ : ∃ c, t.l[place k (abs (n + 2) t).l]? = some c := ⟨_, List.getElem?_eq_getElem hp⟩
  rcases h.1.own.form with ⟨_, e⟩ | ⟨g, cap, cs, hv, _⟩
  · have := congrArg List.length e; rw [List.length_map] at this; simp at this; rw [this] at h0; simp at h0
  · rw [List.length_map] at hv
    refine ⟨g, t.l.length, cap, _, _, c, ⟨h, hn, split_at hc, ?_, hv, rfl, by omega⟩, ?_⟩
    · rw [List.length_take]; omega
    · rw [abs_l, List.getElem?_map, ← abs_l, hc]; rfl
theorem put_any {F : Nat} (hF : 4 ≤ F) (hF2 : F ≤ 64) (k v : K) : ∀ n, Below1 F k v n
  | 0, c, w, h, hn, hg, hl, _ => put_leaf F k v c w h hn hg (by omega)
  | n + 1, t, w, h, hn, hg, hl, h0 => by
    obtain ⟨g, N, cap, A, B, c, x, hc⟩ := ctx_of hF2 h hn hl (h0 (by omega)) k
    have e : put F k v (n + 1) (abs (n + 2) t) = .nd true (putIn F (place k (abs (n + 2) t).l) (abs (n + 2) t).l (put F k v n (abs (n + 1) c))) := by rw [put, hc]
    rw [e]
    by_cases hC : (put F k v n (abs (n + 1) c)).l.length ≤ F
    · exact put_keep F hF hF2 k v (put_any hF hF2 k v n) w t _ g N cap A B c x hg rfl _ rfl hC
    · exact put_split F hF hF2 k v (put_any hF hF2 k v n) w t _ g N cap A B c x hg rfl _ rfl (by omega)
end Go.Proofs.Ytlfgeanafidopaa.Bt
namespace Go.Proofs.Ytlfgeanafidopaa.Bt
open Go.RowKit
set_option maxRecDepth 10000

/-- What a tree's nodes keep to. -/
structure Inv (F n : Nat) (T : El (n + 1)) : Prop where
  good : Good F n T
  le : T.l.length ≤ F
  two : 0 < n → 2 ≤ T.l.length
structure TreeAt (w : World) (p F : Nat) {n : Nat} (t : En (n + 1)) : Prop where
  row : Row w p [.int .i64 (F : Nat), .int .i64 (((flats (abs (n + 1) t).l).length : Nat) : Int), .pointer (some ⟨t.h.p, 0, none⟩)] 67
  lies : Lies w (n + 1) t
  nd : (foot (n + 1) t).Nodup
theorem Row.notFoot {w : World} {p : Nat} {cs : List Value} {ty : TypeId} (h : Row w p cs ty) (h1 : ty ≠ 74) (h2 : ty ≠ 77) : ∀ {n : Nat} {t : En n}, Lies w n t → p ∉ foot n t
  | 0, _, _, hm => by simp [foot] at hm
  | n + 1, t, hl, hm => by
    rw [foot_succ, List.mem_append] at hm
    rcases hm with hm | hm
    · rcases List.mem_cons.1 hm with e | e
      · rw [e] at h; exact h.ne hl.1.row h1 rfl
      · obtain ⟨_, cs, hw⟩ := hl.1.own.lt p (by simpa using e)
        exact h.ne ⟨[], by rw [List.append_nil]; exact hw⟩ h2 rfl
    · obtain ⟨e, he, hb⟩ := mem_footL.1 hm
      exact Row.notFoot h h1 h2 (hl.2 e he) hb
theorem TreeAt.later {w w' : World} {p F n : Nat} {t : En (n + 1)} (h : TreeAt w p F t) (hb : Below w.heap.size w w') : TreeAt w' p F t := ⟨h.row.later hb, h.lies.later hb, h.nd⟩
theorem TreeAt.notIn {w : World} {p F n : Nat} {t : En (n + 1)} (h : TreeAt w p F t) : p ∉ foot (n + 1) t := h.row.notFoot (by decide) (by decide) h.lies
/-- A node on the way down to a key's leaf. -/
structure Way (F : Nat) (w : World) (k : K) (l : List KV) {m : Nat} (c : En (m + 1)) : Prop where
  lies : Lies w (m + 1) c
  good : Good F m (abs (m + 1) c)
  le : c.l.length ≤ F
  pos : 0 < m → 0 < c.l.length
  look : look k l = look k (flats (abs (m + 1) c).l)
theorem Way.down {F : Nat} (hF : 4 ≤ F) {w : World} {k : K} {l : List KV} {m : Nat} {c : En (m + 2)} (h : Way F w k l c) : ∃ d : En (m + 1), c.l[place k (abs (m + 2) c).l]? = some d ∧ Way F w k l d := by
  have hp := place_lt k (abs (m + 2) c).l (by rw [abs_l, List.length_map]; exact h.pos (by omega))
  rw [abs_l, List.length_map, ← abs_l] at hp
  obtain ⟨d, hd⟩ : ∃ d, c.l[place k (abs (m + 2) c).l]? = some d := ⟨_, List.getElem?_eq_getElem hp⟩
  have hd' : (abs (m + 2) c).l[place k (abs (m + 2) c).l]? = some (abs (m + 1) d) := by rw [abs_l, List.getElem?_map, ← abs_l, hd]; rfl
  have hm := List.mem_of_getElem? hd'
  obtain ⟨f1, f2, f3⟩ := h.good.kids _ hm
  rw [abs_l, List.length_map] at f1 f2
  obtain ⟨o1, o2⟩ := located (h.good.hd hF) h.good.srt hd'
  refine ⟨d, hd, h.lies.2 d (List.mem_of_getElem? hd), h.good.kid hm, f2, fun _ => by omega, ?_⟩
  rw [h.look]
  conv => lhs; rw [split_at hd', flats_append, flats_cons, look_left k _ _ o1, look_right k _ _ o2, flat_succ]
theorem Way.keys {F : Nat} (hF : 4 ≤ F) {w : World} {k : K} {l : List KV} {m : Nat} {c : En (m + 1)} (h : Way F w k l c) : Ksrt ((c.l.map (slE m)).map Sl.k) := by rw [keysE]; exact keys_srt _ (h.good.hd hF) h.good.srt
set_option maxHeartbeats 2000000 in
theorem leaf_any {F : Nat} (hF : 4 ≤ F) (hF2 : F ≤ 64) (k : K) (p n : Nat) (t : En (n + 1)) (w : World) (hT : TreeAt w p F t) (hI : Inv F n (abs (n + 1) t)) :
    Calls Try.prog 47 #[.pointer (some ⟨p, 0, none⟩), .string k] w fun e w' => ∃ c : En 1, e = .returned (.pointer (some ⟨c.h.p, 0, none⟩)) ∧ Below w.heap.size w w' ∧ Way F w k (flats (abs (n + 1) t).l) c := by
  have h0 : Way F w k (flats (abs (n + 1) t).l) t := ⟨hT.lies, hI.good, by have := hI.le; rwa [abs_l, List.length_map] at this, fun hn => by have := hI.two hn; rw [abs_l, List.length_map] at this; omega, rfl⟩
  have c2 : w.cell? ⟨p, 2, none⟩ = some (.pointer (some ⟨t.h.p, 0, none⟩)) := hT.row.cell (i := 2) rfl
  have H0 : Hid (Way F w k (flats (abs (n + 1) t).l) t) := h0
  clear h0 hT hI
  go_enter Try.func47, Try.ntmps47
  go_wp2
  go_loopg [5] n (fun kx s5 wr => ∃ (m : Nat) (c : En (m + 1)), m = kx ∧ s5 = .pointer (some ⟨c.h.p, 0, none⟩) ∧ Hid (Below w.heap.size w wr ∧ Way F w k (flats (abs (n + 1) t).l) c))
  case atStart => exact ⟨n, t, rfl, rfl, (⟨Below.refl _ _, H0.out⟩ : Below w.heap.size w w ∧ Way F w k (flats (abs (n + 1) t).l) t)⟩
  case round =>
    obtain ⟨m, c, rfl, rfl, I⟩ := hrel
    have hA := I.out.2.lies.1.later I.out.1
    have d0 : wr.cell? ⟨c.h.p, 0, none⟩ = some (.int .i64 (m : Nat)) := hA.row.cell (i := 0) rfl
    cases m with
    | zero =>
      clear hA
      go_wp2
      go_ret
      exact ⟨c, rfl, I.out.1, I.out.2⟩
    | succ m =>
      obtain ⟨d, hd, hW⟩ := I.out.2.down hF
      have hkeys := I.out.2.keys hF
      have hle := I.out.2.le
      have hPl := fun X (hb : Below wr.heap.size wr X) => place_any c.h (m + 1) _ k X (hA.later hb) hkeys (by rw [List.length_map]; omega)
      rw [keysE] at hPl
      obtain ⟨i, hi⟩ : ∃ i, i = place k (abs (m + 2) c).l := ⟨_, rfl⟩
      have hPl : ∀ X, Below wr.heap.size wr X → Calls Try.prog 62 #[.pointer (some ⟨c.h.p, 0, none⟩), .string k] X fun e w' => e = .returned (.int .i64 (i : Nat)) ∧ Below X.heap.size X w' := by rw [hi]; exact hPl
      rw [← hi] at hd
      have hsl : (c.l.map (slE (m + 1)))[i]? = some (slE (m + 1) d) := by rw [List.getElem?_map, hd]; rfl
      have HC : Hid (∀ X, Below wr.heap.size wr X → ∃ g cap, c.h.v = .slice (some ⟨g, 0, none⟩) c.l.length cap ∧ X.cell? ⟨c.h.p, 1, none⟩ = some (.slice (some ⟨g, 0, none⟩) c.l.length cap) ∧ X.cell? ⟨g, i * 3 + 2, none⟩ = some (.pointer (some ⟨d.h.p, 0, none⟩))) := fun X hb => by
        obtain ⟨g, cap, hv, _, _, _, _, _, _, q2, _⟩ := (hA.later hb).own.at hsl
        rw [List.length_map] at hv
        exact ⟨g, cap, hv, by rw [← hv]; exact (hA.later hb).row.cell (i := 1) rfl, q2⟩
      obtain ⟨g, cap, hv, q1, q2⟩ := HC.out wr (Below.refl _ _)
      have HC2 : Hid (∀ X, Below wr.heap.size wr X → X.cell? ⟨c.h.p, 1, none⟩ = some (.slice (some ⟨g, 0, none⟩) c.l.length cap) ∧ X.cell? ⟨g, i * 3 + 2, none⟩ = some (.pointer (some ⟨d.h.p, 0, none⟩))) := fun X hb => by
        obtain ⟨g', cap', hv', z1, z2⟩ := HC.out X hb
        rw [hv] at hv'; cases hv'
        exact ⟨z1, z2⟩
      have hil : (i : Int) < (c.l.length : Int) := by have := (List.getElem?_eq_some_iff.1 hd).1; omega
      have HPl : Hid (∀ X, Below wr.heap.size wr X → Calls Try.prog 62 #[.pointer (some ⟨c.h.p, 0, none⟩), .string k] X fun e w' => e = .returned (.int .i64 (i : Nat)) ∧ Below X.heap.size X w') := hPl
      have HW : Hid (Way F w k (flats (abs (n + 1) t).l) d) := hW
      have hm : (0 : Int) < ((m + 1 : Nat) : Int) := by omega
      generalize hlv : ((m + 1 : Nat) : Int) = lv at d0 hm
      clear hA hkeys hPl hd hsl hW hv HC hi hlv
      generalize c.l.length = N at *
      go_wp2
      go_region_held3 (fun w' => w'.cell? ⟨c.h.p, 1, none⟩ = some (.slice (some ⟨g, 0, none⟩) N cap) ∧ w'.cell? ⟨g, i * 3 + 2, none⟩ = some (.pointer (some ⟨d.h.p, 0, none⟩))) (first | assumption | go_keep)
        (first
        | (go_at_call 62; refine (HPl.out _ (below_drawn wr 1)).mono ?_; rintro e W2 ⟨rfl, hb⟩; have hS := HC2.out W2 (bafter (below_drawn wr 1) hb); have HB : Hid (Below wr.heap.size wr W2) := bafter (below_drawn wr 1) hb; clear hb))
      all_goals go_wp2
      all_goals
        go_roundg m
        case measure => omega
        case rel => exact ⟨m, d, rfl, rfl, (⟨bafter I.out.1 HB.out, HW.out⟩ : Below w.heap.size w W2 ∧ Way F w k (flats (abs (n + 1) t).l) d)⟩
/-- What Get tells of a list. -/
def gotV (o : Option K) : Value := .tuple #[.string (o.getD ⟨#[]⟩), .bool o.isSome]
theorem Way.leafLook {F : Nat} {w : World} {k : K} {l : List KV} {c : En 1} (h : Way F w k l c) : Bt.look k l = match (c.l)[lb k ((c.l.map (slE 0)).map Sl.k)]? with | none => none | some x => if (slE 0 x).k = k then some (slE 0 x).v else none := by
  have hs := h.good.srt
  rw [h.look, abs_l, flats_zero] at *
  rw [look_at hs]
  have e : ((c.l.map (abs 0)).map El.pair).map Prod.fst = (c.l.map (slE 0)).map Sl.k := by rw [keysE, keys_zero]
  rw [e, List.map_map, List.getElem?_map]
  cases (c.l)[lb k ((c.l.map (slE 0)).map Sl.k)]? with
  | none => rfl
  | some x => rfl
set_option maxHeartbeats 2000000 in
theorem get_any {F : Nat} (hF : 4 ≤ F) (hF2 : F ≤ 64) (k : K) (p n : Nat) (t : En (n + 1)) (w : World) (hT : TreeAt w p F t) (hI : Inv F n (abs (n + 1) t)) :
    Calls Try.prog 23 #[.pointer (some ⟨p, 0, none⟩), .string k] w fun e w' => e = .returned (gotV (look k (flats (abs (n + 1) t).l))) ∧ Below w.heap.size w w' := by
  have hL := leaf_any hF hF2 k p n t w hT hI
  obtain ⟨R, hR⟩ : ∃ R, R = look k (flats (abs (n + 1) t).l) := ⟨_, rfl⟩
  have HR : Hid (R = look k (flats (abs (n + 1) t).l)) := hR
  rw [← hR]
  clear hT hI hR
  go_enter Try.func23, Try.ntmps23
  go_wp2_with (go_at_call 47; refine hL.mono ?_; rintro e W1 ⟨c, rfl, hb, hW⟩; have HB : Hid (Below w.heap.size w W1) := hb; have HW : Hid (Way F w k (flats (abs (n + 1) t).l) c) := hW; have hA := hW.lies.1.later hb; have hFr := from_any c.h 0 _ k W1 hA (hW.keys hF) (by rw [List.length_map]; have := hW.le; omega); have hlk := hW.leafLook; rw [← HR.out] at hlk; clear hb hW)
  have hlb := lb_le k ((c.l.map (slE 0)).map Sl.k)
  rw [List.length_map, List.length_map] at hlb
  have hle := HW.out.le
  have hA2 := fun X (hb : Below W1.heap.size W1 X) => hA.later hb
  generalize lb k ((c.l.map (slE 0)).map Sl.k) = i at *
  cases hx : (c.l)[i]? with
  | none =>
    rw [hx] at hlk
    subst hlk
    have hin : i = c.l.length := by have := List.getElem?_eq_none_iff.1 hx; omega
    have HC : Hid (∀ X, Below W1.heap.size W1 X → ∃ a cap, X.cell? ⟨c.h.p, 1, none⟩ = some (.slice a c.l.length cap)) := fun X hb => by
      obtain ⟨a, cap, hv, _⟩ := (hA2 X hb).own.slice
      rw [List.length_map] at hv
      exact ⟨a, cap, by rw [← hv]; exact (hA2 X hb).row.cell (i := 1) rfl⟩
    subst hin
    clear hA hA2 hx HW hlb
    generalize c.l.length = N at *
    refine hFr.mono ?_
    rintro e W2 ⟨rfl, hb2⟩
    obtain ⟨a, cap, q1⟩ := HC.out W2 hb2
    have HB2 : Hid (Below w.heap.size w W2) := bafter HB.out hb2
    clear hb2
    go_wp2
    go_ret2
    exact ⟨rfl, HB2.out⟩
  | some x =>
    rw [hx] at hlk
    replace hlk : R = if (slE 0 x).k = k then some (slE 0 x).v else none := hlk
    have hsl : (c.l.map (slE 0))[i]? = some (slE 0 x) := by rw [List.getElem?_map, hx]; rfl
    have hin := (List.getElem?_eq_some_iff.1 hx).1
    have HC : Hid (∀ X, Below W1.heap.size W1 X → ∃ g cap, X.cell? ⟨c.h.p, 1, none⟩ = some (.slice (some ⟨g, 0, none⟩) c.l.length cap) ∧ X.cell? ⟨g, i * 3, none⟩ = some (.string (slE 0 x).k) ∧ X.cell? ⟨g, i * 3 + 1, none⟩ = some (.string (slE 0 x).v)) := fun X hb => by
      obtain ⟨g, cap, hv, _, _, _, _, q0, q1, _⟩ := (hA2 X hb).own.at hsl
      rw [List.length_map] at hv
      exact ⟨g, cap, by rw [← hv]; exact (hA2 X hb).row.cell (i := 1) rfl, q0, q1⟩
    generalize (slE 0 x).k = xk at *
    generalize (slE 0 x).v = xv at *
    have hi1 : (i : Int) < (c.l.length : Int) := by omega
    have hi2 : ¬ (i : Int) = (c.l.length : Int) := by omega
    have hi3 : ((i : Int) == (c.l.length : Int)) = false := by simpa using hi2
    clear hA hA2 hx HW hlb hsl hin
    generalize c.l.length = N at *
    by_cases he : xk = k
    · rw [if_pos he] at hlk
      subst hlk
      have e1 : (xk.toList == k.toList) = true := by rw [keq, he]; simp
      have e2 : (xk.toList != k.toList) = false := by rw [bne, e1]; rfl
      clear he
      refine hFr.mono ?_
      rintro e W2 ⟨rfl, hb2⟩
      obtain ⟨g, cap, q1, q2, q3⟩ := HC.out W2 hb2
      have HB2 : Hid (Below w.heap.size w W2) := bafter HB.out hb2
      clear hb2
      go_wp2
      go_ret2
      exact ⟨rfl, HB2.out⟩
    · rw [if_neg he] at hlk
      subst hlk
      have e1 : (xk.toList == k.toList) = false := by rw [keq]; simp [he]
      have e2 : (xk.toList != k.toList) = true := by rw [bne, e1]; rfl
      clear he
      refine hFr.mono ?_
      rintro e W2 ⟨rfl, hb2⟩
      obtain ⟨g, cap, q1, q2, q3⟩ := HC.out W2 hb2
      have HB2 : Hid (Below w.heap.size w W2) := bafter HB.out hb2
      clear hb2
      go_wp2
      go_ret2
      exact ⟨rfl, HB2.out⟩
end Go.Proofs.Ytlfgeanafidopaa.Bt
namespace Go.Proofs.Ytlfgeanafidopaa.Bt
open Go.RowKit
set_option maxRecDepth 10000

structure Tre where
  n : Nat
  T : El (n + 1)
def Tre.all (x : Tre) : List KV := flats x.T.l
def growT (F : Nat) (x : Tre) : Tre := if F < x.T.l.length then ⟨x.n + 1, .nd true [halfL x.T, halfR x.T]⟩ else x
def fallT : Tre → Tre
  | ⟨0, T⟩ => ⟨0, T⟩
  | ⟨n + 1, T⟩ => match T.l with
    | [c] => ⟨n, c⟩
    | _ => ⟨n + 1, T⟩
def putT (F : Nat) (k v : K) (x : Tre) : Tre := growT F ⟨x.n, put F k v x.n x.T⟩
def delT (F : Nat) (k : K) (x : Tre) : Tre := fallT ⟨x.n, remove F k x.n x.T⟩
def okKey (k : K) : Bool := k.size != 0 && decide (k.size ≤ 64)
def okVal (v : K) : Bool := decide (v.size ≤ 256)
/-- A tree to which a key's value was put. -/
def putS (F : Nat) (k v : K) (x : Tre) : Tre := if look k x.all = some v then x else putT F k v x
def putR (F : Nat) (k v : K) (x : Tre) : Tre := if okKey k && okVal v then putS F k v x else x
def putE (k v : K) : Int := if okKey k && okVal v then 0 else 22
def delS (F : Nat) (k : K) (x : Tre) : Tre := if (look k x.all).isSome then delT F k x else x
theorem flats_pos {F : Nat} (hF : 4 ≤ F) {n : Nat} : ∀ (l : List (El n)), (∀ e ∈ l, Fill F n e) → l.length ≤ (flats l).length
  | [], _ => Nat.zero_le _
  | e :: l, h => by
    obtain ⟨x, r, hx, _⟩ := fill_hd hF n e (h e (by simp))
    have := flats_pos hF l (fun y hy => h y (by simp [hy]))
    rw [flats_cons, List.length_append, hx]
    simp only [List.length_cons] at *
    omega
theorem fill_deep {F : Nat} (hF : 4 ≤ F) : ∀ (n : Nat) (e : El n), Fill F n e → (F / 2) ^ n ≤ (flat n e).length
  | 0, e, _ => by simp [flat]
  | n + 1, t, h => by
    obtain ⟨h1, _, h3⟩ := h
    have : ∀ l : List (El n), (∀ e ∈ l, Fill F n e) → l.length * (F / 2) ^ n ≤ (flats l).length := by
      intro l
      induction l with
      | nil => intro _; simp
      | cons e l ih =>
        intro hl
        have i1 := fill_deep hF n e (hl e (by simp))
        have i2 := ih (fun y hy => hl y (by simp [hy]))
        rw [flats_cons, List.length_append, List.length_cons, Nat.succ_mul]
        omega
    have h4 := this t.l h3
    rw [flat_succ, Nat.pow_succ, Nat.mul_comm]
    exact Nat.le_trans (Nat.mul_le_mul_right _ h1) h4
theorem inv_deep {F : Nat} (hF : 4 ≤ F) {n : Nat} {T : El (n + 1)} (h : Inv F n T) (hn : 0 < n) : 2 * (F / 2) ^ n ≤ (flats T.l).length := by
  have : ∀ l : List (El n), (∀ e ∈ l, Fill F n e) → l.length * (F / 2) ^ n ≤ (flats l).length := by
    intro l
    induction l with
    | nil => intro _; simp
    | cons e l ih =>
      intro hl
      have i1 := fill_deep hF n e (hl e (by simp))
      have i2 := ih (fun y hy => hl y (by simp [hy]))
      rw [flats_cons, List.length_append, List.length_cons, Nat.succ_mul]
      omega
  exact Nat.le_trans (Nat.mul_le_mul_right _ (h.two hn)) (this T.l h.good.kids)
theorem lt_pow2 (n b : Nat) (hb : 2 ≤ b) : n < b ^ n := by
  induction n with
  | zero => simp
  | succ n ih =>
    rw [Nat.pow_succ]
    have : b ^ n * 2 ≤ b ^ n * b := Nat.mul_le_mul_left _ hb
    omega
theorem inv_level {F : Nat} (hF : 4 ≤ F) {n : Nat} {T : El (n + 1)} (h : Inv F n T) : n ≤ (flats T.l).length := by
  cases n with
  | zero => exact Nat.zero_le _
  | succ n =>
    have h1 := inv_deep hF h (by omega)
    have h2 := lt_pow2 (n + 1) (F / 2) (by omega)
    omega
def InvT (F : Nat) (x : Tre) : Prop := Inv F x.n x.T
/-- Put keeps what the nodes keep to. -/
theorem inv_put {F : Nat} (hF : 4 ≤ F) (k v : K) {x : Tre} (h : InvT F x) : InvT F (putT F k v x) ∧ (putT F k v x).all = ins k v x.all := by
  obtain ⟨n, T⟩ := x
  replace h : Inv F n T := h
  obtain ⟨o1, o2, o3, o4, o5⟩ := put_ok hF k v n T h.good h.le (fun hn => by have := h.two hn; omega)
  have hs : Srt (flats (put F k v n T).l) := by rw [o1]; exact (ins_srt h.good.srt).1
  by_cases hl : F < (put F k v n T).l.length
  · have ex : putT F k v ⟨n, T⟩ = ⟨n + 1, .nd true [halfL (put F k v n T), halfR (put F k v n T)]⟩ := by unfold putT growT; rw [if_pos hl]
    rw [ex]
    have hle : (put F k v n T).l.length ≤ F + 1 := by have := h.le; omega
    have e : flats (n := n + 1) [halfL (put F k v n T), halfR (put F k v n T)] = flats (put F k v n T).l := by
      rw [flats_cons, flats_cons, flat_succ, flat_succ]
      show flats ((put F k v n T).l.take _) ++ (flats ((put F k v n T).l.drop _) ++ []) = _
      rw [List.append_nil, ← flats_append, List.take_append_drop]
    refine ⟨⟨⟨?_, ?_⟩, ?_, ?_⟩, ?_⟩
    · intro c hc
      have hc : c ∈ [halfL (put F k v n T), halfR (put F k v n T)] := hc
      simp only [List.mem_cons, List.not_mem_nil, or_false] at hc
      rcases hc with rfl | rfl
      · refine ⟨?_, ?_, fun y hy => o2 y (List.mem_of_mem_take hy)⟩ <;> (show _ ≤ _; simp only [halfL, El.l_nd, List.length_take]; omega)
      · refine ⟨?_, ?_, fun y hy => o2 y (List.mem_of_mem_drop hy)⟩ <;> (show _ ≤ _; simp only [halfR, El.l_nd, List.length_drop]; omega)
    · show Srt (flats (n := n + 1) [halfL (put F k v n T), halfR (put F k v n T)]); rw [e]; exact hs
    · show 2 ≤ F; omega
    · intro _; exact Nat.le_refl 2
    · show flats (n := n + 1) [halfL (put F k v n T), halfR (put F k v n T)] = _; rw [e]; exact o1
  · have ex : putT F k v ⟨n, T⟩ = ⟨n, put F k v n T⟩ := by unfold putT growT; rw [if_neg hl]
    rw [ex]
    exact ⟨⟨⟨o2, hs⟩, by show (put F k v n T).l.length ≤ F; omega, fun hn => by have := h.two hn; show 2 ≤ (put F k v n T).l.length; omega⟩, o1⟩
theorem inv_del {F : Nat} (hF : 4 ≤ F) (k : K) {x : Tre} (h : InvT F x) (hk : k ∈ x.all.map Prod.fst) : InvT F (delT F k x) ∧ (delT F k x).all = del k x.all := by
  obtain ⟨n, T⟩ := x
  replace h : Inv F n T := h
  obtain ⟨o1, o2, o3, o4⟩ := remove_ok hF k n T h.good h.le h.two hk
  have hs : Srt (flats (remove F k n T).l) := by rw [o1]; exact del_srt h.good.srt
  unfold delT
  cases n with
  | zero => exact ⟨⟨⟨o2, hs⟩, by show (remove F k 0 T).l.length ≤ F; have := h.le; omega, fun hn => by have hn : 0 < 0 := hn; omega⟩, o1⟩
  | succ n =>
    have h2 := h.two (by omega)
    have hle := h.le
    show InvT F (fallT ⟨n + 1, remove F k (n + 1) T⟩) ∧ (fallT ⟨n + 1, remove F k (n + 1) T⟩).all = _
    generalize remove F k (n + 1) T = R at *
    cases hR : R.l with
    | nil => rw [hR] at o3; simp at o3; have h2 : 2 ≤ T.l.length := h2; omega
    | cons c r =>
      cases r with
      | nil =>
        have ex : fallT ⟨n + 1, R⟩ = ⟨n, c⟩ := by show (match R.l with | [c] => (⟨n, c⟩ : Tre) | _ => ⟨n + 1, R⟩) = _; rw [hR]
        rw [ex]
        rw [hR] at o2 hs o1
        obtain ⟨f1, f2, f3⟩ := o2 c (by simp)
        rw [flats_cons, flat_succ] at hs o1
        have hs : Srt (flats c.l) := by simpa [flats] using hs
        refine ⟨⟨⟨f3, hs⟩, f2, fun _ => ?_⟩, ?_⟩
        · show 2 ≤ c.l.length; have := f1; omega
        · show flats c.l = _
          have o1 : flats c.l = del k (flats T.l) := by simpa [flats] using o1
          exact o1
      | cons c2 r =>
        have ex : fallT ⟨n + 1, R⟩ = ⟨n + 1, R⟩ := by show (match R.l with | [c] => (⟨n, c⟩ : Tre) | _ => ⟨n + 1, R⟩) = _; rw [hR]
        rw [ex]
        exact ⟨⟨⟨o2, hs⟩, by show R.l.length ≤ F; have hle : T.l.length ≤ F := hle; omega, fun _ => by show 2 ≤ R.l.length; rw [hR]; simp⟩, o1⟩
theorem ins_len (k v : K) : ∀ (l : List KV), Srt l → (ins k v l).length = if (look k l).isSome then l.length else l.length + 1
  | [], _ => by simp [ins, look]
  | x :: l, h => by
    obtain ⟨h1, h2⟩ := List.pairwise_cons.1 h
    rw [ins, look]
    by_cases e : x.1 = k
    · rw [if_neg (by rw [e, klt_irrefl]; decide), if_pos e, if_pos e]; simp
    · rw [if_neg e]
      cases q : klt x.1 k with
      | true =>
        have ih := ins_len k v l h2
        rw [if_pos rfl, List.length_cons, ih, if_neg e]
        split <;> simp
      | false =>
        have hk : klt k x.1 = true := by
          cases q3 : klt k x.1 with
          | true => rfl
          | false => exact absurd (klt_total q q3) e
        rw [if_neg (by decide), if_neg e, look_none k l (fun z hz => klt_trans hk (h1 z hz))]
        simp
theorem del_len (k : K) {l : List KV} (h : Srt l) (hk : k ∈ l.map Prod.fst) : (del k l).length + 1 = l.length := by
  obtain ⟨x, hx, _, e⟩ := del_at h hk
  have := (List.getElem?_eq_some_iff.1 hx).1
  rw [← e, List.length_append, List.length_take, List.length_drop]
  omega
theorem list_len (k : K) : k.toList.length = k.size := by rw [ByteArray.toList_eq]; cases k; simp [ByteArray.size]
set_option maxHeartbeats 400000 in
theorem rightKey_any (k : K) (w : World) : Calls Try.prog 51 #[.string k] w fun e w' => e = .returned (.bool (okKey k)) ∧ w' = w := by
  by_cases h0 : k.size = 0
  · have e1 : k.toList = [] := List.eq_nil_of_length_eq_zero (by rw [list_len, h0])
    have e2 : okKey k = false := by simp [okKey, h0]
    rw [e2]
    go_enter Try.func51, Try.ntmps51
    go_wp2
    all_goals go_ret
    all_goals exact ⟨ret_bool (by simp), rfl⟩
  · have e1 : ¬ k.toList = [] := fun e => h0 (by rw [← list_len, e]; rfl)
    have e3 : k.toList.isEmpty = false := by simpa using e1
    have e2 : okKey k = decide ((k.size : Int) ≤ 64) := by
      unfold okKey
      have : (k.size != 0) = true := by simpa using h0
      rw [this, Bool.true_and]
      simp; omega
    rw [e2]
    go_enter Try.func51, Try.ntmps51
    go_wp2
    all_goals go_ret
    all_goals exact ⟨ret_bool (by simp), rfl⟩
set_option maxHeartbeats 400000 in
theorem rightValue_any (v : K) (w : World) : Calls Try.prog 52 #[.string v] w fun e w' => e = .returned (.bool (okVal v)) ∧ w' = w := by
  have e2 : okVal v = decide ((v.size : Int) ≤ 256) := by unfold okVal; simp; omega
  rw [e2]
  go_enter Try.func52, Try.ntmps52
  go_wp2
  go_ret
  exact ⟨ret_bool (by first | rfl | simp), rfl⟩
def okFan (f : Int) : Bool := decide (4 ≤ f ∧ f ≤ 64)
set_option maxHeartbeats 400000 in
theorem rightFan_any (f : Int) (w : World) : Calls Try.prog 55 #[.int .i64 f] w fun e w' => e = .returned (.bool (okFan f)) ∧ w' = w := by
  by_cases h : 4 ≤ f
  · have e2 : okFan f = decide (f ≤ 64) := by unfold okFan; simp [h]
    rw [e2]
    go_enter Try.func55, Try.ntmps55
    go_wp2
    go_ret
    exact ⟨ret_bool (by first | rfl | simp), rfl⟩
  · have e2 : okFan f = false := by unfold okFan; simp [h]
    have e3 : decide ((4 : Int) ≤ f) = false := by simpa using h
    rw [e2]
    go_enter Try.func55, Try.ntmps55
    go_wp2
    go_ret
    exact ⟨rfl, rfl⟩
end Go.Proofs.Ytlfgeanafidopaa.Bt
