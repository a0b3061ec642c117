/-
  A node's part: the greater half goes to a new one.
  Nodes of a tree as they lie in memory, level by level; a node whose kids and slots are being changed.
-/
import Derived.Test.YtlfgeanafidopaaQD
import Derived.Deep.RegionWith
namespace Go.Proofs.Ytlfgeanafidopaa.Bt
open Go.RowKit
set_option maxRecDepth 10000

theorem Kept.undrew {S : Nat → Prop} {a b : World} (h : Kept S a.drew b) : Kept S a b := ⟨h.os, h.tape, h.output, h.size, h.block⟩
/-- What part makes: the node itself with the first half, a new one with the rest. -/
structure Parted (w : World) (h : Hd) (lv : Nat) (l : List Sl) (w' : World) (h' hr : Hd) : Prop where
  left : At w' h' lv (l.take (l.length / 2))
  right : At w' hr lv (l.drop (l.length / 2))
  p : h'.p = h.p
  d : h'.d = h.d
  own : h'.v.ownBlock = h.v.ownBlock
  rd : hr.d = true
  new : ∀ b ∈ hr.blks, w.heap.size ≤ b
  kept : Kept (fun b => b ∈ h.blks) w w'
structure PartAt (w : World) (h : Hd) (lv n cap g : Nat) (l : List Sl) : Prop where
  clone : ∀ W c, Below w.heap.size w W → Calls Try.prog 56 #[.slice (some ⟨g, n / 2 * 3, none⟩) (n - n / 2) c] W fun e w' => ∃ a' m' cap', e = .returned (.slice a' m' cap') ∧ Cloned W (l.drop (n / 2)) (.slice a' m' cap') w' ∧ Below w.heap.size w w' ∧
    w'.cell? ⟨h.p, 0, none⟩ = some (.int .i64 (lv : Int)) ∧ w'.cell? ⟨h.p, 1, none⟩ = some (.slice (some ⟨g, 0, none⟩) n cap)
  del : ∀ W, Below w.heap.size w W → Calls Try.prog 64 #[.slice (some ⟨g, 0, none⟩) n cap, .int .i64 (n / 2 : Nat), .int .i64 (n : Nat)] W fun e w' => ∃ a' m' cap', e = .returned (.slice a' m' cap') ∧ (Slots w' (.slice a' m' cap') (l.take (n / 2)) ∧ (Value.slice a' m' cap').ownBlock = some g ∧ Kept (fun b => b = g) W w') ∧ w'.cell? ⟨h.p, 1, none⟩ = some (.slice (some ⟨g, 0, none⟩) n cap) ∧ w'.frozen? ⟨h.p, 1, none⟩ = false
  fin : ∀ W1 W2 v1 v2 w3, Below w.heap.size w W1 → Cloned W1 (l.drop (n / 2)) v1 W2 → Slots w3 v2 (l.take (n / 2)) → v2.ownBlock = some g → Kept (fun b => b = g) (W2.alloc (.cells #[.int .i64 (lv : Int), v1, .bool true] 74)) w3 →
    ∃ h', Parted w h lv l (w3.setCell ⟨h.p, 1, none⟩ v2) h' ⟨W2.heap.size, v1, true⟩
theorem partAt {w : World} {h : Hd} {lv n cap g : Nat} {l : List Sl} (hA : At w h lv l) (hv : h.v = .slice (some ⟨g, 0, none⟩) n cap) (hn : n = l.length) (hl : l.length ≤ 500) (h2 : 2 ≤ n) : PartAt w h lv n cap g l := by
  have ho : h.v.ownBlock = some g := by rw [hv]; rfl
  have hpg := hA.ne g ho
  refine ⟨?_, ?_, ?_⟩
  · intro W c hb
    have hAW := hA.later hb
    rcases hAW.own.form with ⟨e, _⟩ | ⟨g', cap', cs, e, _, hw, c1, c2, c3, c4⟩
    · rw [hv] at e; cases e
    · rw [hv] at e
      obtain ⟨rfl, rfl, rfl⟩ : g' = g ∧ l.length = n ∧ cap' = cap := by
        injection e with e1 e2 e3; injection e1 with e1; injection e1 with e1; exact ⟨e1.symm, e2.symm, e3.symm⟩
      have := clone_some g' (l.length / 2 * 3) (l.length - l.length / 2) c (l.drop (l.length / 2)) W (by rw [List.length_drop]) (fun j u hj => ?_) (by rw [List.length_drop]; omega)
      · refine this.mono ?_
        rintro e w' ⟨v', rfl, q⟩
        obtain ⟨a', cap2, rfl, _⟩ := q.1.slice
        have hb' := bafter hb q.2.2
        have hA' := hA.later hb'
        exact ⟨a', _, cap2, rfl, q, hb', hA'.row.cell (i := 0) rfl, by rw [← hv]; exact hA'.row.cell (i := 1) rfl⟩
      · have hj' := (List.getElem?_eq_some_iff.1 hj).1
        rw [flat_len slv 3 slv_len, List.length_drop] at hj'
        refine hw.cell.trans ?_
        rw [← flat_drop slv 3 slv_len, List.getElem?_drop, ← c4, List.getElem?_take, if_pos (by omega)] at hj
        exact hj
  · intro W hb
    have hAW := hA.later hb
    have := delete_any h.v l (n / 2) n W hAW.own (by omega) (by omega)
    rw [hv] at this
    refine this.mono ?_
    rintro e w' ⟨v', rfl, q1, q2, q3, _⟩
    have q3 : Kept (fun b => b = g) W w' := q3.mono (fun b e => by injection e with e; exact e.symm)
    rw [hn, List.drop_eq_nil_of_le (Nat.le_refl _), List.append_nil, ← hn] at q1
    obtain ⟨a', cap2, rfl, _⟩ := q1.slice
    have hr := hAW.row.kept q3 (fun e => hpg e.symm)
    exact ⟨a', _, cap2, rfl, ⟨q1, q2, q3⟩, by rw [← hv]; exact hr.cell (i := 1) rfl, hr.frozen 1⟩
  · intro W1 W2 v1 v2 w3 hb q1 q2 q3 q4
    have hb2 := bafter hb q1.2.2
    have hb3 : Below w.heap.size w (W2.alloc (.cells #[.int .i64 (lv : Int), v1, .bool true] 74)) := bafter hb2 (below_new W2 _)
    have hA3 := hA.later hb3
    have hgw := (hA.own.lt g ho).1
    have hW1 : w.heap.size ≤ W1.heap.size := hb.size
    have hW2 : w.heap.size ≤ W2.heap.size := hb2.size
    have hr := hA3.row.kept q4 (fun e => hpg e.symm)
    have hR : Row w3 W2.heap.size [.int .i64 (lv : Int), v1, .bool true] 74 := (Row.new W2 [.int .i64 (lv : Int), v1, .bool true] _).kept q4 (fun e => by omega)
    have hS : Slots w3 v1 (l.drop (n / 2)) := (q1.1.later (below_new W2 _)).kept q4 (fun b e e2 => by have := q1.2.1 b e; omega)
    have hpw : h.p < w.heap.size := hA.row.lt
    have k3 : Kept (fun b => b ∈ h.blks) w w3 := (Kept.of_below hb3).trans (q4.mono fun b e => by rw [e]; simp [Hd.blks, ho])
    refine ⟨⟨h.p, v2, h.d⟩, ⟨?_, ?_, rfl, rfl, by rw [ho]; exact q3, rfl, ?_, k3.setCell (p := ⟨h.p, 1, none⟩) (by simp [Hd.blks]) v2⟩⟩
    · rw [← hn]
      exact ⟨by simpa using hr.set (i := 1) v2 (by simp), q2.same fun b e => Below.heap_setCell _ _ _ _ (fun e2 => by rw [q3] at e; cases e; exact hpg e2)⟩
    · rw [← hn]
      refine ⟨hR.other _ _ (fun e => ?_), hS.same fun b e => Below.heap_setCell _ _ _ _ (fun e2 => ?_)⟩
      · have e : W2.heap.size = h.p := e; omega
      · have := q1.2.1 b e; have e2 : b = h.p := e2; omega
    · intro b hb'
      rcases List.mem_cons.1 hb' with e | e
      · rw [e]; exact hW2
      · have := q1.2.1 b (by simpa using e); omega
set_option maxHeartbeats 4000000 in
theorem part_any (h : Hd) (lv : Nat) (l : List Sl) (w : World) (hA : At w h lv l) (hl : l.length ≤ 500) (h2 : 2 ≤ l.length) :
    Calls Try.prog 69 #[.pointer (some ⟨h.p, 0, none⟩)] w fun e w' => ∃ h' hr, e = .returned (.pointer (some ⟨hr.p, 0, none⟩)) ∧ Parted w h lv l w' h' hr := by
  obtain ⟨s, hs⟩ : ∃ s, l[0]? = some s := ⟨_, List.getElem?_eq_getElem (by omega)⟩
  obtain ⟨g, cap, hv, _, c1, c2, _⟩ := hA.own.at hs
  have hP := partAt hA hv rfl hl h2
  have HP : Hid (PartAt w h lv l.length cap g l) := hP
  have p0 : w.cell? ⟨h.p, 0, none⟩ = some (.int .i64 (lv : Int)) := hA.row.cell (i := 0) rfl
  have p1 : w.cell? ⟨h.p, 1, none⟩ = some (.slice (some ⟨g, 0, none⟩) l.length cap) := by rw [← hv]; exact hA.row.cell (i := 1) rfl
  obtain ⟨n, hn⟩ : ∃ n, n = l.length := ⟨_, rfl⟩
  rw [← hn] at HP p1 c1 h2 hl
  have hd2 : ((n / 2 : Nat) : Int) = (n : Int) / 2 := by omega
  have hN : Hid (n = l.length) := hn
  have hc : ¬ cap = n / 2 := by omega
  have hb1 : (0 : Int) ≤ (n : Int) / 2 := by omega
  have hb2 : (n : Int) / 2 ≤ (n : Int) := by omega
  have ht : ((n : Int) / 2).toNat = n / 2 := by omega
  unfold maxLen at c2
  clear hP hA hs hv hn
  go_enter Try.func69, Try.ntmps69
  go_wp2
  go_region_held3 (fun w' => w'.cell? ⟨h.p, 0, none⟩ = some (.int .i64 (lv : Int)) ∧ w'.cell? ⟨h.p, 1, none⟩ = some (.slice (some ⟨g, 0, none⟩) n cap)) (first | assumption | go_keep)
    (first
    | (go_at_call 56; refine (HP.out.clone _ _ (Below.refl _ w).drew).mono ?_; rintro e w1 ⟨a1, m1, cap1, rfl, q, hb, r0, r1⟩; have HQ : Hid (Cloned _ _ _ _) := q; have HB : Hid (Below _ _ _) := hb; have hn1 := World.new_ne w1 ⟨h.p, 0, none⟩ r0; clear q hb))
  all_goals go_wp2
  obtain ⟨W2, hW2⟩ : ∃ W2, W2 = w1.alloc (.cells #[.int .i64 (lv : Int), .slice a1 m1 cap1, .bool true] 74) := ⟨_, rfl⟩
  rw [← hW2]
  have HW2 : Hid (W2 = w1.alloc (.cells #[.int .i64 (lv : Int), .slice a1 m1 cap1, .bool true] 74)) := hW2
  have s1 : W2.cell? ⟨h.p, 1, none⟩ = some (.slice (some ⟨g, 0, none⟩) n cap) := by rw [hW2]; exact Lib.cell?_alloc_some _ r1
  have hB2 : Hid (Below w.heap.size w W2) := by show Below _ _ _; rw [hW2]; exact bafter HB.out (below_new _ _)
  clear hW2 r0 r1 p0 p1 hn1
  go_region_with (first
    | (go_at_call 64; refine (HP.out.del _ hB2.out.drew).mono ?_; rintro e w3 ⟨a3, m3, cap3, rfl, q3, r1, r2⟩; have HQ3 : Hid (Slots _ _ _ ∧ _ ∧ Kept _ _ _) := q3; clear q3))
  all_goals go_wp2
  all_goals go_ret
  all_goals
    obtain ⟨h', hP'⟩ := HP.out.fin _ _ _ _ _ (Below.refl _ w).drew HQ.out HQ3.out.1 HQ3.out.2.1 (by have := HQ3.out.2.2.undrew; rw [HW2.out] at this; exact this)
    exact ⟨h', _, rfl, hP'⟩
end Go.Proofs.Ytlfgeanafidopaa.Bt
namespace Go.Proofs.Ytlfgeanafidopaa.Bt
open Go.RowKit

/-- What stands in a node of the level n, with its place. -/
def En : Nat → Type
  | 0 => K × K
  | n + 1 => Hd × List (En n)
def En.kv (k v : K) : En 0 := Prod.mk (α := K) (β := K) k v
def En.nd {n : Nat} (h : Hd) (l : List (En n)) : En (n + 1) := Prod.mk (α := Hd) (β := List (En n)) h l
def En.l {n : Nat} (t : En (n + 1)) : List (En n) := Prod.snd (α := Hd) (β := List (En n)) t
def En.h {n : Nat} (t : En (n + 1)) : Hd := Prod.fst (α := Hd) (β := List (En n)) t
def En.pair (e : En 0) : KV := e
@[simp] theorem En.l_nd {n : Nat} (h : Hd) (l : List (En n)) : (En.nd h l).l = l := rfl
@[simp] theorem En.h_nd {n : Nat} (h : Hd) (l : List (En n)) : (En.nd h l).h = h := rfl
@[simp] theorem En.pair_kv (k v : K) : (En.kv k v).pair = (k, v) := rfl
theorem En.eta {n : Nat} (t : En (n + 1)) : En.nd t.h t.l = t := rfl
def abs : (n : Nat) → En n → El n
  | 0, e => .kv e.pair.1 e.pair.2
  | n + 1, t => .nd t.h.d (t.l.map (abs n))
def slE : (n : Nat) → En n → Sl
  | 0, e => ⟨e.pair.1, e.pair.2, none⟩
  | n + 1, t => ⟨ek (n + 1) (abs (n + 1) t), ⟨#[]⟩, some t.h.p⟩
def foot : (n : Nat) → En n → List Nat
  | 0, _ => []
  | n + 1, t => t.h.blks ++ t.l.flatMap (foot n)
def footL {n : Nat} (l : List (En n)) : List Nat := l.flatMap (foot n)
def Lies (w : World) : (n : Nat) → En n → Prop
  | 0, _ => True
  | n + 1, t => At w t.h n (t.l.map (slE n)) ∧ ∀ e ∈ t.l, Lies w n e
theorem foot_succ {n : Nat} (t : En (n + 1)) : foot (n + 1) t = t.h.blks ++ footL t.l := rfl
theorem footL_append {n : Nat} (a b : List (En n)) : footL (a ++ b) = footL a ++ footL b := List.flatMap_append
theorem footL_cons {n : Nat} (a : En n) (b : List (En n)) : footL (a :: b) = foot n a ++ footL b := rfl
theorem mem_footL {n : Nat} {l : List (En n)} {b : Nat} : b ∈ footL l ↔ ∃ e ∈ l, b ∈ foot n e := List.mem_flatMap
theorem abs_l {n : Nat} (t : En (n + 1)) : (abs (n + 1) t).l = t.l.map (abs n) := rfl
theorem abs_d {n : Nat} (t : En (n + 1)) : (abs (n + 1) t).d = t.h.d := rfl
theorem slE_k : (n : Nat) → (e : En n) → (slE n e).k = ek n (abs n e)
  | 0, _ => rfl
  | _ + 1, _ => rfl
theorem keysE {n : Nat} (l : List (En n)) : (l.map (slE n)).map Sl.k = (l.map (abs n)).map (ek n) := by
  rw [List.map_map, List.map_map]; exact List.map_congr_left fun e _ => slE_k n e
theorem leadE {n : Nat} (t : En (n + 1)) : leadS t.h (t.l.map (slE n)) = slE (n + 1) t := by
  have e1 : slE (n + 1) t = ⟨ek (n + 1) (abs (n + 1) t), ⟨#[]⟩, some t.h.p⟩ := rfl
  have e2 : ek (n + 1) (abs (n + 1) t) = match (abs (n + 1) t).l with | [] => ⟨#[]⟩ | e :: _ => ek n e := rfl
  rw [e1, e2, abs_l]
  unfold leadS
  cases t.l with
  | nil => rfl
  | cons e l => simp [slE_k]
theorem Lies.lt {w : World} : ∀ {n : Nat} {t : En n}, Lies w n t → ∀ b ∈ foot n t, b < w.heap.size
  | 0, _, _, b, hb => by simp [foot] at hb
  | n + 1, t, h, b, hb => by
    rw [foot_succ, List.mem_append] at hb
    rcases hb with hb | hb
    · exact h.1.lt b hb
    · obtain ⟨e, he, hb⟩ := mem_footL.1 hb
      exact (h.2 e he).lt b hb
theorem Lies.same {w w' : World} : ∀ {n : Nat} {t : En n}, Lies w n t → (∀ b ∈ foot n t, w'.heap[b]? = w.heap[b]?) → Lies w' n t
  | 0, _, _, _ => trivial
  | n + 1, t, h, e => ⟨h.1.same fun b hb => e b (by rw [foot_succ]; simp [hb]), fun x hx => (h.2 x hx).same fun b hb => e b (by rw [foot_succ, List.mem_append]; exact .inr (mem_footL.2 ⟨x, hx, hb⟩))⟩
theorem Lies.later {w w' : World} {n : Nat} {t : En n} (h : Lies w n t) (hb : Below w.heap.size w w') : Lies w' n t := h.same fun b hm => hb.block b (h.lt b hm)
theorem Lies.kept {S : Nat → Prop} {w w' : World} {n : Nat} {t : En n} (h : Lies w n t) (hk : Kept S w w') (hn : ∀ b ∈ foot n t, ¬ S b) : Lies w' n t := h.same fun b hm => hk.block b (h.lt b hm) (hn b hm)

theorem nodup_mid {P m Q : List Nat} : (P ++ m ++ Q).Nodup ↔ m.Nodup ∧ (P ++ Q).Nodup ∧ ∀ x ∈ m, x ∉ P ∧ x ∉ Q := by
  simp only [List.nodup_append, List.mem_append]
  constructor
  · rintro ⟨⟨h1, h2, h3⟩, h4, h5⟩
    exact ⟨h2, ⟨h1, h4, fun a ha b hb => h5 a (.inl ha) b hb⟩, fun x hx => ⟨fun e => h3 x e x hx rfl, fun e => h5 x (.inr hx) x e rfl⟩⟩
  · rintro ⟨h2, ⟨h1, h4, h5⟩, h6⟩
    refine ⟨⟨h1, h2, fun a ha b hb e => (h6 b hb).1 (e ▸ ha)⟩, h4, fun a ha b hb e => ?_⟩
    rcases ha with ha | ha
    · exact h5 a ha b hb e
    · exact (h6 a ha).2 (e ▸ hb)

/-- A node (its slots may be stale) and its kids, as they lie while a call goes on that began in w with the blocks F0. -/
structure Par {m : Nat} (w : World) (F0 : List Nat) (W : World) (h : Hd) (lv : Nat) (sl : List Sl) (ks : List (En m)) : Prop where
  at_ : At W h lv sl
  lies : ∀ e ∈ ks, Lies W m e
  nd : (h.blks ++ footL ks).Nodup
  sub : ∀ b ∈ h.blks ++ footL ks, b ∈ F0 ∨ w.heap.size ≤ b
  kept : Kept (fun b => b ∈ F0) w W
theorem Par.later {m : Nat} {w : World} {F0 : List Nat} {W W' : World} {h : Hd} {lv : Nat} {sl : List Sl} {ks : List (En m)} (x : Par w F0 W h lv sl ks) (hb : Below W.heap.size W W') : Par w F0 W' h lv sl ks :=
  ⟨x.at_.later hb, fun e he => (x.lies e he).later hb, x.nd, x.sub, x.kept.later hb⟩
/-- What a call on a node leaves. -/
structure Went {n : Nat} (w : World) (t t' : En (n + 1)) (w' : World) : Prop where
  lies : Lies w' (n + 1) t'
  p : t'.h.p = t.h.p
  nd : (foot (n + 1) t').Nodup
  sub : ∀ b ∈ foot (n + 1) t', b ∈ foot (n + 1) t ∨ w.heap.size ≤ b
  kept : Kept (fun b => b ∈ foot (n + 1) t) w w'
theorem Par.start {n : Nat} {w : World} {t : En (n + 1)} (h : Lies w (n + 1) t) (hn : (foot (n + 1) t).Nodup) : Par w (foot (n + 1) t) w t.h n (t.l.map (slE n)) t.l :=
  ⟨h.1, h.2, by rw [← foot_succ]; exact hn, fun b hb => .inl (by rw [foot_succ]; exact hb), Kept.refl _ _⟩
theorem Par.fin {n : Nat} {w W : World} {t : En (n + 1)} {h : Hd} {ks : List (En n)} (x : Par w (foot (n + 1) t) W h n (ks.map (slE n)) ks) (hp : h.p = t.h.p) : Went w t (En.nd h ks) W :=
  ⟨⟨x.at_, x.lies⟩, hp, by rw [foot_succ]; exact x.nd, fun b hb => x.sub b (by rw [foot_succ] at hb; exact hb), x.kept⟩
/-- The mark. -/
theorem Par.mark {m : Nat} {w : World} {F0 : List Nat} {W : World} {h : Hd} {lv : Nat} {sl : List Sl} {ks : List (En m)} (x : Par w F0 W h lv sl ks) (hF : h.p ∈ F0 ∨ w.heap.size ≤ h.p) : ∀ W', W' = W.setCell ⟨h.p, 2, none⟩ (.bool true) → Par w F0 W' { h with d := true } lv sl ks := by
  rintro W' rfl
  have hk : Kept (fun b => b = h.p) W (W.setCell ⟨h.p, 2, none⟩ (.bool true)) := (Kept.refl (fun b => b = h.p) W).setCell (p := ⟨h.p, 2, none⟩) rfl _
  have hnd := x.nd
  refine ⟨⟨by simpa using x.at_.row.set (i := 2) (.bool true) (by simp), x.at_.own.kept hk fun g hg => x.at_.ne g hg⟩, fun e he => (x.lies e he).kept hk fun b hb e2 => ?_, x.nd, x.sub, ?_⟩
  · obtain ⟨_, _, h3⟩ := List.nodup_append.1 hnd
    exact h3 h.p (by simp [Hd.blks]) b (mem_footL.2 ⟨e, he, hb⟩) e2.symm
  · exact x.kept.comp hk fun b e => by rw [e]; exact hF
/-- A kid has changed. -/
theorem Par.kid {n : Nat} {w : World} {F0 : List Nat} {W W' : World} {h : Hd} {lv : Nat} {sl : List Sl} {A B : List (En (n + 1))} {c c' : En (n + 1)} (x : Par w F0 W h lv sl (A ++ c :: B)) (g : Went W c c' W') : Par w F0 W' h lv sl (A ++ c' :: B) := by
  have hnd := x.nd
  rw [footL_append, footL_cons, ← List.append_assoc, ← List.append_assoc] at hnd
  obtain ⟨n1, n2, n3⟩ := nodup_mid.1 hnd
  have hlt : ∀ b, b ∈ (h.blks ++ footL A) ++ footL B → b < W.heap.size := by
    intro b hb
    simp only [List.mem_append] at hb
    rcases hb with (hb | hb) | hb
    · exact x.at_.lt b hb
    · obtain ⟨e, he, hb⟩ := mem_footL.1 hb
      exact (x.lies e (by simp [he])).lt b hb
    · obtain ⟨e, he, hb⟩ := mem_footL.1 hb
      exact (x.lies e (by simp [he])).lt b hb
  refine ⟨x.at_.kept g.kept fun b hb e => (n3 b e).1 (by simp [hb]), fun e he => ?_, ?_, ?_, ?_⟩
  · simp only [List.mem_append, List.mem_cons] at he
    rcases he with he | rfl | he
    · exact (x.lies e (by simp [he])).kept g.kept fun b hb e2 => (n3 b e2).1 (by simp only [List.mem_append]; exact .inr (mem_footL.2 ⟨e, he, hb⟩))
    · exact g.lies
    · exact (x.lies e (by simp [he])).kept g.kept fun b hb e2 => (n3 b e2).2 (mem_footL.2 ⟨e, he, hb⟩)
  · rw [footL_append, footL_cons, ← List.append_assoc, ← List.append_assoc]
    refine nodup_mid.2 ⟨g.nd, n2, fun b hb => ?_⟩
    rcases g.sub b hb with e | e
    · exact n3 b e
    · exact ⟨fun q => by have := hlt b (by simp only [List.mem_append] at q ⊢; exact .inl q); omega, fun q => by have := hlt b (by simp only [List.mem_append]; exact .inr q); omega⟩
  · intro b hb
    rw [footL_append, footL_cons, ← List.append_assoc, ← List.append_assoc] at hb
    simp only [List.mem_append] at hb
    have hs := x.sub
    rw [footL_append, footL_cons, ← List.append_assoc, ← List.append_assoc] at hs
    rcases hb with (hb | hb) | hb
    · exact hs b (by simp only [List.mem_append]; exact .inl (.inl hb))
    · rcases g.sub b hb with e | e
      · exact hs b (by simp only [List.mem_append]; exact .inl (.inr e))
      · exact .inr (Nat.le_trans x.kept.size e)
    · exact hs b (by simp only [List.mem_append]; exact .inr hb)
  · refine x.kept.comp g.kept fun b hb => ?_
    exact x.sub b (by rw [footL_append, footL_cons]; simp only [List.mem_append]; exact .inr (.inr (.inl hb)))
/-- The node's own slots have changed. -/
theorem Par.turn {m : Nat} {w : World} {F0 : List Nat} {W W' : World} {h h' : Hd} {lv : Nat} {sl sl' : List Sl} {ks : List (En m)} (x : Par w F0 W h lv sl ks) (g : Turned W h lv sl' h' W') : Par w F0 W' h' lv sl' ks := by
  obtain ⟨n1, n2, n3⟩ := List.nodup_append.1 x.nd
  have hb' : ∀ b ∈ h'.blks, b ∈ h.blks ∨ W.heap.size ≤ b := by
    intro b hb
    rcases List.mem_cons.1 hb with e | e
    · rw [e, g.p]; exact .inl (by simp [Hd.blks])
    · rcases g.own b (by simpa using e) with q | q
      · exact .inl (by simp [Hd.blks, q])
      · exact .inr q
  refine ⟨g.at_, fun e he => (x.lies e he).kept g.kept fun b hb e2 => n3 b e2 b (mem_footL.2 ⟨e, he, hb⟩) rfl, List.nodup_append.2 ⟨?_, n2, ?_⟩, ?_, ?_⟩
  · unfold Hd.blks
    cases hv : h'.v.ownBlock with
    | none => simp
    | some b => simpa using fun e => g.at_.ne b hv e.symm
  · intro a ha b hb e
    rcases hb' a ha with q | q
    · exact n3 a q b hb e
    · obtain ⟨y, hy, hb⟩ := mem_footL.1 hb
      have := (x.lies y hy).lt b hb
      omega
  · intro b hb
    rcases List.mem_append.1 hb with hb | hb
    · rcases hb' b hb with q | q
      · exact x.sub b (by simp [q])
      · exact .inr (Nat.le_trans x.kept.size q)
    · exact x.sub b (by simp [hb])
  · exact x.kept.comp g.kept fun b hb => x.sub b (by simp [hb])
/-- A kid was parted. -/
theorem Par.part {n : Nat} {w : World} {F0 : List Nat} {W W' : World} {h : Hd} {lv : Nat} {sl : List Sl} {A B : List (En (n + 1))} {c : En (n + 1)} {h1 hr : Hd} (x : Par w F0 W h lv sl (A ++ c :: B)) (g : Parted W c.h n (c.l.map (slE n)) W' h1 hr) :
    Par w F0 W' h lv sl (A ++ En.nd h1 (c.l.take (c.l.length / 2)) :: En.nd hr (c.l.drop (c.l.length / 2)) :: B) := by
  have gl := g.left
  have gr := g.right
  rw [List.length_map, ← List.map_take] at gl
  rw [List.length_map, ← List.map_drop] at gr
  have hnd := x.nd
  rw [footL_append, footL_cons, ← List.append_assoc, ← List.append_assoc] at hnd
  obtain ⟨m1, m2, m3⟩ := nodup_mid.1 hnd
  rw [foot_succ] at m1 m3
  obtain ⟨k1, k2, k3⟩ := List.nodup_append.1 m1
  have hcl := x.lies c (by simp)
  have hlt : ∀ b, b ∈ (h.blks ++ footL A) ++ footL B → b < W.heap.size := by
    intro b hb
    simp only [List.mem_append] at hb
    rcases hb with (hb | hb) | hb
    · exact x.at_.lt b hb
    · obtain ⟨e, he, hb⟩ := mem_footL.1 hb
      exact (x.lies e (by simp [he])).lt b hb
    · obtain ⟨e, he, hb⟩ := mem_footL.1 hb
      exact (x.lies e (by simp [he])).lt b hb
  have hltc : ∀ b ∈ footL c.l, b < W.heap.size := fun b hb => by
    obtain ⟨e, he, hb⟩ := mem_footL.1 hb
    exact (hcl.2 e he).lt b hb
  have e1 : h1.blks = c.h.blks := by unfold Hd.blks; rw [g.p, g.own]
  have hkid : ∀ e ∈ c.l, Lies W' n e := fun e he => (hcl.2 e he).kept g.kept fun b hb e2 => k3 b e2 b (mem_footL.2 ⟨e, he, hb⟩) rfl
  have efl : footL c.l = footL (c.l.take (c.l.length / 2)) ++ footL (c.l.drop (c.l.length / 2)) := by rw [← footL_append, List.take_append_drop]
  refine ⟨x.at_.kept g.kept fun b hb e => (m3 b (by simp [e])).1 (by simp [hb]), fun e he => ?_, ?_, ?_, ?_⟩
  · simp only [List.mem_append, List.mem_cons] at he
    rcases he with he | rfl | rfl | he
    · exact (x.lies e (by simp [he])).kept g.kept fun b hb e2 => (m3 b (by simp [e2])).1 (by simp only [List.mem_append]; exact .inr (mem_footL.2 ⟨e, he, hb⟩))
    · exact ⟨gl, fun y hy => hkid y (List.mem_of_mem_take hy)⟩
    · exact ⟨gr, fun y hy => hkid y (List.mem_of_mem_drop hy)⟩
    · exact (x.lies e (by simp [he])).kept g.kept fun b hb e2 => (m3 b (by simp [e2])).2 (mem_footL.2 ⟨e, he, hb⟩)
  · have hrn : hr.blks.Nodup := by
      unfold Hd.blks
      cases hv : hr.v.ownBlock with
      | none => simp
      | some b => simpa using fun e => gr.ne b hv e.symm
    have : (h.blks ++ footL (A ++ En.nd h1 (c.l.take (c.l.length / 2)) :: En.nd hr (c.l.drop (c.l.length / 2)) :: B)) = ((h.blks ++ footL A) ++ (c.h.blks ++ footL (c.l.take (c.l.length / 2)))) ++ hr.blks ++ (footL (c.l.drop (c.l.length / 2)) ++ footL B) := by
      rw [footL_append, footL_cons, footL_cons, foot_succ, foot_succ]
      simp [e1]
    rw [this]
    refine nodup_mid.2 ⟨hrn, ?_, fun b hb => ?_⟩
    · rw [foot_succ, efl] at hnd
      simpa using hnd
    · have hbn := g.new b hb
      have hall : ∀ b', b' ∈ (h.blks ++ footL A) ++ footL B ∨ b' ∈ c.h.blks ∨ b' ∈ footL c.l → b' < W.heap.size := by
        rintro b' (q | q | q)
        · exact hlt b' q
        · exact hcl.1.lt b' q
        · exact hltc b' q
      constructor
      · intro q
        have : b < W.heap.size := hall b (by
          simp only [List.mem_append] at q ⊢
          rcases q with q | q | q
          · exact .inl (.inl q)
          · exact .inr (.inl q)
          · exact .inr (.inr (by rw [efl]; simp [q])))
        omega
      · intro q
        have : b < W.heap.size := hall b (by
          simp only [List.mem_append] at q ⊢
          rcases q with q | q
          · exact .inr (.inr (by rw [efl]; simp [q]))
          · exact .inl (.inr q))
        omega
  · intro b hb
    rw [footL_append, footL_cons, footL_cons, foot_succ, foot_succ] at hb
    simp only [List.mem_append, En.h_nd, En.l_nd, e1] at hb
    have hs := x.sub
    rw [footL_append, footL_cons, foot_succ, efl] at hs
    simp only [List.mem_append] at hs
    rcases hb with hb | hb | (hb | hb) | (hb | hb) | hb
    · exact hs b (.inl hb)
    · exact hs b (.inr (.inl hb))
    · exact hs b (.inr (.inr (.inl (.inl hb))))
    · exact hs b (.inr (.inr (.inl (.inr (.inl hb)))))
    · exact .inr (Nat.le_trans x.kept.size (g.new b hb))
    · exact hs b (.inr (.inr (.inl (.inr (.inr hb)))))
    · exact hs b (.inr (.inr (.inr hb)))
  · refine x.kept.comp g.kept fun b hb => ?_
    exact x.sub b (by rw [footL_append, footL_cons, foot_succ]; simp only [List.mem_append]; exact .inr (.inr (.inl (.inl hb))))
end Go.Proofs.Ytlfgeanafidopaa.Bt
