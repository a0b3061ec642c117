/-
  Range.
-/
import Derived.Test.YtlfgeanafidopaaQT
import Derived.Test.YtlfgeanafidopaaQZ
import Derived.Test.YtlfgeanafidopaaQG
import Derived.RangeFuncWrites
namespace Go.Proofs.Ytlfgeanafidopaa.Bt
open Go.RowKit Go.Shelf
attribute [local go_sem] Oper.semAt_some
set_option maxRecDepth 10000

/-- Range's boxes, as they are made. -/
theorem range_boxes (w : World) (p : Nat) (k to : K) (most : Int) : ∀ W, W = (((((((w.alloc (.cells #[.string k] 9)).alloc (.cells #[.string to] 9)).alloc (.cells #[.int .i64 most] 3)).alloc (.cells #[.slice none 0 0] 22)).alloc (.cells #[.slice none 0 0] 22)).alloc (.cells #[.pointer (some ⟨p, 0, none⟩)] 24)).alloc (.cells #[.string k] 9)) →
    St w k to most [] W ∧ W.heap.size = w.heap.size + 7 ∧ W.cell? ⟨w.heap.size + 1 + 1 + 1 + 1 + 1, 0, none⟩ = some (.pointer (some ⟨p, 0, none⟩)) ∧ W.cell? ⟨w.heap.size + 1 + 1 + 1 + 1 + 1 + 1, 0, none⟩ = some (.string k) := by
  rintro W rfl
  have bx : ∀ (X : World) (n : Nat) (t : TypeId) (v : Value), X.heap.size = n → Boxed (X.alloc (.cells #[v] t)) n t v := fun X n t v h => h ▸ Boxed.new X t v
  have e1 := World.size_alloc w (.cells #[.string k] 9)
  generalize hw1 : w.alloc (.cells #[.string k] 9) = w1 at *
  have e2 := World.size_alloc w1 (.cells #[.string to] 9)
  generalize hw2 : w1.alloc (.cells #[.string to] 9) = w2 at *
  have e3 := World.size_alloc w2 (.cells #[.int .i64 most] 3)
  generalize hw3 : w2.alloc (.cells #[.int .i64 most] 3) = w3 at *
  have e4 := World.size_alloc w3 (.cells #[.slice none 0 0] 22)
  generalize hw4 : w3.alloc (.cells #[.slice none 0 0] 22) = w4 at *
  have e5 := World.size_alloc w4 (.cells #[.slice none 0 0] 22)
  generalize hw5 : w4.alloc (.cells #[.slice none 0 0] 22) = w5 at *
  have e6 := World.size_alloc w5 (.cells #[.pointer (some ⟨p, 0, none⟩)] 24)
  generalize hw6 : w5.alloc (.cells #[.pointer (some ⟨p, 0, none⟩)] 24) = w6 at *
  have e7 := World.size_alloc w6 (.cells #[.string k] 9)
  have b0 := bx w _ 9 (.string k) rfl; rw [hw1] at b0
  have b1 := bx w1 (w.heap.size + 1) 9 (.string to) (by omega); rw [hw2] at b1
  have b2 := bx w2 (w.heap.size + 1 + 1) 3 (.int .i64 most) (by omega); rw [hw3] at b2
  have b3 := bx w3 (w.heap.size + 1 + 1 + 1) 22 (.slice none 0 0) (by omega); rw [hw4] at b3
  have b4 := bx w4 (w.heap.size + 1 + 1 + 1 + 1) 22 (.slice none 0 0) (by omega); rw [hw5] at b4
  have b5 := bx w5 (w.heap.size + 1 + 1 + 1 + 1 + 1) 24 (.pointer (some ⟨p, 0, none⟩)) (by omega); rw [hw6] at b5
  have b6 := bx w6 (w.heap.size + 1 + 1 + 1 + 1 + 1 + 1) 9 (.string k) (by omega)
  have n1 : Below w.heap.size w w1 := hw1 ▸ below_new w _
  have n2 : Below w1.heap.size w1 w2 := hw2 ▸ below_new w1 _
  have n3 : Below w2.heap.size w2 w3 := hw3 ▸ below_new w2 _
  have n4 : Below w3.heap.size w3 w4 := hw4 ▸ below_new w3 _
  have n5 : Below w4.heap.size w4 w5 := hw5 ▸ below_new w4 _
  have n6 : Below w5.heap.size w5 w6 := hw6 ▸ below_new w5 _
  have n7 := below_new w6 (.cells #[.string k] 9)
  have lt : ∀ {X Y : World} {B t v}, Below X.heap.size X Y → Boxed X B t v → Boxed Y B t v := fun hb h => h.kept (below_grown hb) (by simp)
  refine ⟨⟨lt n7 (lt n6 (lt n5 (lt n4 (lt n3 (lt n2 b0))))), lt n7 (lt n6 (lt n5 (lt n4 (lt n3 b1)))), lt n7 (lt n6 (lt n5 (lt n4 b2))), lt n7 (lt n6 (lt n5 b3)), ⟨_, lt n7 (lt n6 b4), World.ownsRow_nil _ _ _ _⟩, bafter (bafter (bafter (bafter (bafter (bafter n1 n2) n3) n4) n5) n6) n7⟩, by omega, (lt n7 b5).cell, b6.cell⟩
theorem wpIn_then_false {F : Fence} {n : Nat} {P : Program} {c : Code} {K : Act → World → Prop} {Q : Exit → Act → World → Prop} {a : Act} {w : World}
    (h : Code.wpIn F n P c (Exit.then K (fun _ _ _ => False)) a w) : Code.wpIn F n P c (Exit.then K Q) a w :=
  Code.wpIn_mono (fun e a w hq => by cases e <;> first | exact hq | exact hq.elim) h
/-- What is between two leaves. -/
def Ig (F : Nat) (w : World) (k to : K) (m : Nat) (pre : List (Lf F w)) (W : World) : Prop :=
  St w k to (m : Nat) (accL k (lfs pre)) W ∧ (∀ y ∈ accL k (lfs pre), okT to y = true) ∧ (accL k (lfs pre)).length ≤ m
def Ixg (F : Nat) (w : World) (k to : K) (m : Nat) (c : Code) (pre : List (Lf F w)) (W : World) : Prop :=
  c = .ret ∧ ∃ R, Out w R W ∧ ∀ rest, ((accL k (lfs pre) ++ rest).takeWhile (okT to)).take m = R
theorem Ig.own (F : Nat) (w : World) (k to : K) (m D : Nat) (hD : w.heap.size ≤ D) : OwnFrom D (Ig F w k to m) := fun s W W' row h hg hr =>
  ⟨St.own w k to (m : Nat) (fun pre : List (Lf F w) => accL k (lfs pre)) D hD s W W' row h.1 hg hr, h.2⟩
theorem Ixg.own (F : Nat) (w : World) (k to : K) (m D : Nat) (hD : w.heap.size ≤ D) (c : Code) : OwnFrom D (Ixg F w k to m c) := fun s W W' row h hg hr => by
  obtain ⟨h1, R, h2, h3⟩ := h
  exact ⟨h1, R, Out.own w (fun _ : Unit => R) D hD () W W' row h2 hg hr, h3⟩
/-- What is between two entries of a leaf: A has been told. -/
structure Mid (w : World) (k to : K) (m D : Nat) (W : World) (A : List KV) (wr : World) : Prop where
  st : St w k to (m : Nat) A wr
  keeps : KeepsFrom D W wr
  below : Below w.heap.size W wr
  ok : ∀ y ∈ A, okT to y = true
  le : A.length ≤ m
theorem Mid.start {F : Nat} {w : World} {k to : K} {m D : Nat} {W : World} {pre : List (Lf F w)} (h : Ig F w k to m pre W) (X : World) (hX : Below W.heap.size W X) : Mid w k to m D W (accL k (lfs pre)) X :=
  ⟨h.1.later hX, (keeps_later hX).from D, hX.mono h.1.below.size, h.2.1, h.2.2⟩
theorem Mid.fin {F : Nat} {w : World} {k to : K} {m D : Nat} {W wr : World} {pre : List (Lf F w)} {x : Lf F w} (h : Mid w k to m D W (accL k (lfs pre) ++ entsFrom k x.1) wr) : KeepsFrom D W wr ∧ Below w.heap.size W wr ∧ Ig F w k to m (pre ++ [x]) wr := by
  have e : accL k (lfs (pre ++ [x])) = accL k (lfs pre) ++ entsFrom k x.1 := by
    rw [lfs_append, accL_append]
    show _ ++ [x.1].flatMap (entsFrom k) = _
    rw [List.flatMap_singleton]
  exact ⟨h.keeps, h.below, by unfold Ig; rw [e]; exact ⟨h.st, h.ok, h.le⟩⟩
theorem Mid.stop {F : Nat} {w : World} {k to : K} {m D : Nat} {W wr X : World} {pre : List (Lf F w)} {x : Lf F w} {j : Nat} {e : KV} {v : Value} (h : Mid w k to m D W (accL k (lfs pre) ++ (entsFrom k x.1).take j) wr) (he : (entsFrom k x.1)[j]? = some e) (hs : (accL k (lfs pre) ++ (entsFrom k x.1).take j).length = m ∨ okT to e = false)
    (hX : Below wr.heap.size wr X) (ho : wr.ownsRow w.heap.size 54 3 v (accL k (lfs pre) ++ (entsFrom k x.1).take j).length ((accL k (lfs pre) ++ (entsFrom k x.1).take j).flatMap ndv)) :
    KeepsFrom D W (X.setCell ⟨w.heap.size + 1 + 1 + 1, 0, none⟩ v) ∧ Ixg F w k to m .ret (pre ++ [x]) (X.setCell ⟨w.heap.size + 1 + 1 + 1, 0, none⟩ v) := by
  have hoX : X.ownsRow w.heap.size 54 3 v (accL k (lfs pre) ++ (entsFrom k x.1).take j).length ((accL k (lfs pre) ++ (entsFrom k x.1).take j).flatMap ndv) := ho.kept (below_grown hX) (own_ne ho (row := none) (fun r e => by cases e))
  obtain ⟨h1, h2⟩ := (h.st.later hX).out hoX
  refine ⟨(h.keeps.trans ((keeps_later hX).from D)).trans (h2.from D), rfl, _, h1, fun rest => ?_⟩
  have e1 : accL k (lfs (pre ++ [x])) = accL k (lfs pre) ++ entsFrom k x.1 := by
    rw [lfs_append, accL_append]
    show _ ++ [x.1].flatMap (entsFrom k) = _
    rw [List.flatMap_singleton]
  have e2 : entsFrom k x.1 = (entsFrom k x.1).take j ++ e :: (entsFrom k x.1).drop (j + 1) := split_at he
  rw [e1]
  conv => lhs; rw [e2]
  rw [show accL k (lfs pre) ++ ((entsFrom k x.1).take j ++ e :: (entsFrom k x.1).drop (j + 1)) ++ rest = (accL k (lfs pre) ++ (entsFrom k x.1).take j) ++ e :: ((entsFrom k x.1).drop (j + 1) ++ rest) by simp]
  exact rng_stop h.ok h.le hs
theorem Mid.push {w : World} {k to : K} {m D : Nat} {W wr X w5 : World} {A : List KV} {v v' : Value} {x : KV} (h : Mid w k to m D W A wr) (hX : Below wr.heap.size wr X) (hv : Boxed wr (w.heap.size + 1 + 1 + 1 + 1) 22 v) (ho : wr.ownsRow w.heap.size 54 3 v A.length (A.flatMap ndv))
    (ho' : w5.ownsRow w.heap.size 54 3 v' (A.length + 1) (A.flatMap ndv ++ ndv x)) (hg : X.grownBy w5 v.ownBlock) (hok : okT to x = true) (hlt : A.length < m) :
    w5.cell? ⟨w.heap.size + 1 + 1 + 1 + 1, 0, none⟩ = some v ∧ w5.frozen? ⟨w.heap.size + 1 + 1 + 1 + 1, 0, none⟩ = false ∧ Mid w k to m D W (A ++ [x]) (w5.setCell ⟨w.heap.size + 1 + 1 + 1 + 1, 0, none⟩ v') := by
  obtain ⟨q1, q2, q3, q4, q5⟩ := h.st.push hX hv ho ho' hg
  refine ⟨q1, q2, q3, h.keeps.trans (q4.from D), h.below.trans q5, fun y hy => ?_, by rw [List.length_append]; simp; omega⟩
  rcases List.mem_append.1 hy with hy | hy
  · exact h.ok y hy
  · rw [List.mem_singleton.1 hy]; exact hok
theorem take_snoc {α : Type} {l : List α} {j : Nat} {x : α} (h : l[j]? = some x) : l.take (j + 1) = l.take j ++ [x] := by
  obtain ⟨hlt, he⟩ := List.getElem?_eq_some_iff.1 h
  rw [List.take_succ_eq_append_getElem hlt, he]
theorem acc_len {F : Nat} {w : World} (k : K) (pre : List (Lf F w)) : (accL k (lfs pre)).length ≤ F * pre.length := by
  induction pre with
  | nil => simp [lfs, accL]
  | cons a r ih =>
    have e : accL k (lfs (a :: r)) = entsFrom k a.1 ++ accL k (lfs r) := rfl
    have h1 : (entsFrom k a.1).length ≤ F := by
      unfold entsFrom
      rw [List.length_drop, List.length_map]
      have := a.2.le
      omega
    rw [e, List.length_append, List.length_cons, Nat.mul_succ]
    omega
theorem fin_put {w : World} {R : List KV} {X : World} {D : Nat} (h : Out w R X) (hK : X.heap[D]? = some (.deferred (some []))) (hD : w.heap.size ≤ D) : ∃ v, (X.putObj D (.deferred none)).cell? ⟨w.heap.size + 1 + 1 + 1, 0, none⟩ = some v ∧ Told w (X.putObj D (.deferred none)) v R := by
  obtain ⟨⟨v, hv, ho⟩, hb⟩ := Out.own w (fun _ : Unit => R) w.heap.size (Nat.le_refl _) () X (X.putObj D (.deferred none)) (some D) h (grownBy_putObj' X D _) (fun r e => by cases e; exact ⟨hD, _, hK, rfl⟩)
  exact ⟨v, hv.cell, ho, hb⟩
theorem range_results (tmps : Array Value) (B : Nat) (v : Value) (W : World) (h8 : tmps[8]?.getD undef = .pointer (some ⟨B, 0, none⟩)) (c : W.cell? ⟨B, 0, none⟩ = some v) :
    (results Try.f17 tmps).run Try.prog W = .ok v W := by
  simp [results, Try.f17, go_sem, h8, c]
set_option maxHeartbeats 8000000 in
theorem range_in (n0 : Nat) (hn0 : 3 ≤ n0) {F : Nat} (hF : 4 ≤ F) (hF2 : F ≤ 64) (k to : K) (m p n : Nat) (t : En (n + 1)) (w : World) (hT : TreeAt w p F t) (hN : Nod F w n t) (hm : 0 < m) (hsz : m ≤ 1099511627776 ∨ (lvs k n t).length ≤ 1073741824) (hm2 : m < 9223372036854775808) :
    CallsIn Fence.wide n0 Try.prog 17 #[.pointer (some ⟨p, 0, none⟩), .string k, .string to, .int .i64 (m : Int)] w fun e w' => ∃ v, e = .returned v ∧ Told w w' v (rng k to m (flats (abs (n + 1) t).l)) := by
  have hn1 : 1 ≤ n0 := by omega
  obtain ⟨i0, hi, hz0, hz1, hz2⟩ := info_parts infoNd
  have hroot : w.cell? ⟨p, 2, none⟩ = some (.pointer (some ⟨t.h.p, 0, none⟩)) := hT.row.cell (i := 2) rfl
  have hacc := lvs_acc hF k hN
  have hm0 : ¬ (m : Int) ≤ 0 := by omega
  have HT : Hid (rng k to m (flats (abs (n + 1) t).l) = ((accL k (lvs k n t)).takeWhile (okT to)).take m) := by show _ = _; rw [hacc]; rfl
  rw [HT.out]
  clear hT hacc HT
  obtain ⟨Rz, hRz⟩ : ∃ Rz, Rz = ((accL k (lvs k n t)).takeWhile (okT to)).take m := ⟨_, rfl⟩
  have HZ : Hid (Rz = ((accL k (lvs k n t)).takeWhile (okT to)).take m) := hRz
  rw [← hRz]
  clear hRz
  refine callsIn_of_wp_marks Try.func17 rfl trivial ?_ rfl
  simp only [Try.ntmps17, List.size_toArray, List.length_cons, List.length_nil, Nat.reduceAdd, Nat.reduceSub, Array.replicate_succ, Array.replicate_zero, List.push_toArray, List.append_toArray, List.nil_append, List.cons_append]
  gi_wp2_with (refine ⟨trivial, ?_⟩; gi_at_call 36; refine (callsIn_wide.2 (leaves_any p k _)).mono ?_; rintro e w' ⟨rfl, rfl⟩)
  obtain ⟨W0, hW0⟩ : ∃ W0, W0 = (((((((w.alloc (.cells #[.string k] 9)).alloc (.cells #[.string to] 9)).alloc (.cells #[.int .i64 (m : Int)] 3)).alloc (.cells #[.slice none 0 0] 22)).alloc (.cells #[.slice none 0 0] 22)).alloc (.cells #[.pointer (some ⟨p, 0, none⟩)] 24)).alloc (.cells #[.string k] 9)) := ⟨_, rfl⟩
  obtain ⟨hS0, hs0, hbt, hbk⟩ := range_boxes w p k to (m : Int) W0 hW0
  rw [← hW0]
  clear hW0
  refine wpIn_rangeFunc_ownG rfl hn1 (gf := 57) (lb := #[.pointer (some ⟨w.heap.size + 1 + 1 + 1 + 1 + 1, 0, none⟩), .pointer (some ⟨w.heap.size + 1 + 1 + 1 + 1 + 1 + 1, 0, none⟩)]) rfl trivial (enters_of Try.func57 (by kernel_rfl) rfl)
    (leaves_stops hF hF2 k w (n0 - 1) n p (w.heap.size + 1 + 1 + 1 + 1 + 1) (w.heap.size + 1 + 1 + 1 + 1 + 1 + 1) t hN hroot W0 hS0.below hbt hbk) belowK_t (belowK_b (by omega)) (Below.refl _ _) (fun _ => rfl)
    (Ig F w k to m) (Ixg F w k to m) (Ig.own F w k to m _ (by omega)) (fun c => Ixg.own F w k to m _ (by omega) c) ⟨hS0, fun y hy => by simp [lfs, accL] at hy, by simp [lfs, accL]⟩
    (fun x => { tmps := #[.pointer (some ⟨p, 0, none⟩), .string k, .string to, .int .i64 (m : Int), undef, .pointer (some ⟨w.heap.size, 0, none⟩), .pointer (some ⟨w.heap.size + 1, 0, none⟩), .pointer (some ⟨w.heap.size + 1 + 1, 0, none⟩), .pointer (some ⟨w.heap.size + 1 + 1 + 1, 0, none⟩), .pointer (some ⟨w.heap.size + 1 + 1 + 1 + 1, 0, none⟩), .pointer (some ⟨x.1.h.p, 0, none⟩), undef, undef, .pointer (some ⟨p, 0, none⟩), .bool false, .bool false, .int .i64 (m : Int), .bool false, .bool false, .pointer (some ⟨p, 0, none⟩), .string k, .func (.func 57) #[] #[.pointer (some ⟨w.heap.size + 1 + 1 + 1 + 1 + 1, 0, none⟩), .pointer (some ⟨w.heap.size + 1 + 1 + 1 + 1 + 1 + 1, 0, none⟩)], .pointer (some ⟨x.1.h.p, 0, none⟩),
        undef, undef, undef, undef, undef, undef, undef, undef, undef, undef, undef, undef, undef, undef, undef, undef, undef, undef, undef, undef, undef, undef, undef, undef, undef, undef, undef, undef, undef, undef, undef, undef, undef, undef, undef], defers := [] }) ?assign ?body ?done ?stop
  case assign =>
    intro l x W K hK
    gi_wp2
    exact hK
  case body =>
    rintro l pre x W hI hlt
    have hn3 : 1 ≤ n0 - 1 - 1 := by omega
    rw [hs0]
    have hx := x.2
    have hA := hx.at_.later hI.1.below
    have hN2 := hx.le
    have hlb := lb_le k ((x.1.l.map (slE 0)).map Sl.k)
    rw [List.length_map, List.length_map] at hlb
    have hFr := fun X (hX : Below W.heap.size W X) => from_any x.1.h 0 _ k X (hA.later hX) hx.keys (by rw [List.length_map]; omega)
    have HS : Hid (∀ X, Below W.heap.size W X → Mid w k to m (w.heap.size + 7) W (accL k (lfs pre)) X) := fun X hX => Mid.start hI X hX
    have HE : Hid (entsFrom k x.1 = (x.1.l.map En.pair).drop (lb k ((x.1.l.map (slE 0)).map Sl.k))) := rfl
    have HL : Hid (pre.length < (lvs k n t).length) := hlt
    have c0 : Hid (∀ X, Below W.heap.size W X → X.cell? ⟨w.heap.size, 0, none⟩ = some (.string k)) := fun X hX => (hI.1.later hX).b0.cell
    obtain ⟨i, hi⟩ : ∃ i, i = lb k ((x.1.l.map (slE 0)).map Sl.k) := ⟨_, rfl⟩
    rw [← hi] at hlb HE
    have HFr : Hid (∀ X, Below W.heap.size W X → Calls Try.prog 37 #[.pointer (some ⟨x.1.h.p, 0, none⟩), .string k] X fun e w' => e = .returned (.int .i64 (i : Nat)) ∧ Below X.heap.size X w') := by rw [hi]; exact hFr
    have HIg : Hid (Ig F w k to m pre W) := hI
    have HX : Hid (Leaf F w x.1) := hx
    have HLs : Hid (pre.length + 1 ≤ (lvs k n t).length) := hlt
    clear hFr hi hI hlt hx
    rcases hA.own.form with ⟨hv, hl⟩ | ⟨g, cap, cs, hv, hob, hwh, hcap1, hcap2, hcs1, hcs2⟩
    · have hd1 : Hid (∀ X, Below W.heap.size W X → X.cell? ⟨x.1.h.p, 1, none⟩ = some (.slice none 0 0)) := fun X hX => by rw [← hv]; exact (hA.later hX).row.cell (i := 1) rfl
      have hln : x.1.l = [] := List.map_eq_nil_iff.1 hl
      have hi0 : i = 0 := by rw [hln] at hlb; simpa using hlb
      have HE0 : Hid (entsFrom k x.1 = []) := by show _ = _; rw [HE.out, hln, List.map_nil, List.drop_nil]
      subst hi0
      have q1 := hd1.out W (Below.refl _ _)
      have q0 := c0.out W (Below.refl _ _)
      clear hA hv hl hln
      generalize x.1.h.p = lp at *
      gi_wp2
      refine wpIn_then_false ?_
      refine region_round l (by kernel_rfl) (by kernel_rfl) ?_
      (refine wpAnyIn_take (i := 0) (v := ?_) rfl rfl (by kernel_rfl) (by kernel_rfl) (by kernel_rfl) (fun _ _ _ h => h) ⟨Or.inl ⟨by rfl, ?_⟩, fun _ => rfl⟩ ?_; rotate_left; (focus (intro w; go_simp; (try with_reducible rfl))))
      (refine wpAnyIn_take (i := 1) (v := ?_) rfl rfl (by kernel_rfl) (by kernel_rfl) (by kernel_rfl) (fun _ _ _ h => h) ⟨Or.inl ⟨by rfl, ?_⟩, fun _ => rfl⟩ ?_; rotate_left; (focus (intro w; go_simp; (try with_reducible rfl))))
      (refine wpAnyIn_take (i := 2) (v := ?_) rfl rfl (by kernel_rfl) (by kernel_rfl) (by kernel_rfl) (fun _ _ _ h => h) ⟨Or.inl ⟨by rfl, ?_⟩, fun _ => rfl⟩ ?_; rotate_left; (focus (intro w; go_simp; (try with_reducible rfl))))
      (refine wpAnyIn_take (i := 4) (v := ?_) rfl rfl (by kernel_rfl) (by kernel_rfl) (by kernel_rfl) (fun _ _ _ h => h) ⟨Or.inl ⟨by rfl, ?_⟩, fun _ => rfl⟩ ?_; rotate_left; (focus (intro w; go_simp; (try with_reducible rfl))))
      (refine wpAnyIn_take (i := 9) (v := ?_) rfl rfl (by kernel_rfl) (by kernel_rfl) (by kernel_rfl) (fun _ _ _ h => h) ⟨Or.inl ⟨by rfl, ?_⟩, fun _ => rfl⟩ ?_; rotate_left; (focus (intro w; go_simp; (try with_reducible rfl))))
      refine wpAnyIn_ready (rs := [3, 5]) (by kernel_rfl) (by simp) (AllReadyIn.cons rfl (fun K hK => ?_) (AllReadyIn.cons rfl (fun K hK => ?_) AllReadyIn.nil))
      (go_simp; refine hK _ _ ?_; clear hK)
      refine wpAnyIn_ready (rs := [5]) (by kernel_rfl) (by simp) (AllReadyIn.cons rfl (fun K hK => ?_) AllReadyIn.nil)
      (go_simp; refine hK _ _ ?_; clear hK)
      refine wpAnyIn_ready (rs := [6]) (by kernel_rfl) (by simp) (AllReadyIn.cons rfl (fun K hK => ?_) AllReadyIn.nil)
      (go_simp; (refine ⟨trivial, ?_⟩; (try (refine ⟨(fun h => by cases h), ?_⟩)); gi_at_call 37; refine CallsIn.mono (callsIn_wide.2 (HFr.out W.drew (below_drawn W 1))) ?_; rintro e W1 ⟨rfl, hb1⟩; have HB1 : Hid (Below W.heap.size W W1) := bafter (below_drawn W 1) hb1; have q2 := hd1.out W1 HB1.out; have q3 := c0.out W1 HB1.out; clear hb1); refine hK _ _ ?_; clear hK)
      (refine wpAnyIn_take (i := 7) (v := ?_) rfl rfl (by kernel_rfl) (by kernel_rfl) (by kernel_rfl) (fun _ _ _ h => h) ⟨Or.inl ⟨by rfl, ?_⟩, fun _ => rfl⟩ ?_; rotate_left; (focus (intro w; go_simp; (try with_reducible rfl))))
      refine wpAnyIn_ready (rs := [8]) (by kernel_rfl) (by simp) (AllReadyIn.cons rfl (fun K hK => ?_) AllReadyIn.nil)
      (go_simp; refine hK _ _ ?_; clear hK)
      refine wpAnyIn_done (by kernel_rfl) ?_ _
      rotate_left
      (go_simp; refine hK _ _ ?_; clear hK)
      refine wpAnyIn_ready (rs := [3, 6]) (by kernel_rfl) (by simp) (AllReadyIn.cons rfl (fun K hK => ?_) (AllReadyIn.cons rfl (fun K hK => ?_) AllReadyIn.nil))
      (go_simp; refine hK _ _ ?_; clear hK)
      refine wpAnyIn_ready (rs := [6]) (by kernel_rfl) (by simp) (AllReadyIn.cons rfl (fun K hK => ?_) AllReadyIn.nil)
      (go_simp; (refine ⟨trivial, ?_⟩; (try (refine ⟨(fun h => by cases h), ?_⟩)); gi_at_call 37; refine CallsIn.mono (callsIn_wide.2 (HFr.out W.drew (below_drawn W 1))) ?_; rintro e W1 ⟨rfl, hb1⟩; have HB1 : Hid (Below W.heap.size W W1) := bafter (below_drawn W 1) hb1; have q2 := hd1.out W1 HB1.out; have q3 := c0.out W1 HB1.out; clear hb1); refine hK _ _ ?_; clear hK)
      (refine wpAnyIn_take (i := 7) (v := ?_) rfl rfl (by kernel_rfl) (by kernel_rfl) (by kernel_rfl) (fun _ _ _ h => h) ⟨Or.inl ⟨by rfl, ?_⟩, fun _ => rfl⟩ ?_; rotate_left; (focus (intro w; go_simp; (try with_reducible rfl))))
      refine wpAnyIn_ready (rs := [8]) (by kernel_rfl) (by simp) (AllReadyIn.cons rfl (fun K hK => ?_) AllReadyIn.nil)
      (go_simp; refine hK _ _ ?_; clear hK)
      refine wpAnyIn_done (by kernel_rfl) ?_ _
      rotate_left
      (go_simp; (refine ⟨trivial, ?_⟩; (try (refine ⟨(fun h => by cases h), ?_⟩)); gi_at_call 37; refine CallsIn.mono (callsIn_wide.2 (HFr.out W.drew (below_drawn W 1))) ?_; rintro e W1 ⟨rfl, hb1⟩; have HB1 : Hid (Below W.heap.size W W1) := bafter (below_drawn W 1) hb1; have q2 := hd1.out W1 HB1.out; have q3 := c0.out W1 HB1.out; clear hb1); refine hK _ _ ?_; clear hK)
      refine wpAnyIn_ready (rs := [3]) (by kernel_rfl) (by simp) (AllReadyIn.cons rfl (fun K hK => ?_) AllReadyIn.nil)
      (go_simp; refine hK _ _ ?_; clear hK)
      (refine wpAnyIn_take (i := 7) (v := ?_) rfl rfl (by kernel_rfl) (by kernel_rfl) (by kernel_rfl) (fun _ _ _ h => h) ⟨Or.inl ⟨by rfl, ?_⟩, fun _ => rfl⟩ ?_; rotate_left; (focus (intro w; go_simp; (try with_reducible rfl))))
      refine wpAnyIn_ready (rs := [8]) (by kernel_rfl) (by simp) (AllReadyIn.cons rfl (fun K hK => ?_) AllReadyIn.nil)
      (go_simp; refine hK _ _ ?_; clear hK)
      refine wpAnyIn_done (by kernel_rfl) ?_ _
      rotate_left
      all_goals gi_wp2
      all_goals
        gi_loopw [32] (fun s wr => s = .int .i64 0 ∧ Hid (Mid w k to m (w.heap.size + 7) W (accL k (lfs pre) ++ entsFrom k x.1) wr)) (fun _ _ => 0)
        case atStart =>
          refine ⟨rfl, ?_⟩
          show Mid _ _ _ _ _ _ _ _
          rw [HE0.out, List.append_nil]
          exact HS.out _ HB1.out
        case round =>
          obtain ⟨rfl, I⟩ := hrel
          gi_wp2
          exact I.out.fin
    · rw [List.length_map] at hv hcap1
      have hd1 : Hid (∀ X, Below W.heap.size W X → X.cell? ⟨x.1.h.p, 1, none⟩ = some (.slice (some ⟨g, 0, none⟩) x.1.l.length cap)) := fun X hX => by rw [← hv]; exact (hA.later hX).row.cell (i := 1) rfl
      have q1 := hd1.out W (Below.refl _ _)
      have q0 := c0.out W (Below.refl _ _)
      have h1 : (i : Int) ≤ (x.1.l.length : Int) := by omega
      have h2 : (x.1.l.length : Int) ≤ (cap : Int) := by omega
      have HEnt : Hid (∀ j, j < x.1.l.length - i → ∃ xk xv, (entsFrom k x.1)[j]? = some (xk, xv) ∧ ∀ X, Below w.heap.size w X → X.cell? ⟨g, i * 3 + j * 3, none⟩ = some (.string xk) ∧ X.cell? ⟨g, i * 3 + j * 3 + 1, none⟩ = some (.string xv) ∧ X.cell? ⟨g, i * 3 + j * 3 + 2, none⟩ = some (.pointer none)) := fun j hj => by
        obtain ⟨e, he⟩ : ∃ e, x.1.l[i + j]? = some e := ⟨_, List.getElem?_eq_getElem (by omega)⟩
        refine ⟨(En.pair e).1, (En.pair e).2, by rw [HE.out, List.getElem?_drop, List.getElem?_map, he]; rfl, fun X hX => ?_⟩
        obtain ⟨g', cap', hv', _, _, _, _, z0, z1, z2, _⟩ := (HX.out.at_.later hX).own.at (i := i + j) (s := slE 0 e) (by rw [List.getElem?_map, he]; rfl)
        rw [List.length_map, hv] at hv'
        cases hv'
        rw [show (i + j) * 3 = i * 3 + j * 3 by omega] at z0 z1 z2
        exact ⟨z0, z1, z2⟩
      have HLen : Hid ((entsFrom k x.1).length = x.1.l.length - i) := by show _ = _; rw [HE.out, List.length_drop, List.length_map]
      have HBnd : Hid (∀ j, j ≤ 64 → m ≤ 1099511627776 ∨ (accL k (lfs pre) ++ (entsFrom k x.1).take j).length ≤ 1099511627776) := fun j hj => by
        rcases hsz with h | h
        · exact .inl h
        · refine .inr ?_
          have h3 := acc_len k pre
          have h4 := HLs.out
          have h5 : F * pre.length ≤ 64 * pre.length := Nat.mul_le_mul_right _ hF2
          have h6 : ((entsFrom k x.1).take j).length ≤ j := by rw [List.length_take]; omega
          rw [List.length_append]
          omega
      unfold maxLen at hcap2
      clear hcs1 hcs2 hwh hob
      generalize hNN : x.1.l.length = N at *
      generalize x.1.h.p = lp at *
      clear hA hv
      by_cases hci : cap = i
      · have hiN : i = N := by omega
        have HE0 : Hid (entsFrom k x.1 = []) := List.eq_nil_of_length_eq_zero (by rw [HLen.out]; omega)
        have hz : N - i = 0 := by omega
        gi_wp2
        refine wpIn_then_false ?_
        refine region_round l (by kernel_rfl) (by kernel_rfl) ?_
        (refine wpAnyIn_take (i := 0) (v := ?_) rfl rfl (by kernel_rfl) (by kernel_rfl) (by kernel_rfl) (fun _ _ _ h => h) ⟨Or.inl ⟨by rfl, ?_⟩, fun _ => rfl⟩ ?_; rotate_left; (focus (intro w; go_simp; (try with_reducible rfl))))
        (refine wpAnyIn_take (i := 1) (v := ?_) rfl rfl (by kernel_rfl) (by kernel_rfl) (by kernel_rfl) (fun _ _ _ h => h) ⟨Or.inl ⟨by rfl, ?_⟩, fun _ => rfl⟩ ?_; rotate_left; (focus (intro w; go_simp; (try with_reducible rfl))))
        (refine wpAnyIn_take (i := 2) (v := ?_) rfl rfl (by kernel_rfl) (by kernel_rfl) (by kernel_rfl) (fun _ _ _ h => h) ⟨Or.inl ⟨by rfl, ?_⟩, fun _ => rfl⟩ ?_; rotate_left; (focus (intro w; go_simp; (try with_reducible rfl))))
        (refine wpAnyIn_take (i := 4) (v := ?_) rfl rfl (by kernel_rfl) (by kernel_rfl) (by kernel_rfl) (fun _ _ _ h => h) ⟨Or.inl ⟨by rfl, ?_⟩, fun _ => rfl⟩ ?_; rotate_left; (focus (intro w; go_simp; (try with_reducible rfl))))
        (refine wpAnyIn_take (i := 9) (v := ?_) rfl rfl (by kernel_rfl) (by kernel_rfl) (by kernel_rfl) (fun _ _ _ h => h) ⟨Or.inl ⟨by rfl, ?_⟩, fun _ => rfl⟩ ?_; rotate_left; (focus (intro w; go_simp; (try with_reducible rfl))))
        refine wpAnyIn_ready (rs := [3, 5]) (by kernel_rfl) (by simp) (AllReadyIn.cons rfl (fun K hK => ?_) (AllReadyIn.cons rfl (fun K hK => ?_) AllReadyIn.nil))
        (go_simp; refine hK _ _ ?_; clear hK)
        refine wpAnyIn_ready (rs := [5]) (by kernel_rfl) (by simp) (AllReadyIn.cons rfl (fun K hK => ?_) AllReadyIn.nil)
        (go_simp; refine hK _ _ ?_; clear hK)
        refine wpAnyIn_ready (rs := [6]) (by kernel_rfl) (by simp) (AllReadyIn.cons rfl (fun K hK => ?_) AllReadyIn.nil)
        (go_simp; (refine ⟨trivial, ?_⟩; (try (refine ⟨(fun h => by cases h), ?_⟩)); gi_at_call 37; refine CallsIn.mono (callsIn_wide.2 (HFr.out W.drew (below_drawn W 1))) ?_; rintro e W1 ⟨rfl, hb1⟩; have HB1 : Hid (Below W.heap.size W W1) := bafter (below_drawn W 1) hb1; have q2 := hd1.out W1 HB1.out; have q3 := c0.out W1 HB1.out; clear hb1); refine hK _ _ ?_; clear hK)
        (refine wpAnyIn_take (i := 7) (v := ?_) rfl rfl (by kernel_rfl) (by kernel_rfl) (by kernel_rfl) (fun _ _ _ h => h) ⟨Or.inl ⟨by rfl, ?_⟩, fun _ => rfl⟩ ?_; rotate_left; (focus (intro w; go_simp; (try with_reducible rfl))))
        refine wpAnyIn_ready (rs := [8]) (by kernel_rfl) (by simp) (AllReadyIn.cons rfl (fun K hK => ?_) AllReadyIn.nil)
        (go_simp; refine hK _ _ ?_; clear hK)
        refine wpAnyIn_done (by kernel_rfl) ?_ _
        rotate_left
        (go_simp; refine hK _ _ ?_; clear hK)
        refine wpAnyIn_ready (rs := [3, 6]) (by kernel_rfl) (by simp) (AllReadyIn.cons rfl (fun K hK => ?_) (AllReadyIn.cons rfl (fun K hK => ?_) AllReadyIn.nil))
        (go_simp; refine hK _ _ ?_; clear hK)
        refine wpAnyIn_ready (rs := [6]) (by kernel_rfl) (by simp) (AllReadyIn.cons rfl (fun K hK => ?_) AllReadyIn.nil)
        (go_simp; (refine ⟨trivial, ?_⟩; (try (refine ⟨(fun h => by cases h), ?_⟩)); gi_at_call 37; refine CallsIn.mono (callsIn_wide.2 (HFr.out W.drew (below_drawn W 1))) ?_; rintro e W1 ⟨rfl, hb1⟩; have HB1 : Hid (Below W.heap.size W W1) := bafter (below_drawn W 1) hb1; have q2 := hd1.out W1 HB1.out; have q3 := c0.out W1 HB1.out; clear hb1); refine hK _ _ ?_; clear hK)
        (refine wpAnyIn_take (i := 7) (v := ?_) rfl rfl (by kernel_rfl) (by kernel_rfl) (by kernel_rfl) (fun _ _ _ h => h) ⟨Or.inl ⟨by rfl, ?_⟩, fun _ => rfl⟩ ?_; rotate_left; (focus (intro w; go_simp; (try with_reducible rfl))))
        refine wpAnyIn_ready (rs := [8]) (by kernel_rfl) (by simp) (AllReadyIn.cons rfl (fun K hK => ?_) AllReadyIn.nil)
        (go_simp; refine hK _ _ ?_; clear hK)
        refine wpAnyIn_done (by kernel_rfl) ?_ _
        rotate_left
        (go_simp; (refine ⟨trivial, ?_⟩; (try (refine ⟨(fun h => by cases h), ?_⟩)); gi_at_call 37; refine CallsIn.mono (callsIn_wide.2 (HFr.out W.drew (below_drawn W 1))) ?_; rintro e W1 ⟨rfl, hb1⟩; have HB1 : Hid (Below W.heap.size W W1) := bafter (below_drawn W 1) hb1; have q2 := hd1.out W1 HB1.out; have q3 := c0.out W1 HB1.out; clear hb1); refine hK _ _ ?_; clear hK)
        refine wpAnyIn_ready (rs := [3]) (by kernel_rfl) (by simp) (AllReadyIn.cons rfl (fun K hK => ?_) AllReadyIn.nil)
        (go_simp; refine hK _ _ ?_; clear hK)
        (refine wpAnyIn_take (i := 7) (v := ?_) rfl rfl (by kernel_rfl) (by kernel_rfl) (by kernel_rfl) (fun _ _ _ h => h) ⟨Or.inl ⟨by rfl, ?_⟩, fun _ => rfl⟩ ?_; rotate_left; (focus (intro w; go_simp; (try with_reducible rfl))))
        refine wpAnyIn_ready (rs := [8]) (by kernel_rfl) (by simp) (AllReadyIn.cons rfl (fun K hK => ?_) AllReadyIn.nil)
        (go_simp; refine hK _ _ ?_; clear hK)
        refine wpAnyIn_done (by kernel_rfl) ?_ _
        rotate_left
        all_goals gi_wp2
        all_goals
          gi_loopw [32] (fun s wr => s = .int .i64 0 ∧ Hid (Mid w k to m (w.heap.size + 7) W (accL k (lfs pre) ++ entsFrom k x.1) wr)) (fun _ _ => 0)
          case atStart =>
            refine ⟨rfl, ?_⟩
            show Mid _ _ _ _ _ _ _ _
            rw [HE0.out, List.append_nil]
            exact HS.out _ HB1.out
          case round =>
            obtain ⟨rfl, I⟩ := hrel
            gi_wp2
            exact I.out.fin
      · gi_wp2
        refine wpIn_then_false ?_
        refine region_round l (by kernel_rfl) (by kernel_rfl) ?_
        (refine wpAnyIn_take (i := 0) (v := ?_) rfl rfl (by kernel_rfl) (by kernel_rfl) (by kernel_rfl) (fun _ _ _ h => h) ⟨Or.inl ⟨by rfl, ?_⟩, fun _ => rfl⟩ ?_; rotate_left; (focus (intro w; go_simp; (try with_reducible rfl))))
        (refine wpAnyIn_take (i := 1) (v := ?_) rfl rfl (by kernel_rfl) (by kernel_rfl) (by kernel_rfl) (fun _ _ _ h => h) ⟨Or.inl ⟨by rfl, ?_⟩, fun _ => rfl⟩ ?_; rotate_left; (focus (intro w; go_simp; (try with_reducible rfl))))
        (refine wpAnyIn_take (i := 2) (v := ?_) rfl rfl (by kernel_rfl) (by kernel_rfl) (by kernel_rfl) (fun _ _ _ h => h) ⟨Or.inl ⟨by rfl, ?_⟩, fun _ => rfl⟩ ?_; rotate_left; (focus (intro w; go_simp; (try with_reducible rfl))))
        (refine wpAnyIn_take (i := 4) (v := ?_) rfl rfl (by kernel_rfl) (by kernel_rfl) (by kernel_rfl) (fun _ _ _ h => h) ⟨Or.inl ⟨by rfl, ?_⟩, fun _ => rfl⟩ ?_; rotate_left; (focus (intro w; go_simp; (try with_reducible rfl))))
        (refine wpAnyIn_take (i := 9) (v := ?_) rfl rfl (by kernel_rfl) (by kernel_rfl) (by kernel_rfl) (fun _ _ _ h => h) ⟨Or.inl ⟨by rfl, ?_⟩, fun _ => rfl⟩ ?_; rotate_left; (focus (intro w; go_simp; (try with_reducible rfl))))
        refine wpAnyIn_ready (rs := [3, 5]) (by kernel_rfl) (by simp) (AllReadyIn.cons rfl (fun K hK => ?_) (AllReadyIn.cons rfl (fun K hK => ?_) AllReadyIn.nil))
        (go_simp; refine hK _ _ ?_; clear hK)
        refine wpAnyIn_ready (rs := [5]) (by kernel_rfl) (by simp) (AllReadyIn.cons rfl (fun K hK => ?_) AllReadyIn.nil)
        (go_simp; refine hK _ _ ?_; clear hK)
        refine wpAnyIn_ready (rs := [6]) (by kernel_rfl) (by simp) (AllReadyIn.cons rfl (fun K hK => ?_) AllReadyIn.nil)
        (go_simp; (refine ⟨trivial, ?_⟩; (try (refine ⟨(fun h => by cases h), ?_⟩)); gi_at_call 37; refine CallsIn.mono (callsIn_wide.2 (HFr.out W.drew (below_drawn W 1))) ?_; rintro e W1 ⟨rfl, hb1⟩; have HB1 : Hid (Below W.heap.size W W1) := bafter (below_drawn W 1) hb1; have q2 := hd1.out W1 HB1.out; have q3 := c0.out W1 HB1.out; clear hb1); refine hK _ _ ?_; clear hK)
        (refine wpAnyIn_take (i := 7) (v := ?_) rfl rfl (by kernel_rfl) (by kernel_rfl) (by kernel_rfl) (fun _ _ _ h => h) ⟨Or.inl ⟨by rfl, ?_⟩, fun _ => rfl⟩ ?_; rotate_left; (focus (intro w; go_simp; (try with_reducible rfl))))
        refine wpAnyIn_ready (rs := [8]) (by kernel_rfl) (by simp) (AllReadyIn.cons rfl (fun K hK => ?_) AllReadyIn.nil)
        (go_simp; refine hK _ _ ?_; clear hK)
        refine wpAnyIn_done (by kernel_rfl) ?_ _
        rotate_left
        (go_simp; refine hK _ _ ?_; clear hK)
        refine wpAnyIn_ready (rs := [3, 6]) (by kernel_rfl) (by simp) (AllReadyIn.cons rfl (fun K hK => ?_) (AllReadyIn.cons rfl (fun K hK => ?_) AllReadyIn.nil))
        (go_simp; refine hK _ _ ?_; clear hK)
        refine wpAnyIn_ready (rs := [6]) (by kernel_rfl) (by simp) (AllReadyIn.cons rfl (fun K hK => ?_) AllReadyIn.nil)
        (go_simp; (refine ⟨trivial, ?_⟩; (try (refine ⟨(fun h => by cases h), ?_⟩)); gi_at_call 37; refine CallsIn.mono (callsIn_wide.2 (HFr.out W.drew (below_drawn W 1))) ?_; rintro e W1 ⟨rfl, hb1⟩; have HB1 : Hid (Below W.heap.size W W1) := bafter (below_drawn W 1) hb1; have q2 := hd1.out W1 HB1.out; have q3 := c0.out W1 HB1.out; clear hb1); refine hK _ _ ?_; clear hK)
        (refine wpAnyIn_take (i := 7) (v := ?_) rfl rfl (by kernel_rfl) (by kernel_rfl) (by kernel_rfl) (fun _ _ _ h => h) ⟨Or.inl ⟨by rfl, ?_⟩, fun _ => rfl⟩ ?_; rotate_left; (focus (intro w; go_simp; (try with_reducible rfl))))
        refine wpAnyIn_ready (rs := [8]) (by kernel_rfl) (by simp) (AllReadyIn.cons rfl (fun K hK => ?_) AllReadyIn.nil)
        (go_simp; refine hK _ _ ?_; clear hK)
        refine wpAnyIn_done (by kernel_rfl) ?_ _
        rotate_left
        (go_simp; (refine ⟨trivial, ?_⟩; (try (refine ⟨(fun h => by cases h), ?_⟩)); gi_at_call 37; refine CallsIn.mono (callsIn_wide.2 (HFr.out W.drew (below_drawn W 1))) ?_; rintro e W1 ⟨rfl, hb1⟩; have HB1 : Hid (Below W.heap.size W W1) := bafter (below_drawn W 1) hb1; have q2 := hd1.out W1 HB1.out; have q3 := c0.out W1 HB1.out; clear hb1); refine hK _ _ ?_; clear hK)
        refine wpAnyIn_ready (rs := [3]) (by kernel_rfl) (by simp) (AllReadyIn.cons rfl (fun K hK => ?_) AllReadyIn.nil)
        (go_simp; refine hK _ _ ?_; clear hK)
        (refine wpAnyIn_take (i := 7) (v := ?_) rfl rfl (by kernel_rfl) (by kernel_rfl) (by kernel_rfl) (fun _ _ _ h => h) ⟨Or.inl ⟨by rfl, ?_⟩, fun _ => rfl⟩ ?_; rotate_left; (focus (intro w; go_simp; (try with_reducible rfl))))
        refine wpAnyIn_ready (rs := [8]) (by kernel_rfl) (by simp) (AllReadyIn.cons rfl (fun K hK => ?_) AllReadyIn.nil)
        (go_simp; refine hK _ _ ?_; clear hK)
        refine wpAnyIn_done (by kernel_rfl) ?_ _
        rotate_left
        all_goals gi_wp2
        all_goals
          gi_loopw [32] (fun s wr => ∃ j : Nat, s = .int .i64 (j : Nat) ∧ j ≤ N - i ∧ Hid (Mid w k to m (w.heap.size + 7) W (accL k (lfs pre) ++ (entsFrom k x.1).take j) wr)) (fun s _ => N - i - (intOf s).toNat)
          case atStart =>
            refine ⟨0, rfl, by omega, ?_⟩
            show Mid _ _ _ _ _ _ _ _
            rw [List.take_zero, List.append_nil]
            exact HS.out _ HB1.out
          case round =>
            obtain ⟨j, rfl, hj, I⟩ := hrel
            by_cases hlt : j < N - i
            · obtain ⟨xk, xv, he, hcs⟩ := HEnt.out j hlt
              obtain ⟨s0, s1, s2⟩ := hcs wr I.out.st.below
              obtain ⟨v, hv4, ho4⟩ := I.out.st.row
              obtain ⟨a4, cp4, rfl⟩ := own_slice ho4
              have c1 := I.out.st.b1.cell
              have c2 := I.out.st.b2.cell
              have c3 := I.out.st.b3.cell
              have f3 := I.out.st.b3.frozen
              have c4 := hv4.cell
              have l1 := I.out.st.b1.lt
              have l2 := I.out.st.b2.lt
              have l3 := I.out.st.b3.lt
              have l4 := hv4.lt
              have lg := World.block_lt_of_cell? wr _ s0
              have HStop : Hid (∀ X, Below wr.heap.size wr X → ((accL k (lfs pre) ++ (entsFrom k x.1).take j).length = m ∨ okT to (xk, xv) = false) → KeepsFrom (w.heap.size + 7) W (X.setCell ⟨w.heap.size + 1 + 1 + 1, 0, none⟩ (.slice a4 (accL k (lfs pre) ++ (entsFrom k x.1).take j).length cp4)) ∧ Ixg F w k to m .ret (pre ++ [x]) (X.setCell ⟨w.heap.size + 1 + 1 + 1, 0, none⟩ (.slice a4 (accL k (lfs pre) ++ (entsFrom k x.1).take j).length cp4))) := fun X hX hs => I.out.stop he hs hX ho4
              have HNext : Hid ((accL k (lfs pre) ++ (entsFrom k x.1).take j) ++ [(xk, xv)] = accL k (lfs pre) ++ (entsFrom k x.1).take (j + 1)) := by show _ = _; rw [take_snoc he, List.append_assoc]
              have hbd := HBnd.out j (by omega)
              have hle4 := I.out.le
              obtain ⟨A, hA⟩ : ∃ A, A = accL k (lfs pre) ++ (entsFrom k x.1).take j := ⟨_, rfl⟩
              rw [← hA] at HStop HNext hbd hle4 ho4 c4 hv4 I
              have HO4 : Hid (∀ X, Below wr.heap.size wr X → X.ownsRow w.heap.size 54 3 (.slice a4 A.length cp4) A.length (A.flatMap ndv)) := fun X hX => ho4.kept (below_grown hX) (own_ne ho4 (row := none) (fun r e => by cases e))
              have HC4 : Hid (∀ X, Below wr.heap.size wr X → X.cell? ⟨w.heap.size + 1 + 1 + 1 + 1, 0, none⟩ = some (.slice a4 A.length cp4)) := fun X hX => (hv4.kept (below_grown hX) (by simp)).cell
              have HL4 : Hid (∀ X, Below wr.heap.size wr X → w.heap.size + 1 + 1 + 1 + 1 < X.heap.size) := fun X hX => Nat.lt_of_lt_of_le l4 hX.size
              have HSz : Hid (∀ X, Below wr.heap.size wr X → w.heap.size ≤ X.heap.size) := fun X hX => Nat.le_trans I.out.st.below.size hX.size
              have HPush0 : Hid (okT to (xk, xv) = true → A.length < m → ∀ X w5 v', Below wr.heap.size wr X → w5.ownsRow w.heap.size 54 3 v' (A.length + 1) (A.flatMap ndv ++ ndv (xk, xv)) → X.grownBy w5 (Value.slice a4 A.length cp4).ownBlock → w5.cell? ⟨w.heap.size + 1 + 1 + 1 + 1, 0, none⟩ = some (.slice a4 A.length cp4) ∧ w5.frozen? ⟨w.heap.size + 1 + 1 + 1 + 1, 0, none⟩ = false ∧ Mid w k to m (w.heap.size + 7) W (A ++ [(xk, xv)]) (w5.setCell ⟨w.heap.size + 1 + 1 + 1 + 1, 0, none⟩ v')) := fun ok hlt X w5 v' hX h5 g5 => I.out.push hX hv4 ho4 h5 g5 ok hlt
              have hjn : (j : Int) < ((N - i : Nat) : Int) := by omega
              clear ho4 hv4 hcs he I hA
              generalize hq : A.length = q at *
              by_cases hqm : q = m
              · have e1 : ((q : Int) == (m : Int)) = true := by simp [hqm]
                have e2 : (q : Int) = (m : Int) := by omega
                have HSt : Hid (∀ X, Below wr.heap.size wr X → KeepsFrom (w.heap.size + 7) W (X.setCell ⟨w.heap.size + 1 + 1 + 1, 0, none⟩ (.slice a4 m cp4)) ∧ Ixg F w k to m .ret (pre ++ [x]) (X.setCell ⟨w.heap.size + 1 + 1 + 1, 0, none⟩ (.slice a4 m cp4))) := fun X hX => by
                  have := HStop.out X hX (.inl hqm)
                  rw [hqm] at this
                  exact this
                gi_wp2
                rw [alloc_setCell wr _ ⟨w.heap.size + 1 + 1 + 1, 0, none⟩ _ l3]
                exact HSt.out _ (below_new wr _)
              · have e1 : ((q : Int) == (m : Int)) = false := by rw [beq_eq_false_iff_ne]; omega
                have hqb : q + 1 ≤ 1099511627777 := by omega
                by_cases ht : to.toList = []
                · have t2 : to.toList.isEmpty = true := by simp [ht]
                  have hok : okT to (xk, xv) = true := by unfold okT; rw [t2]; rfl
                  have HPush : Hid (∀ X w5 v', Below wr.heap.size wr X → w5.ownsRow w.heap.size 54 3 v' (q + 1) (A.flatMap ndv ++ ndv (xk, xv)) → X.grownBy w5 (Value.slice a4 q cp4).ownBlock → w5.cell? ⟨w.heap.size + 1 + 1 + 1 + 1, 0, none⟩ = some (.slice a4 q cp4) ∧ w5.frozen? ⟨w.heap.size + 1 + 1 + 1 + 1, 0, none⟩ = false ∧ Mid w k to m (w.heap.size + 7) W (A ++ [(xk, xv)]) (w5.setCell ⟨w.heap.size + 1 + 1 + 1 + 1, 0, none⟩ v')) := HPush0.out hok (by omega)
                  gi_wp2
                  refine region_round l (by kernel_rfl) (by kernel_rfl) ?_
                  refine wpAnyIn_ready (rs := [0, 1]) (by kernel_rfl) (by simp) (AllReadyIn.cons rfl (fun K hK => ?_) (AllReadyIn.cons rfl (fun K hK => ?_) AllReadyIn.nil))
                  (go_simp; refine hK _ _ ?_; clear hK)
                  refine wpAnyIn_ready (rs := [1]) (by kernel_rfl) (by simp) (AllReadyIn.cons rfl (fun K hK => ?_) AllReadyIn.nil)
                  (go_simp; refine hK _ _ ?_; clear hK)
                  refine wpAnyIn_ready (rs := [2]) (by kernel_rfl) (by simp) (AllReadyIn.cons rfl (fun K hK => ?_) AllReadyIn.nil)
                  (go_simp; (refine ⟨trivial, ?_⟩; (try (refine ⟨(fun h => by cases h), ?_⟩)); gi_at_call 38; refine CallsIn.mono (callsIn_wide.2 (told_any _ _ _ _)) ?_; rintro e W7 ⟨rfl, hb7⟩; have HB7 : Hid (Below wr.heap.size wr W7) := bafter (Below.drew (below_new wr _)) hb7; have q7 := HC4.out W7 HB7.out; have l7 := HL4.out W7 HB7.out; clear hb7); refine hK _ _ ?_; clear hK)
                  refine wpAnyIn_ready (rs := [3]) (by kernel_rfl) (by simp) (AllReadyIn.cons rfl (fun K hK => ?_) AllReadyIn.nil)
                  (go_simp; refine hK _ _ ?_; clear hK)
                  refine wpAnyIn_ready (rs := [4]) (by kernel_rfl) (by simp) (AllReadyIn.cons rfl (fun K hK => ?_) AllReadyIn.nil)
                  (refine any_append (W7.alloc (.cells #[.string xk, .string xv, .bool false] 54)) rfl _ _ 22 rfl w.heap.size 54 i0 _ 3 40 Try.underlying22 hi hz0 hz1 hz2 rfl (by decide) (.slice a4 q cp4) q (A.flatMap ndv) rfl (HO4.out _ (bafter HB7.out (below_new _ _))) ⟨W7.heap.size, 0, none⟩ 1 1 (ndv (xk, xv)) rfl rfl (nd_new _ _) (by have := ndv_one [(xk, xv)]; simpa using this) (by unfold maxLen; omega) (by omega) (HSz.out _ (bafter HB7.out (below_new _ _))) ?_; intro v' w5 ho5 hg5; obtain ⟨g5, cap5, rfl⟩ := ownsRow_succ ho5; obtain ⟨z1, z2, z3⟩ := HPush.out _ _ _ (bafter HB7.out (below_new _ _)) ho5 hg5; have HM : Hid (Mid w k to m (w.heap.size + 7) W (A ++ [(xk, xv)]) (w5.setCell ⟨w.heap.size + 1 + 1 + 1 + 1, 0, none⟩ (.slice (some ⟨g5, 0, none⟩) (q + 1) cap5))) := z3; clear z3 ho5 hg5; refine hK _ _ ?_; clear hK)
                  refine wpAnyIn_ready (rs := [5]) (by kernel_rfl) (by simp) (AllReadyIn.cons rfl (fun K hK => ?_) AllReadyIn.nil)
                  (go_simp; refine hK _ _ ?_; clear hK)
                  refine wpAnyIn_done (by kernel_rfl) ?_ _
                  rotate_left
                  (go_simp; refine hK _ _ ?_; clear hK)
                  refine wpAnyIn_ready (rs := [0, 2]) (by kernel_rfl) (by simp) (AllReadyIn.cons rfl (fun K hK => ?_) (AllReadyIn.cons rfl (fun K hK => ?_) AllReadyIn.nil))
                  (go_simp; refine hK _ _ ?_; clear hK)
                  refine wpAnyIn_ready (rs := [2]) (by kernel_rfl) (by simp) (AllReadyIn.cons rfl (fun K hK => ?_) AllReadyIn.nil)
                  (go_simp; (refine ⟨trivial, ?_⟩; (try (refine ⟨(fun h => by cases h), ?_⟩)); gi_at_call 38; refine CallsIn.mono (callsIn_wide.2 (told_any _ _ _ _)) ?_; rintro e W7 ⟨rfl, hb7⟩; have HB7 : Hid (Below wr.heap.size wr W7) := bafter (Below.drew (below_new wr _)) hb7; have q7 := HC4.out W7 HB7.out; have l7 := HL4.out W7 HB7.out; clear hb7); refine hK _ _ ?_; clear hK)
                  refine wpAnyIn_ready (rs := [3]) (by kernel_rfl) (by simp) (AllReadyIn.cons rfl (fun K hK => ?_) AllReadyIn.nil)
                  (go_simp; refine hK _ _ ?_; clear hK)
                  refine wpAnyIn_ready (rs := [4]) (by kernel_rfl) (by simp) (AllReadyIn.cons rfl (fun K hK => ?_) AllReadyIn.nil)
                  (refine any_append (W7.alloc (.cells #[.string xk, .string xv, .bool false] 54)) rfl _ _ 22 rfl w.heap.size 54 i0 _ 3 40 Try.underlying22 hi hz0 hz1 hz2 rfl (by decide) (.slice a4 q cp4) q (A.flatMap ndv) rfl (HO4.out _ (bafter HB7.out (below_new _ _))) ⟨W7.heap.size, 0, none⟩ 1 1 (ndv (xk, xv)) rfl rfl (nd_new _ _) (by have := ndv_one [(xk, xv)]; simpa using this) (by unfold maxLen; omega) (by omega) (HSz.out _ (bafter HB7.out (below_new _ _))) ?_; intro v' w5 ho5 hg5; obtain ⟨g5, cap5, rfl⟩ := ownsRow_succ ho5; obtain ⟨z1, z2, z3⟩ := HPush.out _ _ _ (bafter HB7.out (below_new _ _)) ho5 hg5; have HM : Hid (Mid w k to m (w.heap.size + 7) W (A ++ [(xk, xv)]) (w5.setCell ⟨w.heap.size + 1 + 1 + 1 + 1, 0, none⟩ (.slice (some ⟨g5, 0, none⟩) (q + 1) cap5))) := z3; clear z3 ho5 hg5; refine hK _ _ ?_; clear hK)
                  refine wpAnyIn_ready (rs := [5]) (by kernel_rfl) (by simp) (AllReadyIn.cons rfl (fun K hK => ?_) AllReadyIn.nil)
                  (go_simp; refine hK _ _ ?_; clear hK)
                  refine wpAnyIn_done (by kernel_rfl) ?_ _
                  rotate_left
                  (go_simp; (refine ⟨trivial, ?_⟩; (try (refine ⟨(fun h => by cases h), ?_⟩)); gi_at_call 38; refine CallsIn.mono (callsIn_wide.2 (told_any _ _ _ _)) ?_; rintro e W7 ⟨rfl, hb7⟩; have HB7 : Hid (Below wr.heap.size wr W7) := bafter (Below.drew (below_new wr _)) hb7; have q7 := HC4.out W7 HB7.out; have l7 := HL4.out W7 HB7.out; clear hb7); refine hK _ _ ?_; clear hK)
                  refine wpAnyIn_ready (rs := [0, 3]) (by kernel_rfl) (by simp) (AllReadyIn.cons rfl (fun K hK => ?_) (AllReadyIn.cons rfl (fun K hK => ?_) AllReadyIn.nil))
                  (go_simp; refine hK _ _ ?_; clear hK)
                  refine wpAnyIn_ready (rs := [3]) (by kernel_rfl) (by simp) (AllReadyIn.cons rfl (fun K hK => ?_) AllReadyIn.nil)
                  (go_simp; refine hK _ _ ?_; clear hK)
                  refine wpAnyIn_ready (rs := [4]) (by kernel_rfl) (by simp) (AllReadyIn.cons rfl (fun K hK => ?_) AllReadyIn.nil)
                  (refine any_append (W7.alloc (.cells #[.string xk, .string xv, .bool false] 54)) rfl _ _ 22 rfl w.heap.size 54 i0 _ 3 40 Try.underlying22 hi hz0 hz1 hz2 rfl (by decide) (.slice a4 q cp4) q (A.flatMap ndv) rfl (HO4.out _ (bafter HB7.out (below_new _ _))) ⟨W7.heap.size, 0, none⟩ 1 1 (ndv (xk, xv)) rfl rfl (nd_new _ _) (by have := ndv_one [(xk, xv)]; simpa using this) (by unfold maxLen; omega) (by omega) (HSz.out _ (bafter HB7.out (below_new _ _))) ?_; intro v' w5 ho5 hg5; obtain ⟨g5, cap5, rfl⟩ := ownsRow_succ ho5; obtain ⟨z1, z2, z3⟩ := HPush.out _ _ _ (bafter HB7.out (below_new _ _)) ho5 hg5; have HM : Hid (Mid w k to m (w.heap.size + 7) W (A ++ [(xk, xv)]) (w5.setCell ⟨w.heap.size + 1 + 1 + 1 + 1, 0, none⟩ (.slice (some ⟨g5, 0, none⟩) (q + 1) cap5))) := z3; clear z3 ho5 hg5; refine hK _ _ ?_; clear hK)
                  refine wpAnyIn_ready (rs := [5]) (by kernel_rfl) (by simp) (AllReadyIn.cons rfl (fun K hK => ?_) AllReadyIn.nil)
                  (go_simp; refine hK _ _ ?_; clear hK)
                  refine wpAnyIn_done (by kernel_rfl) ?_ _
                  rotate_left
                  (go_simp; refine hK _ _ ?_; clear hK)
                  refine wpAnyIn_ready (rs := [0]) (by kernel_rfl) (by simp) (AllReadyIn.cons rfl (fun K hK => ?_) AllReadyIn.nil)
                  (go_simp; refine hK _ _ ?_; clear hK)
                  refine wpAnyIn_ready (rs := [4]) (by kernel_rfl) (by simp) (AllReadyIn.cons rfl (fun K hK => ?_) AllReadyIn.nil)
                  (refine any_append (W7.alloc (.cells #[.string xk, .string xv, .bool false] 54)) rfl _ _ 22 rfl w.heap.size 54 i0 _ 3 40 Try.underlying22 hi hz0 hz1 hz2 rfl (by decide) (.slice a4 q cp4) q (A.flatMap ndv) rfl (HO4.out _ (bafter HB7.out (below_new _ _))) ⟨W7.heap.size, 0, none⟩ 1 1 (ndv (xk, xv)) rfl rfl (nd_new _ _) (by have := ndv_one [(xk, xv)]; simpa using this) (by unfold maxLen; omega) (by omega) (HSz.out _ (bafter HB7.out (below_new _ _))) ?_; intro v' w5 ho5 hg5; obtain ⟨g5, cap5, rfl⟩ := ownsRow_succ ho5; obtain ⟨z1, z2, z3⟩ := HPush.out _ _ _ (bafter HB7.out (below_new _ _)) ho5 hg5; have HM : Hid (Mid w k to m (w.heap.size + 7) W (A ++ [(xk, xv)]) (w5.setCell ⟨w.heap.size + 1 + 1 + 1 + 1, 0, none⟩ (.slice (some ⟨g5, 0, none⟩) (q + 1) cap5))) := z3; clear z3 ho5 hg5; refine hK _ _ ?_; clear hK)
                  refine wpAnyIn_ready (rs := [5]) (by kernel_rfl) (by simp) (AllReadyIn.cons rfl (fun K hK => ?_) AllReadyIn.nil)
                  (go_simp; refine hK _ _ ?_; clear hK)
                  refine wpAnyIn_done (by kernel_rfl) ?_ _
                  rotate_left
                  all_goals gi_wp2
                  all_goals
                    refine ⟨⟨j + 1, by simp, by omega, ?_⟩, by simp [intOf]; omega⟩
                    show Mid _ _ _ _ _ _ _ _
                    rw [← HNext.out]
                    exact HM.out
                · have t2 : to.toList.isEmpty = false := by simpa using ht
                  cases hk : Op.bytesLess xk.toList to.toList with
                  | true =>
                    have hok : okT to (xk, xv) = true := by unfold okT klt; rw [t2]; exact hk
                    have HPush : Hid (∀ X w5 v', Below wr.heap.size wr X → w5.ownsRow w.heap.size 54 3 v' (q + 1) (A.flatMap ndv ++ ndv (xk, xv)) → X.grownBy w5 (Value.slice a4 q cp4).ownBlock → w5.cell? ⟨w.heap.size + 1 + 1 + 1 + 1, 0, none⟩ = some (.slice a4 q cp4) ∧ w5.frozen? ⟨w.heap.size + 1 + 1 + 1 + 1, 0, none⟩ = false ∧ Mid w k to m (w.heap.size + 7) W (A ++ [(xk, xv)]) (w5.setCell ⟨w.heap.size + 1 + 1 + 1 + 1, 0, none⟩ v')) := HPush0.out hok (by omega)
                    gi_wp2
                    refine region_round l (by kernel_rfl) (by kernel_rfl) ?_
                    refine wpAnyIn_ready (rs := [0, 1]) (by kernel_rfl) (by simp) (AllReadyIn.cons rfl (fun K hK => ?_) (AllReadyIn.cons rfl (fun K hK => ?_) AllReadyIn.nil))
                    (go_simp; refine hK _ _ ?_; clear hK)
                    refine wpAnyIn_ready (rs := [1]) (by kernel_rfl) (by simp) (AllReadyIn.cons rfl (fun K hK => ?_) AllReadyIn.nil)
                    (go_simp; refine hK _ _ ?_; clear hK)
                    refine wpAnyIn_ready (rs := [2]) (by kernel_rfl) (by simp) (AllReadyIn.cons rfl (fun K hK => ?_) AllReadyIn.nil)
                    (go_simp; (refine ⟨trivial, ?_⟩; (try (refine ⟨(fun h => by cases h), ?_⟩)); gi_at_call 38; refine CallsIn.mono (callsIn_wide.2 (told_any _ _ _ _)) ?_; rintro e W7 ⟨rfl, hb7⟩; have HB7 : Hid (Below wr.heap.size wr W7) := bafter (Below.drew (below_new wr _)) hb7; have q7 := HC4.out W7 HB7.out; have l7 := HL4.out W7 HB7.out; clear hb7); refine hK _ _ ?_; clear hK)
                    refine wpAnyIn_ready (rs := [3]) (by kernel_rfl) (by simp) (AllReadyIn.cons rfl (fun K hK => ?_) AllReadyIn.nil)
                    (go_simp; refine hK _ _ ?_; clear hK)
                    refine wpAnyIn_ready (rs := [4]) (by kernel_rfl) (by simp) (AllReadyIn.cons rfl (fun K hK => ?_) AllReadyIn.nil)
                    (refine any_append (W7.alloc (.cells #[.string xk, .string xv, .bool false] 54)) rfl _ _ 22 rfl w.heap.size 54 i0 _ 3 40 Try.underlying22 hi hz0 hz1 hz2 rfl (by decide) (.slice a4 q cp4) q (A.flatMap ndv) rfl (HO4.out _ (bafter HB7.out (below_new _ _))) ⟨W7.heap.size, 0, none⟩ 1 1 (ndv (xk, xv)) rfl rfl (nd_new _ _) (by have := ndv_one [(xk, xv)]; simpa using this) (by unfold maxLen; omega) (by omega) (HSz.out _ (bafter HB7.out (below_new _ _))) ?_; intro v' w5 ho5 hg5; obtain ⟨g5, cap5, rfl⟩ := ownsRow_succ ho5; obtain ⟨z1, z2, z3⟩ := HPush.out _ _ _ (bafter HB7.out (below_new _ _)) ho5 hg5; have HM : Hid (Mid w k to m (w.heap.size + 7) W (A ++ [(xk, xv)]) (w5.setCell ⟨w.heap.size + 1 + 1 + 1 + 1, 0, none⟩ (.slice (some ⟨g5, 0, none⟩) (q + 1) cap5))) := z3; clear z3 ho5 hg5; refine hK _ _ ?_; clear hK)
                    refine wpAnyIn_ready (rs := [5]) (by kernel_rfl) (by simp) (AllReadyIn.cons rfl (fun K hK => ?_) AllReadyIn.nil)
                    (go_simp; refine hK _ _ ?_; clear hK)
                    refine wpAnyIn_done (by kernel_rfl) ?_ _
                    rotate_left
                    (go_simp; refine hK _ _ ?_; clear hK)
                    refine wpAnyIn_ready (rs := [0, 2]) (by kernel_rfl) (by simp) (AllReadyIn.cons rfl (fun K hK => ?_) (AllReadyIn.cons rfl (fun K hK => ?_) AllReadyIn.nil))
                    (go_simp; refine hK _ _ ?_; clear hK)
                    refine wpAnyIn_ready (rs := [2]) (by kernel_rfl) (by simp) (AllReadyIn.cons rfl (fun K hK => ?_) AllReadyIn.nil)
                    (go_simp; (refine ⟨trivial, ?_⟩; (try (refine ⟨(fun h => by cases h), ?_⟩)); gi_at_call 38; refine CallsIn.mono (callsIn_wide.2 (told_any _ _ _ _)) ?_; rintro e W7 ⟨rfl, hb7⟩; have HB7 : Hid (Below wr.heap.size wr W7) := bafter (Below.drew (below_new wr _)) hb7; have q7 := HC4.out W7 HB7.out; have l7 := HL4.out W7 HB7.out; clear hb7); refine hK _ _ ?_; clear hK)
                    refine wpAnyIn_ready (rs := [3]) (by kernel_rfl) (by simp) (AllReadyIn.cons rfl (fun K hK => ?_) AllReadyIn.nil)
                    (go_simp; refine hK _ _ ?_; clear hK)
                    refine wpAnyIn_ready (rs := [4]) (by kernel_rfl) (by simp) (AllReadyIn.cons rfl (fun K hK => ?_) AllReadyIn.nil)
                    (refine any_append (W7.alloc (.cells #[.string xk, .string xv, .bool false] 54)) rfl _ _ 22 rfl w.heap.size 54 i0 _ 3 40 Try.underlying22 hi hz0 hz1 hz2 rfl (by decide) (.slice a4 q cp4) q (A.flatMap ndv) rfl (HO4.out _ (bafter HB7.out (below_new _ _))) ⟨W7.heap.size, 0, none⟩ 1 1 (ndv (xk, xv)) rfl rfl (nd_new _ _) (by have := ndv_one [(xk, xv)]; simpa using this) (by unfold maxLen; omega) (by omega) (HSz.out _ (bafter HB7.out (below_new _ _))) ?_; intro v' w5 ho5 hg5; obtain ⟨g5, cap5, rfl⟩ := ownsRow_succ ho5; obtain ⟨z1, z2, z3⟩ := HPush.out _ _ _ (bafter HB7.out (below_new _ _)) ho5 hg5; have HM : Hid (Mid w k to m (w.heap.size + 7) W (A ++ [(xk, xv)]) (w5.setCell ⟨w.heap.size + 1 + 1 + 1 + 1, 0, none⟩ (.slice (some ⟨g5, 0, none⟩) (q + 1) cap5))) := z3; clear z3 ho5 hg5; refine hK _ _ ?_; clear hK)
                    refine wpAnyIn_ready (rs := [5]) (by kernel_rfl) (by simp) (AllReadyIn.cons rfl (fun K hK => ?_) AllReadyIn.nil)
                    (go_simp; refine hK _ _ ?_; clear hK)
                    refine wpAnyIn_done (by kernel_rfl) ?_ _
                    rotate_left
                    (go_simp; (refine ⟨trivial, ?_⟩; (try (refine ⟨(fun h => by cases h), ?_⟩)); gi_at_call 38; refine CallsIn.mono (callsIn_wide.2 (told_any _ _ _ _)) ?_; rintro e W7 ⟨rfl, hb7⟩; have HB7 : Hid (Below wr.heap.size wr W7) := bafter (Below.drew (below_new wr _)) hb7; have q7 := HC4.out W7 HB7.out; have l7 := HL4.out W7 HB7.out; clear hb7); refine hK _ _ ?_; clear hK)
                    refine wpAnyIn_ready (rs := [0, 3]) (by kernel_rfl) (by simp) (AllReadyIn.cons rfl (fun K hK => ?_) (AllReadyIn.cons rfl (fun K hK => ?_) AllReadyIn.nil))
                    (go_simp; refine hK _ _ ?_; clear hK)
                    refine wpAnyIn_ready (rs := [3]) (by kernel_rfl) (by simp) (AllReadyIn.cons rfl (fun K hK => ?_) AllReadyIn.nil)
                    (go_simp; refine hK _ _ ?_; clear hK)
                    refine wpAnyIn_ready (rs := [4]) (by kernel_rfl) (by simp) (AllReadyIn.cons rfl (fun K hK => ?_) AllReadyIn.nil)
                    (refine any_append (W7.alloc (.cells #[.string xk, .string xv, .bool false] 54)) rfl _ _ 22 rfl w.heap.size 54 i0 _ 3 40 Try.underlying22 hi hz0 hz1 hz2 rfl (by decide) (.slice a4 q cp4) q (A.flatMap ndv) rfl (HO4.out _ (bafter HB7.out (below_new _ _))) ⟨W7.heap.size, 0, none⟩ 1 1 (ndv (xk, xv)) rfl rfl (nd_new _ _) (by have := ndv_one [(xk, xv)]; simpa using this) (by unfold maxLen; omega) (by omega) (HSz.out _ (bafter HB7.out (below_new _ _))) ?_; intro v' w5 ho5 hg5; obtain ⟨g5, cap5, rfl⟩ := ownsRow_succ ho5; obtain ⟨z1, z2, z3⟩ := HPush.out _ _ _ (bafter HB7.out (below_new _ _)) ho5 hg5; have HM : Hid (Mid w k to m (w.heap.size + 7) W (A ++ [(xk, xv)]) (w5.setCell ⟨w.heap.size + 1 + 1 + 1 + 1, 0, none⟩ (.slice (some ⟨g5, 0, none⟩) (q + 1) cap5))) := z3; clear z3 ho5 hg5; refine hK _ _ ?_; clear hK)
                    refine wpAnyIn_ready (rs := [5]) (by kernel_rfl) (by simp) (AllReadyIn.cons rfl (fun K hK => ?_) AllReadyIn.nil)
                    (go_simp; refine hK _ _ ?_; clear hK)
                    refine wpAnyIn_done (by kernel_rfl) ?_ _
                    rotate_left
                    (go_simp; refine hK _ _ ?_; clear hK)
                    refine wpAnyIn_ready (rs := [0]) (by kernel_rfl) (by simp) (AllReadyIn.cons rfl (fun K hK => ?_) AllReadyIn.nil)
                    (go_simp; refine hK _ _ ?_; clear hK)
                    refine wpAnyIn_ready (rs := [4]) (by kernel_rfl) (by simp) (AllReadyIn.cons rfl (fun K hK => ?_) AllReadyIn.nil)
                    (refine any_append (W7.alloc (.cells #[.string xk, .string xv, .bool false] 54)) rfl _ _ 22 rfl w.heap.size 54 i0 _ 3 40 Try.underlying22 hi hz0 hz1 hz2 rfl (by decide) (.slice a4 q cp4) q (A.flatMap ndv) rfl (HO4.out _ (bafter HB7.out (below_new _ _))) ⟨W7.heap.size, 0, none⟩ 1 1 (ndv (xk, xv)) rfl rfl (nd_new _ _) (by have := ndv_one [(xk, xv)]; simpa using this) (by unfold maxLen; omega) (by omega) (HSz.out _ (bafter HB7.out (below_new _ _))) ?_; intro v' w5 ho5 hg5; obtain ⟨g5, cap5, rfl⟩ := ownsRow_succ ho5; obtain ⟨z1, z2, z3⟩ := HPush.out _ _ _ (bafter HB7.out (below_new _ _)) ho5 hg5; have HM : Hid (Mid w k to m (w.heap.size + 7) W (A ++ [(xk, xv)]) (w5.setCell ⟨w.heap.size + 1 + 1 + 1 + 1, 0, none⟩ (.slice (some ⟨g5, 0, none⟩) (q + 1) cap5))) := z3; clear z3 ho5 hg5; refine hK _ _ ?_; clear hK)
                    refine wpAnyIn_ready (rs := [5]) (by kernel_rfl) (by simp) (AllReadyIn.cons rfl (fun K hK => ?_) AllReadyIn.nil)
                    (go_simp; refine hK _ _ ?_; clear hK)
                    refine wpAnyIn_done (by kernel_rfl) ?_ _
                    rotate_left
                    all_goals gi_wp2
                    all_goals
                      refine ⟨⟨j + 1, by simp, by omega, ?_⟩, by simp [intOf]; omega⟩
                      show Mid _ _ _ _ _ _ _ _
                      rw [← HNext.out]
                      exact HM.out
                  | false =>
                    have hok : okT to (xk, xv) = false := by unfold okT klt; rw [t2]; exact hk
                    have HSt : Hid (∀ X, Below wr.heap.size wr X → KeepsFrom (w.heap.size + 7) W (X.setCell ⟨w.heap.size + 1 + 1 + 1, 0, none⟩ (.slice a4 q cp4)) ∧ Ixg F w k to m .ret (pre ++ [x]) (X.setCell ⟨w.heap.size + 1 + 1 + 1, 0, none⟩ (.slice a4 q cp4))) := fun X hX => HStop.out X hX (.inr hok)
                    gi_wp2
                    rw [alloc_setCell wr _ ⟨w.heap.size + 1 + 1 + 1, 0, none⟩ _ l3]
                    exact HSt.out _ (below_new wr _)
            · have hjn : ¬ (j : Int) < ((N - i : Nat) : Int) := by omega
              have HM : Hid (Mid w k to m (w.heap.size + 7) W (accL k (lfs pre) ++ entsFrom k x.1) wr) := by
                show Mid _ _ _ _ _ _ _ _
                have := I.out
                rwa [List.take_of_length_le (by rw [HLen.out]; omega)] at this
              gi_wp2
              exact HM.out.fin
  case done =>
    rintro D ys W hD hys ⟨hS, hok, hle⟩ hK
    obtain ⟨v, hv, ho⟩ := hS.row
    have HR : Hid (Rz = accL k (lfs ys)) := by show _ = _; rw [HZ.out, ← hys]; exact rng_all hok hle
    have HO := hS.out ho
    obtain ⟨a, cp, rfl⟩ := own_slice ho
    have c3 := hS.b3.cell
    have f3 := hS.b3.frozen
    have c4 := hv.cell
    have HOut : Hid (Out w (accL k (lfs ys)) (W.setCell ⟨w.heap.size + 1 + 1 + 1, 0, none⟩ (.slice a (accL k (lfs ys)).length cp)) ∧ KeepsOthers W (W.setCell ⟨w.heap.size + 1 + 1 + 1, 0, none⟩ (.slice a (accL k (lfs ys)).length cp))) := HO
    clear HO hS ho hv hok hle hys
    generalize hq : (accL k (lfs ys)).length = q at *
    gi_wp2
    have hK2 := HOut.out.2.same D _ hK rfl
    obtain ⟨v, hc, hT⟩ := fin_put HOut.out.1 hK2 (by omega)
    rw [← HR.out] at hT
    exact ⟨by simp, .inl ⟨_, _, rfl, run_takeDeferred hK2, ⟨_, range_results _ _ _ _ rfl hc, v, rfl, hT⟩⟩⟩
  case stop =>
    rintro D c pre W hD hpre ⟨rfl, R, hO, hR⟩ hK
    gi_wp2
    have hz : Rz = R := by
      obtain ⟨rest, hrest⟩ := hpre
      rw [HZ.out, ← hrest, accL_append]
      exact hR _
    obtain ⟨v, hc, hT⟩ := fin_put hO hK (by omega)
    rw [← hz] at hT
    exact ⟨by simp, .inl ⟨_, _, rfl, run_takeDeferred hK, ⟨_, range_results _ _ _ _ rfl hc, v, rfl, hT⟩⟩⟩
end Go.Proofs.Ytlfgeanafidopaa.Bt
