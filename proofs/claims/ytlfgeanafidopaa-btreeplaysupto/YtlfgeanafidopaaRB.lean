/-
  Next.
  Range of a tree that lives, of a nil one, and of none; lists held against each other.
-/
import Derived.Test.YtlfgeanafidopaaRA
import Derived.Test.YtlfgeanafidopaaQV
import Derived.Laws.StructEq
import Derived.BigQuiet
namespace Go.Proofs.Ytlfgeanafidopaa.Bt
open Go.RowKit Go.Shelf
attribute [local go_sem] Oper.semAt_some
set_option maxRecDepth 10000

/-- The first entry behind a key. -/
def nxt (k : K) (L : List KV) : Option KV := L.find? fun x => klt k x.1
def nodeOf : Option KV → List Value
  | none => [.string ⟨#[]⟩, .string ⟨#[]⟩, .bool false]
  | some x => [.string x.1, .string x.2, .bool false]
def nxtV (r : Option KV) : Value := .tuple #[.agg (nodeOf r).toArray, .bool r.isSome]
structure NSt (w : World) (k : K) (W : World) : Prop where
  b0 : Boxed W w.heap.size 9 (.string k)
  n1 : Whole W (w.heap.size + 1) (nodeOf none) 54
  b2 : Boxed W (w.heap.size + 1 + 1) 4 (.bool false)
  below : Below w.heap.size w W
structure NOut (w : World) (r : Option KV) (W : World) : Prop where
  n1 : Whole W (w.heap.size + 1) (nodeOf r) 54
  b2 : Boxed W (w.heap.size + 1 + 1) 4 (.bool r.isSome)
  below : Below w.heap.size w W
theorem ne_whole {W : World} {B : Nat} {t : TypeId} {cs : List Value} {row : Option Nat} (h : Whole W B cs t) (hr : ∀ r, row = some r → ∃ o : Obj, W.heap[r]? = some o ∧ o.isCells = false) : some B ≠ row := fun e => by
  obtain ⟨o, ho, hc⟩ := hr B e.symm
  rw [show W.heap[B]? = _ from h] at ho; cases ho; cases hc
theorem Whole.keptG {W W' : World} {row : Option Nat} {B : Nat} {t : TypeId} {cs : List Value} (h : Whole W B cs t) (hg : W.grownBy W' row) (hne : some B ≠ row) : Whole W' B cs t := (hg.block B h.lt hne).trans h
theorem NSt.own (w : World) (k : K) {β : Type} (P : β → Prop) (D : Nat) (hD : w.heap.size ≤ D) : OwnFrom D (fun (s : β) W => NSt w k W ∧ P s) := by
  intro s W W' row h hg hr
  have hr2 := fun r e => (hr r e).2
  obtain ⟨h, hP⟩ := h
  exact ⟨⟨h.b0.kept hg (ne_cells h.b0 hr2), h.n1.keptG hg (ne_whole h.n1 hr2), h.b2.kept hg (ne_cells h.b2 hr2), h.below.grown hg (h.below.size) (fun k e => Nat.le_trans hD (hr k e).1)⟩, hP⟩
theorem NOut.own (w : World) (r : Option KV) (D : Nat) (hD : w.heap.size ≤ D) : OwnFrom D (fun (_ : Unit) W => NOut w r W) := by
  intro s W W' row h hg hr
  have hr2 := fun r e => (hr r e).2
  exact ⟨h.n1.keptG hg (ne_whole h.n1 hr2), h.b2.kept hg (ne_cells h.b2 hr2), h.below.grown hg (h.below.size) (fun k e => Nat.le_trans hD (hr k e).1)⟩
theorem NSt.later {w : World} {k : K} {W W' : World} (h : NSt w k W) (hb : Below W.heap.size W W') : NSt w k W' :=
  (NSt.own w k (β := Unit) (fun _ => True) w.heap.size (Nat.le_refl _) () W W' none ⟨h, trivial⟩ (below_grown hb) (fun r e => by cases e)).1
theorem NSt.fillE {w : World} {k : K} {W W1 W2 W3 W4 : World} (h : NSt w k W) (r : Option KV) (a b c : Value) (hr : nodeOf r = [a, b, c]) (q : Bool) (hq : q = r.isSome) (e1 : W1 = W.setCell ⟨w.heap.size + 1, 0, none⟩ a) (e2 : W2 = W1.setCell ⟨w.heap.size + 1, 1, none⟩ b) (e3 : W3 = W2.setCell ⟨w.heap.size + 1, 2, none⟩ c) (e4 : W4 = W3.setCell ⟨w.heap.size + 1 + 1, 0, none⟩ (.bool q)) : NOut w r W4 ∧ KeepsOthers W W4 := by
  have a1 : Whole W1 (w.heap.size + 1) [a, .string ⟨#[]⟩, .bool false] 54 := by rw [e1]; exact h.n1.set (i := 0) a
  have a2 : Boxed W1 (w.heap.size + 1 + 1) 4 (.bool false) := by rw [e1]; exact (Below.heap_setCell _ _ _ (w.heap.size + 1 + 1) (by show w.heap.size + 1 + 1 ≠ w.heap.size + 1; omega)).trans h.b2
  have a3 : Below w.heap.size w W1 := by rw [e1]; exact h.below.setCell (p := ⟨w.heap.size + 1, 0, none⟩) (by show w.heap.size ≤ w.heap.size + 1; omega) a
  have a4 : KeepsOthers W W1 := by rw [e1]; exact KeepsOthers.setCell _ _ _
  clear e1
  have b1 : Whole W2 (w.heap.size + 1) [a, b, .bool false] 54 := by rw [e2]; exact a1.set (i := 1) b
  have b2 : Boxed W2 (w.heap.size + 1 + 1) 4 (.bool false) := by rw [e2]; exact (Below.heap_setCell _ _ _ (w.heap.size + 1 + 1) (by show w.heap.size + 1 + 1 ≠ w.heap.size + 1; omega)).trans a2
  have b3 : Below w.heap.size w W2 := by rw [e2]; exact a3.setCell (p := ⟨w.heap.size + 1, 1, none⟩) (by show w.heap.size ≤ w.heap.size + 1; omega) b
  have b4 : KeepsOthers W W2 := by rw [e2]; exact a4.trans (KeepsOthers.setCell _ _ _)
  clear e2 a1 a2 a3 a4
  have c1 : Whole W3 (w.heap.size + 1) (nodeOf r) 54 := by rw [e3, hr]; exact b1.set (i := 2) c
  have c2 : Boxed W3 (w.heap.size + 1 + 1) 4 (.bool false) := by rw [e3]; exact (Below.heap_setCell _ _ _ (w.heap.size + 1 + 1) (by show w.heap.size + 1 + 1 ≠ w.heap.size + 1; omega)).trans b2
  have c3 : Below w.heap.size w W3 := by rw [e3]; exact b3.setCell (p := ⟨w.heap.size + 1, 2, none⟩) (by show w.heap.size ≤ w.heap.size + 1; omega) c
  have c4 : KeepsOthers W W3 := by rw [e3]; exact b4.trans (KeepsOthers.setCell _ _ _)
  clear e3 b1 b2 b3 b4
  subst e4 hq
  exact ⟨⟨(Below.heap_setCell _ _ _ (w.heap.size + 1) (by show w.heap.size + 1 ≠ w.heap.size + 1 + 1; omega)).trans c1, c2.set _, c3.setCell (p := ⟨w.heap.size + 1 + 1, 0, none⟩) (by show w.heap.size ≤ w.heap.size + 1 + 1; omega) _⟩, c4.trans (KeepsOthers.setCell _ _ _)⟩
theorem NSt.fill {w : World} {k : K} {W : World} (h : NSt w k W) (r : Option KV) (a b c : Value) (hr : nodeOf r = [a, b, c]) (q : Bool) (hq : q = r.isSome) : NOut w r ((((W.setCell ⟨w.heap.size + 1, 0, none⟩ a).setCell ⟨w.heap.size + 1, 1, none⟩ b).setCell ⟨w.heap.size + 1, 2, none⟩ c).setCell ⟨w.heap.size + 1 + 1, 0, none⟩ (.bool q)) ∧ KeepsOthers W ((((W.setCell ⟨w.heap.size + 1, 0, none⟩ a).setCell ⟨w.heap.size + 1, 1, none⟩ b).setCell ⟨w.heap.size + 1, 2, none⟩ c).setCell ⟨w.heap.size + 1 + 1, 0, none⟩ (.bool q)) :=
  h.fillE r a b c hr q hq rfl rfl rfl rfl
def Nig (F : Nat) (w : World) (k : K) (pre : List (Lf F w)) (W : World) : Prop := NSt w k W ∧ nxt k (accL k (lfs pre)) = none
def Nixg (F : Nat) (w : World) (k : K) (c : Code) (pre : List (Lf F w)) (W : World) : Prop := c = .ret ∧ ∃ e, NOut w (some e) W ∧ nxt k (accL k (lfs pre)) = some e
theorem Nixg.own (F : Nat) (w : World) (k : K) (D : Nat) (hD : w.heap.size ≤ D) (c : Code) : OwnFrom D (Nixg F w k c) := fun s W W' row h hg hr => by
  obtain ⟨h1, e, h2, h3⟩ := h
  exact ⟨h1, e, NOut.own w (some e) D hD () W W' row h2 hg hr, h3⟩
theorem nst_new (w : World) (k : K) : ∀ W, W = (((w.alloc (.cells #[.string k] 9)).alloc (.cells #[.string ⟨#[]⟩, .string ⟨#[]⟩, .bool false] 54)).alloc (.cells #[.bool false] 4)) → NSt w k W := by
  rintro W rfl
  have bx : ∀ (X : World) (n : Nat) (t : TypeId) (v : Value), X.heap.size = n → Boxed (X.alloc (.cells #[v] t)) n t v := fun X n t v h => h ▸ Boxed.new X t v
  have e1 := World.size_alloc w (.cells #[.string k] 9)
  generalize hw1 : w.alloc (.cells #[.string k] 9) = w1 at *
  have e2 := World.size_alloc w1 (.cells #[.string ⟨#[]⟩, .string ⟨#[]⟩, .bool false] 54)
  have n1 : Whole (w1.alloc (.cells #[.string ⟨#[]⟩, .string ⟨#[]⟩, .bool false] 54)) w1.heap.size (nodeOf none) 54 := World.alloc_heap_new w1 _
  have m2 := below_new w1 (.cells #[.string ⟨#[]⟩, .string ⟨#[]⟩, .bool false] 54)
  generalize w1.alloc (.cells #[.string ⟨#[]⟩, .string ⟨#[]⟩, .bool false] 54) = w2 at *
  have b0 := bx w _ 9 (.string k) rfl; rw [hw1] at b0
  rw [e1] at n1
  have b2 := bx w2 (w.heap.size + 1 + 1) 4 (.bool false) (by omega)
  have m1 : Below w.heap.size w w1 := hw1 ▸ below_new w _
  have m3 := below_new w2 (.cells #[.bool false] 4)
  have lt : ∀ {X Y : World} {B t v}, Below X.heap.size X Y → Boxed X B t v → Boxed Y B t v := fun hb h => h.kept (below_grown hb) (by simp)
  have lw : ∀ {X Y : World} {B cs t}, Below X.heap.size X Y → Whole X B cs t → Whole Y B cs t := fun hb h => Whole.keptG h (below_grown hb) (by simp)
  exact ⟨lt m3 (lt m2 b0), lw m3 n1, b2, bafter (bafter m1 m2) m3⟩
theorem next_boxes (w : World) (p : Nat) (k : K) : ∀ W, W = (((((w.alloc (.cells #[.string k] 9)).alloc (.cells #[.string ⟨#[]⟩, .string ⟨#[]⟩, .bool false] 54)).alloc (.cells #[.bool false] 4)).alloc (.cells #[.pointer (some ⟨p, 0, none⟩)] 24)).alloc (.cells #[.string k] 9)) →
    NSt w k W ∧ W.heap.size = w.heap.size + 5 ∧ W.cell? ⟨w.heap.size + 1 + 1 + 1, 0, none⟩ = some (.pointer (some ⟨p, 0, none⟩)) ∧ W.cell? ⟨w.heap.size + 1 + 1 + 1 + 1, 0, none⟩ = some (.string k) := by
  rintro W rfl
  have bx : ∀ (X : World) (n : Nat) (t : TypeId) (v : Value), X.heap.size = n → Boxed (X.alloc (.cells #[v] t)) n t v := fun X n t v h => h ▸ Boxed.new X t v
  have e1 := World.size_alloc w (.cells #[.string k] 9)
  generalize hw1 : w.alloc (.cells #[.string k] 9) = w1 at *
  have e2 := World.size_alloc w1 (.cells #[.string ⟨#[]⟩, .string ⟨#[]⟩, .bool false] 54)
  have n1 : Whole (w1.alloc (.cells #[.string ⟨#[]⟩, .string ⟨#[]⟩, .bool false] 54)) w1.heap.size (nodeOf none) 54 := World.alloc_heap_new w1 _
  have m2 := below_new w1 (.cells #[.string ⟨#[]⟩, .string ⟨#[]⟩, .bool false] 54)
  generalize w1.alloc (.cells #[.string ⟨#[]⟩, .string ⟨#[]⟩, .bool false] 54) = w2 at *
  have e3 := World.size_alloc w2 (.cells #[.bool false] 4)
  generalize hw3 : w2.alloc (.cells #[.bool false] 4) = w3 at *
  have e4 := World.size_alloc w3 (.cells #[.pointer (some ⟨p, 0, none⟩)] 24)
  generalize hw4 : w3.alloc (.cells #[.pointer (some ⟨p, 0, none⟩)] 24) = w4 at *
  have e5 := World.size_alloc w4 (.cells #[.string k] 9)
  have b0 := bx w _ 9 (.string k) rfl; rw [hw1] at b0
  rw [e1] at n1
  have b2 := bx w2 (w.heap.size + 1 + 1) 4 (.bool false) (by omega); rw [hw3] at b2
  have b3 := bx w3 (w.heap.size + 1 + 1 + 1) 24 (.pointer (some ⟨p, 0, none⟩)) (by omega); rw [hw4] at b3
  have b4 := bx w4 (w.heap.size + 1 + 1 + 1 + 1) 9 (.string k) (by omega)
  have m1 : Below w.heap.size w w1 := hw1 ▸ below_new w _
  have m3 : Below w2.heap.size w2 w3 := hw3 ▸ below_new w2 _
  have m4 : Below w3.heap.size w3 w4 := hw4 ▸ below_new w3 _
  have m5 := below_new w4 (.cells #[.string k] 9)
  have lt : ∀ {X Y : World} {B t v}, Below X.heap.size X Y → Boxed X B t v → Boxed Y B t v := fun hb h => h.kept (below_grown hb) (by simp)
  have lw : ∀ {X Y : World} {B cs t}, Below X.heap.size X Y → Whole X B cs t → Whole Y B cs t := fun hb h => Whole.keptG h (below_grown hb) (by simp)
  refine ⟨⟨lt m5 (lt m4 (lt m3 (lt m2 b0))), lw m5 (lw m4 (lw m3 n1)), lt m5 (lt m4 b2), bafter (bafter (bafter (bafter m1 m2) m3) m4) m5⟩, by omega, (lt m5 b3).cell, b4.cell⟩
theorem lfs_snoc {F : Nat} {w : World} (k : K) (pre : List (Lf F w)) (x : Lf F w) : accL k (lfs (pre ++ [x])) = accL k (lfs pre) ++ entsFrom k x.1 := by
  rw [lfs_append, accL_append]
  show _ ++ [x.1].flatMap (entsFrom k) = _
  rw [List.flatMap_singleton]
theorem find_drop {α : Type} (q : α → Bool) : ∀ (l : List α) (i : Nat), (∀ j x, l[j]? = some x → (q x = true ↔ i ≤ j)) → l.find? q = l[i]?
  | [], i, _ => by simp
  | a :: l, 0, h => by
    have := (h 0 a rfl).2 (Nat.le_refl _)
    simp [List.find?, this]
  | a :: l, i + 1, h => by
    have h1 : q a = false := by
      cases e : q a with
      | false => rfl
      | true => have := (h 0 a rfl).1 e; omega
    have h2 := find_drop q l i (fun j x hj => by have := h (j + 1) x (by simpa using hj); exact ⟨fun hh => by have := this.1 hh; omega, fun hh => this.2 (by omega)⟩)
    simp [List.find?, h1, h2]
/-- A leaf's first entry behind a key. -/
theorem ents_nxt {k : K} {c : En 1} (hs : Ksrt ((c.l.map (slE 0)).map Sl.k)) : nxt k (entsFrom k c) = (c.l.map En.pair)[ub k ((c.l.map (slE 0)).map Sl.k)]? := by
  have hk : ∀ j e, c.l[j]? = some e → ((c.l.map (slE 0)).map Sl.k)[j]? = some (En.pair e).1 := fun j e he => by
    rw [List.getElem?_map, List.getElem?_map, he]; rfl
  have e1 : nxt k (c.l.map En.pair) = (c.l.map En.pair)[ub k ((c.l.map (slE 0)).map Sl.k)]? := by
    refine find_drop _ _ _ (fun j x hx => ?_)
    rw [List.getElem?_map] at hx
    cases he : c.l[j]? with
    | none => rw [he] at hx; cases hx
    | some e =>
      rw [he] at hx; cases hx
      have := ub_iff (k := k) hs j _ (hk j e he)
      constructor
      · intro q; rw [q] at this; have h2 : ¬ j < ub k ((c.l.map (slE 0)).map Sl.k) := fun h => by have := this.1 h; cases this
        omega
      · intro q
        cases h3 : klt k (En.pair e).1 with
        | true => rfl
        | false => have := this.2 h3; omega
  rw [← e1]
  unfold nxt entsFrom
  conv => rhs; rw [← List.take_append_drop (lb k ((c.l.map (slE 0)).map Sl.k)) (c.l.map En.pair), List.find?_append]
  have : ((c.l.map En.pair).take (lb k ((c.l.map (slE 0)).map Sl.k))).find? (fun x => klt k x.1) = none := by
    rw [List.find?_eq_none]
    intro x hx
    obtain ⟨j, hj⟩ := List.getElem?_of_mem hx
    rw [List.getElem?_take] at hj
    split at hj
    · rename_i hlt
      rw [List.getElem?_map] at hj
      cases he : c.l[j]? with
      | none => rw [he] at hj; cases hj
      | some e =>
        rw [he] at hj; cases hj
        have := (lb_iff (k := k) hs j _ (hk j e he)).1 hlt
        rw [klt_asymm this]; decide
    · cases hj
  rw [this, Option.none_or]
theorem next_results (tmps : Array Value) (B : Nat) (r : Option KV) (b : Bool) (W : World) (h4 : tmps[4]?.getD undef = .pointer (some ⟨B, 0, none⟩)) (h5 : tmps[5]?.getD undef = .pointer (some ⟨B + 1, 0, none⟩)) (c : Whole W B (nodeOf r) 54) (c2 : W.cell? ⟨B + 1, 0, none⟩ = some (.bool b)) :
    (results Try.f24 tmps).run Try.prog W = .ok (.tuple #[.agg (nodeOf r).toArray, .bool b]) W := by
  have q0 := c.cell (i := 0)
  have q1 := c.cell (i := 1)
  have q2 := c.cell (i := 2)
  cases r with
  | none =>
    simp [nodeOf] at q0 q1 q2
    simp [results, Try.f24, go_sem, h4, h5, q0, q1, q2, c2, nodeOf]
  | some x =>
    simp [nodeOf] at q0 q1 q2
    simp [results, Try.f24, go_sem, h4, h5, q0, q1, q2, c2, nodeOf]
theorem nfin_put {w : World} {r : Option KV} {X : World} {D : Nat} (h : NOut w r X) (hK : X.heap[D]? = some (.deferred (some []))) (hD : w.heap.size ≤ D) : NOut w r (X.putObj D (.deferred none)) :=
  NOut.own w r w.heap.size (Nat.le_refl _) () X (X.putObj D (.deferred none)) (some D) h (grownBy_putObj' X D _) (fun r e => by cases e; exact ⟨hD, _, hK, rfl⟩)
set_option maxHeartbeats 8000000 in
theorem next_in (n0 : Nat) (hn0 : 3 ≤ n0) {F : Nat} (hF : 4 ≤ F) (hF2 : F ≤ 64) (k : K) (p n : Nat) (t : En (n + 1)) (w : World) (hT : TreeAt w p F t) (hN : Nod F w n t) :
    CallsIn Fence.wide n0 Try.prog 24 #[.pointer (some ⟨p, 0, none⟩), .string k] w fun e w' => e = .returned (nxtV (nxt k (accL k (lvs k n t)))) ∧ Below w.heap.size w w' := by
  have hn1 : 1 ≤ n0 := by omega
  have hroot : w.cell? ⟨p, 2, none⟩ = some (.pointer (some ⟨t.h.p, 0, none⟩)) := hT.row.cell (i := 2) rfl
  clear hT
  obtain ⟨Rz, hRz⟩ : ∃ Rz, Rz = nxt k (accL k (lvs k n t)) := ⟨_, rfl⟩
  have HZ : Hid (Rz = nxt k (accL k (lvs k n t))) := hRz
  rw [← hRz]
  clear hRz
  refine callsIn_of_wp_marks Try.func24 rfl trivial ?_ rfl
  simp only [Try.ntmps24, List.size_toArray, List.length_cons, List.length_nil, Nat.reduceAdd, Nat.reduceSub, Array.replicate_succ, Array.replicate_zero, List.push_toArray, List.append_toArray, List.nil_append, List.cons_append]
  gi_wp2_with (refine ⟨trivial, ?_⟩; gi_at_call 36; refine (callsIn_wide.2 (leaves_any p k _)).mono ?_; rintro e w' ⟨rfl, rfl⟩)
  obtain ⟨W0, hW0⟩ : ∃ W0, W0 = (((((w.alloc (.cells #[.string k] 9)).alloc (.cells #[.string ⟨#[]⟩, .string ⟨#[]⟩, .bool false] 54)).alloc (.cells #[.bool false] 4)).alloc (.cells #[.pointer (some ⟨p, 0, none⟩)] 24)).alloc (.cells #[.string k] 9)) := ⟨_, rfl⟩
  obtain ⟨hS0, hs0, hbt, hbk⟩ := next_boxes w p k W0 hW0
  rw [← hW0]
  clear hW0
  refine wpIn_rangeFunc_ownG rfl hn1 (gf := 57) (lb := #[.pointer (some ⟨w.heap.size + 1 + 1 + 1, 0, none⟩), .pointer (some ⟨w.heap.size + 1 + 1 + 1 + 1, 0, none⟩)]) rfl trivial (enters_of Try.func57 (by kernel_rfl) rfl)
    (leaves_stops hF hF2 k w (n0 - 1) n p (w.heap.size + 1 + 1 + 1) (w.heap.size + 1 + 1 + 1 + 1) t hN hroot W0 hS0.below hbt hbk) belowK_t (belowK_b (by omega)) (Below.refl _ _) (fun _ => rfl)
    (Nig F w k) (Nixg F w k) (NSt.own w k (fun pre : List (Lf F w) => nxt k (accL k (lfs pre)) = none) _ (by omega)) (fun c => Nixg.own F w k _ (by omega) c) ⟨hS0, by simp [lfs, accL, nxt]⟩
    (fun x => { tmps := #[.pointer (some ⟨p, 0, none⟩), .string k, undef, .pointer (some ⟨w.heap.size, 0, none⟩), .pointer (some ⟨w.heap.size + 1, 0, none⟩), .pointer (some ⟨w.heap.size + 1 + 1, 0, none⟩), .pointer (some ⟨x.1.h.p, 0, none⟩), undef, .pointer (some ⟨p, 0, none⟩), .bool false, undef, .pointer (some ⟨p, 0, none⟩), .string k, .func (.func 57) #[] #[.pointer (some ⟨w.heap.size + 1 + 1 + 1, 0, none⟩), .pointer (some ⟨w.heap.size + 1 + 1 + 1 + 1, 0, none⟩)], .pointer (some ⟨x.1.h.p, 0, none⟩),
        undef, undef, undef, undef, undef, undef, undef, undef, undef, undef, undef, undef, undef, undef, undef, undef, undef, undef, undef], defers := [] }) ?assign ?body ?done ?stop
  case assign =>
    intro l x W K hK
    gi_wp2
    exact hK
  case body =>
    rintro l pre x W hI hlt
    have hn3 : 1 ≤ n0 - 1 - 1 := by omega
    rw [hs0]
    have hx := x.2
    have hA := hx.at_.later hI.1.below
    have hN2 := hx.le
    have hub := ub_le k ((x.1.l.map (slE 0)).map Sl.k)
    rw [List.length_map, List.length_map] at hub
    have hFr := fun X (hX : Below W.heap.size W X) => behind_any x.1.h 0 _ k X (hA.later hX) hx.keys (by rw [List.length_map]; omega)
    have HE : Hid (nxt k (accL k (lfs (pre ++ [x]))) = (x.1.l.map En.pair)[ub k ((x.1.l.map (slE 0)).map Sl.k)]?) := by
      show _ = _
      rw [lfs_snoc, nxt, List.find?_append, show (accL k (lfs pre)).find? (fun x => klt k x.1) = none from hI.2, Option.none_or]
      exact ents_nxt hx.keys
    have q0 := hI.1.b0.cell
    obtain ⟨i, hi⟩ : ∃ i, i = ub k ((x.1.l.map (slE 0)).map Sl.k) := ⟨_, rfl⟩
    rw [← hi] at hub HE
    have HFr : Hid (∀ X, Below W.heap.size W X → Calls Try.prog 48 #[.pointer (some ⟨x.1.h.p, 0, none⟩), .string k] X fun e w' => e = .returned (.int .i64 (i : Nat)) ∧ Below X.heap.size X w') := by rw [hi]; exact hFr
    have HIg : Hid (NSt w k W) := hI.1
    clear hFr hi hI hlt
    rcases hA.own.form with ⟨hv, hl⟩ | ⟨g, cap, cs, hv, hob, hwh, hcap1, hcap2, hcs1, hcs2⟩
    · have hd1 : Hid (∀ X, Below W.heap.size W X → X.cell? ⟨x.1.h.p, 1, none⟩ = some (.slice none 0 0)) := fun X hX => by rw [← hv]; exact (hA.later hX).row.cell (i := 1) rfl
      have hln : x.1.l = [] := List.map_eq_nil_iff.1 hl
      have hi0 : i = 0 := by rw [hln] at hub; simpa using hub
      have HE0 : Hid (nxt k (accL k (lfs (pre ++ [x]))) = none) := by show _ = _; rw [HE.out, hln]; rfl
      subst hi0
      clear hA hv hl hln
      generalize x.1.h.p = lp at *
      gi_wp2_with (refine ⟨trivial, ?_⟩; (try (refine ⟨(fun h => by cases h), ?_⟩)); gi_at_call 48; refine CallsIn.mono (callsIn_wide.2 (HFr.out W (Below.refl _ _))) ?_; rintro e W1 ⟨rfl, hb1⟩; have HB1 : Hid (Below W.heap.size W W1) := hb1; have q2 := hd1.out W1 HB1.out; clear hb1)
      exact ⟨(keeps_later HB1.out).from _, HB1.out.mono HIg.out.below.size, HIg.out.later HB1.out, HE0.out⟩
    · rw [List.length_map] at hv hcap1
      have hd1 : Hid (∀ X, Below W.heap.size W X → X.cell? ⟨x.1.h.p, 1, none⟩ = some (.slice (some ⟨g, 0, none⟩) x.1.l.length cap)) := fun X hX => by rw [← hv]; exact (hA.later hX).row.cell (i := 1) rfl
      have HEnt : Hid (∀ e, x.1.l[i]? = some e → ∀ X, Below W.heap.size W X → X.cell? ⟨g, i * 3, none⟩ = some (.string (En.pair e).1) ∧ X.cell? ⟨g, i * 3 + 1, none⟩ = some (.string (En.pair e).2) ∧ X.cell? ⟨g, i * 3 + 2, none⟩ = some (.pointer none)) := fun e he X hX => by
        obtain ⟨g', cap', hv', _, _, _, _, z0, z1, z2, _⟩ := (hA.later hX).own.at (i := i) (s := slE 0 e) (by rw [List.getElem?_map, he]; rfl)
        rw [List.length_map, hv] at hv'
        cases hv'
        exact ⟨z0, z1, z2⟩
      have HG : Hid (∀ e, x.1.l[i]? = some e → nxt k (accL k (lfs (pre ++ [x]))) = some (En.pair e)) := fun e he => by rw [HE.out, List.getElem?_map, he]; rfl
      have HG0 : Hid (x.1.l.length ≤ i → nxt k (accL k (lfs (pre ++ [x]))) = none) := fun h => by rw [HE.out, List.getElem?_eq_none (by rw [List.length_map]; exact h)]
      have HD : Hid (i < x.1.l.length → ∃ e, x.1.l[i]? = some e) := fun h => ⟨_, List.getElem?_eq_getElem h⟩
      clear hcs1 hcs2 hwh hob hA hv HE
      generalize x.1.l.length = N at *
      generalize x.1.h.p = lp at *
      by_cases hiN : i < N
      · obtain ⟨e0, he⟩ := HD.out hiN
        have hent := HEnt.out e0 he
        have HGE := HG.out e0 he
        generalize hpe : En.pair e0 = pe at *
        obtain ⟨xk, xv⟩ := pe
        have HGe : Hid (nxt k (accL k (lfs (pre ++ [x]))) = some (xk, xv)) := HGE
        have HN3 : Hid (∀ X, Below W.heap.size W X → X.cell? ⟨g, i * 3, none⟩ = some (.string xk) ∧ X.cell? ⟨g, i * 3 + 1, none⟩ = some (.string xv) ∧ X.cell? ⟨g, i * 3 + 2, none⟩ = some (.pointer none)) := hent
        clear he hent HGE HG HG0 HD HEnt hpe
        have hiN2 : (i : Int) < (N : Int) := by omega
        gi_wp2_with (first
          | (refine ⟨trivial, ?_⟩; (try (refine ⟨(fun h => by cases h), ?_⟩)); gi_at_call 48; refine CallsIn.mono (callsIn_wide.2 (HFr.out W (Below.refl _ _))) ?_; rintro e W1 ⟨rfl, hb1⟩; have HB1 : Hid (Below W.heap.size W W1) := hb1; have q2 := hd1.out W1 HB1.out; obtain ⟨z0, z1, z2⟩ := HN3.out W1 HB1.out; clear hb1)
          | (refine ⟨trivial, ?_⟩; (try (refine ⟨(fun h => by cases h), ?_⟩)); gi_at_call 38; refine CallsIn.mono (callsIn_wide.2 (told_any _ _ _ _)) ?_; rintro e W2 ⟨rfl, hb2⟩; have HB2 : Hid (Below W.heap.size W W2) := bafter HB1.out hb2; have HS2 : Hid (NSt w k W2) := HIg.out.later HB2.out; have c0 : W2.cell? ⟨w.heap.size + 1, 0, none⟩ = some (.string ⟨#[]⟩) := HS2.out.n1.cell; have c1 : W2.cell? ⟨w.heap.size + 1, 1, none⟩ = some (.string ⟨#[]⟩) := HS2.out.n1.cell; have c2 : W2.cell? ⟨w.heap.size + 1, 2, none⟩ = some (.bool false) := HS2.out.n1.cell; have f0 := HS2.out.n1.frozen 0; have f1 := HS2.out.n1.frozen 1; have f2 := HS2.out.n1.frozen 2; have c5 := HS2.out.b2.cell; have f5 := HS2.out.b2.frozen; clear hb2))
        obtain ⟨y1, y2⟩ := HS2.out.fill (some (xk, xv)) _ _ _ rfl true rfl
        exact ⟨((keeps_later HB2.out).trans y2).from _, rfl, _, y1, HGe.out⟩
      · have hiN2 : ¬ (i : Int) < (N : Int) := by omega
        have HE0 : Hid (nxt k (accL k (lfs (pre ++ [x]))) = none) := HG0.out (by omega)
        clear HG HG0 HD HEnt
        gi_wp2_with (refine ⟨trivial, ?_⟩; (try (refine ⟨(fun h => by cases h), ?_⟩)); gi_at_call 48; refine CallsIn.mono (callsIn_wide.2 (HFr.out W (Below.refl _ _))) ?_; rintro e W1 ⟨rfl, hb1⟩; have HB1 : Hid (Below W.heap.size W W1) := hb1; have q2 := hd1.out W1 HB1.out; clear hb1)
        exact ⟨(keeps_later HB1.out).from _, HB1.out.mono HIg.out.below.size, HIg.out.later HB1.out, HE0.out⟩
  case done =>
    rintro D ys W hD hys ⟨hS, hno⟩ hK
    have c0 : W.cell? ⟨w.heap.size + 1, 0, none⟩ = some (.string ⟨#[]⟩) := hS.n1.cell
    have c1 : W.cell? ⟨w.heap.size + 1, 1, none⟩ = some (.string ⟨#[]⟩) := hS.n1.cell
    have c2 : W.cell? ⟨w.heap.size + 1, 2, none⟩ = some (.bool false) := hS.n1.cell
    have f0 := hS.n1.frozen 0
    have f1 := hS.n1.frozen 1
    have f2 := hS.n1.frozen 2
    have c5 := hS.b2.cell
    have f5 := hS.b2.frozen
    have HS : Hid (NSt w k W) := hS
    clear hS
    gi_wp2
    obtain ⟨y1, y2⟩ := HS.out.fill none _ _ _ rfl false rfl
    have hK2 := y2.same D _ hK rfl
    have hO2 := nfin_put y1 hK2 (by omega)
    have hz : Rz = none := by rw [HZ.out, ← hys]; exact hno
    exact ⟨by simp, .inl ⟨_, _, rfl, run_takeDeferred hK2, ⟨_, next_results _ (w.heap.size + 1) none false _ rfl rfl hO2.n1 hO2.b2.cell, by rw [hz]; rfl, hO2.below⟩⟩⟩
  case stop =>
    rintro D c pre W hD hpre ⟨rfl, e, hO, hR⟩ hK
    gi_wp2
    have hz : Rz = some e := by
      obtain ⟨rest, hrest⟩ := hpre
      rw [HZ.out, ← hrest, accL_append, nxt, List.find?_append, show (accL k (lfs pre)).find? (fun x => klt k x.1) = some e from hR]
      rfl
    have hO2 := nfin_put hO hK (by omega)
    exact ⟨by simp, .inl ⟨_, _, rfl, run_takeDeferred hK, ⟨_, next_results _ (w.heap.size + 1) (some e) true _ rfl rfl hO2.n1 hO2.b2.cell, by rw [hz]; rfl, hO2.below⟩⟩⟩
theorem find_filter {L : List KV} (k : K) : nxt k (L.filter fun x => !klt x.1 k) = nxt k L := by
  unfold nxt
  rw [List.find?_filter]
  congr 1
  funext x
  cases h : klt k x.1 with
  | false => simp
  | true => rw [klt_asymm h]; rfl
theorem next_nil (k : K) (w : World) : Calls Try.prog 24 #[.pointer none, .string k] w fun e w' => e = .returned (nxtV none) ∧ Below w.heap.size w w' := by
  have hb := (nst_new w k _ rfl).below
  have Hb : Hid (Below w.heap.size w (((w.alloc (.cells #[.string k] 9)).alloc (.cells #[.string ⟨#[]⟩, .string ⟨#[]⟩, .bool false] 54)).alloc (.cells #[.bool false] 4))) := hb
  clear hb
  go_enter Try.func24, Try.ntmps24
  go_wp2
  refine bodyPost_ret (v := nxtV none) ?_ rfl ⟨rfl, Hb.out⟩
  simp [results, Try.f24, go_sem, nxtV, nodeOf]
theorem Live.next {w : World} {p F : Nat} {x : Tre} {fs : List Nat} (h : Live w p F x fs) (k : K) :
    Calls Try.prog 24 #[.pointer (some ⟨p, 0, none⟩), .string k] w fun e w' => e = .returned (nxtV (nxt k x.all)) ∧ Below w.heap.size w w' := by
  obtain ⟨t, h1, _⟩ := h.tr
  have hI := h.inv.of h1
  have hN : Nod F w x.n t := ⟨h1.lies, hI.good, by have := hI.le; rwa [abs_l, List.length_map] at this, fun hn => by have := hI.two hn; rw [abs_l, List.length_map] at this; omega⟩
  have e : flats (abs (x.n + 1) t).l = x.all := by rw [h1.abs]; rfl
  have := callsIn_wide.1 (next_in 3 (Nat.le_refl _) h.lo h.hi k p x.n t w h1.tree hN)
  rwa [lvs_acc h.lo k hN, find_filter, e] at this
end Go.Proofs.Ytlfgeanafidopaa.Bt
namespace Go.Proofs.Ytlfgeanafidopaa.Bt
open Go.RowKit
set_option maxRecDepth 10000

theorem nod_of {F n : Nat} {w : World} {t : En (n + 1)} (hl : Lies w (n + 1) t) (hI : Inv F n (abs (n + 1) t)) : Nod F w n t :=
  ⟨hl, hI.good, by have := hI.le; rwa [abs_l, List.length_map] at this, fun hn => by have := hI.two hn; rw [abs_l, List.length_map] at this; omega⟩
/-- How many leaves come: no more than entries. -/
theorem lvs_len {F : Nat} (hF : 4 ≤ F) {w : World} (k : K) : ∀ {n : Nat} {t : En (n + 1)}, Nod F w n t → 0 < t.l.length → (lvs k n t).length ≤ (flats (abs (n + 1) t).l).length
  | 0, t, h, hp => by
    have e : lvs k 0 t = [t] := rfl
    rw [e, flats_leaf, List.length_map]
    exact hp
  | n + 1, t, h, _ => by
    have e : lvs k (n + 1) t = (t.l.drop (place k (abs (n + 2) t).l)).flatMap (lvs k n) := rfl
    have key : ∀ ks : List (En (n + 1)), (∀ d ∈ ks, d ∈ t.l) → (ks.flatMap (lvs k n)).length ≤ (flats (ks.map (abs (n + 1)))).length := by
      intro ks
      induction ks with
      | nil => intro _; simp [flats]
      | cons a r ih =>
        intro hk
        have h1 := ih (fun d hd => hk d (by simp [hd]))
        rw [List.flatMap_cons, List.length_append, List.map_cons, flats_cons, List.length_append, flat_succ]
        have ha := hk a (by simp)
        have hm : (abs (n + 1) a) ∈ (abs (n + 2) t).l := by rw [abs_l]; exact List.mem_map_of_mem ha
        obtain ⟨f1, f2, f3⟩ := h.good.kids _ hm
        rw [abs_l, List.length_map] at f1
        have h2 := lvs_len hF k (h.kid hF ha) (by omega)
        omega
    have h1 := key (t.l.drop (place k (abs (n + 2) t).l)) (fun d hd => List.mem_of_mem_drop hd)
    rw [e]
    refine Nat.le_trans h1 ?_
    rw [List.map_drop, ← abs_l]
    generalize place k (abs (n + 2) t).l = p
    conv => rhs; rw [← List.take_append_drop p (abs (n + 2) t).l, flats_append, List.length_append]
    exact Nat.le_add_left _ _
theorem Live.range {w : World} {p F : Nat} {x : Tre} {fs : List Nat} (h : Live w p F x fs) (k to : K) (m : Nat) (hm : 0 < m) (hm2 : m < 9223372036854775808) (hsz : m ≤ 1099511627776 ∨ x.all.length < 1073741824) :
    Calls Try.prog 17 #[.pointer (some ⟨p, 0, none⟩), .string k, .string to, .int .i64 (m : Int)] w fun e w' => ∃ v, e = .returned v ∧ Told w w' v (rng k to m x.all) := by
  obtain ⟨t, h1, _⟩ := h.tr
  have hI := h.inv.of h1
  have hN := nod_of h1.lies hI
  have e : flats (abs (x.n + 1) t).l = x.all := by rw [h1.abs]; rfl
  have := callsIn_wide.1 (range_in 3 (Nat.le_refl _) h.lo h.hi k to m p x.n t w h1.tree hN hm (by
    rcases hsz with q | q
    · exact .inl q
    · refine .inr ?_
      by_cases hp : 0 < t.l.length
      · have := lvs_len h.lo k hN hp
        rw [e] at this
        omega
      · by_cases hn : 0 < x.n
        · exact absurd (hN.pos hn) hp
        · have key : ∀ (n : Nat) (t : En (n + 1)), n = 0 → (lvs k n t).length ≤ 1073741824 := by
            rintro n t rfl
            have e1 : lvs k 0 t = [t] := rfl
            rw [e1]; simp
          exact key x.n t (by omega)) hm2)
  rwa [e] at this
set_option maxHeartbeats 1000000 in
theorem range_nil (k to : K) (m : Int) (w : World) : Calls Try.prog 17 #[.pointer none, .string k, .string to, .int .i64 m] w fun e w' => e = .returned (.slice none 0 0) ∧ Below w.heap.size w w' := by
  go_enter Try.func17, Try.ntmps17
  go_wp2
  refine bodyPost_ret (v := .slice none 0 0) ?_ rfl ⟨rfl, ?_⟩
  · simp [results, Try.f17, go_sem]
  · have h1 := below_new w (.cells #[.string k] 9)
    have h2 := bafter h1 (below_new _ (.cells #[.string to] 9))
    have h3 := bafter h2 (below_new _ (.cells #[.int .i64 m] 3))
    exact bafter h3 (below_new _ (.cells #[.slice none 0 0] 22))
/-- A list of nodes as it lies. -/
structure NdAt (w : World) (v : Value) (l : List KV) : Prop where
  own : w.ownsRow 0 54 3 v l.length (l.flatMap ndv)
theorem Told.at {w w' : World} {v : Value} {l : List KV} (h : Told w w' v l) : NdAt w' v l := by
  refine ⟨h.1.1, ?_⟩
  rcases h.1.2 with q | ⟨g, cap, cur, q1, q2, q3⟩
  · exact .inl q
  · exact .inr ⟨g, cap, cur, q1, Nat.zero_le _, q3⟩
theorem NdAt.later {w w' : World} {v : Value} {l : List KV} (h : NdAt w v l) (hb : Below w.heap.size w w') : NdAt w' v l := ⟨h.own.kept (below_grown hb) (own_ne h.own (row := none) (fun r e => by cases e))⟩
theorem NdAt.cells {w : World} {v : Value} {l : List KV} (h : NdAt w v l) {i : Nat} {x : KV} (hi : l[i]? = some x) : ∃ g cap, v = .slice (some ⟨g, 0, none⟩) l.length cap ∧ w.cell? ⟨g, i * 3, none⟩ = some (.string x.1) ∧ w.cell? ⟨g, i * 3 + 1, none⟩ = some (.string x.2) ∧ w.cell? ⟨g, i * 3 + 2, none⟩ = some (.bool false) := by
  have hil := (List.getElem?_eq_some_iff.1 hi).1
  rcases h.own.2 with ⟨_, h0⟩ | ⟨g, cap, cur, rfl, _, hgg, hnc, hcm, hcs, htake⟩
  · omega
  · have hw : Whole w g cur.toList 54 := by unfold Whole; simpa using hgg
    have hc : ∀ j, j < 3 → w.cell? ⟨g, i * 3 + j, none⟩ = (ndv x)[j]? := fun j hj => by
      rw [hw.cell, ← flat_get ndv 3 ndv_len j hj l i x hi, ← htake, List.getElem?_take, if_pos (by omega)]
    exact ⟨g, cap, rfl, hc 0 (by omega), hc 1 (by omega), hc 2 (by omega)⟩
set_option maxHeartbeats 2000000 in
theorem same_yes (v u : Value) (l : List KV) (w : World) (hv : NdAt w v l) (hu : NdAt w u l) (hl : l.length ≤ 4611686018427387904) :
    Calls Try.prog 16 #[v, u] w fun e w' => e = .returned (.bool true) ∧ Below w.heap.size w w' := by
  have hL : Hid (∀ i, i < l.length → ∃ x, l[i]? = some x) := fun i hi => ⟨_, List.getElem?_eq_getElem hi⟩
  obtain ⟨a, ca, ea⟩ := own_slice hv.own
  obtain ⟨b, cb, eb⟩ := own_slice hu.own
  have HV : Hid (∀ i x, l[i]? = some x → ∃ g cap, a = some ⟨g, 0, none⟩ ∧ ca = cap ∧ w.cell? ⟨g, i * 3, none⟩ = some (.string x.1) ∧ w.cell? ⟨g, i * 3 + 1, none⟩ = some (.string x.2) ∧ w.cell? ⟨g, i * 3 + 2, none⟩ = some (.bool false)) := fun i x hx => by
    obtain ⟨g, cap, e, q⟩ := hv.cells hx
    rw [ea] at e; cases e
    exact ⟨_, _, rfl, rfl, q⟩
  have HU : Hid (∀ i x, l[i]? = some x → ∃ g cap, b = some ⟨g, 0, none⟩ ∧ cb = cap ∧ w.cell? ⟨g, i * 3, none⟩ = some (.string x.1) ∧ w.cell? ⟨g, i * 3 + 1, none⟩ = some (.string x.2) ∧ w.cell? ⟨g, i * 3 + 2, none⟩ = some (.bool false)) := fun i x hx => by
    obtain ⟨g, cap, e, q⟩ := hu.cells hx
    rw [eb] at e; cases e
    exact ⟨_, _, rfl, rfl, q⟩
  subst ea eb
  clear hv hu
  obtain ⟨N, hN⟩ : ∃ N, N = l.length := ⟨_, rfl⟩
  rw [← hN] at hL hl ⊢
  clear hN
  go_enter Try.func16, Try.ntmps16
  go_wp2
  go_loopg [5] N (fun kx s wr => ∃ j d : Nat, j + kx = N ∧ s = .int .i64 (j : Nat) ∧ wr = w.drewN d)
  case atStart => exact ⟨0, 0, by omega, rfl, rfl⟩
  case round =>
    obtain ⟨j, d, hj, rfl, rfl⟩ := hrel
    by_cases hlt : j < N
    · obtain ⟨x, hx⟩ := hL.out j hlt
      obtain ⟨g1, _, rfl, _, p0, p1, p2⟩ := HV.out j x hx
      obtain ⟨g2, _, rfl, _, r0, r1, r2⟩ := HU.out j x hx
      have hj1 : (j : Int) < (N : Int) := by omega
      go_wp2
      go_quiet (fail)
      go_wp2
      go_roundg (N - (j + 1))
      case measure => omega
      case rel => exact ⟨j + 1, _, by omega, by go_num, rfl⟩
    · have hj1 : ¬ (j : Int) < (N : Int) := by omega
      go_wp2
      go_ret
      exact ⟨rfl, below_drawn w d⟩
end Go.Proofs.Ytlfgeanafidopaa.Bt
