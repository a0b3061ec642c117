/-
  A node's put.
  A node's put, where it is no leaf.
-/
import Derived.Test.YtlfgeanafidopaaQE
import Derived.Test.YtlfgeanafidopaaQF
import Derived.Deep.RegionWith
namespace Go.Proofs.Ytlfgeanafidopaa.Bt
open Go.RowKit
set_option maxRecDepth 10000

theorem wp_at {P : Program} {c : Code} {Q : Exit → Act → World → Prop} {a : Act} {W : World} (X : World) (h : W = X) (g : Code.wp P c Q a X) : Code.wp P c Q a W := h ▸ g
def layG {α : Type} (key : α → K) (k : K) (x : α) (l : List α) : List α :=
  if (l[lb k (l.map key)]?).map key = some k then l.set (lb k (l.map key)) x else l.take (lb k (l.map key)) ++ x :: l.drop (lb k (l.map key))
theorem layG_map {α β : Type} (f : α → β) (key : α → K) (key' : β → K) (hk : ∀ x, key' (f x) = key x) (k : K) (x : α) (l : List α) : (layG key k x l).map f = layG key' k (f x) (l.map f) := by
  unfold layG
  have e : (l.map f).map key' = l.map key := by rw [List.map_map]; exact List.map_congr_left fun y _ => hk y
  have e2 : ∀ i : Nat, ((l.map f)[i]?).map key' = (l[i]?).map key := fun i => by
    rw [List.getElem?_map]
    cases l[i]? with
    | none => rfl
    | some y => simp [hk]
  rw [e, e2]
  split
  · simp [List.map_set]
  · simp
theorem ek_kv (e : En 0) : ek 0 (abs 0 e) = e.pair.1 := rfl
/-- Where a call of put or remove stands when the first two rows are over. -/
theorem marked {n : Nat} {w W0 : World} {t : En (n + 1)} (h : Lies w (n + 1) t) (hn : (foot (n + 1) t).Nodup) (b0 : Below w.heap.size w W0) : ∀ W1, W1 = W0.setCell ⟨t.h.p, 2, none⟩ (.bool true) → Par w (foot (n + 1) t) W1 { t.h with d := true } n (t.l.map (slE n)) t.l := by
  intro W1 hW1
  exact ((Par.start h hn).later b0).mark (.inl (by rw [foot_succ]; simp [Hd.blks])) W1 hW1
theorem alloc_setCell (w : World) (o : Obj) (p : Addr) (v : Value) (h : p.block < w.heap.size) : (w.setCell p v).alloc o = (w.alloc o).setCell p v := by
  simp only [World.alloc, World.setCell]
  congr 1
  apply Array.ext_getElem?
  intro i
  simp only [Array.getElem?_push, Array.size_modify, Array.getElem?_modify]
  by_cases h1 : i = w.heap.size
  · subst h1; simp; intro e; omega
  · simp [h1]

set_option maxHeartbeats 2000000 in
theorem put_leaf (F : Nat) (k v : K) (t : En 1) (w : World) (h : Lies w 1 t) (hn : (foot 1 t).Nodup) (hg : Good F 0 (abs 1 t)) (hl : t.l.length ≤ 100) :
    Calls Try.prog 53 #[.pointer (some ⟨t.h.p, 0, none⟩), slA ⟨k, v, none⟩, .int .i64 (F : Nat)] w fun e w' => e = .returned (.tuple #[]) ∧ ∃ t', Went w t t' w' ∧ abs 1 t' = put F k v 0 (abs 1 t) := by
  obtain ⟨W0, hW0⟩ : ∃ W0, W0 = w.alloc (.cells #[.string k, .string v, .pointer none] 77) := ⟨_, rfl⟩
  have b0 : Below w.heap.size w W0 := by rw [hW0]; exact below_new w _
  obtain ⟨W1, hW1⟩ : ∃ W1, W1 = W0.setCell ⟨t.h.p, 2, none⟩ (.bool true) := ⟨_, rfl⟩
  have hP := marked h hn b0 W1 hW1
  have hsrt : Ksrt ((t.l.map (slE 0)).map Sl.k) := by
    have := hg.srt
    rw [abs_l, flats_zero] at this
    have h2 := srt_keys this
    rw [keysE]
    rwa [← keys_zero] at h2
  have hL := lay_any { t.h with d := true } 0 (t.l.map (slE 0)) ⟨k, v, none⟩ W1 hP.at_ hsrt (by rw [List.length_map]; omega)
  have hpw : t.h.p < w.heap.size := h.1.row.lt
  have fin : ∀ W2 h', Turned W1 { t.h with d := true } 0 (layS ⟨k, v, none⟩ (t.l.map (slE 0))) h' W2 → ∃ t', Went w t t' W2 ∧ abs 1 t' = put F k v 0 (abs 1 t) := by
    intro W2 h' g
    have hP2 := hP.turn g
    refine ⟨En.nd h' (layG (fun e => (En.pair e).1) k (.kv k v) t.l), ?_, ?_⟩
    · refine Par.fin ?_ g.p
      have e : (layG (fun e => (En.pair e).1) k (.kv k v) t.l).map (slE 0) = layS ⟨k, v, none⟩ (t.l.map (slE 0)) := layG_map (slE 0) _ Sl.k (fun _ => rfl) k _ _
      rw [e]
      have e0 : ∀ l : List (En 0), footL l = [] := fun l => by unfold footL; induction l with
        | nil => rfl
        | cons a l ih => rw [List.flatMap_cons, ih]; rfl
      exact ⟨hP2.at_, fun _ _ => trivial, by have := hP2.nd; rwa [e0] at this ⊢, by have := hP2.sub; rwa [e0] at this ⊢, hP2.kept⟩
    · have e : (layG (fun e => (En.pair e).1) k (.kv k v) t.l).map (abs 0) = layE k v (t.l.map (abs 0)) := layG_map (abs 0) _ (ek 0) (fun _ => rfl) k _ _
      show El.nd h'.d _ = El.nd true (layE k v _)
      rw [En.l_nd, e, g.d]; rfl
  have HF : Hid (∀ W2 h', Turned W1 { t.h with d := true } 0 (layS ⟨k, v, none⟩ (t.l.map (slE 0))) h' W2 → ∃ t', Went w t t' W2 ∧ abs 1 t' = put F k v 0 (abs 1 t)) := fin
  have c0 : w.cell? ⟨t.h.p, 0, none⟩ = some (.int .i64 0) := h.1.row.cell (i := 0) rfl
  obtain ⟨u, hu⟩ : ∃ u, w.cell? ⟨t.h.p, 2, none⟩ = some u := ⟨_, h.1.row.cell (i := 2) rfl⟩
  have hfz := h.1.row.frozen 2
  have hW : Hid ((w.setCell ⟨t.h.p, 2, none⟩ (.bool true)).alloc (.cells #[.string k, .string v, .pointer none] 77) = W1) := by show _ = _; rw [hW1, hW0, alloc_setCell _ _ _ _ hpw]
  unfold slA at hL ⊢
  simp only [Option.map_none] at hL ⊢
  clear fin hP hg hsrt b0 hW1 hW0 h hn hl
  go_enter Try.func53, Try.ntmps53
  go_wp2_with (go_at_call 67; rw [hW.out]; refine hL.mono ?_; rintro e W2 ⟨rfl, h', g⟩)
  refine bodyPost_ret (results_none rfl _ _ _) rfl ?_
  exact ⟨rfl, HF.out W2 h' g⟩
end Go.Proofs.Ytlfgeanafidopaa.Bt
namespace Go.Proofs.Ytlfgeanafidopaa.Bt
open Go.RowKit
set_option maxRecDepth 10000

/-- What stands fixed while put goes on in a node that is no leaf: the place, the kid there, those ahead of it and behind it. -/
structure Ctx {n : Nat} (w : World) (t : En (n + 2)) (i g N cap : Nat) (A B : List (En (n + 1))) (c : En (n + 1)) : Prop where
  lies : Lies w (n + 2) t
  nd : (foot (n + 2) t).Nodup
  e : t.l = A ++ c :: B
  hi : A.length = i
  v : t.h.v = .slice (some ⟨g, 0, none⟩) N cap
  hN : N = t.l.length
  le : N ≤ 100
/-- The node is marked, its slots are sl, its kids ks. -/
def Stage {n : Nat} (w : World) (t : En (n + 2)) (W : World) (sl : List Sl) (ks : List (En (n + 1))) : Prop := Par w (foot (n + 2) t) W (Hd.mk t.h.p t.h.v true) (n + 1) sl ks
theorem Stage.later {n : Nat} {w : World} {t : En (n + 2)} {W W' : World} {sl : List Sl} {ks : List (En (n + 1))} (x : Stage w t W sl ks) (hb : Below W.heap.size W W') : Stage w t W' sl ks := Par.later x hb
theorem Ctx.lt {n : Nat} {w : World} {t : En (n + 2)} {i g N cap : Nat} {A B : List (En (n + 1))} {c : En (n + 1)} (x : Ctx w t i g N cap A B c) : i < N := by rw [x.hN, x.e, List.length_append, List.length_cons, x.hi]; omega
theorem Ctx.at_i {n : Nat} {w : World} {t : En (n + 2)} {i g N cap : Nat} {A B : List (En (n + 1))} {c : En (n + 1)} (x : Ctx w t i g N cap A B c) : t.l[i]? = some c := by rw [x.e, List.getElem?_append_right (by rw [x.hi]; exact Nat.le_refl _), x.hi]; simp
theorem Ctx.slots {n : Nat} {w : World} {t : En (n + 2)} {i g N cap : Nat} {A B : List (En (n + 1))} {c : En (n + 1)} (x : Ctx w t i g N cap A B c) {W : World} {sl : List Sl} {ks : List (En (n + 1))} (y : Stage w t W sl ks) {s : Sl} (hs : sl[i]? = some s) (hl : sl.length = N) :
    W.cell? ⟨t.h.p, 1, none⟩ = some (.slice (some ⟨g, 0, none⟩) N cap) ∧ W.cell? ⟨g, i * 3, none⟩ = some (.string s.k) ∧ W.cell? ⟨g, i * 3 + 1, none⟩ = some (.string s.v) ∧ W.cell? ⟨g, i * 3 + 2, none⟩ = some (.pointer (s.kid.map fun b => ⟨b, 0, none⟩)) ∧ (∀ j, W.frozen? ⟨g, j, none⟩ = false) ∧ t.h.p ≠ g := by
  obtain ⟨g', cap', hv, ho, _, _, _, c0, c1, c2, c3⟩ := y.at_.own.at hs
  have hv' : t.h.v = .slice (some ⟨g', 0, none⟩) sl.length cap' := hv
  rw [x.v, hl] at hv'
  cases hv'
  refine ⟨by rw [← x.v]; exact y.at_.row.cell (i := 1) rfl, c0, c1, c2, c3, fun e => ?_⟩
  exact y.at_.ne g (by show t.h.v.ownBlock = _; rw [x.v]; rfl) e.symm
theorem Ctx.capN {n : Nat} {w : World} {t : En (n + 2)} {i g N cap : Nat} {A B : List (En (n + 1))} {c : En (n + 1)} (x : Ctx w t i g N cap A B c) : N ≤ cap ∧ cap ≤ maxLen := by
  rcases x.lies.1.own.form with ⟨e, _⟩ | ⟨g', cap', cs, e, _, _, c1, c2, _⟩
  · rw [x.v] at e; cases e
  · rw [x.v] at e
    obtain ⟨_, e2, e3⟩ : (some (⟨g, 0, none⟩ : Addr) = some ⟨g', 0, none⟩) ∧ N = (t.l.map (slE (n + 1))).length ∧ cap = cap' := by injection e with a b c; exact ⟨a, b, c⟩
    omega
/-- The slot that leads to the kid is laid anew. -/
theorem Ctx.store {n : Nat} {w : World} {t : En (n + 2)} {i g N cap : Nat} {A B : List (En (n + 1))} {c : En (n + 1)} (x : Ctx w t i g N cap A B c) {W : World} {sl : List Sl} {ks : List (En (n + 1))} (y : Stage w t W sl ks) (hl : sl.length = N) (j : Nat) (hj : j < N) (s : Sl) : Stage w t (W.setCells g (j * 3) (slv s)) (sl.set j s) ks := by
  have ho : (Hd.mk t.h.p t.h.v true).v.ownBlock = some g := by show t.h.v.ownBlock = _; rw [x.v]; rfl
  refine Par.turn y (h' := (Hd.mk t.h.p t.h.v true)) ⟨⟨y.at_.row.same ?_, slots_set y.at_.own (by rw [hl]; exact hj) s ho _ rfl⟩, rfl, rfl, fun b hb => .inl hb, kept_setCells (S := fun b => b ∈ (Hd.mk t.h.p t.h.v true).blks) (by simp [Hd.blks, ho]) _ _ _ (Kept.refl _ W)⟩
  exact (kept_setCells (S := fun b => b = g) rfl (slv s) (j * 3) W (Kept.refl _ W)).block t.h.p y.at_.row.lt (fun e => y.at_.ne g ho e.symm)
theorem Stage.kidAt {n : Nat} {w : World} {t : En (n + 2)} {W : World} {sl : List Sl} {ks : List (En (n + 1))} (x : Stage w t W sl ks) {c : En (n + 1)} (hc : c ∈ ks) : At W c.h n (c.l.map (slE n)) := (x.lies c hc).1
theorem kid_len {n : Nat} {W : World} {c : En (n + 1)} (h : At W c.h n (c.l.map (slE n))) {C : El (n + 1)} (e : abs (n + 1) c = C) : ∃ a cap, W.cell? ⟨c.h.p, 1, none⟩ = some (.slice a C.l.length cap) := by
  obtain ⟨a, cap, hv, _⟩ := h.own.slice
  refine ⟨a, cap, ?_⟩
  have := h.row.cell (i := 1) rfl
  rw [hv, List.length_map] at this
  rw [this, ← e, abs_l, List.length_map]
theorem lead_kid {n : Nat} {W : World} {c : En (n + 1)} (h : At W c.h n (c.l.map (slE n))) {C : El (n + 1)} (e : abs (n + 1) c = C) {p : Nat} (hp : c.h.p = p) (hl : 0 < C.l.length) :
    Calls Try.prog 65 #[.pointer (some ⟨p, 0, none⟩)] W fun e w' => e = .returned (.agg #[.string (ek (n + 1) C), .string ⟨#[]⟩, .pointer (some ⟨p, 0, none⟩)]) ∧ Below W.heap.size W w' := by
  have := lead_any c.h n _ W h (by rw [← e, abs_l, List.length_map] at hl; rw [List.length_map]; exact hl)
  rw [leadE] at this
  subst hp
  subst e
  exact this
theorem part_kid {n : Nat} {w : World} {t : En (n + 2)} {W : World} {sl : List Sl} {A B : List (En (n + 1))} {c : En (n + 1)} (x : Stage w t W sl (A ++ c :: B)) {C : El (n + 1)} (e : abs (n + 1) c = C) {p : Nat} (hp : c.h.p = p) (h2 : 2 ≤ C.l.length) (hl : C.l.length ≤ 300) :
    Calls Try.prog 69 #[.pointer (some ⟨p, 0, none⟩)] W fun e w' => ∃ c1 cr : En (n + 1), e = .returned (.pointer (some ⟨cr.h.p, 0, none⟩)) ∧ Stage w t w' sl (A ++ c1 :: cr :: B) ∧ c1.h.p = p ∧ abs (n + 1) c1 = halfL C ∧ abs (n + 1) cr = halfR C := by
  subst hp
  subst e
  rw [abs_l, List.length_map] at h2 hl
  have := part_any c.h n _ W (x.kidAt (by simp)) (by rw [List.length_map]; omega) (by rw [List.length_map]; exact h2)
  refine this.mono ?_
  rintro e w' ⟨h1, hr, rfl, g⟩
  refine ⟨_, _, rfl, Par.part x g, g.p, ?_, ?_⟩
  · show El.nd h1.d _ = El.nd _ _
    rw [g.d, En.l_nd, List.map_take, abs_l, List.length_map]; rfl
  · show El.nd hr.d _ = El.nd _ _
    rw [g.rd, En.l_nd, List.map_drop, abs_l, List.length_map]
theorem set_mid {α β : Type} (f : α → β) (A B : List α) (c : α) (x : β) {i : Nat} (hi : A.length = i) : ((A ++ c :: B).map f).set i x = A.map f ++ x :: B.map f := by
  rw [List.map_append, List.map_cons, List.set_append_right _ _ (by rw [List.length_map]; omega), List.length_map, hi, Nat.sub_self, List.set_cons_zero]
theorem ins_mid {β : Type} (A B : List β) (c x : β) {i : Nat} (hi : A.length = i) : (A ++ c :: B).take (i + 1) ++ x :: (A ++ c :: B).drop (i + 1) = A ++ c :: x :: B := by
  have e1 : (A ++ c :: B).take (i + 1) = A ++ [c] := by
    rw [show A ++ c :: B = (A ++ [c]) ++ B by simp, List.take_append_of_le_length (by rw [List.length_append]; simp; omega), List.take_of_length_le (by rw [List.length_append]; simp; omega)]
  have e2 : (A ++ c :: B).drop (i + 1) = B := by
    rw [show A ++ c :: B = (A ++ [c]) ++ B by simp, List.drop_append_of_le_length (by rw [List.length_append]; simp; omega), List.drop_eq_nil_of_le (by rw [List.length_append]; simp; omega), List.nil_append]
  rw [e1, e2]; simp
theorem stage_fin {n : Nat} {w : World} {t : En (n + 2)} {W : World} {ks : List (En (n + 1))} (x : Stage w t W (ks.map (slE (n + 1))) ks) {L : List (El (n + 1))} (e : ks.map (abs (n + 1)) = L) : ∃ t', Went w t t' W ∧ abs (n + 2) t' = .nd true L :=
  ⟨_, Par.fin x rfl, by show El.nd true _ = _; rw [En.l_nd, e]⟩
end Go.Proofs.Ytlfgeanafidopaa.Bt
