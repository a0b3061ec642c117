/-
  A node's put.
-/
import Derived.Test.YtpflacbinankmaaBTree
import Derived.Test.YtpflacbinankmaaBLay
namespace Go.Proofs.Ytpflacbinankmaa.Bt
open Go.RowKit
set_option maxRecDepth 10000

theorem wp_at {P : Program} {c : Code} {Q : Exit → Act → World → Prop} {a : Act} {W : World} (X : World) (h : W = X) (g : Code.wp P c Q a X) : Code.wp P c Q a W := h ▸ g
def layG {α : Type} (key : α → K) (k : K) (x : α) (l : List α) : List α :=
  if (l[lb k (l.map key)]?).map key = some k then l.set (lb k (l.map key)) x else l.take (lb k (l.map key)) ++ x :: l.drop (lb k (l.map key))
theorem layG_map {α β : Type} (f : α → β) (key : α → K) (key' : β → K) (hk : ∀ x, key' (f x) = key x) (k : K) (x : α) (l : List α) : (layG key k x l).map f = layG key' k (f x) (l.map f) := by
  unfold layG
  have e : (l.map f).map key' = l.map key := by rw [List.map_map]; exact List.map_congr_left fun y _ => hk y
  have e2 : ∀ i : Nat, ((l.map f)[i]?).map key' = (l[i]?).map key := fun i => by
    rw [List.getElem?_map]
    cases l[i]? with
    | none => rfl
    | some y => simp [hk]
  rw [e, e2]
  split
  · simp [List.map_set]
  · simp
theorem ek_kv (e : En 0) : ek 0 (abs 0 e) = e.pair.1 := rfl
/-- Where a call of put or remove stands when the first two rows are over. -/
theorem marked {n : Nat} {w W0 : World} {t : En (n + 1)} (h : Lies w (n + 1) t) (hn : (foot (n + 1) t).Nodup) (b0 : Below w.heap.size w W0) : ∀ W1, W1 = W0.setCell ⟨t.h.p, 2, none⟩ (.bool true) → Par w (foot (n + 1) t) W1 { t.h with d := true } n (t.l.map (slE n)) t.l := by
  intro W1 hW1
  exact ((Par.start h hn).later b0).mark (.inl (by rw [foot_succ]; simp [Hd.blks])) W1 hW1
theorem alloc_setCell (w : World) (o : Obj) (p : Addr) (v : Value) (h : p.block < w.heap.size) : (w.setCell p v).alloc o = (w.alloc o).setCell p v := by
  simp only [World.alloc, World.setCell]
  congr 1
  apply Array.ext_getElem?
  intro i
  simp only [Array.getElem?_push, Array.size_modify, Array.getElem?_modify]
  by_cases h1 : i = w.heap.size
  · subst h1; simp; intro e; omega
  · simp [h1]

set_option maxHeartbeats 2000000 in
theorem put_leaf (F : Nat) (k v : K) (t : En 1) (w : World) (h : Lies w 1 t) (hn : (foot 1 t).Nodup) (hg : Good F 0 (abs 1 t)) (hl : t.l.length ≤ 100) :
    Calls Try.prog 53 #[.pointer (some ⟨t.h.p, 0, none⟩), slA ⟨k, v, none⟩, .int .i64 (F : Nat)] w fun e w' => e = .returned (.tuple #[]) ∧ ∃ t', Went w t t' w' ∧ abs 1 t' = put F k v 0 (abs 1 t) := by
  obtain ⟨W0, hW0⟩ : ∃ W0, W0 = w.alloc (.cells #[.string k, .string v, .pointer none] 77) := ⟨_, rfl⟩
  have b0 : Below w.heap.size w W0 := by rw [hW0]; exact below_new w _
  obtain ⟨W1, hW1⟩ : ∃ W1, W1 = W0.setCell ⟨t.h.p, 2, none⟩ (.bool true) := ⟨_, rfl⟩
  have hP := marked h hn b0 W1 hW1
  have hsrt : Ksrt ((t.l.map (slE 0)).map Sl.k) := by
    have := hg.srt
    rw [abs_l, flats_zero] at this
    have h2 := srt_keys this
    rw [keysE]
    rwa [← keys_zero] at h2
  have hL := lay_any { t.h with d := true } 0 (t.l.map (slE 0)) ⟨k, v, none⟩ W1 hP.at_ hsrt (by rw [List.length_map]; omega)
  have hpw : t.h.p < w.heap.size := h.1.row.lt
  have fin : ∀ W2 h', Turned W1 { t.h with d := true } 0 (layS ⟨k, v, none⟩ (t.l.map (slE 0))) h' W2 → ∃ t', Went w t t' W2 ∧ abs 1 t' = put F k v 0 (abs 1 t) := by
    intro W2 h' g
    have hP2 := hP.turn g
    refine ⟨En.nd h' (layG (fun e => (En.pair e).1) k (.kv k v) t.l), ?_, ?_⟩
    · refine Par.fin ?_ g.p
      have e : (layG (fun e => (En.pair e).1) k (.kv k v) t.l).map (slE 0) = layS ⟨k, v, none⟩ (t.l.map (slE 0)) := layG_map (slE 0) _ Sl.k (fun _ => rfl) k _ _
      rw [e]
      have e0 : ∀ l : List (En 0), footL l = [] := fun l => by unfold footL; induction l with
        | nil => rfl
        | cons a l ih => rw [List.flatMap_cons, ih]; rfl
      exact ⟨hP2.at_, fun _ _ => trivial, by have := hP2.nd; rwa [e0] at this ⊢, by have := hP2.sub; rwa [e0] at this ⊢, hP2.kept⟩
    · have e : (layG (fun e => (En.pair e).1) k (.kv k v) t.l).map (abs 0) = layE k v (t.l.map (abs 0)) := layG_map (abs 0) _ (ek 0) (fun _ => rfl) k _ _
      show El.nd h'.d _ = El.nd true (layE k v _)
      rw [En.l_nd, e, g.d]; rfl
  have HF : Hid (∀ W2 h', Turned W1 { t.h with d := true } 0 (layS ⟨k, v, none⟩ (t.l.map (slE 0))) h' W2 → ∃ t', Went w t t' W2 ∧ abs 1 t' = put F k v 0 (abs 1 t)) := fin
  have c0 : w.cell? ⟨t.h.p, 0, none⟩ = some (.int .i64 0) := h.1.row.cell (i := 0) rfl
  obtain ⟨u, hu⟩ : ∃ u, w.cell? ⟨t.h.p, 2, none⟩ = some u := ⟨_, h.1.row.cell (i := 2) rfl⟩
  have hfz := h.1.row.frozen 2
  have hW : Hid ((w.setCell ⟨t.h.p, 2, none⟩ (.bool true)).alloc (.cells #[.string k, .string v, .pointer none] 77) = W1) := by show _ = _; rw [hW1, hW0, alloc_setCell _ _ _ _ hpw]
  unfold slA at hL ⊢
  simp only [Option.map_none] at hL ⊢
  clear fin hP hg hsrt b0 hW1 hW0 h hn hl
  go_enter Try.func53, Try.ntmps53
  go_wp2_with (go_at_call 67; rw [hW.out]; refine hL.mono ?_; rintro e W2 ⟨rfl, h', g⟩)
  refine bodyPost_ret (results_none rfl _ _ _) rfl ?_
  exact ⟨rfl, HF.out W2 h' g⟩
end Go.Proofs.Ytpflacbinankmaa.Bt
