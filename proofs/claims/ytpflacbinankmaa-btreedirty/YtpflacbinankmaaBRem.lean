/-
  A leaf's remove; a node's join.
-/
import Derived.Test.YtpflacbinankmaaBPutW
import Derived.Deep.RegionWith
namespace Go.Proofs.Ytpflacbinankmaa.Bt
open Go.RowKit
set_option maxRecDepth 10000

/-- What slices.Delete asks of a node's slots. -/
structure DelAt (W0 : World) (h : Hd) (lv n cap g : Nat) (l L : List Sl) (i j : Nat) : Prop where
  call : ∀ W, Below W0.heap.size W0 W → Calls Try.prog 64 #[.slice (some ⟨g, 0, none⟩) n cap, .int .i64 i, .int .i64 j] W fun e w' =>
    ∃ a' m' cap', e = .returned (.slice a' m' cap') ∧ (Slots w' (.slice a' m' cap') L ∧ (Value.slice a' m' cap').ownBlock = some g ∧ Kept (fun b => b = g) W w') ∧ w'.cell? ⟨h.p, 1, none⟩ = some (.slice (some ⟨g, 0, none⟩) n cap) ∧ w'.frozen? ⟨h.p, 1, none⟩ = false
  fin : ∀ W v' w', Below W0.heap.size W0 W → Slots w' v' L → v'.ownBlock = some g → Kept (fun b => b = g) W w' → Turned W0 h lv L ⟨h.p, v', h.d⟩ (w'.setCell ⟨h.p, 1, none⟩ v')
theorem delAt {W0 : World} {h : Hd} {lv n cap g : Nat} {l : List Sl} (hA : At W0 h lv l) (hv : h.v = .slice (some ⟨g, 0, none⟩) n cap) (i j : Nat) (hij : i < j) (hj : j ≤ l.length) : DelAt W0 h lv n cap g l (l.take i ++ l.drop j) i j := by
  have ho : h.v.ownBlock = some g := by rw [hv]; rfl
  have hpg := hA.ne g ho
  constructor
  · intro W hb
    have hAW := hA.later hb
    have := delete_any h.v l i j W hAW.own hij hj
    rw [hv] at this
    refine this.mono ?_
    rintro e w' ⟨v', rfl, q1, q2, q3, _⟩
    have q3 : Kept (fun b => b = g) W w' := q3.mono (fun b e => by injection e with e; exact e.symm)
    obtain ⟨a', cap2, rfl, _⟩ := q1.slice
    have hr := hAW.row.kept q3 (fun e => hpg e.symm)
    exact ⟨a', _, cap2, rfl, ⟨q1, q2, q3⟩, by rw [← hv]; exact hr.cell (i := 1) rfl, hr.frozen 1⟩
  · intro W v' w' hb q1 q2 q3
    have hAW := hA.later hb
    have hr := hAW.row.kept q3 (fun e => hpg e.symm)
    refine ⟨⟨by simpa using hr.set (i := 1) v' (by simp), ?_⟩, rfl, rfl, ?_, ?_⟩
    · exact q1.same fun b e => Below.heap_setCell _ _ _ _ (fun e2 => by rw [q2] at e; cases e; exact hpg e2)
    · intro b e
      have e : v'.ownBlock = some b := e
      rw [q2] at e; cases e
      exact .inl ho
    · refine Kept.setCell (S := fun b => b ∈ h.blks) (p := ⟨h.p, 1, none⟩) ?_ (by simp [Hd.blks]) v'
      exact (Kept.of_below hb).comp q3 (fun b e => .inl (by rw [e]; simp [Hd.blks, ho]))
set_option maxHeartbeats 4000000 in
theorem remove_leaf (F : Nat) (k : K) (t : En 1) (w : World) (h : Lies w 1 t) (hn : (foot 1 t).Nodup) (hg : Good F 0 (abs 1 t)) (hl : t.l.length ≤ 100) (hk : k ∈ (flats (abs 1 t).l).map Prod.fst) :
    Calls Try.prog 49 #[.pointer (some ⟨t.h.p, 0, none⟩), .string k, .int .i64 (F : Nat)] w fun e w' => e = .returned (.tuple #[]) ∧ ∃ t', Went w t t' w' ∧ abs 1 t' = remove F k 0 (abs 1 t) := by
  obtain ⟨W1, hW1⟩ : ∃ W1, W1 = w.setCell ⟨t.h.p, 2, none⟩ (.bool true) := ⟨_, rfl⟩
  have hP : Par w (foot 1 t) W1 (Hd.mk t.h.p t.h.v true) 0 (t.l.map (slE 0)) t.l := (Par.start h hn).mark (.inl (by rw [foot_succ]; simp [Hd.blks])) W1 hW1
  have hs := hg.srt
  rw [abs_l, flats_zero] at hs hk
  obtain ⟨y, hy, _, _⟩ := del_at hs hk
  have hsrt : Ksrt ((t.l.map (slE 0)).map Sl.k) := by
    have h2 := srt_keys hs
    rw [keysE]
    rwa [← keys_zero] at h2
  have hF := from_any (Hd.mk t.h.p t.h.v true) 0 (t.l.map (slE 0)) k W1 hP.at_ hsrt (by rw [List.length_map]; omega)
  rw [keysE] at hF
  rw [← keys_zero] at hy
  obtain ⟨i, hi⟩ : ∃ i, i = lb k ((t.l.map (abs 0)).map (ek 0)) := ⟨_, rfl⟩
  rw [← hi] at hF hy
  have hil : i < t.l.length := by have := (List.getElem?_eq_some_iff.1 hy).1; simpa using this
  rcases hP.at_.own.form with ⟨_, e⟩ | ⟨g, cap, cs, hv, _, _, c1, c2, _⟩
  · have := congrArg List.length e; rw [List.length_map] at this; simp at this; rw [this] at hil; simp at hil
  rw [List.length_map] at hv c1
  have hv : t.h.v = .slice (some ⟨g, 0, none⟩) t.l.length cap := hv
  have hD : ∀ W, Below W1.heap.size W1 W → DelAt W (Hd.mk t.h.p t.h.v true) 0 t.l.length cap g (t.l.map (slE 0)) ((t.l.map (slE 0)).take i ++ (t.l.map (slE 0)).drop (i + 1)) i (i + 1) := fun W hb => delAt (hP.at_.later hb) hv i (i + 1) (by omega) (by rw [List.length_map]; omega)
  have HD : Hid (∀ W, Below W1.heap.size W1 W → ∀ W', Below W.heap.size W W' → Calls Try.prog 64 #[.slice (some ⟨g, 0, none⟩) t.l.length cap, .int .i64 (i : Nat), .int .i64 ((i : Int) + 1)] W' fun e w' =>
    ∃ a' m' cap', e = .returned (.slice a' m' cap') ∧ (Slots w' (.slice a' m' cap') ((t.l.map (slE 0)).take i ++ (t.l.map (slE 0)).drop (i + 1)) ∧ (Value.slice a' m' cap').ownBlock = some g ∧ Kept (fun b => b = g) W' w') ∧ w'.cell? ⟨t.h.p, 1, none⟩ = some (.slice (some ⟨g, 0, none⟩) t.l.length cap) ∧ w'.frozen? ⟨t.h.p, 1, none⟩ = false) := fun W hb W' hb' => by
    have := (hD W hb).call W' hb'
    rw [show (((i + 1 : Nat)) : Int) = (i : Int) + 1 from by omega] at this
    exact this
  have fin : ∀ W v' w', Below W1.heap.size W1 W → Slots w' v' ((t.l.map (slE 0)).take i ++ (t.l.map (slE 0)).drop (i + 1)) → v'.ownBlock = some g → Kept (fun b => b = g) W w' → ∃ t', Went w t t' (w'.setCell ⟨t.h.p, 1, none⟩ v') ∧ abs 1 t' = remove F k 0 (abs 1 t) := fun W v' w' hb q1 q2 q3 => by
    have g1 := (hD W hb).fin W v' w' (Below.refl _ _) q1 q2 q3
    have hP2 := (hP.later hb).turn g1
    refine ⟨En.nd ⟨t.h.p, v', true⟩ (t.l.take i ++ t.l.drop (i + 1)), ?_, ?_⟩
    · refine Par.fin ?_ rfl
      rw [List.map_append, List.map_take, List.map_drop]
      have e0 : ∀ l : List (En 0), footL l = [] := fun l => by unfold footL; induction l with
        | nil => rfl
        | cons a l ih => rw [List.flatMap_cons, ih]; rfl
      exact ⟨hP2.at_, fun _ _ => trivial, by have := hP2.nd; rwa [e0] at this ⊢, by have := hP2.sub; rwa [e0] at this ⊢, hP2.kept⟩
    · show El.nd true _ = El.nd true _
      rw [En.l_nd, List.map_append, List.map_take, List.map_drop, abs_l, ← hi]
  have HF : Hid (∀ W v' w', Below W1.heap.size W1 W → Slots w' v' ((t.l.map (slE 0)).take i ++ (t.l.map (slE 0)).drop (i + 1)) → v'.ownBlock = some g → Kept (fun b => b = g) W w' → ∃ t', Went w t t' (w'.setCell ⟨t.h.p, 1, none⟩ v') ∧ abs 1 t' = remove F k 0 (abs 1 t)) := fin
  have HR : Hid (∀ W, Below W1.heap.size W1 W → W.cell? ⟨t.h.p, 1, none⟩ = some (.slice (some ⟨g, 0, none⟩) t.l.length cap)) := fun W hb => by rw [← hv]; exact (hP.at_.later hb).row.cell (i := 1) rfl
  have c0 : w.cell? ⟨t.h.p, 0, none⟩ = some (.int .i64 0) := h.1.row.cell (i := 0) rfl
  obtain ⟨u, hu⟩ : ∃ u, w.cell? ⟨t.h.p, 2, none⟩ = some u := ⟨_, h.1.row.cell (i := 2) rfl⟩
  have hfz := h.1.row.frozen 2
  have hW : Hid (W1 = w.setCell ⟨t.h.p, 2, none⟩ (.bool true)) := hW1
  have hwi : IntKind.i64.wrap ((i : Int) + 1) = (i : Int) + 1 := by rw [IntKind.wrap_i64]; omega
  have hi100 : i ≤ 100 := by omega
  clear fin hD hP hg hs hk hy hsrt hW1 h hn hv hi
  go_enter Try.func49, Try.ntmps49
  go_wp2_with (first
    | (go_at_call 37; rw [← hW.out]; refine hF.mono ?_; rintro e W2 ⟨rfl, hb⟩; have q1 := HR.out W2 hb; have HB2 : Hid (Below W1.heap.size W1 W2) := hb; clear hb)
    | (go_at_call 64; refine (HD.out W2 HB2.out _ (Below.refl _ _)).mono ?_; rintro e W3 ⟨a3, m3, cap3, rfl, q3, r1, r2⟩; have HQ3 : Hid (Slots _ _ _ ∧ _ ∧ Kept _ _ _) := q3; clear q3))
  refine bodyPost_ret (results_none rfl _ _ _) rfl ?_
  exact ⟨rfl, HF.out _ _ _ HB2.out HQ3.out.1 HQ3.out.2.1 HQ3.out.2.2⟩
end Go.Proofs.Ytpflacbinankmaa.Bt
