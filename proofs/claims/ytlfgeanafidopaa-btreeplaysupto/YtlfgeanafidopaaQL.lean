/-
  A leaf's remove; a node's join.
  Two kids of a node become one, or share evenly: what lies where.
  The walks of join.
-/
import Derived.Test.YtlfgeanafidopaaQH
import Derived.Deep.RegionWith
import Derived.Deep.RegionLaw
namespace Go.Proofs.Ytlfgeanafidopaa.Bt
open Go.RowKit
set_option maxRecDepth 10000

/-- What slices.Delete asks of a node's slots. -/
structure DelAt (W0 : World) (h : Hd) (lv n cap g : Nat) (l L : List Sl) (i j : Nat) : Prop where
  call : ∀ W, Below W0.heap.size W0 W → Calls Try.prog 64 #[.slice (some ⟨g, 0, none⟩) n cap, .int .i64 i, .int .i64 j] W fun e w' =>
    ∃ a' m' cap', e = .returned (.slice a' m' cap') ∧ (Slots w' (.slice a' m' cap') L ∧ (Value.slice a' m' cap').ownBlock = some g ∧ Kept (fun b => b = g) W w') ∧ w'.cell? ⟨h.p, 1, none⟩ = some (.slice (some ⟨g, 0, none⟩) n cap) ∧ w'.frozen? ⟨h.p, 1, none⟩ = false
  fin : ∀ W v' w', Below W0.heap.size W0 W → Slots w' v' L → v'.ownBlock = some g → Kept (fun b => b = g) W w' → Turned W0 h lv L ⟨h.p, v', h.d⟩ (w'.setCell ⟨h.p, 1, none⟩ v')
theorem delAt {W0 : World} {h : Hd} {lv n cap g : Nat} {l : List Sl} (hA : At W0 h lv l) (hv : h.v = .slice (some ⟨g, 0, none⟩) n cap) (i j : Nat) (hij : i < j) (hj : j ≤ l.length) : DelAt W0 h lv n cap g l (l.take i ++ l.drop j) i j := by
  have ho : h.v.ownBlock = some g := by rw [hv]; rfl
  have hpg := hA.ne g ho
  constructor
  · intro W hb
    have hAW := hA.later hb
    have := delete_any h.v l i j W hAW.own hij hj
    rw [hv] at this
    refine this.mono ?_
    rintro e w' ⟨v', rfl, q1, q2, q3, _⟩
    have q3 : Kept (fun b => b = g) W w' := q3.mono (fun b e => by injection e with e; exact e.symm)
    obtain ⟨a', cap2, rfl, _⟩ := q1.slice
    have hr := hAW.row.kept q3 (fun e => hpg e.symm)
    exact ⟨a', _, cap2, rfl, ⟨q1, q2, q3⟩, by rw [← hv]; exact hr.cell (i := 1) rfl, hr.frozen 1⟩
  · intro W v' w' hb q1 q2 q3
    have hAW := hA.later hb
    have hr := hAW.row.kept q3 (fun e => hpg e.symm)
    refine ⟨⟨by simpa using hr.set (i := 1) v' (by simp), ?_⟩, rfl, rfl, ?_, ?_⟩
    · exact q1.same fun b e => Below.heap_setCell _ _ _ _ (fun e2 => by rw [q2] at e; cases e; exact hpg e2)
    · intro b e
      have e : v'.ownBlock = some b := e
      rw [q2] at e; cases e
      exact .inl ho
    · refine Kept.setCell (S := fun b => b ∈ h.blks) (p := ⟨h.p, 1, none⟩) ?_ (by simp [Hd.blks]) v'
      exact (Kept.of_below hb).comp q3 (fun b e => .inl (by rw [e]; simp [Hd.blks, ho]))
set_option maxHeartbeats 4000000 in
theorem remove_leaf (F : Nat) (k : K) (t : En 1) (w : World) (h : Lies w 1 t) (hn : (foot 1 t).Nodup) (hg : Good F 0 (abs 1 t)) (hl : t.l.length ≤ 100) (hk : k ∈ (flats (abs 1 t).l).map Prod.fst) :
    Calls Try.prog 49 #[.pointer (some ⟨t.h.p, 0, none⟩), .string k, .int .i64 (F : Nat)] w fun e w' => e = .returned (.tuple #[]) ∧ ∃ t', Went w t t' w' ∧ abs 1 t' = remove F k 0 (abs 1 t) := by
  obtain ⟨W1, hW1⟩ : ∃ W1, W1 = w.setCell ⟨t.h.p, 2, none⟩ (.bool true) := ⟨_, rfl⟩
  have hP : Par w (foot 1 t) W1 (Hd.mk t.h.p t.h.v true) 0 (t.l.map (slE 0)) t.l := (Par.start h hn).mark (.inl (by rw [foot_succ]; simp [Hd.blks])) W1 hW1
  have hs := hg.srt
  rw [abs_l, flats_zero] at hs hk
  obtain ⟨y, hy, _, _⟩ := del_at hs hk
  have hsrt : Ksrt ((t.l.map (slE 0)).map Sl.k) := by
    have h2 := srt_keys hs
    rw [keysE]
    rwa [← keys_zero] at h2
  have hF := from_any (Hd.mk t.h.p t.h.v true) 0 (t.l.map (slE 0)) k W1 hP.at_ hsrt (by rw [List.length_map]; omega)
  rw [keysE] at hF
  rw [← keys_zero] at hy
  obtain ⟨i, hi⟩ : ∃ i, i = lb k ((t.l.map (abs 0)).map (ek 0)) := ⟨_, rfl⟩
  rw [← hi] at hF hy
  have hil : i < t.l.length := by have := (List.getElem?_eq_some_iff.1 hy).1; simpa using this
  rcases hP.at_.own.form with ⟨_, e⟩ | ⟨g, cap, cs, hv, _, _, c1, c2, _⟩
  · have := congrArg List.length e; rw [List.length_map] at this; simp at this; rw [this] at hil; simp at hil
  rw [List.length_map] at hv c1
  have hv : t.h.v = .slice (some ⟨g, 0, none⟩) t.l.length cap := hv
  have hD : ∀ W, Below W1.heap.size W1 W → DelAt W (Hd.mk t.h.p t.h.v true) 0 t.l.length cap g (t.l.map (slE 0)) ((t.l.map (slE 0)).take i ++ (t.l.map (slE 0)).drop (i + 1)) i (i + 1) := fun W hb => delAt (hP.at_.later hb) hv i (i + 1) (by omega) (by rw [List.length_map]; omega)
  have HD : Hid (∀ W, Below W1.heap.size W1 W → ∀ W', Below W.heap.size W W' → Calls Try.prog 64 #[.slice (some ⟨g, 0, none⟩) t.l.length cap, .int .i64 (i : Nat), .int .i64 ((i : Int) + 1)] W' fun e w' =>
    ∃ a' m' cap', e = .returned (.slice a' m' cap') ∧ (Slots w' (.slice a' m' cap') ((t.l.map (slE 0)).take i ++ (t.l.map (slE 0)).drop (i + 1)) ∧ (Value.slice a' m' cap').ownBlock = some g ∧ Kept (fun b => b = g) W' w') ∧ w'.cell? ⟨t.h.p, 1, none⟩ = some (.slice (some ⟨g, 0, none⟩) t.l.length cap) ∧ w'.frozen? ⟨t.h.p, 1, none⟩ = false) := fun W hb W' hb' => by
    have := (hD W hb).call W' hb'
    rw [show (((i + 1 : Nat)) : Int) = (i : Int) + 1 from by omega] at this
    exact this
  have fin : ∀ W v' w', Below W1.heap.size W1 W → Slots w' v' ((t.l.map (slE 0)).take i ++ (t.l.map (slE 0)).drop (i + 1)) → v'.ownBlock = some g → Kept (fun b => b = g) W w' → ∃ t', Went w t t' (w'.setCell ⟨t.h.p, 1, none⟩ v') ∧ abs 1 t' = remove F k 0 (abs 1 t) := fun W v' w' hb q1 q2 q3 => by
    have g1 := (hD W hb).fin W v' w' (Below.refl _ _) q1 q2 q3
    have hP2 := (hP.later hb).turn g1
    refine ⟨En.nd ⟨t.h.p, v', true⟩ (t.l.take i ++ t.l.drop (i + 1)), ?_, ?_⟩
    · refine Par.fin ?_ rfl
      rw [List.map_append, List.map_take, List.map_drop]
      have e0 : ∀ l : List (En 0), footL l = [] := fun l => by unfold footL; induction l with
        | nil => rfl
        | cons a l ih => rw [List.flatMap_cons, ih]; rfl
      exact ⟨hP2.at_, fun _ _ => trivial, by have := hP2.nd; rwa [e0] at this ⊢, by have := hP2.sub; rwa [e0] at this ⊢, hP2.kept⟩
    · show El.nd true _ = El.nd true _
      rw [En.l_nd, List.map_append, List.map_take, List.map_drop, abs_l, ← hi]
  have HF : Hid (∀ W v' w', Below W1.heap.size W1 W → Slots w' v' ((t.l.map (slE 0)).take i ++ (t.l.map (slE 0)).drop (i + 1)) → v'.ownBlock = some g → Kept (fun b => b = g) W w' → ∃ t', Went w t t' (w'.setCell ⟨t.h.p, 1, none⟩ v') ∧ abs 1 t' = remove F k 0 (abs 1 t)) := fin
  have HR : Hid (∀ W, Below W1.heap.size W1 W → W.cell? ⟨t.h.p, 1, none⟩ = some (.slice (some ⟨g, 0, none⟩) t.l.length cap)) := fun W hb => by rw [← hv]; exact (hP.at_.later hb).row.cell (i := 1) rfl
  have c0 : w.cell? ⟨t.h.p, 0, none⟩ = some (.int .i64 0) := h.1.row.cell (i := 0) rfl
  obtain ⟨u, hu⟩ : ∃ u, w.cell? ⟨t.h.p, 2, none⟩ = some u := ⟨_, h.1.row.cell (i := 2) rfl⟩
  have hfz := h.1.row.frozen 2
  have hW : Hid (W1 = w.setCell ⟨t.h.p, 2, none⟩ (.bool true)) := hW1
  have hwi : IntKind.i64.wrap ((i : Int) + 1) = (i : Int) + 1 := by rw [IntKind.wrap_i64]; omega
  have hi100 : i ≤ 100 := by omega
  clear fin hD hP hg hs hk hy hsrt hW1 h hn hv hi
  go_enter Try.func49, Try.ntmps49
  go_wp2_with (first
    | (go_at_call 37; rw [← hW.out]; refine hF.mono ?_; rintro e W2 ⟨rfl, hb⟩; have q1 := HR.out W2 hb; have HB2 : Hid (Below W1.heap.size W1 W2) := hb; clear hb)
    | (go_at_call 64; refine (HD.out W2 HB2.out _ (Below.refl _ _)).mono ?_; rintro e W3 ⟨a3, m3, cap3, rfl, q3, r1, r2⟩; have HQ3 : Hid (Slots _ _ _ ∧ _ ∧ Kept _ _ _) := q3; clear q3))
  refine bodyPost_ret (results_none rfl _ _ _) rfl ?_
  exact ⟨rfl, HF.out _ _ _ HB2.out HQ3.out.1 HQ3.out.2.1 HQ3.out.2.2⟩
end Go.Proofs.Ytlfgeanafidopaa.Bt
namespace Go.Proofs.Ytlfgeanafidopaa.Bt
open Go.RowKit
set_option maxRecDepth 10000

/-- A node's slots with those of another behind them. -/
theorem appFin {W w1 : World} {h : Hd} {lv : Nat} {l l2 : List Sl} {g cap : Nat} (hA : At W h lv l) (q1 : w1.ownsRow 0 77 3 (.slice (some ⟨g, 0, none⟩) (l.length + l2.length) cap) (l.length + l2.length) (l.flatMap slv ++ l2.flatMap slv)) (q2 : W.grownBy w1 h.v.ownBlock) (q3 : h.v.ownBlock = some g ∨ g = W.heap.size) :
    Turned W h lv (l ++ l2) ⟨h.p, .slice (some ⟨g, 0, none⟩) (l.length + l2.length) cap, h.d⟩ (w1.setCell ⟨h.p, 1, none⟩ (.slice (some ⟨g, 0, none⟩) (l.length + l2.length) cap)) := by
  have hk : Kept (fun b => h.v.ownBlock = some b) W w1 := Kept.of_grown q2 fun k e => e
  have hr := hA.row.kept hk (fun e => hA.ne _ e rfl)
  have hS : Slots w1 (.slice (some ⟨g, 0, none⟩) (l.length + l2.length) cap) (l ++ l2) := by unfold Slots; rw [List.length_append, List.flatMap_append]; exact q1
  have hpg : h.p ≠ g := by
    obtain ⟨_, cs, hw⟩ := hS.lt g rfl
    exact hr.ne hw.row (by decide)
  refine ⟨⟨by simpa using hr.set (i := 1) (.slice (some ⟨g, 0, none⟩) (l.length + l2.length) cap) (by simp), ?_⟩, rfl, rfl, ?_, ?_⟩
  · exact hS.same fun g' hg' => Below.heap_setCell _ _ _ _ (fun e => by cases hg'; exact hpg e.symm)
  · intro b hb
    cases hb
    rcases q3 with e | e
    · exact .inl e
    · exact .inr (by show W.heap.size ≤ g; omega)
  · refine Kept.setCell (S := fun b => b ∈ h.blks) (p := ⟨h.p, 1, none⟩) ?_ (by simp [Hd.blks]) _
    exact hk.mono fun b e => by simp [Hd.blks, e]
/-- The right one's kids are the left one's from now on. -/
theorem Par.merge {n : Nat} {w : World} {F0 : List Nat} {W W' : World} {h : Hd} {lv : Nat} {sl : List Sl} {A B : List (En (n + 1))} {a b : En (n + 1)} {h' : Hd} (x : Par w F0 W h lv sl (A ++ a :: b :: B)) (g : Turned W a.h n ((a.l ++ b.l).map (slE n)) h' W') :
    Par w F0 W' h lv sl (A ++ En.nd h' (a.l ++ b.l) :: B) := by
  have hnd := x.nd
  have eall : h.blks ++ footL (A ++ a :: b :: B) = (h.blks ++ footL A) ++ a.h.blks ++ (footL a.l ++ (b.h.blks ++ (footL b.l ++ footL B))) := by
    rw [footL_append, footL_cons, footL_cons, foot_succ, foot_succ]; simp
  rw [eall] at hnd
  obtain ⟨m1, m2, m3⟩ := nodup_mid.1 hnd
  have hs := x.sub
  rw [eall] at hs
  simp only [List.mem_append] at hs m3
  have hal := x.lies a (by simp)
  have hbl := x.lies b (by simp)
  have hb' : ∀ q ∈ h'.blks, q ∈ a.h.blks ∨ W.heap.size ≤ q := by
    intro q hq
    rcases List.mem_cons.1 hq with e | e
    · rw [e, g.p]; exact .inl (by simp [Hd.blks])
    · rcases g.own q (by simpa using e) with z | z
      · exact .inl (by simp [Hd.blks, z])
      · exact .inr z
  have hl1 : ∀ q ∈ footL a.l, q < W.heap.size := fun q hq => by obtain ⟨e, he, hq⟩ := mem_footL.1 hq; exact (hal.2 e he).lt q hq
  have hl2 : ∀ q ∈ footL b.l, q < W.heap.size := fun q hq => by obtain ⟨e, he, hq⟩ := mem_footL.1 hq; exact (hbl.2 e he).lt q hq
  have hlA : ∀ q ∈ footL A, q < W.heap.size := fun q hq => by obtain ⟨e, he, hq⟩ := mem_footL.1 hq; exact (x.lies e (by simp [he])).lt q hq
  have hlB : ∀ q ∈ footL B, q < W.heap.size := fun q hq => by obtain ⟨e, he, hq⟩ := mem_footL.1 hq; exact (x.lies e (by simp [he])).lt q hq
  have keep : ∀ {m : Nat} {e : En m}, Lies W m e → (∀ q ∈ foot m e, (q ∈ h.blks ∨ q ∈ footL A) ∨ q ∈ footL a.l ∨ q ∈ b.h.blks ∨ q ∈ footL b.l ∨ q ∈ footL B) → Lies W' m e := fun he hq => he.kept g.kept fun q hm e2 => by
    rcases hq q hm with z | z
    · exact (m3 q e2).1 z
    · exact (m3 q e2).2 z
  refine ⟨x.at_.kept g.kept fun q hq e => (m3 q e).1 (.inl hq), fun e he => ?_, ?_, ?_, ?_⟩
  · simp only [List.mem_append, List.mem_cons] at he
    rcases he with he | rfl | he
    · exact keep (x.lies e (by simp [he])) fun q hq => .inl (.inr (mem_footL.2 ⟨e, he, hq⟩))
    · refine ⟨g.at_, fun y hy => ?_⟩
      rcases List.mem_append.1 hy with hy | hy
      · exact keep (hal.2 y hy) fun q hq => .inr (.inl (mem_footL.2 ⟨y, hy, hq⟩))
      · exact keep (hbl.2 y hy) fun q hq => .inr (.inr (.inr (.inl (mem_footL.2 ⟨y, hy, hq⟩))))
    · exact keep (x.lies e (by simp [he])) fun q hq => .inr (.inr (.inr (.inr (mem_footL.2 ⟨e, he, hq⟩))))
  · have e2 : h.blks ++ footL (A ++ En.nd h' (a.l ++ b.l) :: B) = (h.blks ++ footL A) ++ h'.blks ++ (footL a.l ++ (footL b.l ++ footL B)) := by
      rw [footL_append, footL_cons, foot_succ]; simp [footL_append]
    rw [e2]
    refine nodup_mid.2 ⟨?_, ?_, fun q hq => ?_⟩
    · unfold Hd.blks
      cases hv : h'.v.ownBlock with
      | none => simp
      | some b => simpa using fun e => g.at_.ne b hv e.symm
    · refine m2.sublist ?_
      exact List.Sublist.append (List.Sublist.refl _) (List.Sublist.append (List.Sublist.refl _) (List.sublist_append_right _ _))
    · simp only [List.mem_append]
      rcases hb' q hq with z | z
      · exact ⟨(m3 q z).1, fun y => (m3 q z).2 (by rcases y with y | y | y; exact .inl y; exact .inr (.inr (.inl y)); exact .inr (.inr (.inr y)))⟩
      · refine ⟨fun y => ?_, fun y => ?_⟩
        · rcases y with y | y
          · have := x.at_.lt q y; omega
          · have := hlA q y; omega
        · rcases y with y | y | y
          · have := hl1 q y; omega
          · have := hl2 q y; omega
          · have := hlB q y; omega
  · intro q hq
    have e2 : h.blks ++ footL (A ++ En.nd h' (a.l ++ b.l) :: B) = (h.blks ++ footL A) ++ h'.blks ++ (footL a.l ++ (footL b.l ++ footL B)) := by
      rw [footL_append, footL_cons, foot_succ]; simp [footL_append]
    rw [e2] at hq
    simp only [List.mem_append] at hq
    rcases hq with (hq | hq) | hq | hq | hq
    · exact hs q (.inl (.inl hq))
    · rcases hb' q hq with z | z
      · exact hs q (.inl (.inr z))
      · exact .inr (Nat.le_trans x.kept.size z)
    · exact hs q (.inr (.inl hq))
    · exact hs q (.inr (.inr (.inr (.inl hq))))
    · exact hs q (.inr (.inr (.inr (.inr hq))))
  · exact x.kept.comp g.kept fun q hq => hs q (.inl (.inr hq))
/-- A kid is marked. -/
theorem Par.markKid {n : Nat} {w : World} {F0 : List Nat} {W : World} {h : Hd} {lv : Nat} {sl : List Sl} {A B : List (En (n + 1))} {a : En (n + 1)} (x : Par w F0 W h lv sl (A ++ a :: B)) : ∀ W', W' = W.setCell ⟨a.h.p, 2, none⟩ (.bool true) → Par w F0 W' h lv sl (A ++ En.nd (Hd.mk a.h.p a.h.v true) a.l :: B) := by
  intro W' hW'
  have hal := x.lies a (by simp)
  have han := Par.fstN x
  have := (Par.start hal han).mark (.inl (by rw [foot_succ]; simp [Hd.blks])) W' hW'
  exact Par.kid x (Par.fin this rfl)
end Go.Proofs.Ytlfgeanafidopaa.Bt
namespace Go.Proofs.Ytlfgeanafidopaa.Bt
open Go.RowKit
set_option maxRecDepth 10000

theorem Par.slotsAt {m : Nat} {w : World} {F0 : List Nat} {W : World} {h : Hd} {lv : Nat} {sl : List Sl} {ks : List (En m)} (y : Par w F0 W h lv sl ks) {g N cap : Nat} (hv : h.v = .slice (some ⟨g, 0, none⟩) N cap) {i : Nat} {s : Sl} (hs : sl[i]? = some s) :
    W.cell? ⟨h.p, 1, none⟩ = some (.slice (some ⟨g, 0, none⟩) N cap) ∧ W.cell? ⟨g, i * 3, none⟩ = some (.string s.k) ∧ W.cell? ⟨g, i * 3 + 1, none⟩ = some (.string s.v) ∧ W.cell? ⟨g, i * 3 + 2, none⟩ = some (.pointer (s.kid.map fun b => ⟨b, 0, none⟩)) ∧ (∀ j, W.frozen? ⟨g, j, none⟩ = false) ∧ h.p ≠ g := by
  obtain ⟨g', cap', hv', ho, _, _, _, c0, c1, c2, c3⟩ := y.at_.own.at hs
  have e : g' = g := by rw [hv] at hv'; injection hv' with e1; injection e1 with e1; injection e1 with e1; exact e1.symm
  subst e
  exact ⟨by rw [← hv]; exact y.at_.row.cell (i := 1) rfl, c0, c1, c2, c3, fun e => y.at_.ne g' ho e.symm⟩
theorem Par.setSlot {m : Nat} {w : World} {F0 : List Nat} {W : World} {h : Hd} {lv : Nat} {sl : List Sl} {ks : List (En m)} (y : Par w F0 W h lv sl ks) {g N cap : Nat} (hv : h.v = .slice (some ⟨g, 0, none⟩) N cap) (j : Nat) (hj : j < sl.length) (s : Sl) : Par w F0 (W.setCells g (j * 3) (slv s)) h lv (sl.set j s) ks := by
  have ho : h.v.ownBlock = some g := by rw [hv]; rfl
  refine Par.turn y (h' := h) ⟨⟨y.at_.row.same ?_, slots_set y.at_.own hj s ho _ rfl⟩, rfl, rfl, fun b hb => .inl hb, kept_setCells (S := fun b => b ∈ h.blks) (by simp [Hd.blks, ho]) _ _ _ (Kept.refl _ W)⟩
  exact (kept_setCells (S := fun b => b = g) rfl (slv s) (j * 3) W (Kept.refl _ W)).block h.p y.at_.row.lt (fun e => y.at_.ne g ho e.symm)
theorem part_kidP {n : Nat} {w : World} {F0 : List Nat} {W : World} {h : Hd} {lv : Nat} {sl : List Sl} {A B : List (En (n + 1))} {c : En (n + 1)} (x : Par w F0 W h lv sl (A ++ c :: B)) {C : El (n + 1)} (e : abs (n + 1) c = C) {p : Nat} (hp : c.h.p = p) (h2 : 2 ≤ C.l.length) (hl : C.l.length ≤ 300) :
    Calls Try.prog 69 #[.pointer (some ⟨p, 0, none⟩)] W fun e w' => ∃ c1 cr : En (n + 1), e = .returned (.pointer (some ⟨cr.h.p, 0, none⟩)) ∧ Par w F0 w' h lv sl (A ++ c1 :: cr :: B) ∧ c1.h.p = p ∧ abs (n + 1) c1 = halfL C ∧ abs (n + 1) cr = halfR C := by
  subst hp
  subst e
  rw [abs_l, List.length_map] at h2 hl
  have := part_any c.h n _ W (x.lies c (by simp)).1 (by rw [List.length_map]; omega) (by rw [List.length_map]; exact h2)
  refine this.mono ?_
  rintro e w' ⟨h1, hr, rfl, g⟩
  refine ⟨_, _, rfl, Par.part x g, g.p, ?_, ?_⟩
  · show El.nd h1.d _ = El.nd _ _
    rw [g.d, En.l_nd, List.map_take, abs_l, List.length_map]; rfl
  · show El.nd hr.d _ = El.nd _ _
    rw [g.rd, En.l_nd, List.map_drop, abs_l, List.length_map]
theorem at_mid {α : Type} (A : List α) (a b : α) (B : List α) : (A ++ a :: b :: B)[A.length]? = some a ∧ (A ++ a :: b :: B)[A.length + 1]? = some b := by
  refine ⟨by rw [List.getElem?_append_right (Nat.le_refl _)]; simp, by rw [List.getElem?_append_right (by omega)]; simp⟩
theorem joined_mid {n : Nat} (F : Nat) (A B : List (El (n + 1))) (a b : El (n + 1)) : joined F A.length (A ++ a :: b :: B) = if F < a.l.length + b.l.length then A ++ halfL (.nd true (a.l ++ b.l)) :: halfR (.nd true (a.l ++ b.l)) :: B else A ++ .nd true (a.l ++ b.l) :: B := by
  obtain ⟨h1, h2⟩ := at_mid A a b B
  have e : joined F A.length (A ++ a :: b :: B) = putIn F A.length ((A ++ a :: b :: B).take (A.length + 1) ++ (A ++ a :: b :: B).drop (A.length + 2)) (.nd true (a.l ++ b.l)) := by unfold joined; rw [h1, h2]
  have t1 : (A ++ a :: b :: B).take (A.length + 1) = A ++ [a] := by
    rw [show A ++ a :: b :: B = (A ++ [a]) ++ b :: B by simp, List.take_append_of_le_length (by simp), List.take_of_length_le (by simp)]
  have t2 : (A ++ a :: b :: B).drop (A.length + 2) = B := by
    rw [show A ++ a :: b :: B = (A ++ [a, b]) ++ B by simp, List.drop_append_of_le_length (by simp), List.drop_eq_nil_of_le (by simp)]; rfl
  rw [e, t1, t2]
  unfold putIn
  rw [El.l_nd, List.length_append]
  split
  · rw [show A ++ [a] ++ B = A ++ a :: B by simp]
    congr 1
    · rw [List.take_append_of_le_length (Nat.le_refl _), List.take_of_length_le (Nat.le_refl _)]
    · congr 2
      rw [show A ++ a :: B = (A ++ [a]) ++ B by simp, List.drop_append_of_le_length (by simp), List.drop_eq_nil_of_le (by simp)]; rfl
  · rw [show A ++ [a] ++ B = A ++ a :: B by simp, List.set_append_right _ _ (Nat.le_refl _), Nat.sub_self, List.set_cons_zero]
theorem slE_app {n : Nat} (a b : En (n + 1)) (h : Hd) (ha : 0 < a.l.length) (hp : h.p = a.h.p) : slE (n + 1) (En.nd h (a.l ++ b.l)) = slE (n + 1) a := by
  have e : ∀ c : En (n + 1), slE (n + 1) c = ⟨ek (n + 1) (abs (n + 1) c), ⟨#[]⟩, some c.h.p⟩ := fun _ => rfl
  have e2 : ∀ T : El (n + 1), ek (n + 1) T = match T.l with | [] => ⟨#[]⟩ | e :: _ => ek n e := fun _ => rfl
  rw [e, e, e2, e2, En.h_nd, hp, abs_l, abs_l, En.l_nd, List.map_append]
  cases hl : a.l with
  | nil => rw [hl] at ha; simp at ha
  | cons y r => rfl
set_option maxHeartbeats 8000000 in
theorem join_small {n : Nat} (F : Nat) (hF2 : F ≤ 64) {w : World} {F0 : List Nat} {W : World} {h : Hd} {A B : List (En (n + 1))} {a b : En (n + 1)} (x : Par w F0 W h (n + 1) ((A ++ a :: b :: B).map (slE (n + 1))) (A ++ a :: b :: B)) (i : Nat) (hi : i = A.length) (hla : 0 < a.l.length) (hlb : 0 < b.l.length) (hla2 : a.l.length ≤ 100) (hlb2 : b.l.length ≤ 100) (hN2 : (A ++ a :: b :: B).length ≤ 100) (hm : a.l.length + b.l.length ≤ F) :
    Calls Try.prog 66 #[.pointer (some ⟨h.p, 0, none⟩), .int .i64 (i : Nat), .int .i64 (F : Nat)] W fun e W' => e = .returned (.tuple #[]) ∧ ∃ h' ks', Par w F0 W' h' (n + 1) (ks'.map (slE (n + 1))) ks' ∧ h'.p = h.p ∧ h'.d = h.d ∧ ks'.map (abs (n + 1)) = joined F i ((A ++ a :: b :: B).map (abs (n + 1))) := by
  obtain ⟨S, hS⟩ : ∃ S, S = (A ++ a :: b :: B).map (slE (n + 1)) := ⟨_, rfl⟩
  obtain ⟨N, hN⟩ : ∃ N, N = (A ++ a :: b :: B).length := ⟨_, rfl⟩
  have hSl : S.length = N := by rw [hS, List.length_map, hN]
  have hiN : i + 1 < N := by rw [hN, hi]; simp
  rw [← hS] at x
  rcases x.at_.own.form with ⟨_, e⟩ | ⟨g, cap, cs, hv, _, _, c1, c2, _⟩
  · rw [e] at hSl; simp at hSl; omega
  rw [hSl] at hv c1
  have s1 : S[i]? = some (slE (n + 1) a) := by rw [hS, List.getElem?_map, hi, (at_mid A a b B).1]; rfl
  have s2 : S[i + 1]? = some (slE (n + 1) b) := by rw [hS, List.getElem?_map, hi, (at_mid A a b B).2]; rfl
  obtain ⟨p1, _, _, p2, _, _⟩ := x.slotsAt hv s1
  obtain ⟨_, _, _, p3, _, _⟩ := x.slotsAt hv s2
  have hal := x.lies a (by simp)
  have hbl := x.lies b (by simp)
  obtain ⟨sa, hsa⟩ : ∃ sa, (a.l.map (slE n))[0]? = some sa := ⟨_, List.getElem?_eq_getElem (by rw [List.length_map]; exact hla)⟩
  obtain ⟨sb, hsb⟩ : ∃ sb, (b.l.map (slE n))[0]? = some sb := ⟨_, List.getElem?_eq_getElem (by rw [List.length_map]; exact hlb)⟩
  obtain ⟨ga, capa, hva, _⟩ := hal.1.own.at hsa
  obtain ⟨gb, capb, hvb, _⟩ := hbl.1.own.at hsb
  rw [List.length_map] at hva hvb
  obtain ⟨la, hla'⟩ : ∃ la, la = a.l.length := ⟨_, rfl⟩
  obtain ⟨lb', hlb'⟩ : ∃ lb', lb' = b.l.length := ⟨_, rfl⟩
  rw [← hla'] at hva hla hla2 hm
  rw [← hlb'] at hvb hlb hlb2 hm
  have HMk : Hid (∀ X, Below W.heap.size W X → Par w F0 (X.setCell ⟨a.h.p, 2, none⟩ (.bool true)) h (n + 1) S (A ++ En.nd (Hd.mk a.h.p a.h.v true) a.l :: b :: B)) := fun X hb => Par.markKid (x.later hb) _ rfl
  have HRd : Hid (∀ X, Par w F0 X h (n + 1) S (A ++ En.nd (Hd.mk a.h.p a.h.v true) a.l :: b :: B) → X.cell? ⟨a.h.p, 1, none⟩ = some (.slice (some ⟨ga, 0, none⟩) la capa) ∧ X.frozen? ⟨a.h.p, 1, none⟩ = false ∧ X.cell? ⟨b.h.p, 1, none⟩ = some (.slice (some ⟨gb, 0, none⟩) lb' capb) ∧ X.ownsRow 0 77 3 (.slice (some ⟨ga, 0, none⟩) la capa) la ((a.l.map (slE n)).flatMap slv) ∧ (∀ j u, ((b.l.map (slE n)).flatMap slv)[j]? = some u → X.cell? ((⟨gb, 0, none⟩ : Addr).add j) = some u) ∧ (∀ w1, X.grownBy w1 (some ga) → w1.cell? ⟨a.h.p, 1, none⟩ = some (.slice (some ⟨ga, 0, none⟩) la capa) ∧ w1.frozen? ⟨a.h.p, 1, none⟩ = false)) := fun X y => by
    have ya : At X (Hd.mk a.h.p a.h.v true) n (a.l.map (slE n)) := (y.lies (En.nd (Hd.mk a.h.p a.h.v true) a.l) (by simp)).1
    have yb := (y.lies b (by simp)).1
    refine ⟨by rw [← hva]; exact ya.row.cell (i := 1) rfl, ya.row.frozen 1, by rw [← hvb]; exact yb.row.cell (i := 1) rfl, ?_, fun j u hj => ?_, fun w1 hg => ?_⟩
    · have := ya.own
      unfold Slots at this
      rw [List.length_map, ← hla'] at this
      rw [← hva]; exact this
    · rcases yb.own.form with ⟨e, _⟩ | ⟨g', cap', cs, hv', _, hw, _, _, _, c4⟩
      · rw [hvb] at e; cases e
      · have e : g' = gb := by rw [hvb] at hv'; injection hv' with e1; injection e1 with e1; injection e1 with e1; exact e1.symm
        subst e
        have hj' := (List.getElem?_eq_some_iff.1 hj).1
        rw [flat_len slv 3 slv_len] at hj'
        rw [Addr.add_lit, Nat.zero_add]
        refine hw.cell.trans ?_
        rw [← c4, List.getElem?_take, if_pos hj'] at hj
        exact hj
    · have hr := ya.row.same (hg.block a.h.p ya.row.lt (fun e => ya.ne ga (by show a.h.v.ownBlock = _; rw [hva]; rfl) (Option.some.inj e).symm))
      exact ⟨by rw [← hva]; exact hr.cell (i := 1) rfl, hr.frozen 1⟩
  have HAp : Hid (∀ X w1 g3 cap3, Par w F0 X h (n + 1) S (A ++ En.nd (Hd.mk a.h.p a.h.v true) a.l :: b :: B) → w1.ownsRow 0 77 3 (.slice (some ⟨g3, 0, none⟩) (la + lb') cap3) (la + lb') ((a.l.map (slE n)).flatMap slv ++ (b.l.map (slE n)).flatMap slv) → X.grownBy w1 (some ga) → (some ga = some g3 ∨ g3 = X.heap.size) → Par w F0 (w1.setCell ⟨a.h.p, 1, none⟩ (.slice (some ⟨g3, 0, none⟩) (la + lb') cap3)) h (n + 1) S (A ++ En.nd (Hd.mk a.h.p (.slice (some ⟨g3, 0, none⟩) (la + lb') cap3) true) (a.l ++ b.l) :: B)) := fun X w1 g3 cap3 y q1 q2 q3 => by
    have ya : At X (Hd.mk a.h.p a.h.v true) n (a.l.map (slE n)) := (y.lies (En.nd (Hd.mk a.h.p a.h.v true) a.l) (by simp)).1
    have ho : (Hd.mk a.h.p a.h.v true).v.ownBlock = some ga := by show a.h.v.ownBlock = _; rw [hva]; rfl
    have e1 : (a.l.map (slE n)).length = la := by rw [List.length_map, hla']
    have e2 : (b.l.map (slE n)).length = lb' := by rw [List.length_map, hlb']
    have := appFin (l2 := b.l.map (slE n)) ya (g := g3) (cap := cap3) (w1 := w1) (by rw [e1, e2]; exact q1) (by rw [ho]; exact q2) (by rw [ho]; exact q3)
    rw [e1, e2, ← List.map_append] at this
    exact Par.merge (a := En.nd (Hd.mk a.h.p a.h.v true) a.l) y this
  have HL : Hid ((a.l.map (slE n)).flatMap slv ++ (b.l.map (slE n)).flatMap slv = ((a.l ++ b.l).map (slE n)).flatMap slv ∧ ((b.l.map (slE n)).flatMap slv).length = lb' * 3 ∧ (∀ u ∈ (b.l.map (slE n)).flatMap slv, u.oneCell' = true)) := ⟨by rw [List.map_append, List.flatMap_append], by rw [flat_len slv 3 slv_len, List.length_map, hlb'], slv_one _⟩
  obtain ⟨u, hu⟩ : ∃ u, W.cell? ⟨a.h.p, 2, none⟩ = some u := ⟨_, hal.1.row.cell (i := 2) rfl⟩
  have hfz := hal.1.row.frozen 2
  have HSlot : Hid (∀ X (ks : List (En (n + 1))), Par w F0 X h (n + 1) S ks → X.cell? ⟨h.p, 1, none⟩ = some (.slice (some ⟨g, 0, none⟩) N cap)) := fun X ks y => (y.slotsAt hv s2).1
  have HDl : Hid (∀ X (ks : List (En (n + 1))), Par w F0 X h (n + 1) S ks → DelAt X h (n + 1) N cap g S (S.take (i + 1) ++ S.drop (i + 2)) (i + 1) (i + 2)) := fun X ks y => delAt y.at_ hv (i + 1) (i + 2) (by omega) (by rw [hSl]; omega)
  have HDc : Hid (∀ X (ks : List (En (n + 1))), Par w F0 X h (n + 1) S ks → Calls Try.prog 64 #[.slice (some ⟨g, 0, none⟩) N cap, .int .i64 ((i : Int) + 1), .int .i64 ((i : Int) + 2)] X fun e w' =>
    ∃ a' m' cap', e = .returned (.slice a' m' cap') ∧ (Slots w' (.slice a' m' cap') (S.take (i + 1) ++ S.drop (i + 2)) ∧ (Value.slice a' m' cap').ownBlock = some g ∧ Kept (fun b => b = g) X w') ∧ w'.cell? ⟨h.p, 1, none⟩ = some (.slice (some ⟨g, 0, none⟩) N cap) ∧ w'.frozen? ⟨h.p, 1, none⟩ = false) := fun X ks y => by
    have := (HDl.out X ks y).call X (Below.refl _ _)
    rw [show (((i + 1 : Nat)) : Int) = (i : Int) + 1 from by omega, show (((i + 2 : Nat)) : Int) = (i : Int) + 2 from by omega] at this
    exact this
  have fin : ∀ X W' g3 cap3 h', Par w F0 X h (n + 1) S (A ++ En.nd (Hd.mk a.h.p (.slice (some ⟨g3, 0, none⟩) (la + lb') cap3) true) (a.l ++ b.l) :: B) → Turned X h (n + 1) (S.take (i + 1) ++ S.drop (i + 2)) h' W' → ∃ h' ks', Par w F0 W' h' (n + 1) (ks'.map (slE (n + 1))) ks' ∧ h'.p = h.p ∧ h'.d = h.d ∧ ks'.map (abs (n + 1)) = joined F i ((A ++ a :: b :: B).map (abs (n + 1))) := fun X W' g3 cap3 h' y tt => by
    have z := y.turn tt
    refine ⟨h', A ++ En.nd (Hd.mk a.h.p (.slice (some ⟨g3, 0, none⟩) (la + lb') cap3) true) (a.l ++ b.l) :: B, ?_, tt.p, tt.d, ?_⟩
    · have e1 : S.take (i + 1) ++ S.drop (i + 2) = (A ++ En.nd (Hd.mk a.h.p (.slice (some ⟨g3, 0, none⟩) (la + lb') cap3) true) (a.l ++ b.l) :: B).map (slE (n + 1)) := by
        have t1 : S.take (i + 1) = (A ++ [a]).map (slE (n + 1)) := by rw [hS, ← List.map_take, hi, show A ++ a :: b :: B = (A ++ [a]) ++ b :: B by simp, List.take_append_of_le_length (by simp), List.take_of_length_le (by simp)]
        have t2 : S.drop (i + 2) = B.map (slE (n + 1)) := by rw [hS, ← List.map_drop, hi, show A ++ a :: b :: B = (A ++ [a, b]) ++ B by simp, List.drop_append_of_le_length (by simp), List.drop_eq_nil_of_le (by simp)]; rfl
        have ea : slE (n + 1) (En.nd (Hd.mk a.h.p (.slice (some ⟨g3, 0, none⟩) (la + lb') cap3) true) (a.l ++ b.l)) = slE (n + 1) a := slE_app a b _ (by rw [← hla']; exact hla) rfl
        rw [t1, t2]; simp [ea]
      rw [e1] at z; exact z
    · rw [List.map_append, List.map_cons, List.map_append, List.map_cons, List.map_cons, hi, show A.length = (A.map (abs (n + 1))).length by rw [List.length_map], joined_mid, if_neg (by rw [abs_l, abs_l, List.length_map, List.length_map, ← hla', ← hlb']; omega)]
      congr 2
      show El.nd true _ = El.nd true _
      rw [En.l_nd, List.map_append, abs_l, abs_l]
  have HF : Hid (∀ X W' g3 cap3 h', Par w F0 X h (n + 1) S (A ++ En.nd (Hd.mk a.h.p (.slice (some ⟨g3, 0, none⟩) (la + lb') cap3) true) (a.l ++ b.l) :: B) → Turned X h (n + 1) (S.take (i + 1) ++ S.drop (i + 2)) h' W' → ∃ h' ks', Par w F0 W' h' (n + 1) (ks'.map (slE (n + 1))) ks' ∧ h'.p = h.p ∧ h'.d = h.d ∧ ks'.map (abs (n + 1)) = joined F i ((A ++ a :: b :: B).map (abs (n + 1)))) := fin
  have hMF : ((la : Int) + (lb' : Int)) ≤ (F : Int) := by have := hla2; have := hlb2; omega
  have k1 : (slE (n + 1) a).kid.map (fun b => (⟨b, 0, none⟩ : Addr)) = some ⟨a.h.p, 0, none⟩ := rfl
  have k2 : (slE (n + 1) b).kid.map (fun b => (⟨b, 0, none⟩ : Addr)) = some ⟨b.h.p, 0, none⟩ := rfl
  rw [k1] at p2
  rw [k2] at p3
  have hwi : IntKind.i64.wrap ((i : Int) + 1) = (i : Int) + 1 := by rw [IntKind.wrap_i64]; omega
  have hwi2 : IntKind.i64.wrap ((i : Int) + 2) = (i : Int) + 2 := by rw [IntKind.wrap_i64]; omega
  have hi1 : (i : Int) < (N : Int) := by omega
  have hi2 : (i : Int) + 1 < (N : Int) := by omega
  have ht : ((i : Int) + 1).toNat = i + 1 := by omega
  have hi0 : (0 : Int) ≤ (i : Int) + 1 := by omega
  have hNN : N ≤ 100 := by omega
  obtain ⟨i0, hi00, hz0, hz1, hz2⟩ := info_parts infoS
  unfold maxLen at c2
  generalize (a.l.map (slE n)).flatMap slv = XA at *
  generalize (b.l.map (slE n)).flatMap slv = XB at *
  clear fin hal hbl hsa hsb hva hvb x hv s1 s2 hS hSl hi hN hm hla' hlb' k1 k2
  go_enter Try.func66, Try.ntmps66
  go_wp2
  go_quiet (fail)
  go_wp2
  refine wp_at ((W.drewN nq).setCell ⟨a.h.p, 2, none⟩ (.bool true)) rfl ?_
  have HY1 : Hid (Par w F0 ((W.drewN nq).setCell ⟨a.h.p, 2, none⟩ (.bool true)) h (n + 1) S (A ++ En.nd (Hd.mk a.h.p a.h.v true) a.l :: b :: B)) := HMk.out (W.drewN nq) (below_drawn W nq)
  generalize (W.drewN nq).setCell ⟨a.h.p, 2, none⟩ (.bool true) = W1 at *
  have HY1d : Hid (Par w F0 W1.drew h (n + 1) S (A ++ En.nd (Hd.mk a.h.p a.h.v true) a.l :: b :: B)) := HY1.out.later (below_drawn W1 1)
  obtain ⟨d1, d2, d3, _, _, _⟩ := HRd.out W1 HY1.out
  clear hu hfz p1 p2 p3
  go_region_law (refine step_append_lies _ rfl (.tmp 32) (.tmp 36) 72 rfl 0 77 i0 _ 3 40 Try.underlying72 hi00 hz0 hz1 hz2 rfl (by decide) (.slice (some ⟨ga, 0, none⟩) la capa) la XA (by simp [Act.eval]) (HRd.out _ HY1d.out).2.2.2.1 ⟨gb, 0, none⟩ lb' capb XB (by simp [Act.eval]) HL.out.2.1 (HRd.out _ HY1d.out).2.2.2.2.1 HL.out.2.2 hlb (by unfold maxLen; omega) (by omega) (Nat.zero_le _) _ rfl ?_; intro g3 cap3 w2 q1 q2 q3 q4; obtain ⟨r1, r2⟩ := (HRd.out _ HY1d.out).2.2.2.2.2 w2 q2)
  all_goals
    have HY3 : Hid (Par w F0 (w2.setCell ⟨a.h.p, 1, none⟩ (.slice (some ⟨g3, 0, none⟩) (la + lb') cap3)) h (n + 1) S (A ++ En.nd (Hd.mk a.h.p (.slice (some ⟨g3, 0, none⟩) (la + lb') cap3) true) (a.l ++ b.l) :: B)) := HAp.out _ w2 g3 cap3 HY1d.out q1 q2 q3
    refine then_at (w2.setCell ⟨a.h.p, 1, none⟩ (.slice (some ⟨g3, 0, none⟩) (la + lb') cap3)) rfl ?_
    have l3 : (w2.setCell ⟨a.h.p, 1, none⟩ (.slice (some ⟨g3, 0, none⟩) (la + lb') cap3)).cell? ⟨a.h.p, 1, none⟩ = some (.slice (some ⟨g3, 0, none⟩) (la + lb') cap3) := (HY3.out.lies (En.nd (Hd.mk a.h.p (.slice (some ⟨g3, 0, none⟩) (la + lb') cap3) true) (a.l ++ b.l)) (by simp)).1.row.cell (i := 1) rfl
    have l4 := HSlot.out _ _ HY3.out
    generalize w2.setCell ⟨a.h.p, 1, none⟩ (.slice (some ⟨g3, 0, none⟩) (la + lb') cap3) = W3 at *
    clear q1 q2 q3 q4 r1 r2 d1 d2 d3
    go_wp2_with (go_at_call 64; refine (HDc.out W3 _ HY3.out).mono ?_; rintro e w4 ⟨a4, m4, cap4, rfl, z4, r1, r2⟩; have HQ4 : Hid (Slots w4 _ _ ∧ _ ∧ Kept _ W3 w4) := z4; clear z4)
    go_end0
    exact ⟨rfl, HF.out W3 _ g3 cap3 _ HY3.out ((HDl.out W3 _ HY3.out).fin W3 _ w4 (Below.refl _ _) HQ4.out.1 HQ4.out.2.1 HQ4.out.2.2)⟩
end Go.Proofs.Ytlfgeanafidopaa.Bt
