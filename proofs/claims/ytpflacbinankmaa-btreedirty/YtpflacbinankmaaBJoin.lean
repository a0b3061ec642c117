/-
  Two kids of a node become one, or share evenly: what lies where.
-/
import Derived.Test.YtpflacbinankmaaBRem
namespace Go.Proofs.Ytpflacbinankmaa.Bt
open Go.RowKit
set_option maxRecDepth 10000

/-- A node's slots with those of another behind them. -/
theorem appFin {W w1 : World} {h : Hd} {lv : Nat} {l l2 : List Sl} {g cap : Nat} (hA : At W h lv l) (q1 : w1.ownsRow 0 77 3 (.slice (some ⟨g, 0, none⟩) (l.length + l2.length) cap) (l.length + l2.length) (l.flatMap slv ++ l2.flatMap slv)) (q2 : W.grownBy w1 h.v.ownBlock) (q3 : h.v.ownBlock = some g ∨ g = W.heap.size) :
    Turned W h lv (l ++ l2) ⟨h.p, .slice (some ⟨g, 0, none⟩) (l.length + l2.length) cap, h.d⟩ (w1.setCell ⟨h.p, 1, none⟩ (.slice (some ⟨g, 0, none⟩) (l.length + l2.length) cap)) := by
  have hk : Kept (fun b => h.v.ownBlock = some b) W w1 := Kept.of_grown q2 fun k e => e
  have hr := hA.row.kept hk (fun e => hA.ne _ e rfl)
  have hS : Slots w1 (.slice (some ⟨g, 0, none⟩) (l.length + l2.length) cap) (l ++ l2) := by unfold Slots; rw [List.length_append, List.flatMap_append]; exact q1
  have hpg : h.p ≠ g := by
    obtain ⟨_, cs, hw⟩ := hS.lt g rfl
    exact hr.ne hw.row (by decide)
  refine ⟨⟨by simpa using hr.set (i := 1) (.slice (some ⟨g, 0, none⟩) (l.length + l2.length) cap) (by simp), ?_⟩, rfl, rfl, ?_, ?_⟩
  · exact hS.same fun g' hg' => Below.heap_setCell _ _ _ _ (fun e => by cases hg'; exact hpg e.symm)
  · intro b hb
    cases hb
    rcases q3 with e | e
    · exact .inl e
    · exact .inr (by show W.heap.size ≤ g; omega)
  · refine Kept.setCell (S := fun b => b ∈ h.blks) (p := ⟨h.p, 1, none⟩) ?_ (by simp [Hd.blks]) _
    exact hk.mono fun b e => by simp [Hd.blks, e]
/-- The right one's kids are the left one's from now on. -/
theorem Par.merge {n : Nat} {w : World} {F0 : List Nat} {W W' : World} {h : Hd} {lv : Nat} {sl : List Sl} {A B : List (En (n + 1))} {a b : En (n + 1)} {h' : Hd} (x : Par w F0 W h lv sl (A ++ a :: b :: B)) (g : Turned W a.h n ((a.l ++ b.l).map (slE n)) h' W') :
    Par w F0 W' h lv sl (A ++ En.nd h' (a.l ++ b.l) :: B) := by
  have hnd := x.nd
  have eall : h.blks ++ footL (A ++ a :: b :: B) = (h.blks ++ footL A) ++ a.h.blks ++ (footL a.l ++ (b.h.blks ++ (footL b.l ++ footL B))) := by
    rw [footL_append, footL_cons, footL_cons, foot_succ, foot_succ]; simp
  rw [eall] at hnd
  obtain ⟨m1, m2, m3⟩ := nodup_mid.1 hnd
  have hs := x.sub
  rw [eall] at hs
  simp only [List.mem_append] at hs m3
  have hal := x.lies a (by simp)
  have hbl := x.lies b (by simp)
  have hb' : ∀ q ∈ h'.blks, q ∈ a.h.blks ∨ W.heap.size ≤ q := by
    intro q hq
    rcases List.mem_cons.1 hq with e | e
    · rw [e, g.p]; exact .inl (by simp [Hd.blks])
    · rcases g.own q (by simpa using e) with z | z
      · exact .inl (by simp [Hd.blks, z])
      · exact .inr z
  have hl1 : ∀ q ∈ footL a.l, q < W.heap.size := fun q hq => by obtain ⟨e, he, hq⟩ := mem_footL.1 hq; exact (hal.2 e he).lt q hq
  have hl2 : ∀ q ∈ footL b.l, q < W.heap.size := fun q hq => by obtain ⟨e, he, hq⟩ := mem_footL.1 hq; exact (hbl.2 e he).lt q hq
  have hlA : ∀ q ∈ footL A, q < W.heap.size := fun q hq => by obtain ⟨e, he, hq⟩ := mem_footL.1 hq; exact (x.lies e (by simp [he])).lt q hq
  have hlB : ∀ q ∈ footL B, q < W.heap.size := fun q hq => by obtain ⟨e, he, hq⟩ := mem_footL.1 hq; exact (x.lies e (by simp [he])).lt q hq
  have keep : ∀ {m : Nat} {e : En m}, Lies W m e → (∀ q ∈ foot m e, (q ∈ h.blks ∨ q ∈ footL A) ∨ q ∈ footL a.l ∨ q ∈ b.h.blks ∨ q ∈ footL b.l ∨ q ∈ footL B) → Lies W' m e := fun he hq => he.kept g.kept fun q hm e2 => by
    rcases hq q hm with z | z
    · exact (m3 q e2).1 z
    · exact (m3 q e2).2 z
  refine ⟨x.at_.kept g.kept fun q hq e => (m3 q e).1 (.inl hq), fun e he => ?_, ?_, ?_, ?_⟩
  · simp only [List.mem_append, List.mem_cons] at he
    rcases he with he | rfl | he
    · exact keep (x.lies e (by simp [he])) fun q hq => .inl (.inr (mem_footL.2 ⟨e, he, hq⟩))
    · refine ⟨g.at_, fun y hy => ?_⟩
      rcases List.mem_append.1 hy with hy | hy
      · exact keep (hal.2 y hy) fun q hq => .inr (.inl (mem_footL.2 ⟨y, hy, hq⟩))
      · exact keep (hbl.2 y hy) fun q hq => .inr (.inr (.inr (.inl (mem_footL.2 ⟨y, hy, hq⟩))))
    · exact keep (x.lies e (by simp [he])) fun q hq => .inr (.inr (.inr (.inr (mem_footL.2 ⟨e, he, hq⟩))))
  · have e2 : h.blks ++ footL (A ++ En.nd h' (a.l ++ b.l) :: B) = (h.blks ++ footL A) ++ h'.blks ++ (footL a.l ++ (footL b.l ++ footL B)) := by
      rw [footL_append, footL_cons, foot_succ]; simp [footL_append]
    rw [e2]
    refine nodup_mid.2 ⟨?_, ?_, fun q hq => ?_⟩
    · unfold Hd.blks
      cases hv : h'.v.ownBlock with
      | none => simp
      | some b => simpa using fun e => g.at_.ne b hv e.symm
    · refine m2.sublist ?_
      exact List.Sublist.append (List.Sublist.refl _) (List.Sublist.append (List.Sublist.refl _) (List.sublist_append_right _ _))
    · simp only [List.mem_append]
      rcases hb' q hq with z | z
      · exact ⟨(m3 q z).1, fun y => (m3 q z).2 (by rcases y with y | y | y; exact .inl y; exact .inr (.inr (.inl y)); exact .inr (.inr (.inr y)))⟩
      · refine ⟨fun y => ?_, fun y => ?_⟩
        · rcases y with y | y
          · have := x.at_.lt q y; omega
          · have := hlA q y; omega
        · rcases y with y | y | y
          · have := hl1 q y; omega
          · have := hl2 q y; omega
          · have := hlB q y; omega
  · intro q hq
    have e2 : h.blks ++ footL (A ++ En.nd h' (a.l ++ b.l) :: B) = (h.blks ++ footL A) ++ h'.blks ++ (footL a.l ++ (footL b.l ++ footL B)) := by
      rw [footL_append, footL_cons, foot_succ]; simp [footL_append]
    rw [e2] at hq
    simp only [List.mem_append] at hq
    rcases hq with (hq | hq) | hq | hq | hq
    · exact hs q (.inl (.inl hq))
    · rcases hb' q hq with z | z
      · exact hs q (.inl (.inr z))
      · exact .inr (Nat.le_trans x.kept.size z)
    · exact hs q (.inr (.inl hq))
    · exact hs q (.inr (.inr (.inr (.inl hq))))
    · exact hs q (.inr (.inr (.inr (.inr hq))))
  · exact x.kept.comp g.kept fun q hq => hs q (.inl (.inr hq))
/-- A kid is marked. -/
theorem Par.markKid {n : Nat} {w : World} {F0 : List Nat} {W : World} {h : Hd} {lv : Nat} {sl : List Sl} {A B : List (En (n + 1))} {a : En (n + 1)} (x : Par w F0 W h lv sl (A ++ a :: B)) : ∀ W', W' = W.setCell ⟨a.h.p, 2, none⟩ (.bool true) → Par w F0 W' h lv sl (A ++ En.nd (Hd.mk a.h.p a.h.v true) a.l :: B) := by
  intro W' hW'
  have hal := x.lies a (by simp)
  have han := Par.fstN x
  have := (Par.start hal han).mark (.inl (by rw [foot_succ]; simp [Hd.blks])) W' hW'
  exact Par.kid x (Par.fin this rfl)
end Go.Proofs.Ytpflacbinankmaa.Bt
