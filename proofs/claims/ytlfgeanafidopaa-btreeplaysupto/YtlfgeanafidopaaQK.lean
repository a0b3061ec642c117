/-
  A tree's grow and fall.
  A tree's fall.
-/
import Derived.Test.YtlfgeanafidopaaQJ
namespace Go.Proofs.Ytlfgeanafidopaa.Bt
open Go.RowKit
set_option maxRecDepth 10000

/-- A tree's box and nodes; its size is whatever is told. -/
structure TrAt (w : World) (p F : Nat) (sz : Int) (x : Tre) (t : En (x.n + 1)) : Prop where
  row : Row w p [.int .i64 (F : Nat), .int .i64 sz, .pointer (some ⟨t.h.p, 0, none⟩)] 67
  lies : Lies w (x.n + 1) t
  nd : (foot (x.n + 1) t).Nodup
  abs : abs (x.n + 1) t = x.T
/-- .. with its blocks. -/
def Tr (w : World) (p F : Nat) (sz : Int) (x : Tre) (fs : List Nat) : Prop := ∃ t, TrAt w p F sz x t ∧ foot (x.n + 1) t = fs
/-- What a call that changes a tree leaves. -/
structure Chg (w : World) (p F : Nat) (fs : List Nat) (sz : Int) (x' : Tre) (w' : World) : Prop where
  tr : ∃ fs', Tr w' p F sz x' fs' ∧ ∀ b ∈ fs', b ∈ fs ∨ w.heap.size ≤ b
  kept : Kept (fun b => b = p ∨ b ∈ fs) w w'
theorem Tr.later {w w' : World} {p F : Nat} {sz : Int} {x : Tre} {fs : List Nat} (h : Tr w p F sz x fs) (hb : Below w.heap.size w w') : Tr w' p F sz x fs := by
  obtain ⟨t, h, e⟩ := h; exact ⟨t, ⟨h.row.later hb, h.lies.later hb, h.nd, h.abs⟩, e⟩
theorem TrAt.notIn {w : World} {p F : Nat} {sz : Int} {x : Tre} {t : En (x.n + 1)} (h : TrAt w p F sz x t) : p ∉ foot (x.n + 1) t := h.row.notFoot (by decide) (by decide) h.lies
/-- The new root. -/
theorem grow_fin {w : World} {n : Nat} {t : En (n + 1)} (p F : Nat) (sz : Int) (hlt : p < w.heap.size) (hp : p ∉ foot (n + 1) t) {W1 W2 : World} {h1 hr : Hd} (hL : Lies w (n + 1) t) (hn : (foot (n + 1) t).Nodup) (g : Parted w t.h n (t.l.map (slE n)) W1 h1 hr) (hb : Below W1.heap.size W1 W2) (hrow : Row w p [.int .i64 (F : Nat), .int .i64 sz, .pointer (some ⟨t.h.p, 0, none⟩)] 67) :
    ∀ W4 r, W4 = ((W2.alloc (.cells #[.string (ek (n + 1) (halfL (abs (n + 1) t))), .string ⟨#[]⟩, .pointer (some ⟨h1.p, 0, none⟩), .string (ek (n + 1) (halfR (abs (n + 1) t))), .string ⟨#[]⟩, .pointer (some ⟨hr.p, 0, none⟩)] 77)).alloc (.cells #[.int .i64 (((n + 1 : Nat)) : Int), .slice (some ⟨W2.heap.size, 0, none⟩) 2 2, .bool true] 74)).setCell ⟨p, 2, none⟩ (.pointer (some ⟨r, 0, none⟩)) → r = W2.heap.size + 1 →
      Chg w p F (foot (n + 1) t) sz ⟨n + 1, .nd true [halfL (abs (n + 1) t), halfR (abs (n + 1) t)]⟩ W4 := by
  rintro W4 r rfl rfl
  obtain ⟨W3, hW3⟩ : ∃ W3, W3 = W2.alloc (.cells #[.string (ek (n + 1) (halfL (abs (n + 1) t))), .string ⟨#[]⟩, .pointer (some ⟨h1.p, 0, none⟩), .string (ek (n + 1) (halfR (abs (n + 1) t))), .string ⟨#[]⟩, .pointer (some ⟨hr.p, 0, none⟩)] 77) := ⟨_, rfl⟩
  rw [← hW3]
  have hz3 : W3.heap.size = W2.heap.size + 1 := by rw [hW3]; simp
  -- the two halves, as kids of a node that is not yet there
  have y : Par w (foot (n + 1) t) w t.h n (t.l.map (slE n)) t.l := Par.start hL hn
  obtain ⟨c1, hc1⟩ : ∃ c1, c1 = En.nd h1 (t.l.take (t.l.length / 2)) := ⟨_, rfl⟩
  obtain ⟨cr, hcr⟩ : ∃ cr, cr = En.nd hr (t.l.drop (t.l.length / 2)) := ⟨_, rfl⟩
  have gl := g.left
  have gr := g.right
  rw [List.length_map, ← List.map_take] at gl
  rw [List.length_map, ← List.map_drop] at gr
  obtain ⟨k1, k2, k3⟩ := List.nodup_append.1 (by rw [foot_succ] at hn; exact hn)
  have e1 : h1.blks = t.h.blks := by unfold Hd.blks; rw [g.p, g.own]
  have hkid : ∀ e ∈ t.l, Lies W1 n e := fun e he => (hL.2 e he).kept g.kept fun b hb e2 => k3 b e2 b (mem_footL.2 ⟨e, he, hb⟩) rfl
  have l1 : Lies W1 (n + 1) c1 := by rw [hc1]; exact ⟨gl, fun e he => hkid e (List.mem_of_mem_take he)⟩
  have l2 : Lies W1 (n + 1) cr := by rw [hcr]; exact ⟨gr, fun e he => hkid e (List.mem_of_mem_drop he)⟩
  have hb3 : Below W1.heap.size W1 W3 := by rw [hW3]; exact bafter hb (below_new W2 _)
  have a1 : abs (n + 1) c1 = halfL (abs (n + 1) t) := by rw [hc1]; show El.nd h1.d _ = El.nd _ _; rw [g.d, En.l_nd, List.map_take, abs_l, List.length_map]; rfl
  have a2 : abs (n + 1) cr = halfR (abs (n + 1) t) := by rw [hcr]; show El.nd hr.d _ = El.nd _ _; rw [g.rd, En.l_nd, List.map_drop, abs_l, List.length_map]
  have s1 : slE (n + 1) c1 = ⟨ek (n + 1) (halfL (abs (n + 1) t)), ⟨#[]⟩, some h1.p⟩ := by show Sl.mk (ek (n + 1) (abs (n + 1) c1)) _ (some c1.h.p) = _; rw [a1, hc1]; rfl
  have s2 : slE (n + 1) cr = ⟨ek (n + 1) (halfR (abs (n + 1) t)), ⟨#[]⟩, some hr.p⟩ := by show Sl.mk (ek (n + 1) (abs (n + 1) cr)) _ (some cr.h.p) = _; rw [a2, hcr]; rfl
  obtain ⟨h4, hh4⟩ : ∃ h4, h4 = Hd.mk (W2.heap.size + 1) (.slice (some ⟨W2.heap.size, 0, none⟩) 2 2) true := ⟨_, rfl⟩
  have hS3 : Slots W3 (.slice (some ⟨W2.heap.size, 0, none⟩) 2 2) [slE (n + 1) c1, slE (n + 1) cr] := by
    have hw : Whole W3 W2.heap.size ([slE (n + 1) c1, slE (n + 1) cr].flatMap slv) 77 := by rw [hW3, s1, s2]; exact Whole.new W2 _ _
    exact Slots.of (l := [slE (n + 1) c1, slE (n + 1) cr]) (cap := 2) hw (Nat.le_refl _) (by decide) (by rw [flat_len slv 3 slv_len]; rfl) (List.take_of_length_le (by rw [flat_len slv 3 slv_len]; exact Nat.le_refl _))
  have hR4 : Row (W3.alloc (.cells #[.int .i64 (((n + 1 : Nat)) : Int), .slice (some ⟨W2.heap.size, 0, none⟩) 2 2, .bool true] 74)) (W2.heap.size + 1) [.int .i64 (((n + 1 : Nat)) : Int), .slice (some ⟨W2.heap.size, 0, none⟩) 2 2, .bool true] 74 := by rw [← hz3]; exact Row.new W3 _ _
  have hb4 : Below W3.heap.size W3 (W3.alloc (.cells #[.int .i64 (((n + 1 : Nat)) : Int), .slice (some ⟨W2.heap.size, 0, none⟩) 2 2, .bool true] 74)) := below_new W3 _
  generalize W3.alloc (.cells #[.int .i64 (((n + 1 : Nat)) : Int), .slice (some ⟨W2.heap.size, 0, none⟩) 2 2, .bool true] 74) = W4 at *
  have hwW1 : w.heap.size ≤ W1.heap.size := g.kept.size
  have hW12 : W1.heap.size ≤ W2.heap.size := hb.size
  have hkp : Kept (fun b => b = p) W4 (W4.setCell ⟨p, 2, none⟩ (.pointer (some ⟨W2.heap.size + 1, 0, none⟩))) := (Kept.refl (fun b => b = p) W4).setCell (p := ⟨p, 2, none⟩) rfl _
  have hf1 : ∀ b ∈ foot (n + 1) c1, b ∈ foot (n + 1) t := fun b hb => by
    rw [hc1, foot_succ, En.h_nd, En.l_nd, e1, List.mem_append] at hb
    rw [foot_succ, List.mem_append]
    rcases hb with q | q
    · exact .inl q
    · obtain ⟨e, he, q⟩ := mem_footL.1 q
      exact .inr (mem_footL.2 ⟨e, List.mem_of_mem_take he, q⟩)
  have hf2 : ∀ b ∈ foot (n + 1) cr, b ∈ foot (n + 1) t ∨ w.heap.size ≤ b := fun b hb => by
    rw [hcr, foot_succ, En.h_nd, En.l_nd, List.mem_append] at hb
    rcases hb with q | q
    · exact .inr (g.new b q)
    · obtain ⟨e, he, q⟩ := mem_footL.1 q
      exact .inl (by rw [foot_succ, List.mem_append]; exact .inr (mem_footL.2 ⟨e, List.mem_of_mem_drop he, q⟩))
  have hf3 : ∀ b ∈ foot (n + 1) cr, b ≠ p := fun b hb e => by
    rcases hf2 b hb with q | q
    · exact hp (e ▸ q)
    · omega
  have hpw1 : Row W4 p [.int .i64 (F : Nat), .int .i64 sz, .pointer (some ⟨t.h.p, 0, none⟩)] 67 := ((hrow.kept g.kept (fun e => hp (by rw [foot_succ, List.mem_append]; exact .inl e))).later hb3).later hb4
  have hndc : (foot (n + 1) c1 ++ foot (n + 1) cr).Nodup := by
    have efl : footL t.l = footL (t.l.take (t.l.length / 2)) ++ footL (t.l.drop (t.l.length / 2)) := by rw [← footL_append, List.take_append_drop]
    have hrn : hr.blks.Nodup := by
      unfold Hd.blks
      cases hv : hr.v.ownBlock with
      | none => simp
      | some b => simpa using fun e => gr.ne b hv e.symm
    rw [hc1, hcr, foot_succ, foot_succ, En.h_nd, En.h_nd, En.l_nd, En.l_nd, e1, ← List.append_assoc]
    refine nodup_mid.2 ⟨hrn, ?_, fun b hb => ?_⟩
    · rw [foot_succ, efl] at hn; simpa using hn
    · have hbn := g.new b hb
      have hall : ∀ b' ∈ foot (n + 1) t, b' < w.heap.size := hL.lt
      rw [foot_succ, efl] at hall
      simp only [List.mem_append] at hall ⊢
      refine ⟨fun q => ?_, fun q => ?_⟩
      · have := hall b (by rcases q with q | q; exact .inl q; exact .inr (.inl q)); omega
      · have := hall b (.inr (.inr q)); omega
  have ho4 : h4.v.ownBlock = some W2.heap.size := by rw [hh4]; rfl
  have hltc : ∀ b, b ∈ foot (n + 1) c1 ∨ b ∈ foot (n + 1) cr → b < W1.heap.size := fun b hb => by rcases hb with q | q; exact l1.lt b q; exact l2.lt b q
  refine ⟨⟨_, ⟨En.nd h4 [c1, cr], ⟨?_, ?_, ?_, ?_⟩, rfl⟩, ?_⟩, ?_⟩
  · have := hpw1.set (i := 2) (.pointer (some ⟨W2.heap.size + 1, 0, none⟩)) (by simp)
    rw [En.h_nd, hh4]; simpa using this
  · refine ⟨⟨?_, ?_⟩, fun e he => ?_⟩
    · rw [En.h_nd, hh4]; exact hR4.kept hkp (fun e => by have e : W2.heap.size + 1 = p := e; omega)
    · rw [En.h_nd, hh4, En.l_nd]
      exact (hS3.later hb4).kept hkp (fun b hb e => by cases hb; have e : W2.heap.size = p := e; omega)
    · have he : e ∈ [c1, cr] := he
      simp only [List.mem_cons, List.not_mem_nil, or_false] at he
      rcases he with rfl | rfl
      · exact ((l1.later hb3).later hb4).kept hkp (fun b hb e2 => hp (e2 ▸ hf1 b hb))
      · exact ((l2.later hb3).later hb4).kept hkp (fun b hb e2 => hf3 b hb e2)
  · show (foot (n + 2) (En.nd h4 [c1, cr])).Nodup
    rw [foot_succ, En.h_nd, En.l_nd, footL_cons, footL_cons]
    show (h4.blks ++ (foot (n + 1) c1 ++ (foot (n + 1) cr ++ []))).Nodup
    rw [List.append_nil]
    refine List.nodup_append.2 ⟨?_, hndc, fun a ha b hb e => ?_⟩
    · unfold Hd.blks; rw [ho4, hh4]; simp
    · have : b < W1.heap.size := hltc b (by simpa using hb)
      unfold Hd.blks at ha
      rw [ho4, hh4] at ha
      simp at ha
      rcases ha with q | q <;> omega
  · show El.nd h4.d ([c1, cr].map (abs (n + 1))) = _
    rw [hh4, List.map_cons, List.map_cons, a1, a2]; rfl
  · intro b hb
    have hb : b ∈ foot (n + 2) (En.nd h4 [c1, cr]) := hb
    rw [foot_succ, En.h_nd, En.l_nd, footL_cons, footL_cons] at hb
    simp only [List.mem_append] at hb
    rcases hb with q | q | q | q
    · unfold Hd.blks at q; rw [ho4, hh4] at q; simp at q; exact .inr (by omega)
    · exact .inl (hf1 b q)
    · exact hf2 b q
    · simp [footL] at q
  · refine Kept.setCell (S := fun b => b = p ∨ b ∈ foot (n + 1) t) (p := ⟨p, 2, none⟩) ?_ (.inl rfl) _
    exact ((g.kept.mono (fun b e => .inr (by rw [foot_succ, List.mem_append]; exact .inl e))).later hb3).later hb4
set_option maxHeartbeats 2000000 in
theorem grow_no (p F : Nat) (sz : Int) (x : Tre) (t : En (x.n + 1)) (w : World) (h : TrAt w p F sz x t) (hl : x.T.l.length ≤ F) :
    Calls Try.prog 54 #[.pointer (some ⟨p, 0, none⟩)] w fun e w' => e = .returned (.tuple #[]) ∧ Below w.heap.size w w' := by
  have c0 : w.cell? ⟨p, 0, none⟩ = some (.int .i64 (F : Nat)) := h.row.cell (i := 0) rfl
  have c2 : w.cell? ⟨p, 2, none⟩ = some (.pointer (some ⟨t.h.p, 0, none⟩)) := h.row.cell (i := 2) rfl
  obtain ⟨a, cap, hv, _⟩ := h.lies.1.own.slice
  have d1 : w.cell? ⟨t.h.p, 1, none⟩ = some (.slice a t.l.length cap) := by rw [List.length_map] at hv; rw [← hv]; exact h.lies.1.row.cell (i := 1) rfl
  have hl : ((t.l.length : Nat) : Int) ≤ (F : Int) := by rw [← h.abs, abs_l, List.length_map] at hl; omega
  generalize t.l.length = N at *
  clear h hv
  go_enter Try.func54, Try.ntmps54
  go_wp2
  go_quiet (fail)
  go_wp2
  refine bodyPost_ret (results_none rfl _ _ _) rfl ?_
  exact ⟨rfl, below_drawn w _⟩
set_option maxHeartbeats 8000000 in
theorem grow_yes (p F : Nat) (sz : Int) (n : Nat) (T : El (n + 1)) (t : En (n + 1)) (w : World) (h : TrAt w p F sz ⟨n, T⟩ t) (hF : 4 ≤ F) (hl : F < T.l.length) (hl2 : T.l.length ≤ 100) (hn : n < 4611686018427387904) :
    Calls Try.prog 54 #[.pointer (some ⟨p, 0, none⟩)] w fun e w' => e = .returned (.tuple #[]) ∧ Chg w p F (foot (n + 1) t) sz (growT F ⟨n, T⟩) w' := by
  have hTl : T.l.length = t.l.length := by have := h.abs; rw [show T = abs (n + 1) t from this.symm, abs_l, List.length_map]
  have hT : abs (n + 1) t = T := h.abs
  replace hl : F < t.l.length := by rw [← hTl]; exact hl
  replace hl2 : t.l.length ≤ 100 := by rw [← hTl]; exact hl2
  have ex : growT F ⟨n, T⟩ = ⟨n + 1, .nd true [halfL (abs (n + 1) t), halfR (abs (n + 1) t)]⟩ := by unfold growT; rw [if_pos (by show F < T.l.length; omega), hT]
  rw [ex]
  have hp := h.notIn
  have hlt := h.row.lt
  have hpt : ∀ q, Calls Try.prog 69 #[.pointer (some ⟨t.h.p, 0, none⟩)] (w.drewN q) fun e w' => ∃ h1 hr, e = .returned (.pointer (some ⟨hr.p, 0, none⟩)) ∧ Parted w t.h n (t.l.map (slE n)) w' h1 hr := fun q => by
    refine (part_any t.h n _ (w.drewN q) (h.lies.later (below_drawn w q)).1 (by rw [List.length_map]; omega) (by rw [List.length_map]; omega)).mono ?_
    rintro e w' ⟨h1, hr, rfl, g⟩
    exact ⟨h1, hr, rfl, g.left, g.right, g.p, g.d, g.own, g.rd, g.new, ⟨g.kept.os, g.kept.tape, g.kept.output, g.kept.size, g.kept.block⟩⟩
  have HPt : Hid (∀ q, Calls Try.prog 69 #[.pointer (some ⟨t.h.p, 0, none⟩)] (w.drewN q) fun e w' => ∃ h1 hr, e = .returned (.pointer (some ⟨hr.p, 0, none⟩)) ∧ Parted w t.h n (t.l.map (slE n)) w' h1 hr) := hpt
  have HC : Hid (∀ W1 h1 hr, Parted w t.h n (t.l.map (slE n)) W1 h1 hr → ∀ X, Below W1.heap.size W1 X → X.cell? ⟨p, 2, none⟩ = some (.pointer (some ⟨t.h.p, 0, none⟩)) ∧ X.frozen? ⟨p, 2, none⟩ = false ∧ X.cell? ⟨t.h.p, 0, none⟩ = some (.int .i64 (n : Nat)) ∧ p ≠ t.h.p) := fun W1 h1 hr g X hb => by
    have hr1 := (h.row.kept g.kept (fun e => hp (by rw [foot_succ, List.mem_append]; exact .inl e))).later hb
    have hl1 := g.left.row.later hb
    rw [g.p] at hl1
    exact ⟨hr1.cell (i := 2) rfl, hr1.frozen 2, hl1.cell (i := 0) rfl, hr1.ne hl1 (by decide)⟩
  have HLd : Hid (∀ W1 h1 hr, Parted w t.h n (t.l.map (slE n)) W1 h1 hr → ∀ X, Below W1.heap.size W1 X → (Calls Try.prog 65 #[.pointer (some ⟨t.h.p, 0, none⟩)] X fun e w' => e = .returned (.agg #[.string (ek (n + 1) (halfL (abs (n + 1) t))), .string ⟨#[]⟩, .pointer (some ⟨t.h.p, 0, none⟩)]) ∧ Below W1.heap.size W1 w') ∧ (Calls Try.prog 65 #[.pointer (some ⟨hr.p, 0, none⟩)] X fun e w' => e = .returned (.agg #[.string (ek (n + 1) (halfR (abs (n + 1) t))), .string ⟨#[]⟩, .pointer (some ⟨hr.p, 0, none⟩)]) ∧ Below W1.heap.size W1 w')) := fun W1 h1 hr g X hb => by
    have gl := g.left
    have gr := g.right
    rw [List.length_map, ← List.map_take] at gl
    rw [List.length_map, ← List.map_drop] at gr
    constructor
    · refine (lead_kid (c := En.nd h1 (t.l.take (t.l.length / 2))) (gl.later hb) (C := halfL (abs (n + 1) t)) (by show El.nd h1.d _ = El.nd _ _; rw [g.d, En.l_nd, List.map_take, abs_l, List.length_map]; rfl) g.p (by show 0 < (El.nd _ ((abs (n + 1) t).l.take _)).l.length; rw [El.l_nd, List.length_take, abs_l, List.length_map]; omega)).mono ?_
      rintro e w' ⟨rfl, hb'⟩
      exact ⟨rfl, bafter hb hb'⟩
    · refine (lead_kid (c := En.nd hr (t.l.drop (t.l.length / 2))) (gr.later hb) (C := halfR (abs (n + 1) t)) (by show El.nd hr.d _ = El.nd _ _; rw [g.rd, En.l_nd, List.map_drop, abs_l, List.length_map]) rfl (by show 0 < (El.nd _ ((abs (n + 1) t).l.drop _)).l.length; rw [El.l_nd, List.length_drop, abs_l, List.length_map]; omega)).mono ?_
      rintro e w' ⟨rfl, hb'⟩
      exact ⟨rfl, bafter hb hb'⟩
  have HF : Hid (∀ W1 h1 hr W2 W4, Parted w t.h n (t.l.map (slE n)) W1 h1 hr → Below W1.heap.size W1 W2 → W4 = ((W2.alloc (.cells #[.string (ek (n + 1) (halfL (abs (n + 1) t))), .string ⟨#[]⟩, .pointer (some ⟨t.h.p, 0, none⟩), .string (ek (n + 1) (halfR (abs (n + 1) t))), .string ⟨#[]⟩, .pointer (some ⟨hr.p, 0, none⟩)] 77)).alloc (.cells #[.int .i64 ((n : Int) + 1), .slice (some ⟨W2.heap.size, 0, none⟩) 2 2, .bool true] 74)).setCell ⟨p, 2, none⟩ (.pointer (some ⟨W2.heap.size + 1, 0, none⟩)) → Chg w p F (foot (n + 1) t) sz ⟨n + 1, .nd true [halfL (abs (n + 1) t), halfR (abs (n + 1) t)]⟩ W4) := fun W1 h1 hr W2 W4 g hb e => by
    refine grow_fin p F sz hlt hp h.lies h.nd g hb h.row W4 _ ?_ rfl
    rw [e, g.p, show (((n + 1 : Nat)) : Int) = (n : Int) + 1 from by omega]
  have c0 : w.cell? ⟨p, 0, none⟩ = some (.int .i64 (F : Nat)) := h.row.cell (i := 0) rfl
  have c2 : w.cell? ⟨p, 2, none⟩ = some (.pointer (some ⟨t.h.p, 0, none⟩)) := h.row.cell (i := 2) rfl
  obtain ⟨a, cap, hv, _⟩ := h.lies.1.own.slice
  have d1 : w.cell? ⟨t.h.p, 1, none⟩ = some (.slice a t.l.length cap) := by rw [List.length_map] at hv; rw [← hv]; exact h.lies.1.row.cell (i := 1) rfl
  have hgt : (F : Int) < ((t.l.length : Nat) : Int) := by omega
  have hw1 : IntKind.i64.wrap ((n : Int) + 1) = (n : Int) + 1 := by rw [IntKind.wrap_i64]; have hn : n < 4611686018427387904 := hn; omega
  generalize t.l.length = N at *
  generalize hPq : Parted w t.h n (t.l.map (slE n)) = PQ at *
  generalize htp : t.h.p = tp at *
  generalize ek (n + 1) (halfL (abs (n + 1) t)) = kl at *
  generalize ek (n + 1) (halfR (abs (n + 1) t)) = kr at *
  clear h hv hT hTl ex hpt hl hl2 hp hPq htp
  go_enter Try.func54, Try.ntmps54
  go_wp2
  go_quiet (fail)
  go_wp2
  obtain ⟨Wq, hWq⟩ : ∃ Wq, Wq = w.drewN nq := ⟨_, rfl⟩
  have e2 : Wq.cell? ⟨p, 2, none⟩ = some (.pointer (some ⟨tp, 0, none⟩)) := by rw [hWq]; exact c2
  have HWq : Hid (Wq.drew = w.drewN (nq + 1)) := by rw [hWq]; rfl
  rw [← hWq]
  clear hWq c0 c2 d1
  go_region_held3 (fun w' => w'.cell? ⟨p, 2, none⟩ = some (.pointer (some ⟨tp, 0, none⟩))) (first | assumption | go_keep)
    (first
    | (go_at_call 69; rw [HWq.out]; refine (HPt.out _).mono ?_; rintro e W1 ⟨h1, hr, rfl, g⟩; obtain ⟨m1, m2, m3, m4⟩ := HC.out W1 h1 hr g W1 (Below.refl _ _); have HG : Hid (PQ W1 h1 hr) := g; clear g))
  all_goals go_wp2
  clear e2 HWq HPt
  go_region_held3 (fun w' => w'.cell? ⟨tp, 0, none⟩ = some (.int .i64 (n : Nat))) (first | assumption | go_keep)
    (first
    | (go_at_call_of 65 (Value.pointer (some ⟨tp, 0, none⟩)); refine ((HLd.out W1 h1 hr HG.out _ (by first | exact below_drawn W1 1 | exact HBb.out)).1).mono ?_; rintro e Wa ⟨rfl, hba⟩; obtain ⟨ma1, ma2, ma3, ma4⟩ := HC.out W1 h1 hr HG.out Wa hba; have na1 := fun o1 o2 => (HC.out W1 h1 hr HG.out ((Wa.alloc o1).alloc o2) (bafter (bafter hba (below_new Wa o1)) (below_new _ o2))).1; have na2 := fun o1 o2 => (HC.out W1 h1 hr HG.out ((Wa.alloc o1).alloc o2) (bafter (bafter hba (below_new Wa o1)) (below_new _ o2))).2.1; have HBa : Hid (Below W1.heap.size W1 Wa) := hba; clear hba)
    | (go_at_call_of 65 (Value.pointer (some ⟨hr.p, 0, none⟩)); refine ((HLd.out W1 h1 hr HG.out _ (by first | exact below_drawn W1 1 | exact HBa.out)).2).mono ?_; rintro e Wb ⟨rfl, hbb⟩; obtain ⟨mb1, mb2, mb3, mb4⟩ := HC.out W1 h1 hr HG.out Wb hbb; have nb1 := fun o1 o2 => (HC.out W1 h1 hr HG.out ((Wb.alloc o1).alloc o2) (bafter (bafter hbb (below_new Wb o1)) (below_new _ o2))).1; have nb2 := fun o1 o2 => (HC.out W1 h1 hr HG.out ((Wb.alloc o1).alloc o2) (bafter (bafter hbb (below_new Wb o1)) (below_new _ o2))).2.1; have HBb : Hid (Below W1.heap.size W1 Wb) := hbb; clear hbb))
  all_goals go_wp2
  all_goals go_end0
  all_goals first
    | exact ⟨rfl, HF.out W1 h1 hr Wb _ HG.out HBb.out rfl⟩
    | exact ⟨rfl, HF.out W1 h1 hr Wa _ HG.out HBa.out rfl⟩
end Go.Proofs.Ytlfgeanafidopaa.Bt
namespace Go.Proofs.Ytlfgeanafidopaa.Bt
open Go.RowKit
set_option maxRecDepth 10000

theorem TrAt.cells {w : World} {p F : Nat} {sz : Int} {x : Tre} {t : En (x.n + 1)} (h : TrAt w p F sz x t) : w.cell? ⟨p, 0, none⟩ = some (.int .i64 (F : Nat)) ∧ w.cell? ⟨p, 1, none⟩ = some (.int .i64 sz) ∧ w.cell? ⟨p, 2, none⟩ = some (.pointer (some ⟨t.h.p, 0, none⟩)) ∧ (∀ j, w.frozen? ⟨p, j, none⟩ = false) ∧ w.cell? ⟨t.h.p, 0, none⟩ = some (.int .i64 (x.n : Nat)) ∧ ∃ a cap, w.cell? ⟨t.h.p, 1, none⟩ = some (.slice a x.T.l.length cap) := by
  refine ⟨h.row.cell (i := 0) rfl, h.row.cell (i := 1) rfl, h.row.cell (i := 2) rfl, h.row.frozen, h.lies.1.row.cell (i := 0) rfl, ?_⟩
  obtain ⟨a, cap, hv, _⟩ := h.lies.1.own.slice
  refine ⟨a, cap, ?_⟩
  rw [← h.abs, abs_l, List.length_map]
  rw [List.length_map] at hv
  rw [← hv]
  exact h.lies.1.row.cell (i := 1) rfl
theorem TrAt.chg {w : World} {p F : Nat} {sz : Int} {x : Tre} {t : En (x.n + 1)} (h : TrAt w p F sz x t) {w' : World} (hb : Below w.heap.size w w') : Chg w p F (foot (x.n + 1) t) sz x w' :=
  ⟨⟨_, Tr.later ⟨t, h, rfl⟩ hb, fun _ hb => .inl hb⟩, Kept.of_below hb⟩
set_option maxHeartbeats 2000000 in
theorem fall_leaf (p F : Nat) (sz : Int) (T : El 1) (t : En 1) (w : World) (h : TrAt w p F sz ⟨0, T⟩ t) :
    Calls Try.prog 50 #[.pointer (some ⟨p, 0, none⟩)] w fun e w' => e = .returned (.tuple #[]) ∧ Chg w p F (foot 1 t) sz ⟨0, T⟩ w' := by
  obtain ⟨_, _, c2, _, d0, _⟩ := h.cells
  have d0 : w.cell? ⟨t.h.p, 0, none⟩ = some (.int .i64 0) := d0
  have HF : Hid (∀ w', Below w.heap.size w w' → Chg w p F (foot 1 t) sz ⟨0, T⟩ w') := fun w' hb => h.chg hb
  clear h
  go_enter Try.func50, Try.ntmps50
  go_wp2
  go_end0
  exact ⟨rfl, HF.out _ (Below.refl _ _)⟩
set_option maxHeartbeats 2000000 in
theorem fall_stay (p F : Nat) (sz : Int) (n : Nat) (T : El (n + 2)) (t : En (n + 2)) (w : World) (h : TrAt w p F sz ⟨n + 1, T⟩ t) (h1 : T.l.length ≠ 1) :
    Calls Try.prog 50 #[.pointer (some ⟨p, 0, none⟩)] w fun e w' => e = .returned (.tuple #[]) ∧ Chg w p F (foot (n + 2) t) sz ⟨n + 1, T⟩ w' := by
  obtain ⟨_, _, c2, _, d0, a, cap, d1⟩ := h.cells
  replace d0 : w.cell? ⟨t.h.p, 0, none⟩ = some (.int .i64 ((n + 1 : Nat) : Int)) := d0
  replace d1 : w.cell? ⟨t.h.p, 1, none⟩ = some (.slice a T.l.length cap) := d1
  have HF : Hid (∀ w', Below w.heap.size w w' → Chg w p F (foot (n + 2) t) sz ⟨n + 1, T⟩ w') := fun w' hb => h.chg hb
  have hl : (0 : Int) < ((n + 1 : Nat) : Int) := by omega
  have h1' : ¬ ((T.l.length : Nat) : Int) = 1 := by omega
  have h1'' : (((T.l.length : Nat) : Int) == 1) = false := by simpa using h1'
  generalize ((n + 1 : Nat) : Int) = lv at d0 hl
  generalize T.l.length = N at *
  clear h
  go_enter Try.func50, Try.ntmps50
  go_wp2
  go_end0
  exact ⟨rfl, HF.out _ (Below.refl _ _)⟩
set_option maxHeartbeats 2000000 in
theorem fall_down (p F : Nat) (sz : Int) (n : Nat) (T : El (n + 2)) (c : El (n + 1)) (t : En (n + 2)) (w : World) (h : TrAt w p F sz ⟨n + 1, T⟩ t) (h1 : T.l = [c]) :
    Calls Try.prog 50 #[.pointer (some ⟨p, 0, none⟩)] w fun e w' => e = .returned (.tuple #[]) ∧ Chg w p F (foot (n + 2) t) sz ⟨n, c⟩ w' := by
  obtain ⟨_, _, c2, cf, d0, a, cap, d1⟩ := h.cells
  replace d0 : w.cell? ⟨t.h.p, 0, none⟩ = some (.int .i64 ((n + 1 : Nat) : Int)) := d0
  replace d1 : w.cell? ⟨t.h.p, 1, none⟩ = some (.slice a T.l.length cap) := d1
  rw [h1] at d1
  have habs : abs (n + 2) t = T := h.abs
  obtain ⟨d, hd⟩ : ∃ d, t.l = [d] := by
    have : t.l.map (abs (n + 1)) = [c] := by rw [← abs_l, habs, h1]
    cases hl : t.l with
    | nil => rw [hl] at this; simp at this
    | cons d r => rw [hl] at this; simp at this; exact ⟨d, by rw [this.2]⟩
  have hdc : abs (n + 1) d = c := by
    have : t.l.map (abs (n + 1)) = [c] := by rw [← abs_l, habs, h1]
    rw [hd] at this; simpa using this
  have hp := h.notIn
  have hdf : ∀ b ∈ foot (n + 1) d, b ∈ foot (n + 2) t := fun b hb => by rw [foot_succ, hd, footL_cons]; simp [hb]
  have hsl : (t.l.map (slE (n + 1)))[0]? = some (slE (n + 1) d) := by rw [hd]; rfl
  obtain ⟨g, cap', hv, _, _, _, _, _, _, q2, _⟩ := h.lies.1.own.at hsl
  have e : a = some ⟨g, 0, none⟩ := by
    have := h.lies.1.row.cell (i := 1) rfl
    rw [hv] at this
    have d1 : w.cell? ⟨t.h.p, 1, none⟩ = some (.slice a 1 cap) := d1
    have := this.symm.trans d1
    simp at this; exact this.1.symm
  subst e
  rw [Nat.zero_mul] at q2
  have q2 : w.cell? ⟨g, 2, none⟩ = some (.pointer (some ⟨d.h.p, 0, none⟩)) := q2
  have fin : ∀ w', w' = w.setCell ⟨p, 2, none⟩ (.pointer (some ⟨d.h.p, 0, none⟩)) → Chg w p F (foot (n + 2) t) sz ⟨n, c⟩ w' := by
    rintro w' rfl
    have hk : Kept (fun b => b = p) w (w.setCell ⟨p, 2, none⟩ (.pointer (some ⟨d.h.p, 0, none⟩))) := (Kept.refl (fun b => b = p) w).setCell (p := ⟨p, 2, none⟩) rfl _
    refine ⟨⟨_, ⟨d, ⟨by simpa using h.row.set (i := 2) (.pointer (some ⟨d.h.p, 0, none⟩)) (by simp), (h.lies.2 d (by rw [hd]; simp)).kept hk (fun b hb e => hp (e ▸ hdf b hb)), ?_, hdc⟩, rfl⟩, fun b hb => .inl (hdf b hb)⟩, hk.mono fun b e => .inl e⟩
    have := h.nd
    rw [foot_succ, hd, footL_cons] at this
    exact (List.nodup_append.1 (List.nodup_append.1 this).2.1).1
  have HF : Hid (∀ w', w' = w.setCell ⟨p, 2, none⟩ (.pointer (some ⟨d.h.p, 0, none⟩)) → Chg w p F (foot (n + 2) t) sz ⟨n, c⟩ w') := fin
  have hl : (0 : Int) < ((n + 1 : Nat) : Int) := by omega
  generalize ((n + 1 : Nat) : Int) = lv at d0 hl
  have f2 := cf 2
  clear h fin hv hsl hd hdc habs h1 hp hdf cf
  go_enter Try.func50, Try.ntmps50
  go_wp2
  go_end0
  exact ⟨rfl, HF.out _ rfl⟩
theorem fall_any (p F : Nat) (sz : Int) (x : Tre) (t : En (x.n + 1)) (w : World) (h : TrAt w p F sz x t) :
    Calls Try.prog 50 #[.pointer (some ⟨p, 0, none⟩)] w fun e w' => e = .returned (.tuple #[]) ∧ Chg w p F (foot (x.n + 1) t) sz (fallT x) w' := by
  obtain ⟨n, T⟩ := x
  cases n with
  | zero => exact fall_leaf p F sz T t w h
  | succ n =>
    have ex : fallT ⟨n + 1, T⟩ = match T.l with | [c] => (⟨n, c⟩ : Tre) | _ => ⟨n + 1, T⟩ := rfl
    rw [ex]
    cases hT : T.l with
    | nil => exact fall_stay p F sz n T t w h (by rw [hT]; simp)
    | cons c r =>
      cases r with
      | nil => exact fall_down p F sz n T c t w h hT
      | cons c2 r => exact fall_stay p F sz n T t w h (by rw [hT]; simp)
end Go.Proofs.Ytlfgeanafidopaa.Bt
