/-
  remove, at whatever level.
  A tree's Put and Delete: what lies where.
-/
import Derived.Test.YtlfgeanafidopaaQO
import Derived.Test.YtlfgeanafidopaaQJ
import Derived.Test.YtlfgeanafidopaaQK
namespace Go.Proofs.Ytlfgeanafidopaa.Bt
open Go.RowKit

theorem remove_any {F : Nat} (hF : 4 ≤ F) (hF2 : F ≤ 64) (k : K) : ∀ n, Below2 F k n
  | 0, c, w, h, hn, hg, hl, _, hk => remove_leaf F k c w h hn hg (by omega) hk
  | n + 1, t, w, h, hn, hg, hl, h0, hk => by
    have h2 := h0 (by omega)
    obtain ⟨g, N, cap, A, B, c, x, hc⟩ := ctx_of hF2 h hn hl (by omega) k
    obtain ⟨o1, o2⟩ := located (hg.hd hF) hg.srt hc
    have hkc : k ∈ (flats (abs (n + 1) c).l).map Prod.fst := by
      rw [split_at hc, flats_append, flats_cons, flat_succ, mem_fst_append, mem_fst_append] at hk
      rcases hk with hk | hk | hk
      · exact absurd hk (not_left o1)
      · exact hk
      · exact absurd hk (not_right o2)
    have e : remove F k (n + 1) (abs (n + 2) t) = .nd true (takeIn F (place k (abs (n + 2) t).l) (abs (n + 2) t).l (remove F k n (abs (n + 1) c))) := by rw [remove, hc]
    rw [e]
    by_cases hC : F / 2 ≤ (remove F k n (abs (n + 1) c)).l.length
    · exact remove_keep F hF hF2 k (remove_any hF hF2 k n) w t _ g N cap A B c x hg rfl hkc _ rfl hC
    · exact remove_join F hF hF2 k (remove_any hF hF2 k n) w t _ g N cap A B c x hg rfl hkc _ rfl (by omega) (by rw [x.hN]; exact h2)
end Go.Proofs.Ytlfgeanafidopaa.Bt
namespace Go.Proofs.Ytlfgeanafidopaa.Bt
open Go.RowKit
set_option maxRecDepth 10000

theorem TrAt.tree {w : World} {p F : Nat} {x : Tre} {t : En (x.n + 1)} (h : TrAt w p F ((x.all.length : Nat) : Int) x t) : TreeAt w p F t := by
  have := h.row
  refine ⟨?_, h.lies, h.nd⟩
  rw [show flats (Bt.abs (x.n + 1) t).l = x.all by rw [h.abs]; rfl]
  exact this
theorem InvT.of {F : Nat} {x : Tre} {w : World} {p : Nat} {sz : Int} {t : En (x.n + 1)} (h : TrAt w p F sz x t) (hI : InvT F x) : Inv F x.n (abs (x.n + 1) t) := by rw [h.abs]; exact hI
theorem TrAt.later {w w' : World} {p F : Nat} {sz : Int} {x : Tre} {t : En (x.n + 1)} (h : TrAt w p F sz x t) (hb : Below w.heap.size w w') : TrAt w' p F sz x t := ⟨h.row.later hb, h.lies.later hb, h.nd, h.abs⟩
theorem TrAt.size {w : World} {p F : Nat} {sz : Int} {x : Tre} {t : En (x.n + 1)} (h : TrAt w p F sz x t) (sz' : Int) : TrAt (w.setCell ⟨p, 1, none⟩ (.int .i64 sz')) p F sz' x t := by
  have hk : Kept (fun b => b = p) w (w.setCell ⟨p, 1, none⟩ (.int .i64 sz')) := (Kept.refl (fun b => b = p) w).setCell (p := ⟨p, 1, none⟩) rfl _
  exact ⟨by simpa using h.row.set (i := 1) (.int .i64 sz') (by simp), h.lies.kept hk (fun b hb e => h.notIn (e ▸ hb)), h.nd, h.abs⟩
/-- The root has changed. -/
theorem TrAt.root {w w' : World} {p F : Nat} {sz : Int} {x : Tre} {t t' : En (x.n + 1)} (h : TrAt w p F sz x t) (g : Went w t t' w') (T' : El (x.n + 1)) (e : Bt.abs (x.n + 1) t' = T') : TrAt w' p F sz ⟨x.n, T'⟩ t' := by
  refine ⟨?_, g.lies, g.nd, e⟩
  have := h.row.kept g.kept (fun q => h.notIn q)
  rw [g.p]; exact this
theorem Chg.comp {w w1 w2 : World} {p F : Nat} {fs fs1 : List Nat} {sz : Int} {x : Tre} (k : Kept (fun b => b = p ∨ b ∈ fs) w w1) (hs : ∀ b ∈ fs1, b ∈ fs ∨ w.heap.size ≤ b) (h : Chg w1 p F fs1 sz x w2) : Chg w p F fs sz x w2 := by
  obtain ⟨⟨fs', h1, h2⟩, h3⟩ := h
  refine ⟨⟨fs', h1, fun b hb => ?_⟩, k.comp h3 fun b hb => ?_⟩
  · rcases h2 b hb with q | q
    · exact hs b q
    · exact .inr (Nat.le_trans k.size q)
  · rcases hb with q | q
    · exact .inl (.inl q)
    · rcases hs b q with z | z
      · exact .inl (.inr z)
      · exact .inr z
theorem grow_any {F : Nat} (hF : 4 ≤ F) (p : Nat) (sz : Int) (x : Tre) (t : En (x.n + 1)) (w : World) (h : TrAt w p F sz x t) (hl2 : x.T.l.length ≤ 100) (hn : x.n < 4611686018427387904) :
    Calls Try.prog 54 #[.pointer (some ⟨p, 0, none⟩)] w fun e w' => e = .returned (.tuple #[]) ∧ Chg w p F (foot (x.n + 1) t) sz (growT F x) w' := by
  obtain ⟨n, T⟩ := x
  by_cases hl : F < T.l.length
  · exact grow_yes p F sz n T t w h hF hl hl2 hn
  · have ex : growT F ⟨n, T⟩ = ⟨n, T⟩ := by unfold growT; rw [if_neg hl]
    rw [ex]
    refine (grow_no p F sz ⟨n, T⟩ t w h (by show T.l.length ≤ F; omega)).mono ?_
    rintro e w' ⟨rfl, hb⟩
    exact ⟨rfl, h.chg hb⟩
/-- The root's put and what grow makes of it. -/
structure PutW (F : Nat) (k v : K) (w : World) (p : Nat) (sz : Int) (x : Tre) (fs : List Nat) (W : World) (rp : Nat) : Prop where
  cells : W.cell? ⟨p, 0, none⟩ = some (.int .i64 (F : Nat)) ∧ W.cell? ⟨p, 2, none⟩ = some (.pointer (some ⟨rp, 0, none⟩))
  put : ∀ X, Below W.heap.size W X → Calls Try.prog 53 #[.pointer (some ⟨rp, 0, none⟩), .agg #[.string k, .string v, .pointer none], .int .i64 (F : Nat)] X fun e W3 => e = .returned (.tuple #[]) ∧ (W3.cell? ⟨p, 0, none⟩ = some (.int .i64 (F : Nat)) ∧ ∃ r, W3.cell? ⟨p, 2, none⟩ = some (.pointer (some ⟨rp, 0, none⟩)) ∧ r = rp) ∧
    (Calls Try.prog 54 #[.pointer (some ⟨p, 0, none⟩)] W3 fun e W4 => e = .returned (.tuple #[]) ∧ Chg w p F fs sz (putT F k v x) W4)
theorem putW {F : Nat} (hF : 4 ≤ F) (hF2 : F ≤ 64) (k v : K) {w W : World} {p : Nat} {sz : Int} {x : Tre} {t : En (x.n + 1)} (hI : InvT F x) (h : TrAt W p F sz x t) (kw : Kept (fun b => b = p ∨ b ∈ foot (x.n + 1) t) w W) (hlen : x.all.length < 2305843009213693952) : PutW F k v w p sz x (foot (x.n + 1) t) W t.h.p := by
  obtain ⟨n, T⟩ := x
  have hI' : Inv F n T := hI
  have hTe : abs (n + 1) t = T := h.abs
  have hTl : T.l.length = t.l.length := by rw [← hTe, abs_l, List.length_map]
  obtain ⟨c0, _, c2, _⟩ := h.cells
  refine ⟨⟨c0, c2⟩, fun X hb => ?_⟩
  have hX := h.later hb
  have := put_any hF hF2 k v n t X hX.lies hX.nd (by rw [hTe]; exact hI'.good) (by rw [← hTl]; exact hI'.le) (fun hn => by have := hI'.two hn; omega)
  refine this.mono ?_
  rintro e W3 ⟨rfl, t', g, ea⟩
  have h3 := hX.root g _ ea
  obtain ⟨c30, _, c32, _⟩ := h3.cells
  rw [g.p] at c32
  refine ⟨rfl, ⟨c30, _, c32, rfl⟩, ?_⟩
  have ho := put_ok hF k v n T hI'.good hI'.le (fun hn => by have := hI'.two hn; omega)
  have hlv := inv_level hF hI'
  have hle : (put F k v n (abs (n + 1) t)).l.length ≤ 100 := by rw [hTe]; have := ho.2.2.2.1; have := hI'.le; omega
  replace h3 : TrAt W3 p F sz ⟨n, put F k v n (abs (n + 1) t)⟩ t' := h3
  refine (grow_any hF p sz ⟨n, put F k v n (abs (n + 1) t)⟩ t' W3 h3 hle (by show n < _; have hlen : (flats T.l).length < _ := hlen; omega)).mono ?_
  rintro e W4 ⟨rfl, hc⟩
  refine ⟨rfl, Chg.comp ?_ ?_ (by show Chg W3 p F (foot (n + 1) t') sz (growT F ⟨n, put F k v n T⟩) W4; rw [← hTe]; exact hc)⟩
  · exact (kw.later hb).comp g.kept fun b hb => .inl (.inr hb)
  · intro b hb'
    rcases g.sub b hb' with q | q
    · exact .inl q
    · exact .inr (by have := kw.size; have := hb.size; omega)
/-- The root's remove and what fall makes of it. -/
structure DelW (F : Nat) (k : K) (w : World) (p : Nat) (sz : Int) (x : Tre) (fs : List Nat) (W : World) (rp : Nat) : Prop where
  cells : W.cell? ⟨p, 0, none⟩ = some (.int .i64 (F : Nat)) ∧ W.cell? ⟨p, 2, none⟩ = some (.pointer (some ⟨rp, 0, none⟩))
  rem : ∀ X, Below W.heap.size W X → Calls Try.prog 49 #[.pointer (some ⟨rp, 0, none⟩), .string k, .int .i64 (F : Nat)] X fun e W3 => e = .returned (.tuple #[]) ∧ (W3.cell? ⟨p, 0, none⟩ = some (.int .i64 (F : Nat)) ∧ ∃ r, W3.cell? ⟨p, 2, none⟩ = some (.pointer (some ⟨rp, 0, none⟩)) ∧ r = rp) ∧
    (Calls Try.prog 50 #[.pointer (some ⟨p, 0, none⟩)] W3 fun e W4 => e = .returned (.tuple #[]) ∧ Chg w p F fs sz (delT F k x) W4)
theorem delW {F : Nat} (hF : 4 ≤ F) (hF2 : F ≤ 64) (k : K) {w W : World} {p : Nat} {sz : Int} {x : Tre} {t : En (x.n + 1)} (hI : InvT F x) (h : TrAt W p F sz x t) (kw : Kept (fun b => b = p ∨ b ∈ foot (x.n + 1) t) w W) (hk : k ∈ x.all.map Prod.fst) : DelW F k w p sz x (foot (x.n + 1) t) W t.h.p := by
  obtain ⟨n, T⟩ := x
  have hI' : Inv F n T := hI
  have hTe : abs (n + 1) t = T := h.abs
  have hTl : T.l.length = t.l.length := by rw [← hTe, abs_l, List.length_map]
  obtain ⟨c0, _, c2, _⟩ := h.cells
  refine ⟨⟨c0, c2⟩, fun X hb => ?_⟩
  have hX := h.later hb
  have := remove_any hF hF2 k n t X hX.lies hX.nd (by rw [hTe]; exact hI'.good) (by rw [← hTl]; exact hI'.le) (fun hn => by have := hI'.two hn; omega) (by rw [hTe]; exact hk)
  refine this.mono ?_
  rintro e W3 ⟨rfl, t', g, ea⟩
  have h3 := hX.root g _ ea
  obtain ⟨c30, _, c32, _⟩ := h3.cells
  rw [g.p] at c32
  refine ⟨rfl, ⟨c30, _, c32, rfl⟩, ?_⟩
  replace h3 : TrAt W3 p F sz ⟨n, remove F k n (abs (n + 1) t)⟩ t' := h3
  refine (fall_any p F sz ⟨n, remove F k n (abs (n + 1) t)⟩ t' W3 h3).mono ?_
  rintro e W4 ⟨rfl, hc⟩
  refine ⟨rfl, Chg.comp ?_ ?_ (by show Chg W3 p F (foot (n + 1) t') sz (fallT ⟨n, remove F k n T⟩) W4; rw [← hTe]; exact hc)⟩
  · exact (kw.later hb).comp g.kept fun b hb => .inl (.inr hb)
  · intro b hb'
    rcases g.sub b hb' with q | q
    · exact .inl q
    · exact .inr (by have := kw.size; have := hb.size; omega)
end Go.Proofs.Ytlfgeanafidopaa.Bt
