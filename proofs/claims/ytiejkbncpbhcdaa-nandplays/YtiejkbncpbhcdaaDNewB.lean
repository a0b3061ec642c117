/-
  New of the document's chip.
-/
import Derived.Test.YtiejkbncpbhcdaaDNew
namespace Go.Proofs.Ytiejkbncpbhcdaa
open Go.RowKit

theorem d_new_no (b p z r : Int) (a : Option Addr) (m cap : Nat) (l : List Flt) (w : World) (hm : m = l.length) (hm63 : m ≤ 9223372036854775807) (hr : FRow w a l) (h : ¬ (rightB b p z r = true ∧ m ≤ 256 ∧ planOk l)) :
    Calls Try.prog 6 #[.agg #[.int .i64 b, .int .i64 p, .int .i64 z, .int .i64 r], .slice a m cap] w fun e w' => e = .returned (.tuple #[.pointer none, .int .i64 22]) ∧ Below w.heap.size w w' := by
  have kR := d_right b p z r
  have kP := fun W (hb : Below w.heap.size w W) => d_plan a m cap l W hm hm63 (frow_later hr hb)
  cases hR : rightB b p z r
  · rw [hR] at kR
    clear hm hr h hR
    go_enter Try.func6, Try.ntmps6
    go_wp2_with (go_at_call 8; refine (kR _).mono ?_; rintro e w1 ⟨rfl, hb1⟩; have HB1 : Hid (Below _ _ _) := hb1; clear hb1)
    go_ret2
    exact ⟨rfl, Below.after (below_new _ _) HB1.out⟩
  · rw [hR] at kR
    have hP : planB l = false := planB_no (fun q => h ⟨hR, by omega, q.2⟩)
    rw [hP] at kP
    clear hm hr h hR hP
    go_enter Try.func6, Try.ntmps6
    go_wp2_with (first
      | (go_at_call 8; refine (kR _).mono ?_; rintro e w1 ⟨rfl, hb1⟩; have HB1 : Hid (Below w.heap.size w w1) := Below.after (below_new _ _) hb1; clear hb1)
      | (go_at_call 18; refine (kP _ HB1.out).mono ?_; rintro e w2 ⟨rfl, hb2⟩; have HB2 : Hid (Below _ _ _) := hb2; clear hb2))
    go_ret2
    exact ⟨rfl, Below.after HB1.out HB2.out⟩

theorem elem_news (W : World) (R gp : Nat) : ∀ j u, (elemD R gp)[j]? = some u → (W.alloc (.cells (elemD R gp).toArray 64)).cell? ((⟨W.heap.size, 0, none⟩ : Addr).add j) = some u := by
  intro j u hj
  have e : (⟨W.heap.size, 0, none⟩ : Addr).add j = ⟨W.heap.size, j, none⟩ := by unfold Addr.add; split <;> simp_all
  rw [e]
  exact (Row.new W (elemD R gp) 64).cell hj
theorem elem_one (R gp : Nat) : ∀ u ∈ elemD R gp, u.oneCell' = true := by
  intro u hu
  simp [elemD] at hu
  rcases hu with rfl | rfl | rfl | rfl <;> rfl

def DNewPost (w : World) (gb gp gz gr : Nat) (a : Option Addr) (m cap : Nat) (l : List Flt) (e : Ending) (w' : World) : Prop :=
  ∃ (P q qc : Nat) (rs : List Nat), e = .returned (.tuple #[.pointer (some ⟨P, 0, none⟩), .int .i64 0]) ∧ rs.length = gb ∧ DLies w.heap.size w' ⟨P, q, qc, gb, gp, gz, gr, rs.map (freshD gp), false, a, m, cap, l, 0, 0, 0⟩ ∧ Below w.heap.size w w'

set_option maxHeartbeats 4000000 in
theorem d_new_go (gb gp gz gr : Nat) (a : Option Addr) (m cap : Nat) (l : List Flt) (w : World) (hm : m = l.length) (hr : FRow w a l) (h : m ≤ 256 ∧ planOk l) (hg : rightB gb gp gz gr = true) (g1 : 1 ≤ gb) (g2 : gb ≤ 256) (g3 : 1 ≤ gp) (g4 : gp ≤ 64) (g5 : 1 ≤ gz) (g6 : gz ≤ 512) :
    Calls Try.prog 6 #[.agg #[.int .i64 gb, .int .i64 gp, .int .i64 gz, .int .i64 gr], .slice a m cap] w fun e w' => DNewPost w gb gp gz gr a m cap l e w' := by
  have kR := d_right gb gp gz gr
  rw [hg] at kR
  have hm63 : m ≤ 9223372036854775807 := by omega
  have kP := fun W (hb : Below w.heap.size w W) => d_plan a m cap l W hm hm63 (frow_later hr hb)
  rw [planB_yes (by rw [← hm]; exact h)] at kP
  obtain ⟨RP, hRP, hmk⟩ := makeD gp g4
  have HRP : Hid (RP.toList = (List.replicate gp zeroP).flatMap dpCells) := hRP
  have HM : Hid (m = l.length) := hm
  have HR : Hid (FRow w a l) := hr
  have HY : Hid (m ≤ 256 ∧ planOk l) := h
  have hg0 := Row.new w [.int .i64 gb, .int .i64 gp, .int .i64 gz, .int .i64 gr] 23
  have HG0 : Hid (∀ W, Below (w.alloc (.cells #[.int .i64 gb, .int .i64 gp, .int .i64 gz, .int .i64 gr] 23)).heap.size (w.alloc (.cells #[.int .i64 gb, .int .i64 gp, .int .i64 gz, .int .i64 gr] 23)) W → Row W w.heap.size [.int .i64 gb, .int .i64 gp, .int .i64 gz, .int .i64 gr] 23) := fun W hb => hg0.later hb
  clear hm hr h hg hRP hg0
  go_enter Try.func6, Try.ntmps6
  go_wp2_with (first
    | (go_at_call 8; refine (kR _).mono ?_; rintro e w1 ⟨rfl, hb1⟩; have HB1 : Hid (Below w.heap.size w w1) := Below.after (below_new _ _) hb1; have HG1 : Hid (Below _ _ _) := hb1; clear hb1)
    | (go_at_call 18; refine (kP _ HB1.out).mono ?_; rintro e w2 ⟨rfl, hb2⟩; have HB2 : Hid (Below w.heap.size w w2) := Below.after HB1.out hb2; have hG2 := HG0.out w2 (Below.after HG1.out hb2); have HG2 : Hid (Row _ _ _ _) := hG2; have c0 := hG2.cell (i := 0) rfl; have c1 := hG2.cell (i := 1) rfl; have c2 := hG2.cell (i := 2) rfl; have c3 := hG2.cell (i := 3) rfl; have hGl := hG2.lt; clear hb2 hG2))
  obtain ⟨W0, hW0⟩ : ∃ W0, W0 = w2.alloc (Obj.cells #[.int .i64 gb, .int .i64 gp, .int .i64 gz, .int .i64 gr, .slice none 0 0, .bool false, .slice a m cap, .int .i64 0, .int .i64 0, .int .i64 0] 61) := ⟨_, rfl⟩
  have HM0 : Hid (MadeD w W0 gb gp gz gr w2.heap.size a m cap [] none 0) := by
    rw [hW0]
    exact ⟨Row.new w2 [_, _, _, _, _, _, _, _, _, _] _, World.ownsRow_nil _ _ _ _, fun r hr => by simp at hr, by simp, HB2.out.size, HG2.out.alloc _, Below.after HB2.out (below_new _ _)⟩
  rw [← hW0]
  obtain ⟨P, hP⟩ : ∃ P, P = w2.heap.size := ⟨_, rfl⟩
  rw [← hP] at HM0 ⊢
  clear hW0 hP c0 c1 c2 c3 hGl HG2 HB2 HB1 HG1 HG0 kP kR
  go_loopg [7] gb (fun gm s7 wr => ∃ (rs : List Nat) (ba : Option Addr) (bc : Nat), rs.length ≤ gb ∧ gm = gb - rs.length ∧ s7 = .int .i64 rs.length ∧ Hid (MadeD w wr gb gp gz gr P a m cap rs ba bc))
  case atStart => exact ⟨[], none, 0, Nat.zero_le _, rfl, rfl, HM0⟩
  case round =>
    obtain ⟨rs, ba, bc, hle, hgk, rfl, HI⟩ := hrel
    clear HM0
    obtain ⟨k, hk⟩ : ∃ k, k = rs.length := ⟨_, rfl⟩
    have HK : Hid (k = rs.length) := hk
    have c4 : wr.cell? ⟨P, 4, none⟩ = some (.slice ba k bc) := by rw [hk]; exact HI.out.chip.cell (i := 4) rfl
    have z4 := HI.out.chip.frozen 4
    have hPl := HI.out.chip.lt
    have d0 := HI.out.geo.cell (i := 0) rfl
    have d1 := HI.out.geo.cell (i := 1) rfl
    have hGl := HI.out.geo.lt
    have hsz := HI.out.bel.size
    rw [← hk] at hle hgk ⊢
    by_cases hlt : k < gb
    · have hI : (k : Int) < (gb : Int) := by omega
      have HOW : Hid (((wr.alloc (Obj.cells RP 102)).alloc (Obj.cells #[.slice (some ⟨wr.heap.size, 0, none⟩) gp gp, .int .i64 0, .bool false, .int .i64 0] 64)).drew.ownsRow w.heap.size 64 4 (.slice ba k bc) k ((rs.map (freshD gp)).flatMap dbCells)) := by
        have := owns_later HI.out.own (Below.after (below_new wr (Obj.cells RP 102)) (below_new _ (Obj.cells #[.slice (some ⟨wr.heap.size, 0, none⟩) gp gp, .int .i64 0, .bool false, .int .i64 0] 64))).drew
        rw [← hk] at this
        exact this
      have HNW : Hid (∀ j u, (elemD wr.heap.size gp)[j]? = some u → ((wr.alloc (Obj.cells RP 102)).alloc (Obj.cells #[.slice (some ⟨wr.heap.size, 0, none⟩) gp gp, .int .i64 0, .bool false, .int .i64 0] 64)).drew.cell? ((⟨wr.heap.size + 1, 0, none⟩ : Addr).add j) = some u) := by
        have := elem_news (wr.alloc (Obj.cells RP 102)) wr.heap.size gp
        rw [World.size_alloc] at this
        exact this
      clear hk
      go_wp2
      go_region_law (refine step_append_blk rfl (.tmp 30) (.tmp 35) rfl w.heap.size (.slice ba k bc) k ((rs.map (freshD gp)).flatMap dbCells) (by simp [Act.eval]) HOW.out ⟨wr.heap.size + 1, 0, none⟩ (elemD wr.heap.size gp) (by simp [Act.eval]) rfl HNW.out (elem_one _ _) (by omega) (by show _ ≤ ((wr.alloc _).alloc _).heap.size; simp; omega) ?_; intro v4 w4 hown4 hgrow4; rw [HK.out] at hown4 hgrow4; obtain ⟨a', cap', rfl, hmade', hc4, hf4⟩ := HI.out.step RP HRP.out v4 hown4 hgrow4; rw [← HK.out] at hmade' hc4 ⊢; have HMD : Hid (MadeD _ _ _ _ _ _ _ _ _ _ _ _ _) := hmade'; clear hown4 hgrow4 hmade')
      all_goals go_wp2
      all_goals go_roundg (gb - (k + 1))
      all_goals first
        | (have := HK.out; omega)
        | exact ⟨rs ++ [wr.heap.size], a', cap', by simp [← HK.out]; omega, by simp [← HK.out], by simp [← HK.out], HMD⟩
    · have hI : ¬ (k : Int) < (gb : Int) := by omega
      go_wp2
      go_ret2
      have e : rs.length = gb := by have := HK.out; omega
      obtain ⟨q, hq⟩ := HI.out.lies e g1 g2 g3 g4 g5 g6 l HM.out HY.out HR.out
      exact ⟨P, q, bc, rs, rfl, e, hq, HI.out.bel⟩
end Go.Proofs.Ytiejkbncpbhcdaa
