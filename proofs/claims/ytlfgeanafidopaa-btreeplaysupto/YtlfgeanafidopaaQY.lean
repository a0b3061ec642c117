/-
  The code's shapes as the document's.
-/
import Derived.Test.YtlfgeanafidopaaQW
import Derived.Test.YtlfgeanafidopaaQX
import Derived.Deep.RegionHeld3
import Derived.Deep.AppendLies
import Derived.BigQuiet
namespace Go.Proofs.Ytlfgeanafidopaa.Bt
open Go.RowKit Go.Shelf
set_option maxRecDepth 10000

theorem infoRSh : (Try.prog.info? 86).map (fun i => (i.zero, i.size, i.bytes)) = some (some (.agg #[.int .i64 0, .slice none 0 0, .bool false]), 3, 40) := by kernel_rfl
/-- A row of the document's shapes. -/
structure RSh (w W : World) (v : Value) (S : List Shc) : Prop where
  own : W.ownsRow w.heap.size 86 3 v S.length (S.flatMap shcv)
  keys : ∀ c ∈ S, Whole W c.B (c.s.ks.map Value.string) 9
theorem keep3 {W w1 : World} {v : Value} {B g : Nat} {o : Nat} {x0 x1 x2 : Value} (hg : W.grownBy w1 v.ownBlock) (hv : ∀ g, v.ownBlock = some g → B ≤ g) (hb : g < B) (h : W.cell? ⟨g, o, none⟩ = some x0 ∧ W.cell? ⟨g, o + 1, none⟩ = some x1 ∧ W.cell? ⟨g, o + 2, none⟩ = some x2) : w1.cell? ⟨g, o, none⟩ = some x0 ∧ w1.cell? ⟨g, o + 1, none⟩ = some x1 ∧ w1.cell? ⟨g, o + 2, none⟩ = some x2 := by
  have hgw := World.block_lt_of_cell? W _ h.1
  have hne : some g ≠ v.ownBlock := fun e => by have := hv g e.symm; omega
  have key : ∀ p v, W.cell? ⟨g, p, none⟩ = some v → w1.cell? ⟨g, p, none⟩ = some v := fun p v q => (World.cell?_of_block (hg.block g hgw hne)).trans q
  exact ⟨key _ _ h.1, key _ _ h.2.1, key _ _ h.2.2⟩
set_option maxHeartbeats 4000000 in
theorem conv_any {w0 w : World} {a : Option Addr} {n c : Nat} {S : List Shc} (h : ShRow w0 w (.slice a n c) S) (hl : S.length ≤ 100000000) :
    Calls Try.prog 19 #[.slice a n c] w fun e w' => ∃ a' n' c', e = .returned (.slice a' n' c') ∧ RSh w w' (.slice a' n' c') S ∧ Below w.heap.size w w' := by
  obtain ⟨i0, hinf, hz0, hz1, hz2⟩ := info_parts infoRSh
  have hn : n = S.length := by
    rcases h.own.2 with ⟨e, e0⟩ | ⟨g, cap, cur, e, _⟩
    · cases e; exact e0.symm
    · cases e; rfl
  have HC : Hid (∀ (i : Nat) (s : Shc), S[i]? = some s → ∃ g, a = some ⟨g, 0, none⟩ ∧ g < w.heap.size ∧ ∀ X, Below w.heap.size w X → X.cell? ⟨g, i * 3, none⟩ = some (.int .i64 (s.s.lv : Int)) ∧ X.cell? ⟨g, i * 3 + 1, none⟩ = some (.slice (some ⟨s.B, 0, none⟩) s.s.ks.length s.s.ks.length) ∧ X.cell? ⟨g, i * 3 + 2, none⟩ = some (.bool s.s.d)) := fun i s hs => by
    obtain ⟨g, cap, e, q0, q1, q2⟩ := h.cells hs
    cases e
    exact ⟨g, rfl, World.block_lt_of_cell? w _ q0, fun X hX => by
      obtain ⟨g', cap', e', r0, r1, r2⟩ := (h.later hX).cells hs
      cases e'
      exact ⟨r0, r1, r2⟩⟩
  have HL : Hid (∀ i, i < S.length → ∃ s, S[i]? = some s) := fun i hi => ⟨_, List.getElem?_eq_getElem hi⟩
  have HTk : Hid (∀ (i : Nat) (s : Shc), S[i]? = some s → S.take (i + 1) = S.take i ++ [s]) := fun i x hx => by rw [List.take_add_one, hx]; rfl
  have HKy : Hid (∀ X, Below w.heap.size w X → ∀ c ∈ S, Whole X c.B (c.s.ks.map Value.string) 9) := fun X hX c hc => (h.keys c hc).later hX
  have HN : Hid (n = S.length) := hn
  rw [← hn] at HL hl
  clear h hn
  go_enter Try.func19, Try.ntmps19
  go_wp2
  go_loopg [3, 4] n (fun kx s3 s4 wr => ∃ (i : Nat) (a3 : Option Addr) (n3 c3 : Nat), i + kx = n ∧ s3 = .slice a3 n3 c3 ∧ s4 = .int .i64 (i : Nat) ∧ Hid (n3 = i) ∧ Hid (wr.ownsRow w.heap.size 86 3 (.slice a3 n3 c3) i ((S.take i).flatMap shcv)) ∧ Hid (Below w.heap.size w wr))
  case atStart => exact ⟨0, none, 0, 0, by omega, rfl, rfl, (rfl : 0 = 0), World.ownsRow_nil _ _ _ 3, Below.refl _ _⟩
  case round =>
    obtain ⟨i, a3, n3, c3, hi, rfl, rfl, E3, O, B⟩ := hrel
    by_cases hlt : i < n
    · obtain ⟨s, hs⟩ := HL.out i hlt
      obtain ⟨g, rfl, hgw, hcs⟩ := HC.out i s hs
      obtain ⟨q0, q1, q2⟩ := hcs wr B.out
      have HT : Hid (S.take (i + 1) = S.take i ++ [s]) := HTk.out i s hs
      have hi1 : (i : Int) < (n : Int) := by omega
      have HV : Hid (∀ b, (Value.slice a3 n3 c3).ownBlock = some b → w.heap.size ≤ b) := fun b hb => (O.out.lt b hb).1
      have HKM : Hid (i + 1 ≤ maxLen ∧ (i + 1) * 40 ≤ 140737488355328 ∧ w.heap.size ≤ wr.heap.size + 1) := ⟨by unfold maxLen; omega, by omega, by have := B.out.size; omega⟩
      have g0 := World.new_ne wr _ q0
      have g1 := World.new_ne wr _ q1
      have g2 := World.new_ne wr _ q2
      have HGW : Hid (g < w.heap.size) := hgw
      obtain ⟨LV, hLV⟩ : ∃ LV, LV = (s.s.lv : Int) := ⟨_, rfl⟩
      obtain ⟨KN, hKN⟩ : ∃ KN, KN = s.s.ks.length := ⟨_, rfl⟩
      have HSV : Hid (shcv s = [.int .i64 LV, .slice (some ⟨s.B, 0, none⟩) KN KN, .bool s.s.d]) := by show shcv s = _; rw [hLV, hKN]; rfl
      rw [← hLV] at q0
      rw [← hKN] at q1
      have hn3 : n3 = i := E3.out
      subst hn3
      clear hs hcs hgw hLV hKN
      go_wp2_with fail
      go_region_held3 (fun w' => w'.cell? ⟨g, n3 * 3, none⟩ = some (.int .i64 LV) ∧ w'.cell? ⟨g, n3 * 3 + 1, none⟩ = some (.slice (some ⟨s.B, 0, none⟩) KN KN) ∧ w'.cell? ⟨g, n3 * 3 + 2, none⟩ = some (.bool s.s.d)) (first | go_keep | exact keep3 hgrow HV.out HGW.out ‹_ ∧ _ ∧ _›)
        ((refine step_append_lies _ (by rfl) _ _ _ (by rfl) w.heap.size 86 i0 _ 3 40 Try.underlying42 hinf hz0 hz1 hz2 rfl (by omega) (.slice a3 n3 c3) n3 _ (by rfl) ((O.out.alloc _).drew) ⟨wr.heap.size, 0, none⟩ 1 1 [.int .i64 LV, .slice (some ⟨s.B, 0, none⟩) KN KN, .bool s.s.d] (by rfl) (by rfl) (World.news_of_block (cs := #[.int .i64 LV, .slice (some ⟨s.B, 0, none⟩) KN KN, .bool s.s.d]) (t := 86) (fr := (0, 0)) (heap_alloc_new wr _)) (by simp [Value.oneCell']) (by omega) HKM.out.1 HKM.out.2.1 (by simpa using HKM.out.2.2) (wr.heap.size + 1) (by simp) ?_; intro gg cap w1 hown1 hgrow hat hlt2))
      have HO2 : Hid (w1.ownsRow w.heap.size 86 3 (.slice (some ⟨gg, 0, none⟩) (n3 + 1) cap) (n3 + 1) ((S.take (n3 + 1)).flatMap shcv)) := by
        show World.ownsRow _ _ _ _ _ _ _
        rw [HT.out, List.flatMap_append, List.flatMap_singleton, HSV.out]
        exact hown1
      have HB2 : Hid (Below w.heap.size w w1) := (((B.out.alloc B.out.size _).drew).grown hgrow (by simpa using HKM.out.2.2) HV.out)
      clear hown1 hgrow hat hlt2 q0 q1 q2 g0 g1 g2
      go_wp2
      go_roundg (n - (n3 + 1))
      case measure => omega
      case rel => exact ⟨n3 + 1, _, _, _, by omega, rfl, by go_num, (rfl : n3 + 1 = n3 + 1), HO2.out, HB2.out⟩
    · have hin : i = n := by omega
      subst hin
      have HF : Hid (RSh w wr (.slice a3 n3 c3) S ∧ Below w.heap.size w wr) := by
        have hfull : S.take i = S := List.take_of_length_le (by have := HN.out; omega)
        have hO := O.out
        rw [hfull, HN.out] at hO
        exact (⟨⟨hO, HKy.out wr B.out⟩, B.out⟩ : RSh w wr _ S ∧ Below w.heap.size w wr)
      have hi1 : ¬ (i : Int) < (i : Int) := by omega
      go_wp2
      go_ret
      exact ⟨a3, n3, c3, rfl, HF.out⟩
end Go.Proofs.Ytlfgeanafidopaa.Bt
