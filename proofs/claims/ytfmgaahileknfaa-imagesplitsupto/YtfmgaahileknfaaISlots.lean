/-
  The document's slots as the code's: slots, mine.
-/
import Derived.Test.YtfmgaahileknfaaIPack
import Derived.Deep.AppendLies
namespace Go.Proofs.Ytfmgaahileknfaa
open Go.RowKit M
set_option maxRecDepth 10000

theorem keep4 {W w1 : World} {v : Value} {B g : Nat} {o : Nat} {x0 x1 x2 x3 : Value} (hg : W.grownBy w1 v.ownBlock) (hv : ∀ g, v.ownBlock = some g → B ≤ g) (hb : g < B) (h : W.cell? ⟨g, o, none⟩ = some x0 ∧ W.cell? ⟨g, o + 1, none⟩ = some x1 ∧ W.cell? ⟨g, o + 2, none⟩ = some x2 ∧ W.cell? ⟨g, o + 3, none⟩ = some x3) : w1.cell? ⟨g, o, none⟩ = some x0 ∧ w1.cell? ⟨g, o + 1, none⟩ = some x1 ∧ w1.cell? ⟨g, o + 2, none⟩ = some x2 ∧ w1.cell? ⟨g, o + 3, none⟩ = some x3 := by
  have hgw := World.block_lt_of_cell? W _ h.1
  have hne : some g ≠ v.ownBlock := fun e => by have := hv g e.symm; omega
  have key : ∀ p v, W.cell? ⟨g, p, none⟩ = some v → w1.cell? ⟨g, p, none⟩ = some v := fun p v q => (World.cell?_of_block (hg.block g hgw hne)).trans q
  exact ⟨key _ _ h.1, key _ _ h.2.1, key _ _ h.2.2.1, key _ _ h.2.2.2⟩
theorem heap_new (w : World) (o : Obj) : (w.alloc o).heap[w.heap.size]? = some o := by show (w.heap.push _)[w.heap.size]? = _; simp
/-- What slots answers: the slots l, in new memory. -/
def ZMade (w w' : World) (v : Value) (l : List St) : Prop := w'.ownsRow w.heap.size 41 4 v l.length (l.flatMap stv) ∧ Below w.heap.size w w'
def ZPost (w : World) (l : List St) (e : Ending) (w' : World) : Prop := ∃ a n c, e = .returned (.slice a n c) ∧ n = l.length ∧ ZMade w w' (.slice a n c) l
set_option maxHeartbeats 4000000 in
theorem slots_any (a : Option Addr) (len cap : Nat) (l : List St) (w : World) (h : ZArg w a len cap l) (hl : len * 40 ≤ 140737488351232) :
    Calls Try.prog 6 #[.slice a len cap] w fun e w' => ZPost w l e w' := by
  obtain ⟨i0, hinf, hz0, hz1, hz2⟩ := info_parts infoZ
  have HZ : Hid (ZRow w a l) := h.row
  have HL : Hid (len = l.length) := h.len_eq
  have HTk : Hid (∀ (i : Nat) (s : St), l[i]? = some s → l.take (i + 1) = l.take i ++ [s]) := fun i x hx => by rw [List.take_add_one, hx]; rfl
  have hcm := h.max
  have hlc := h.le
  unfold maxLen at hcm
  clear h
  go_enter Try.func6, Try.ntmps6
  go_wp2
  go_loopg [3, 4] len (fun kx s3 s4 wr => ∃ (i : Nat) (a3 : Option Addr) (n3 c3 : Nat), i + kx = len ∧ s3 = .slice a3 n3 c3 ∧ s4 = .int .i64 (i : Nat) ∧ Hid (n3 = i) ∧ Hid (wr.ownsRow w.heap.size 41 4 (.slice a3 n3 c3) i ((l.take i).flatMap stv)) ∧ Hid (Below w.heap.size w wr))
  case atStart => exact ⟨0, none, 0, 0, by omega, rfl, rfl, (rfl : 0 = 0), World.ownsRow_nil _ _ _ 4, Below.refl _ _⟩
  case round =>
    obtain ⟨i, a3, n3, c3, hi, rfl, rfl, E3, O, B⟩ := hrel
    by_cases hlt : i < len
    · obtain ⟨b, off, s, rfl, hs, hd, q0', _, _, _⟩ := zrow_at HZ.out (k := i) (by have := HL.out; omega)
      have hgw : b < w.heap.size := World.block_lt_of_cell? w _ q0'
      obtain ⟨q0, q1, q2, q3⟩ : wr.cell? ⟨b, off + i * 4, none⟩ = some (.string s.key) ∧ wr.cell? ⟨b, off + i * 4 + 1, none⟩ = some (.int .i64 s.leb) ∧ wr.cell? ⟨b, off + i * 4 + 2, none⟩ = some (.int .i64 s.pos) ∧ wr.cell? ⟨b, off + i * 4 + 3, none⟩ = some (.int .i64 s.size) := by
        rcases HZ.out.later B.out with e | ⟨b2, off2, e, hc⟩
        · rw [e] at hs; simp at hs
        · cases e; exact hc i s hs
      have HT : Hid (l.take (i + 1) = l.take i ++ [s]) := HTk.out i s hs
      have hi1 : (i : Int) < (len : Int) := by omega
      have HV : Hid (∀ b, (Value.slice a3 n3 c3).ownBlock = some b → w.heap.size ≤ b) := fun b hb => (O.out.lt b hb).1
      have HKM : Hid (i + 1 ≤ maxLen ∧ (i + 1) * 40 ≤ 140737488355328 ∧ w.heap.size ≤ wr.heap.size + 1) := ⟨by unfold maxLen; omega, by omega, by have := B.out.size; omega⟩
      have g0 := World.new_ne wr _ q0
      have g1 := World.new_ne wr _ q1
      have g2 := World.new_ne wr _ q2
      have g3 := World.new_ne wr _ q3
      have HGW : Hid (b < w.heap.size) := hgw
      obtain ⟨sk, s1, s2, s3⟩ := s
      have HSV : Hid (stv ⟨sk, s1, s2, s3⟩ = [.string sk, .int .i64 s1, .int .i64 s2, .int .i64 s3]) := rfl
      dsimp only at q0 q1 q2 q3
      have hn3 : n3 = i := E3.out
      subst hn3
      clear hs hd hgw q0'
      go_wp2_with fail
      go_region_held3 (fun w' => w'.cell? ⟨b, off + n3 * 4, none⟩ = some (.string sk) ∧ w'.cell? ⟨b, off + n3 * 4 + 1, none⟩ = some (.int .i64 s1) ∧ w'.cell? ⟨b, off + n3 * 4 + 2, none⟩ = some (.int .i64 s2) ∧ w'.cell? ⟨b, off + n3 * 4 + 3, none⟩ = some (.int .i64 s3)) (first | go_keep | exact keep4 hgrow HV.out HGW.out ‹_ ∧ _ ∧ _ ∧ _›)
        ((refine step_append_lies _ (by rfl) _ _ _ (by rfl) w.heap.size 41 i0 _ 4 40 Try.underlying26 hinf hz0 hz1 hz2 rfl (by omega) (.slice a3 n3 c3) n3 _ (by rfl) ((O.out.alloc _).drew) ⟨wr.heap.size, 0, none⟩ 1 1 [.string sk, .int .i64 s1, .int .i64 s2, .int .i64 s3] (by rfl) (by rfl) (World.news_of_block (cs := #[.string sk, .int .i64 s1, .int .i64 s2, .int .i64 s3]) (t := 41) (fr := (0, 0)) (heap_new wr _)) (by simp [Value.oneCell']) (by omega) HKM.out.1 HKM.out.2.1 (by simpa using HKM.out.2.2) (wr.heap.size + 1) (by simp) ?_; intro gg cap' w1 hown1 hgrow hat hlt2))
      have HO2 : Hid (w1.ownsRow w.heap.size 41 4 (.slice (some ⟨gg, 0, none⟩) (n3 + 1) cap') (n3 + 1) ((l.take (n3 + 1)).flatMap stv)) := by
        show World.ownsRow _ _ _ _ _ _ _
        rw [HT.out, List.flatMap_append, List.flatMap_singleton, HSV.out]
        exact hown1
      have HB2 : Hid (Below w.heap.size w w1) := (((B.out.alloc B.out.size _).drew).grown hgrow (by simpa using HKM.out.2.2) HV.out)
      clear hown1 hgrow hat hlt2 q0 q1 q2 q3 g0 g1 g2 g3
      go_wp2
      go_roundg (len - (n3 + 1))
      case measure => omega
      case rel => exact ⟨n3 + 1, _, _, _, by omega, rfl, by go_num, (rfl : n3 + 1 = n3 + 1), HO2.out, HB2.out⟩
    · have hin : i = len := by omega
      subst hin
      have HF : Hid (n3 = l.length ∧ ZMade w wr (.slice a3 n3 c3) l) := by
        have hfull : l.take i = l := List.take_of_length_le (by have := HL.out; omega)
        have hO := O.out
        rw [hfull, HL.out] at hO
        exact (⟨by rw [E3.out, HL.out], hO, B.out⟩ : n3 = l.length ∧ ZMade w wr _ l)
      have hi1 : ¬ (i : Int) < (i : Int) := by omega
      go_wp2
      go_ret
      exact ⟨a3, n3, c3, rfl, HF.out.1, HF.out.2⟩

theorem ZMade.arg {w w' : World} {a : Option Addr} {n c : Nat} {l : List St} (hn : n = l.length) (h : ZMade w w' (.slice a n c) l) (hk : ∀ s ∈ l, s.key.size ≤ maxLen) : ZArg w' a n c l := by
  have h1 := h.1
  rw [← hn] at h1
  obtain ⟨a', c', e, r1, _, r2, r3⟩ := zown_row hn h1
  cases e
  exact ⟨hn, r2, r3, hk, r1⟩
/-- What mine answers. -/
def MPost (w : World) (level : Int) (l : List St) (e : Ending) (w' : World) : Prop := ∃ a n c, e = .returned (.agg #[.int .i64 level, .slice a n c]) ∧ ZArg w' a n c l ∧ ZRow w' a l ∧ Below w.heap.size w w'
end Go.Proofs.Ytfmgaahileknfaa
