/-
  What meanCount of package scan answers.
-/
import Derived.Test.YtccfalafphjkpaaGreatDoorGOA
namespace Go.Proofs.YtccfalafphjkpaaGreatDoor
open Go.RowKit
set_option maxRecDepth 10000

/-- The cells of a sight at a place. -/
structure SgAt (w : World) (b off : Nat) (x : Sg) : Prop where
  c0 : w.cell? ⟨b, off, none⟩ = some (.bool x.marked)
  c1 : w.cell? ⟨b, off + 1, none⟩ = some (.bool x.blank)
  c2 : w.cell? ⟨b, off + 2, none⟩ = some (.bool x.counted)
  c3 : w.cell? ⟨b, off + 3, none⟩ = some (.int .i64 x.count)
  c4 : w.cell? ⟨b, off + 4, none⟩ = some (.bool x.mapped)
  c5 : w.cell? ⟨b, off + 5, none⟩ = some (.int .i64 x.leb)
  c6 : w.cell? ⟨b, off + 6, none⟩ = some (.int .u64 x.seq)
  c7 : w.cell? ⟨b, off + 7, none⟩ = some (.int .i64 x.pages)
  c8 : w.cell? ⟨b, off + 8, none⟩ = some (.int .i64 x.used)
  c9 : w.cell? ⟨b, off + 9, none⟩ = some (.bool x.closed)
theorem SgAt.lt {w : World} {b off : Nat} {x : Sg} (h : SgAt w b off x) : b < w.heap.size := World.block_lt_of_cell? w _ h.c0
theorem SgAt.below {w w' : World} {n b off : Nat} {x : Sg} (h : SgAt w b off x) (hb : Below n w w') (hn : b < n) : SgAt w' b off x := by
  have key : ∀ k v, w.cell? ⟨b, k, none⟩ = some v → w'.cell? ⟨b, k, none⟩ = some v := fun k v e => by rw [hb.cell (p := ⟨b, k, none⟩) hn]; exact e
  exact ⟨key _ _ h.c0, key _ _ h.c1, key _ _ h.c2, key _ _ h.c3, key _ _ h.c4, key _ _ h.c5, key _ _ h.c6, key _ _ h.c7, key _ _ h.c8, key _ _ h.c9⟩
/-- Sights, as they lie. -/
def SRow (w : World) (a : Option Addr) (l : List Sg) : Prop :=
  l = [] ∨ ∃ b off, a = some ⟨b, off, none⟩ ∧ b < w.heap.size ∧ ∀ i x, l[i]? = some x → SgAt w b (off + i * 10) x
theorem SRow.later {w w' : World} {a : Option Addr} {l : List Sg} (h : SRow w a l) (hb : Below w.heap.size w w') : SRow w' a l := by
  rcases h with h | ⟨b, off, e, hl, hc⟩
  · exact .inl h
  · exact .inr ⟨b, off, e, Nat.lt_of_lt_of_le hl hb.size, fun i x hx => (hc i x hx).below hb hl⟩
theorem SRow.kept {S : Nat → Prop} {w w' : World} {a : Option Addr} {l : List Sg} (h : SRow w a l) (hk : Kept S w w') (hs : ∀ b off, a = some ⟨b, off, none⟩ → ¬ S b) : SRow w' a l := by
  rcases h with h | ⟨b, off, e, hl, hc⟩
  · exact .inl h
  · have key : ∀ k v, w.cell? ⟨b, k, none⟩ = some v → w'.cell? ⟨b, k, none⟩ = some v := fun k v e' => by rw [World.cell?_of_block (a := ⟨b, k, none⟩) (hk.block b hl (hs b off e))]; exact e'
    refine .inr ⟨b, off, e, Nat.lt_of_lt_of_le hl hk.size, fun i x hx => ?_⟩
    have h := hc i x hx
    exact ⟨key _ _ h.c0, key _ _ h.c1, key _ _ h.c2, key _ _ h.c3, key _ _ h.c4, key _ _ h.c5, key _ _ h.c6, key _ _ h.c7, key _ _ h.c8, key _ _ h.c9⟩
/-- The counts that are told: their sum, and how many. -/
def tells (s : Sg) : Bool := s.counted && !s.marked
def sumS : List Sg → Int
  | [] => 0
  | s :: l => (if tells s then s.count else 0) + sumS l
def manyS : List Sg → Int
  | [] => 0
  | s :: l => (if tells s then 1 else 0) + manyS l
def meanS (l : List Sg) : Int := if manyS l = 0 then 0 else sumS l / manyS l
theorem sumS_snoc (x : Sg) : ∀ l : List Sg, sumS (l ++ [x]) = sumS l + (if tells x then x.count else 0)
  | [] => by simp [sumS]
  | s :: l => by simp only [List.cons_append, sumS, sumS_snoc x l]; omega
theorem manyS_snoc (x : Sg) : ∀ l : List Sg, manyS (l ++ [x]) = manyS l + (if tells x then 1 else 0)
  | [] => by simp [manyS]
  | s :: l => by simp only [List.cons_append, manyS, manyS_snoc x l]; omega
theorem sumS_le : ∀ l : List Sg, (∀ s ∈ l, 0 ≤ s.count ∧ s.count ≤ 2147483647) → 0 ≤ sumS l ∧ sumS l ≤ l.length * 2147483647 ∧ 0 ≤ manyS l ∧ manyS l ≤ l.length
  | [], _ => by simp [sumS, manyS]
  | s :: l, h => by
    obtain ⟨h1, h2, h3, h4⟩ := sumS_le l (fun x hx => h x (by simp [hx]))
    have := h s (by simp)
    simp only [sumS, manyS, List.length_cons]
    split <;> (push_cast; omega)
theorem take_snoc {α : Type} {l : List α} {k : Nat} {x : α} (h : l[k]? = some x) : l.take (k + 1) = l.take k ++ [x] := by
  obtain ⟨h1, h2⟩ := List.getElem?_eq_some_iff.1 h
  rw [List.take_succ_eq_append_getElem h1, h2]

set_option maxHeartbeats 4000000 in
theorem mean_any (a : Option Addr) (m cap : Nat) (l : List Sg) (w : World) (hm : m = l.length) (h256 : m ≤ 256) (hc : ∀ s ∈ l, 0 ≤ s.count ∧ s.count ≤ 2147483647) (hr : SRow w a l) :
    Calls Tryz.prog 48 #[.slice a m cap] w fun e w' => e = .returned (.int .i64 (meanS l)) ∧ Below w.heap.size w w' := by
  have HM : Hid (m = l.length) := hm
  have HC : Hid (∀ s ∈ l, 0 ≤ s.count ∧ s.count ≤ 2147483647) := hc
  have HR : Hid (SRow w a l) := hr
  clear hm hc hr
  go_enter Tryz.func48, Tryz.ntmps48
  go_wp2
  go_loopw [3, 4, 9] (fun s t i wr => ∃ (k : Nat) (su ma : Int), i = .int .i64 (k : Int) ∧ k ≤ m ∧ s = .int .i64 su ∧ t = .int .i64 ma ∧ 0 ≤ su ∧ su ≤ (k : Int) * 2147483647 ∧ 0 ≤ ma ∧ ma ≤ k ∧ Hid (su = sumS (l.take k) ∧ ma = manyS (l.take k)) ∧ Hid (Below w.heap.size w wr)) (fun _ _ i _ => m - (intOf i).toNat)
  case atStart => exact ⟨0, 0, 0, rfl, by omega, rfl, rfl, by omega, by omega, by omega, by omega, by show _ ∧ _; simp [sumS, manyS], Below.refl _ _⟩
  case round =>
    obtain ⟨k, su, ma, rfl, hk, rfl, rfl, q1, q2, q3, q4, HS, HB⟩ := hrel
    by_cases hlt : k < m
    · have hkl : k < l.length := by have := HM.out; omega
      obtain ⟨b, off, rfl, hbl, hcs⟩ : ∃ b off, a = some ⟨b, off, none⟩ ∧ b < w.heap.size ∧ ∀ i x, l[i]? = some x → SgAt w b (off + i * 10) x := by
        rcases HR.out with e | h
        · subst e; simp at hkl
        · exact h
      obtain ⟨x, hx⟩ : ∃ x, l[k]? = some x := ⟨_, List.getElem?_eq_getElem hkl⟩
      obtain ⟨g0, g1, g2, g3, g4, g5, g6, g7, g8, g9⟩ := (hcs k x hx).below HB.out hbl
      have hxc := HC.out x (List.mem_of_getElem? hx)
      have hbw : b < wr.heap.size := World.block_lt_of_cell? wr _ g0
      have HT : Hid (sumS (l.take (k + 1)) = su + (if tells x then x.count else 0) ∧ manyS (l.take (k + 1)) = ma + (if tells x then 1 else 0)) := by
        show _ ∧ _
        rw [take_snoc hx, sumS_snoc, manyS_snoc, HS.out.1, HS.out.2]
        exact ⟨rfl, rfl⟩
      have HU : Hid (tells x = (x.counted && !x.marked)) := rfl
      obtain ⟨x0, x1, x2, x3, x4, x5, x6, x7, x8, x9⟩ := x
      simp only at g0 g1 g2 g3 g4 g5 g6 g7 g8 g9 hxc HT HU
      generalize htl : tells _ = tl at HT HU
      have HBn : Hid (∀ o, Below w.heap.size w (wr.alloc o)) := fun o => Below.after HB.out (below_new _ _)
      clear hx hcs htl
      cases x2 with
      | false =>
        have e1 : tl = false := HU.out
        subst e1
        go_wp2
        go_roundw
        case rel => exact ⟨k + 1, su, ma, by go_num, by omega, rfl, rfl, by omega, by omega, by omega, by omega, by show _ ∧ _; rw [HT.out.1, HT.out.2]; simp, HBn.out _⟩
        case measure => simp [intOf]; omega
      | true =>
        cases x0 with
        | true =>
          have e1 : tl = false := HU.out
          subst e1
          go_wp2
          go_roundw
          case rel => exact ⟨k + 1, su, ma, by go_num, by omega, rfl, rfl, by omega, by omega, by omega, by omega, by show _ ∧ _; rw [HT.out.1, HT.out.2]; simp, HBn.out _⟩
          case measure => simp [intOf]; omega
        | false =>
          have e1 : tl = true := HU.out
          subst e1
          go_wp2
          go_roundw
          case rel => exact ⟨k + 1, su + x3, ma + 1, by go_num, by omega, by go_num, by go_num, by omega, by omega, by omega, by omega, by show _ ∧ _; rw [HT.out.1, HT.out.2]; simp, HBn.out _⟩
          case measure => simp [intOf]; omega
    · have ht : l.take k = l := List.take_of_length_le (by have := HM.out; omega)
      have HS2 : Hid (su = sumS l ∧ ma = manyS l) := by have := HS.out; rw [ht] at this; exact this
      have HM2 : Hid (meanS l = if ma = 0 then 0 else su / ma) := by show _ = _; unfold meanS; rw [← HS2.out.1, ← HS2.out.2]
      clear ht HS
      by_cases h0 : ma = 0
      · subst h0
        go_wp2
        go_ret
        exact ⟨by rw [HM2.out]; rfl, HB.out⟩
      · have e0 : (ma == 0) = false := by simp [h0]
        have hd : su.tdiv ma = su / ma := Int.tdiv_eq_ediv_of_nonneg q1
        go_wp2
        go_ret
        refine ⟨?_, HB.out⟩
        rw [HM2.out, if_neg h0]
        have h1 := Int.ediv_nonneg q1 q3
        have h2 := Int.ediv_le_self ma q1
        have hw : wrap64 (su / ma) = su / ma := by unfold wrap64; omega
        show Ending.returned (.int .i64 (wrap64 (su / ma))) = _
        rw [hw]
end Go.Proofs.YtccfalafphjkpaaGreatDoor
