/-
  The first error of a list: the program's and the document's.
-/
import Derived.Test.YtafihnnlblacnaaDoorECard
import Derived.Test.YtafihnnlblacnaaDoorEWMath
import Derived.Orders
namespace Go.Proofs.YtafihnnlblacnaaDoor
open Go.ChangeShapes Go.WideShapes Go.ChangeAt Go.RowKit

/-- A slice's elements are the errnos l. -/
structure EArg (w : World) (a : Option Addr) (len cap : Nat) (l : List Int) : Prop where
  len_eq : len = l.length
  le : len ≤ cap
  max : cap ≤ maxLen
  row : l = [] ∨ ∃ b off, a = some ⟨b, off, none⟩ ∧ ∀ i, i < l.length → w.cell? ⟨b, off + i, none⟩ = some (.int .i64 (l.getD i 0))
theorem earg_open {H : Type} {enc : TypeId × Value → H} {w : World} {a : Option Addr} {len cap fuel : Nat} {d : DataW H} {p : List MemPlace}
    (hf : DataW.trod enc Tryd.prog w 0 (fun _ => true) true fuel 29 (Value.slice a len cap).cells.toList = some (d, p)) : ∃ l, EArg w a len cap l := by
  rcases open_ints Tryd.underlying29 Tryd.underlying22 (by kernel_rfl) hf with ⟨hcs, _⟩ | ⟨x, l, c, zs, hcs, _, hl, hm, hz, hx, hcell, hwz⟩
  · simp [Value.cells] at hcs
    obtain ⟨rfl, rfl, rfl⟩ := hcs
    exact ⟨[], rfl, Nat.le_refl _, by decide, .inl rfl⟩
  · simp [Value.cells] at hcs
    obtain ⟨rfl, rfl, rfl⟩ := hcs
    have hz' : zs.length = cap := by simpa using hz
    refine ⟨zs.take len, by simp; omega, hl, hm, ?_⟩
    by_cases h0 : len = 0
    · exact .inl (by simp [h0])
    · obtain ⟨b, off, spot⟩ := x
      have hc := hcell 0 (by omega)
      have hspot : spot = none := by simpa [Addr.add] using World.cell?_spot hc
      subst hspot
      refine .inr ⟨b, off, rfl, fun i hi => ?_⟩
      have hil : i < len := by simp at hi; omega
      have h1 := hcell i (by omega)
      have e : (⟨b, off, none⟩ : Addr).add i = ⟨b, off + i, none⟩ := by unfold Addr.add; split <;> simp_all
      rw [e] at h1
      rw [h1]
      simp [List.getD, hil]
theorem EArg.later {w w' : World} {a : Option Addr} {len cap : Nat} {l : List Int} (h : EArg w a len cap l) (hb : Below w.heap.size w w') : EArg w' a len cap l := by
  refine ⟨h.len_eq, h.le, h.max, ?_⟩
  rcases h.row with e | ⟨b, off, e, hc⟩
  · exact .inl e
  · refine .inr ⟨b, off, e, fun i hi => ?_⟩
    have h1 := hc i hi
    rw [hb.cell (p := ⟨b, off + i, none⟩) (World.block_lt_of_cell? w _ h1)]
    exact h1

/-- What First answers. -/
def firstFrom (l : List Int) (k : Nat) : Value := match l with
  | [] => .tuple #[.int .i64 (-1), .int .i64 0]
  | x :: r => if x = 0 then firstFrom r (k + 1) else .tuple #[.int .i64 k, .int .i64 x]
theorem first_hit {l : List Int} {k : Nat} (hk : k < l.length) {x : Int} (hx : l.getD k 0 = x) (h0 : x ≠ 0) (h : firstFrom (l.drop k) k = firstFrom l 0) : firstFrom l 0 = .tuple #[.int .i64 k, .int .i64 x] := by
  rw [← h, List.drop_eq_getElem_cons hk]
  have e : l[k] = x := by rw [← hx]; simp [List.getD, hk]
  simp only [firstFrom]
  rw [if_neg (by rw [e]; exact h0), e]
theorem first_next {l : List Int} {k : Nat} (hk : k < l.length) (h0 : l.getD k 0 = 0) (h : firstFrom (l.drop k) k = firstFrom l 0) : firstFrom (l.drop (k + 1)) (k + 1) = firstFrom l 0 := by
  rw [← h, List.drop_eq_getElem_cons hk]
  have e : l[k] = 0 := by rw [← h0]; simp [List.getD, hk]
  simp only [firstFrom]
  rw [if_pos e]
theorem first_end {l : List Int} (h : firstFrom (l.drop l.length) l.length = firstFrom l 0) : firstFrom l 0 = .tuple #[.int .i64 (-1), .int .i64 0] := by
  rw [← h, List.drop_length]
  rfl

set_option maxHeartbeats 2000000 in
theorem first_any (a : Option Addr) (len cap : Nat) (l : List Int) (w : World) (h : EArg w a len cap l) :
    Calls Tryd.prog 16 #[.slice a len cap] w fun ev w' => ev = .returned (firstFrom l 0) ∧ w = w' := by
  have hmx : len ≤ 9223372036854775807 := by have h1 := h.le; have h2 := h.max; unfold maxLen at h2; omega
  have HL : Hid (len = l.length) := h.len_eq
  go_enter Tryd.func16, Tryd.ntmps16
  go_wp2
  go_loopg [8] len (fun gm i wr => ∃ k : Nat, k ≤ len ∧ gm = len - k ∧ i = .int .i64 k ∧ w = wr ∧ Hid (firstFrom (l.drop k) k = firstFrom l 0))
  case atStart => exact ⟨0, by omega, rfl, rfl, rfl, rfl⟩
  case round =>
    obtain ⟨k, hk, hg, rfl, rfl, HF⟩ := hrel
    by_cases hlt : k < len
    · have hkl : k < l.length := by have := HL.out; omega
      obtain ⟨b, off, rfl, hc⟩ : ∃ b off, a = some ⟨b, off, none⟩ ∧ ∀ i, i < l.length → w.cell? ⟨b, off + i, none⟩ = some (.int .i64 (l.getD i 0)) := by
        rcases h.row with e | h
        · subst e; simp at hkl
        · exact h
      have c0 := hc k hkl
      obtain ⟨x, hx⟩ : ∃ x, l.getD k 0 = x := ⟨_, rfl⟩
      rw [hx] at c0
      have HX : Hid (l.getD k 0 = x) := hx
      have HK : Hid (k < l.length) := hkl
      have hI : (k : Int) < (len : Int) := by omega
      clear hc hx hkl
      by_cases h0 : x = 0
      · have hb : (x != 0) = false := by simpa using h0
        have HZ : Hid (x = 0) := h0
        clear h0
        go_wp2
        go_roundg (len - (k + 1))
        case measure => omega
        case rel => exact ⟨k + 1, by omega, rfl, by go_num, rfl, first_next HK.out (HX.out.trans HZ.out) HF.out⟩
      · have hb : (x != 0) = true := by simpa using h0
        have HZ : Hid (x ≠ 0) := h0
        clear h0
        go_wp2
        go_ret2
        exact ⟨by rw [first_hit HK.out HX.out HZ.out HF.out]; rfl, rfl⟩
    · have hI : ¬ (k : Int) < (len : Int) := by omega
      have HE : Hid (firstFrom l 0 = .tuple #[.int .i64 (-1), .int .i64 0]) := by
        have e : k = l.length := by have := HL.out; omega
        have := HF.out
        rw [e] at this
        exact first_end this
      go_wp2
      go_ret2
      exact ⟨by rw [HE.out]; rfl, rfl⟩

set_option maxHeartbeats 2000000 in
theorem rfirst_any (a : Option Addr) (len cap : Nat) (l : List Int) (w : World) (h : EArg w a len cap l) :
    Calls Tryd.prog 17 #[.slice a len cap] w fun ev w' => ev = .returned (firstFrom l 0) ∧ Below w.heap.size w w' := by
  have hmx : len ≤ 9223372036854775807 := by have h1 := h.le; have h2 := h.max; unfold maxLen at h2; omega
  have HL : Hid (len = l.length) := h.len_eq
  go_enter Tryd.func17, Tryd.ntmps17
  go_wp2
  go_loopg [4] len (fun gm i wr => ∃ k : Nat, k ≤ len ∧ gm = len - k ∧ i = .int .i64 k ∧ w = wr ∧ Hid (firstFrom (l.drop k) k = firstFrom l 0))
  case atStart => exact ⟨0, by omega, rfl, rfl, rfl, rfl⟩
  case round =>
    obtain ⟨k, hk, hg, rfl, rfl, HF⟩ := hrel
    by_cases hlt : k < len
    · have hkl : k < l.length := by have := HL.out; omega
      obtain ⟨b, off, rfl, hc⟩ : ∃ b off, a = some ⟨b, off, none⟩ ∧ ∀ i, i < l.length → w.cell? ⟨b, off + i, none⟩ = some (.int .i64 (l.getD i 0)) := by
        rcases h.row with e | h
        · subst e; simp at hkl
        · exact h
      have c0 := hc k hkl
      obtain ⟨x, hx⟩ : ∃ x, l.getD k 0 = x := ⟨_, rfl⟩
      rw [hx] at c0
      have HX : Hid (l.getD k 0 = x) := hx
      have HK : Hid (k < l.length) := hkl
      have hI : (k : Int) < (len : Int) := by omega
      clear hc hx hkl
      by_cases h0 : x = 0
      · have hb : (x != 0) = false := by simpa using h0
        have HZ : Hid (x = 0) := h0
        clear h0
        go_wp2
        go_roundg (len - (k + 1))
        case measure => omega
        case rel => exact ⟨k + 1, by omega, rfl, by go_num, rfl, first_next HK.out (HX.out.trans HZ.out) HF.out⟩
      · have hb : (x != 0) = true := by simpa using h0
        have HZ : Hid (x ≠ 0) := h0
        clear h0
        go_wp2
        go_region
        go_wp2
        go_ret2
        exact ⟨by rw [first_hit HK.out HX.out HZ.out HF.out]; rfl, below_drawn _ 1⟩
    · have hI : ¬ (k : Int) < (len : Int) := by omega
      have HE : Hid (firstFrom l 0 = .tuple #[.int .i64 (-1), .int .i64 0]) := by
        have e : k = l.length := by have := HL.out; omega
        have := HF.out
        rw [e] at this
        exact first_end this
      go_wp2
      go_ret2
      exact ⟨by rw [HE.out]; rfl, Below.refl _ _⟩
end Go.Proofs.YtafihnnlblacnaaDoor
