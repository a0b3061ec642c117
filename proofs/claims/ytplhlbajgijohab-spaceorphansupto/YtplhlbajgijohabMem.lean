/-
  Rows of bytes in memory: what a call owns, what it may read, and that both stay while others are made.
-/
import Derived.Test.YtplhlbajgijohabStep
import Derived.Laws.BytesArg
namespace Go.Proofs.Ytplhlbajgijohab
open Go.RowKit M

/-- The cell of a byte. -/
def u8v (x : Nat) : Value := .int .u8 (x : Int)

/-- The call that began in w has made the bytes l, in new memory: v leads to them. -/
def Own (w w' : World) (v : Value) (l : List Nat) : Prop :=
  w'.ownsRow w.heap.size 5 1 v l.length (l.map u8v) ∧ Below w.heap.size w w'

theorem BRow.later {w w' : World} {a : Option Addr} {l : List Nat} (h : BRow w a l) (hb : Below w.heap.size w w') : BRow w' a l := by
  rcases h with h | ⟨b, off, ha, hc⟩
  · exact .inl h
  · exact .inr ⟨b, off, ha, fun i hi => by
      have h1 := hc i hi
      have h2 := World.block_lt_of_cell? w _ h1
      rw [hb.cell (p := ⟨b, off + i, none⟩) h2]
      exact h1⟩

theorem owns_later {w w' : World} {base e size n : Nat} {v : Value} {xs : List Value} (h : w.ownsRow base e size v n xs) (hb : Below w.heap.size w w') : w'.ownsRow base e size v n xs := by
  refine ⟨h.1, ?_⟩
  rcases h.2 with hn | ⟨g, cap, cur, rfl, hbg, hgg, rest⟩
  · exact .inl hn
  · refine .inr ⟨g, cap, cur, rfl, hbg, ?_, rest⟩
    rw [hb.block g (Array.getElem?_eq_some_iff.1 hgg).1]
    exact hgg

/-- What is owned can be read. -/
theorem owns_row {w : World} {base : Nat} {v : Value} {l : List Nat} (h : w.ownsRow base 5 1 v l.length (l.map u8v)) :
    ∃ a cap, v = .slice a l.length cap ∧ BRow w a l ∧ l.length ≤ cap ∧ cap ≤ maxLen := by
  rcases h.2 with ⟨rfl, hn⟩ | ⟨g, cap, cur, rfl, hbg, hgg, hnc, hcm, hcs, htake⟩
  · have : l = [] := List.eq_nil_of_length_eq_zero hn
    subst this
    exact ⟨none, 0, rfl, .inl rfl, Nat.le_refl _, by decide⟩
  · refine ⟨_, cap, rfl, .inr ⟨g, 0, rfl, fun i hi => ?_⟩, hnc, hcm⟩
    have := h.cellAt i (by simpa using hi)
    simp only [Nat.zero_add]
    rw [this]
    simp [u8v, hi, List.getD]

theorem Below.after {w w1 w2 : World} (h : Below w.heap.size w w1) (h2 : Below w1.heap.size w1 w2) : Below w.heap.size w w2 :=
  h.trans (h2.mono h.size)

theorem Own.row {w w' : World} {v : Value} {l : List Nat} (h : Own w w' v l) : ∃ a cap, v = .slice a l.length cap ∧ BRow w' a l ∧ l.length ≤ cap ∧ cap ≤ maxLen := owns_row h.1

theorem info8 : (Try.prog.info? 5).map (fun i => (i.zero, i.size, i.bytes)) = some (some (.int .u8 0), 1, 1) := by kernel_rfl

/-- The bytes l of a row, cell by cell, as the laws on append and copy ask for them. -/
theorem BRow.cells {w : World} {b off : Nat} {l : List Nat} (hc : ∀ i, i < l.length → w.cell? ⟨b, off + i, none⟩ = some (.int .u8 ((l.getD i 0 : Nat) : Int))) :
    ∀ j u, (l.map u8v)[j]? = some u → w.cell? ((⟨b, off, none⟩ : Addr).add j) = some u := by
  intro j u hj
  have hjl : j < l.length := by
    have := (List.getElem?_eq_some_iff.1 hj).1
    simpa using this
  have := hc j hjl
  have hu : u = u8v (l.getD j 0) := by
    simp [hjl] at hj
    simp [← hj, List.getD, hjl]
  have e : (⟨b, off, none⟩ : Addr).add j = ⟨b, off + j, none⟩ := by unfold Addr.add; split <;> simp_all
  rw [e, this, hu]
  rfl
theorem u8v_one (l : List Nat) : ∀ u ∈ l.map u8v, u.oneCell' = true := by
  intro u hu
  simp only [List.mem_map] at hu
  obtain ⟨x, _, rfl⟩ := hu
  rfl
end Go.Proofs.Ytplhlbajgijohab
