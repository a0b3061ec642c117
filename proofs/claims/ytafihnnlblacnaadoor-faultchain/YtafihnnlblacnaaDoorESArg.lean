/-
  A list of texts that came in: what the walks are told of it.
-/
import Derived.Test.YtafihnnlblacnaaDoorECard
import Derived.Test.YtafihnnlblacnaaDoorEStr
import Derived.ChangeMaps5
import Derived.SliceStrings
namespace Go.Proofs.YtafihnnlblacnaaDoor
open Go.ChangeShapes Go.WideShapes Go.ChangeAt Go.RowKit

theorem bytesS : Tryd.prog.bytesOf 9 = 16 := by kernel_rfl
/-- The slice's elements are the texts l; a nil one has none. -/
structure SArg (w : World) (a : Option Addr) (len cap : Nat) (l : List ByteArray) : Prop where
  len_eq : len = l.length
  le : len ≤ cap
  max : cap ≤ maxLen
  lt : ∀ x ∈ l, x.size ≤ maxLen
  row : SRow w a l
  nil : a = none → len = 0 ∧ cap = 0

theorem sarg_mk {w : World} {x : Addr} {len cap : Nat} {zs : List ByteArray} (hl : len ≤ cap) (hm : cap ≤ maxLen) (hz : zs.length = cap)
    (hcell : ∀ i, i < zs.length → w.cell? (x.add i) = some (.string (zs.getD i ByteArray.empty))) (hwz : ∀ s ∈ zs, s.size ≤ maxLen) :
    SArg w (some x) len cap (zs.take len) where
  len_eq := by simp; omega
  le := hl
  max := hm
  lt := fun y hy => hwz y (List.mem_of_mem_take hy)
  row := by
    by_cases h0 : len = 0
    · exact .inl (by simp [h0])
    · obtain ⟨b, off, spot⟩ := x
      have hc := hcell 0 (by omega)
      have hspot : spot = none := by simpa [Addr.add] using World.cell?_spot hc
      subst hspot
      refine .inr ⟨b, off, rfl, fun i hi => ?_⟩
      have hil : i < len := by simp at hi; omega
      have h1 := hcell i (by omega)
      have e : (⟨b, off, none⟩ : Addr).add i = ⟨b, off + i, none⟩ := by unfold Addr.add; split <;> simp_all
      rw [e] at h1
      rw [h1]
      simp [List.getD, hil]
  nil := by intro h; cases h

theorem sarg_open {H : Type} {enc : TypeId × Value → H} {w : World} {a : Option Addr} {len cap fuel : Nat} {d : DataW H} {p : List MemPlace}
    (hf : DataW.trod enc Tryd.prog w 0 (fun _ => true) true fuel 34 (Value.slice a len cap).cells.toList = some (d, p)) :
    ∃ l, SArg w a len cap l ∧ ((cap = 0 ∧ l = []) ∨ ∃ ss : List ByteArray, l = ss.take len ∧ ss.length = cap ∧ d = .slice (strs (ss.take len)) (strs (ss.drop len))) := by
  rcases open_strings Tryd.underlying34 Tryd.underlying9 (by kernel_rfl) hf with ⟨hcs, _⟩ | ⟨x, l, c, ss, hcs, _, hl, hm, hz, hx, hcell, hwz⟩
  · simp [Value.cells] at hcs
    obtain ⟨rfl, rfl, rfl⟩ := hcs
    exact ⟨[], ⟨rfl, Nat.le_refl _, by decide, by simp, .inl rfl, fun _ => ⟨rfl, rfl⟩⟩, .inl ⟨rfl, rfl⟩⟩
  · simp [Value.cells] at hcs
    obtain ⟨rfl, rfl, rfl⟩ := hcs
    have hz' : ss.length = cap := by simpa using hz
    exact ⟨_, sarg_mk hl hm hz' hcell hwz, .inr ⟨ss, rfl, hz', (Prod.mk.inj hx).1⟩⟩
end Go.Proofs.YtafihnnlblacnaaDoor
