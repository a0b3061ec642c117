/-
  A list of texts that came in: what the walks are told of it, and what a bound on the whole of what came in says of it.
-/
import Derived.Test.YtfmgaahileknfaaIArg
import Derived.Test.YtfmgaahileknfaaIStr
import Derived.SliceStrings
namespace Go.Proofs.Ytfmgaahileknfaa
open Go.ChangeShapes Go.WideShapes Go.ChangeAt Go.RowKit M

theorem sarg_mk {w : World} {x : Addr} {len cap : Nat} {zs : List K} (hl : len ≤ cap) (hm : cap ≤ maxLen) (hz : zs.length = cap)
    (hcell : ∀ i, i < zs.length → w.cell? (x.add i) = some (.string (zs.getD i ByteArray.empty))) (hwz : ∀ s ∈ zs, s.size ≤ maxLen) :
    SArg w (some x) len cap (zs.take len) where
  len_eq := by simp; omega
  le := hl
  max := hm
  lt := fun y hy => hwz y (List.mem_of_mem_take hy)
  row := by
    by_cases h0 : len = 0
    · exact .inl (by simp [h0])
    · obtain ⟨b, off, spot⟩ := x
      have hc := hcell 0 (by omega)
      have hspot : spot = none := by simpa [Addr.add] using World.cell?_spot hc
      subst hspot
      refine .inr ⟨b, off, rfl, fun i y hy => ?_⟩
      have hil : i < len := by have := (List.getElem?_eq_some_iff.1 hy).1; simp at this; omega
      have h1 := hcell i (by omega)
      rw [add_plain] at h1
      rw [h1]
      rw [List.getElem?_take, if_pos hil] at hy
      simp [List.getD, hy]

theorem sarg_open {H : Type} {enc : TypeId × Value → H} {w : World} {a : Option Addr} {len cap fuel : Nat} {d : DataW H} {p : List MemPlace}
    (hf : DataW.trod enc Try.prog w 0 (fun _ => true) true fuel 23 (Value.slice a len cap).cells.toList = some (d, p)) :
    ∃ l, SArg w a len cap l ∧ ((cap = 0 ∧ l = []) ∨ ∃ ss : List ByteArray, l = ss.take len ∧ ss.length = cap ∧ d = .slice (strs (ss.take len)) (strs (ss.drop len))) := by
  rcases open_strings Try.underlying23 Try.underlying9 (by kernel_rfl) hf with ⟨hcs, _⟩ | ⟨x, l, c, ss, hcs, _, hl, hm, hz, hx, hcell, hwz⟩
  · simp [Value.cells] at hcs
    obtain ⟨rfl, rfl, rfl⟩ := hcs
    exact ⟨[], ⟨rfl, Nat.le_refl _, by decide, by simp, .inl rfl⟩, .inl ⟨rfl, rfl⟩⟩
  · simp [Value.cells] at hcs
    obtain ⟨rfl, rfl, rfl⟩ := hcs
    have hz' : ss.length = cap := by simpa using hz
    exact ⟨_, sarg_mk hl hm hz' hcell hwz, .inr ⟨ss, rfl, hz', (Prod.mk.inj hx).1⟩⟩

/-- The bytes of all the texts, and one more for each. -/
def weigh (l : List K) : Nat := (l.map (fun s => s.size + 1)).sum
theorem weigh_nil : weigh [] = 0 := rfl
theorem weigh_cons (s : K) (l : List K) : weigh (s :: l) = s.size + 1 + weigh l := by simp [weigh]
theorem weigh_length : ∀ l : List K, l.length ≤ weigh l
  | [] => Nat.le_refl _
  | s :: l => by have := weigh_length l; rw [weigh_cons, List.length_cons]; omega
theorem bulk_strs {H : Type} : ∀ l : List ByteArray, Rows.uptoBulkAll (strs (H := H) l) = weigh l
  | [] => by simp [strs, Rows.uptoBulkAll, weigh_nil]
  | s :: l => by
    have h := bulk_strs (H := H) l
    unfold strs at h ⊢
    have e : s.data.toList.length = s.size := by rw [Array.length_toList]; rfl
    simp only [List.map_cons, Rows.uptoBulkAll, Rows.uptoBulk]
    rw [h, weigh_cons, e]
/-- What the reading of a list of texts weighs. -/
theorem bulk_slice {H : Type} (l m : List ByteArray) : Rows.uptoBulk (DataW.slice (strs (H := H) l) (strs m)) = weigh l + weigh m + 1 := by
  simp only [Rows.uptoBulk, bulk_strs]
theorem bulk_pos {H : Type} (d : DataW H) : 1 ≤ Rows.uptoBulk d := by
  cases d with
  | lit x => cases x <;> simp [Rows.uptoBulk]
  | _ => simp [Rows.uptoBulk]
theorem bulk_len {H : Type} : ∀ l : List (DataW H), l.length ≤ Rows.uptoBulkAll l
  | [] => Nat.zero_le _
  | d :: r => by
    have h1 := bulk_len r
    have h2 := bulk_pos d
    simp only [Rows.uptoBulkAll, List.length_cons]
    omega
end Go.Proofs.Ytfmgaahileknfaa
