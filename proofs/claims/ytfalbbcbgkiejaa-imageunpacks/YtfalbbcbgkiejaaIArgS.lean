/-
  A list of bytes that came in: what the walks are told of it.
-/
import Derived.Test.YtfalbbcbgkiejaaIArgI
import Derived.ChangeMaps5
import Derived.ProofKit
import Derived.OpenShut
import Derived.ShutString
import Derived.ChangeOld
import Derived.SizedLaws
namespace Go.Proofs.Ytfalbbcbgkiejaa
open Go.ChangeShapes Go.WideShapes Go.ChangeAt Go.RowKit M

theorem bytes8 : Try.prog.bytesOf 5 = 1 := by kernel_rfl

/-- The slice's elements are the bytes l; a nil one has none. -/
structure BArg (w : World) (a : Option Addr) (len cap : Nat) (l : List Nat) : Prop where
  len_eq : len = l.length
  le : len ≤ cap
  max : cap ≤ maxLen
  lt : ∀ x ∈ l, x < 256
  row : BRow w a l
  nil : a = none → len = 0 ∧ cap = 0

theorem toNats (zs : List Int) (hwz : ∀ n ∈ zs, (Lit.int .u8 n).wf = true) (i : Nat) (hi : i < zs.length) : (((zs.map Int.toNat).getD i 0 : Nat) : Int) = zs.getD i 0 := by
  have hb := bounds_u8 (hwz zs[i] (List.getElem_mem hi))
  simp [List.getD, hi]
  omega

theorem barg_mk {w : World} {x : Addr} {len cap : Nat} {zs : List Int} (hl : len ≤ cap) (hm : cap ≤ maxLen) (hz : zs.length = cap)
    (hcell : ∀ i, i < zs.length → w.cell? (x.add i) = some (.int .u8 (zs.getD i 0))) (hwz : ∀ n ∈ zs, (Lit.int .u8 n).wf = true) :
    BArg w (some x) len cap ((zs.take len).map Int.toNat) where
  len_eq := by simp; omega
  le := hl
  max := hm
  lt := by
    intro y hy
    simp only [List.mem_map] at hy
    obtain ⟨z, hz1, rfl⟩ := hy
    have := bounds_u8 (hwz z (List.mem_of_mem_take hz1))
    omega
  row := by
    by_cases h0 : len = 0
    · exact .inl (by simp [h0])
    · obtain ⟨b, off, spot⟩ := x
      have hc := hcell 0 (by omega)
      have hspot : spot = none := by simpa [Addr.add] using World.cell?_spot hc
      subst hspot
      refine .inr ⟨b, off, rfl, fun i hi => ?_⟩
      have hil : i < len := by simp at hi; omega
      have h1 := hcell i (by omega)
      have e : (⟨b, off, none⟩ : Addr).add i = ⟨b, off + i, none⟩ := by unfold Addr.add; split <;> simp_all
      rw [e] at h1
      rw [h1, toNats (zs.take len) (fun n hn => hwz n (List.mem_of_mem_take hn)) i (by simp; omega)]
      simp [List.getD, hil]
  nil := by intro h; cases h

theorem barg_open_sized {H : Type} {enc : TypeId × Value → H} {w : World} {a : Option Addr} {len cap fuel : Nat} {d : DataW H} {p : List MemPlace}
    (hf : DataW.trod enc Try.prog w 0 (fun _ => true) true fuel 25 (Value.slice a len cap).cells.toList = some (d, p)) :
    ∃ l, BArg w a len cap l ∧ (cap = 0 ∨ ∃ elems spare, d = .slice elems spare ∧ elems.length + spare.length = cap) := by
  rcases open_ints Try.underlying25 Try.underlying5 (by kernel_rfl) hf with ⟨hcs, _⟩ | ⟨x, l, c, zs, hcs, _, hl, hm, hz, hx, hcell, hwz⟩
  · simp [Value.cells] at hcs
    obtain ⟨rfl, rfl, rfl⟩ := hcs
    exact ⟨[], ⟨rfl, Nat.le_refl _, by decide, by simp, .inl rfl, fun _ => ⟨rfl, rfl⟩⟩, .inl rfl⟩
  · simp [Value.cells] at hcs
    obtain ⟨rfl, rfl, rfl⟩ := hcs
    have hz' : zs.length = cap := by simpa using hz
    refine ⟨_, barg_mk hl hm hz' hcell hwz, .inr ⟨_, _, (Prod.mk.inj hx).1, ?_⟩⟩
    simp [lits]
    omega
theorem barg_open {H : Type} {enc : TypeId × Value → H} {w : World} {a : Option Addr} {len cap fuel : Nat} {d : DataW H} {p : List MemPlace}
    (hf : DataW.trod enc Try.prog w 0 (fun _ => true) true fuel 25 (Value.slice a len cap).cells.toList = some (d, p)) :
    ∃ l, BArg w a len cap l := by
  obtain ⟨l, h, _⟩ := barg_open_sized hf
  exact ⟨l, h⟩
end Go.Proofs.Ytfalbbcbgkiejaa
