/-
  What the second form's bound says of a list of nodes that came in.
-/
import Derived.Test.YtplhlbajgijohabPF
namespace Go.Proofs.Ytplhlbajgijohab
open Go.RowKit M
set_option maxRecDepth 10000

/-- Nodes with small keys and values. -/
def okU (l : List Nw) : Prop := l.length ≤ 1048576 ∧ (∀ y ∈ l, y.k.size ≤ 1048576 ∧ y.v.size ≤ 1048576)
theorem bulk_pos {H : Type} (d : DataW H) : 1 ≤ Rows.uptoBulk d := by
  cases d with
  | lit x => cases x <;> simp [Rows.uptoBulk]
  | _ => simp [Rows.uptoBulk]
theorem bulk_len {H : Type} : ∀ l : List (DataW H), l.length ≤ Rows.uptoBulkAll l
  | [] => Nat.zero_le _
  | d :: r => by
    have h1 := bulk_len r
    have h2 := bulk_pos d
    simp only [Rows.uptoBulkAll, List.length_cons]
    omega
theorem bulk_mem {H : Type} : ∀ {l : List (DataW H)} {d : DataW H}, d ∈ l → Rows.uptoBulk d ≤ Rows.uptoBulkAll l
  | [], _, h => by simp at h
  | x :: l, d, h => by
    simp only [Rows.uptoBulkAll]
    rcases List.mem_cons.1 h with rfl | h
    · omega
    · have := bulk_mem h; omega
theorem bulk_nw {H : Type} (y : Nw) : y.k.size ≤ Rows.uptoBulk (nwD (H := H) y) ∧ y.v.size ≤ Rows.uptoBulk (nwD (H := H) y) := by
  have e1 : y.k.data.toList.length = y.k.size := by rw [Array.length_toList]; rfl
  have e2 : y.v.data.toList.length = y.v.size := by rw [Array.length_toList]; rfl
  unfold nwD
  simp only [Rows.uptoBulk, Rows.uptoBulkAll, e1, e2]
  omega
theorem narg_bulk {H : Type} {w : World} {a : Option Addr} {len cap : Nat} {d : DataW H} {l : List Nw} (h : NRead H w a len cap d l) (hb : Rows.uptoBulk d ≤ 1048576) : NArg w a len cap l ∧ cap ≤ 1048576 ∧ okU l := by
  obtain ⟨h1, h2, h3, h4, h5, h6⟩ := h
  have hk : (∀ y ∈ l, y.k.size ≤ 1048576 ∧ y.v.size ≤ 1048576) ∧ cap ≤ 1048576 := by
    rcases h6 with ⟨rfl, rfl⟩ | ⟨spare, rfl, hc⟩
    · exact ⟨by simp, by omega⟩
    · simp only [Rows.uptoBulk] at hb
      have q1 := bulk_len (l.map (nwD (H := H)))
      have q2 := bulk_len spare
      rw [List.length_map] at q1
      refine ⟨fun y hy => ?_, by omega⟩
      have hm : nwD (H := H) y ∈ l.map nwD := List.mem_map.2 ⟨y, hy, rfl⟩
      have q3 := bulk_mem hm
      have q4 := bulk_nw (H := H) y
      omega
  exact ⟨⟨h1, h2, h3, h4, fun y hy => by have := hk.1 y hy; omega, fun y hy => by have := hk.1 y hy; omega⟩, hk.2, by omega, hk.1⟩
end Go.Proofs.Ytplhlbajgijohab
