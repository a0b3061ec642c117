/-
  A frame is searched for by its place.
  Read of a log.
-/
import Derived.Test.YtkfecngkdlajgaaGreatDoorQF
import Derived.Deep.LoopGhost
namespace Go.Proofs.YtkfecngkdlajgaaGreatDoor
open Go.RowKit Go.Extern.Stop Go.Stop Go.Extern
set_option maxRecDepth 10000

/-- The cells of a row of frames. -/
theorem frs_at {w : World} {fv : Value} {db : Nat} {fs : List Fm} (h : w.ownsRow 0 173 2 fv fs.length (fs.flatMap (fCells db))) :
    ∃ a cap, fv = .slice a fs.length cap ∧ ∀ j x, fs[j]? = some x → ∃ g, a = some ⟨g, 0, none⟩ ∧ w.cell? ⟨g, j * 2, none⟩ = some (.int .i64 (x.1 : Nat)) ∧ w.cell? ⟨g, j * 2 + 1, none⟩ = some (.slice (some ⟨db, x.1 + 6, none⟩) x.2.length x.2.length) := by
  have hl := flat_len (fCells db) 2 (fCells_len db) fs
  rcases h.2 with ⟨e, e2⟩ | ⟨g, cap, cur, e, hbg, hrow, rest⟩
  · refine ⟨none, 0, by rw [e, e2], fun j x hx => ?_⟩
    have := (List.getElem?_eq_some_iff.1 hx).1
    omega
  · refine ⟨some ⟨g, 0, none⟩, cap, e, fun j x hx => ?_⟩
    have hj := (List.getElem?_eq_some_iff.1 hx).1
    subst e
    refine ⟨g, rfl, ?_, ?_⟩
    · have k := flat_get (fCells db) 2 (fCells_len db) 0 (by omega) fs j x hx
      rw [h.cellAt (j * 2) (by omega)]
      exact k
    · have k := flat_get (fCells db) 2 (fCells_len db) 1 (by omega) fs j x hx
      rw [h.cellAt (j * 2 + 1) (by omega)]
      exact k
end Go.Proofs.YtkfecngkdlajgaaGreatDoor
namespace Go.Proofs.YtkfecngkdlajgaaGreatDoor
open Go.RowKit Go.Extern.Stop Go.Stop Go.Extern
set_option maxRecDepth 10000

theorem lown_low {w : World} {base base' e size n : Nat} {v : Value} {xs : List Value} (h : w.ownsRow base' e size v n xs) (hb : base ≤ base') : w.ownsRow base e size v n xs := by
  refine ⟨h.1, ?_⟩
  rcases h.2 with e | ⟨g, cap, cur, e, hbg, rest⟩
  · exact .inl e
  · exact .inr ⟨g, cap, cur, e, Nat.le_trans hb hbg, rest⟩
theorem clone_any (db off n c : Nat) (p : List Nat) (w : World) (hl : p.length = n) (hb : n ≤ 140737488355328) (hc : ∀ i, i < n → w.cell? ⟨db, off + i, none⟩ = some (.int .u8 ((p.getD i 0 : Nat) : Int))) :
    Calls Tryz.prog 97 #[.slice (some ⟨db, off, none⟩) n c] w fun e w' => ∃ v', e = .returned v' ∧ Own w w' v' p := by
  refine (Tryz.bytes_Clone_at ⟨db, off, none⟩ n c (p.map fun x : Nat => (x : Int)) w (by simpa using hl) hb ?_).mono ?_
  · intro i hi
    rw [show ((⟨db, off, none⟩ : Addr).add i) = ⟨db, off + i, none⟩ by simp [Addr.add], hc i hi]
    simp [List.getD, show i < p.length by omega]
  · rintro e w' ⟨v', rfl, ho, hn, hb2⟩
    refine ⟨v', rfl, ?_, hb2⟩
    rw [hl]
    have : (p.map fun x : Nat => (x : Int)).map (Value.int .u8) = p.map u8v := by simp [u8v]
    rw [← this]
    exact ho
end Go.Proofs.YtkfecngkdlajgaaGreatDoor
