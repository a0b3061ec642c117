/-
  symMerge, as it runs: by induction.
-/
import Derived.Test.YtmaekpfkkpkgpaaGreatDoorSMain2
namespace Go.Proofs.YtmaekpfkkpkgpaaGreatDoor
open Go.RowKit

theorem sym_any {w : World} {g cap bb n : Nat} {T lt : Int → Int → Prop} {U : List Int} (hT : Ord T) (hc : Cmp w g U lt cmpF #[.pointer (some ⟨bb, 0, none⟩)]) (hn2 : n ≤ 256) : ∀ (N : Nat) (P X Y S : List Int), X.length + Y.length ≤ N → Two T lt U n P X Y S → SymOk w g cap bb n T P X Y S := by
  intro N
  induction N with
  | zero =>
    intro P X Y S h h2
    have := h2.x1
    omega
  | succ N ih =>
    intro P X Y S h h2 W a m b hd ha hm hb
    have hl := h2.len
    by_cases hX : X.length = 1
    · obtain ⟨x, rfl⟩ := List.length_eq_one_iff.1 hX
      refine sym_left hT hd hc (fun y hy => h2.iu y hy) h2.sy (fun y hy => h2.cr x (by simp) y hy) (by omega) n a m b hl.symm ha (by simpa using hm) (by simpa using hb)
    · by_cases hY : Y.length = 1
      · obtain ⟨y, rfl⟩ := List.length_eq_one_iff.1 hY
        exact sym_right hT hd hc (fun y hy => h2.iu y hy) h2.sx hX (fun x hx => h2.cr x hx y (by simp)) (by omega) n a m b hl.symm ha hm (by simpa using hb)
      · by_cases hgt : (a + b) / 2 < m
        · exact sym_main1 hT hc hn2 h2 hX hY (fun P' X' Y' S' q1 q2 => ih P' X' Y' S' (by omega) q1) W a m b hd ha hm hb hgt
        · exact sym_main2 hT hc hn2 h2 hX hY (fun P' X' Y' S' q1 q2 => ih P' X' Y' S' (by omega) q1) W a m b hd ha hm hb hgt
end Go.Proofs.YtmaekpfkkpkgpaaGreatDoor
