/-
  The comparison of two blocks by their dirty bytes.
-/
import Derived.Test.YtmaekpfkkpkgpaaGreatDoorSSort
import Derived.Test.YtmaekpfkkpkgpaaGreatDoorBAlive
namespace Go.Proofs.YtmaekpfkkpkgpaaGreatDoor
open Go.RowKit
set_option maxRecDepth 10000

/-- Dirty bytes of a number's block. -/
def dk (l : List PB) (x : Int) : Int := match l[x.toNat]? with
  | some b => b.used - b.live
  | none => 0
theorem dk_at {l : List PB} {i : Nat} {x : PB} (h : l[i]? = some x) : dk l (i : Int) = x.used - x.live := by
  unfold dk
  rw [Int.toNat_natCast, h]
def Tv (l : List PB) (x y : Int) : Prop := dk l y < dk l x ∨ (dk l x = dk l y ∧ x < y)
def ltv (l : List PB) (x y : Int) : Prop := dk l y < dk l x
theorem ord_v (l : List PB) : Ord (Tv l) := by
  refine ⟨fun {x y z} h1 h2 => ?_, fun x h => ?_, fun x y h => ?_⟩
  · unfold Tv at *
    omega
  · unfold Tv at h
    omega
  · unfold Tv
    omega
theorem row0_v {l : List PB} {V : List Int} (h : V.Pairwise (· < ·)) : Row0 (Tv l) (ltv l) V := by
  refine h.imp fun {x y} q => ⟨?_, by omega⟩
  unfold Tv ltv
  omega
theorem cs {W : World} {p q cap bb : Nat} {size : Int} {l : List PB} (h : BLies W p q cap size l) (hbb : W.cell? ⟨bb, 0, none⟩ = some (.pointer (some ⟨p, 0, none⟩))) {x y : Nat} {X Y : PB} (hx : l[x]? = some X) (hy : l[y]? = some Y) : (BLies W p q cap size l ∧ W.cell? ⟨bb, 0, none⟩ = some (.pointer (some ⟨p, 0, none⟩)) ∧ W.cell? ⟨p, 1, none⟩ = some (.slice (some ⟨q, 0, none⟩) l.length cap) ∧ W.cell? ⟨q, x * 4, none⟩ = some (.int .i64 X.use) ∧ W.cell? ⟨q, x * 4 + 1, none⟩ = some (.int .i64 X.used) ∧ W.cell? ⟨q, x * 4 + 2, none⟩ = some (.int .i64 X.live) ∧ W.cell? ⟨q, x * 4 + 3, none⟩ = some (.bool X.closed) ∧ W.cell? ⟨q, y * 4, none⟩ = some (.int .i64 Y.use) ∧ W.cell? ⟨q, y * 4 + 1, none⟩ = some (.int .i64 Y.used) ∧ W.cell? ⟨q, y * 4 + 2, none⟩ = some (.int .i64 Y.live) ∧ W.cell? ⟨q, y * 4 + 3, none⟩ = some (.bool Y.closed)) :=
  ⟨h, hbb, h.box.cell (i := 1) rfl, (h.at hx).1, (h.at hx).2.1, (h.at hx).2.2.1, (h.at hx).2.2.2, (h.at hy).1, (h.at hy).2.1, (h.at hy).2.2.1, (h.at hy).2.2.2⟩
theorem cs_later {W W' : World} {p q cap bb : Nat} {size : Int} {l : List PB} {x y : Nat} {X Y : PB} (hx : l[x]? = some X) (hy : l[y]? = some Y) (h : (BLies W p q cap size l ∧ W.cell? ⟨bb, 0, none⟩ = some (.pointer (some ⟨p, 0, none⟩)) ∧ W.cell? ⟨p, 1, none⟩ = some (.slice (some ⟨q, 0, none⟩) l.length cap) ∧ W.cell? ⟨q, x * 4, none⟩ = some (.int .i64 X.use) ∧ W.cell? ⟨q, x * 4 + 1, none⟩ = some (.int .i64 X.used) ∧ W.cell? ⟨q, x * 4 + 2, none⟩ = some (.int .i64 X.live) ∧ W.cell? ⟨q, x * 4 + 3, none⟩ = some (.bool X.closed) ∧ W.cell? ⟨q, y * 4, none⟩ = some (.int .i64 Y.use) ∧ W.cell? ⟨q, y * 4 + 1, none⟩ = some (.int .i64 Y.used) ∧ W.cell? ⟨q, y * 4 + 2, none⟩ = some (.int .i64 Y.live) ∧ W.cell? ⟨q, y * 4 + 3, none⟩ = some (.bool Y.closed))) (hb : Below W.heap.size W W') : (BLies W' p q cap size l ∧ W'.cell? ⟨bb, 0, none⟩ = some (.pointer (some ⟨p, 0, none⟩)) ∧ W'.cell? ⟨p, 1, none⟩ = some (.slice (some ⟨q, 0, none⟩) l.length cap) ∧ W'.cell? ⟨q, x * 4, none⟩ = some (.int .i64 X.use) ∧ W'.cell? ⟨q, x * 4 + 1, none⟩ = some (.int .i64 X.used) ∧ W'.cell? ⟨q, x * 4 + 2, none⟩ = some (.int .i64 X.live) ∧ W'.cell? ⟨q, x * 4 + 3, none⟩ = some (.bool X.closed) ∧ W'.cell? ⟨q, y * 4, none⟩ = some (.int .i64 Y.use) ∧ W'.cell? ⟨q, y * 4 + 1, none⟩ = some (.int .i64 Y.used) ∧ W'.cell? ⟨q, y * 4 + 2, none⟩ = some (.int .i64 Y.live) ∧ W'.cell? ⟨q, y * 4 + 3, none⟩ = some (.bool Y.closed)) :=
  cs (h.1.later hb) ((hb.cell (p := ⟨bb, 0, none⟩) (World.block_lt_of_cell? W _ h.2.1)).trans h.2.1) hx hy
theorem cmp_neg {x y : Int} : Lib.compareInt x y < 0 ↔ x < y := by
  unfold Lib.compareInt
  split
  · omega
  · split <;> omega
set_option maxHeartbeats 8000000 in
theorem cmp_any {W : World} {p q cap bb : Nat} {size : Int} {l : List PB} (h : BLies W p q cap size l) (hbb : W.cell? ⟨bb, 0, none⟩ = some (.pointer (some ⟨p, 0, none⟩))) (x y : Nat) {X Y : PB} (hx : l[x]? = some X) (hy : l[y]? = some Y) (hX : 0 ≤ X.live ∧ X.live ≤ X.used ∧ X.used ≤ 16777216) (hY : 0 ≤ Y.live ∧ Y.live ≤ Y.used ∧ Y.used ≤ 16777216) :
    Calls Tryz.prog cmpF #[.int .i64 (x : Nat), .int .i64 (y : Nat), .pointer (some ⟨bb, 0, none⟩)] W fun e w' => ∃ c : Int, e = .returned (.int .i64 c) ∧ (c < 0 ↔ ltv l x y) ∧ Below W.heap.size W w' := by
  have hS := And.intro (Below.refl W.heap.size W) (cs h hbb hx hy)
  have hxl := (List.getElem?_eq_some_iff.1 hx).1
  have hyl := (List.getElem?_eq_some_iff.1 hy).1
  have n1 : (x : Int) < (l.length : Int) := by omega
  have n2 : (y : Int) < (l.length : Int) := by omega
  have HX := hidW hx
  have HY := hidW hy
  have HL := hidW (show ltv l x y ↔ Y.used - Y.live < X.used - X.live by unfold ltv; rw [dk_at hx, dk_at hy])
  have kX := hidW (fun w => dirty_any X.use X.used X.live X.closed w hX.1 hX.2.1 hX.2.2)
  have kY := hidW (fun w => dirty_any Y.use Y.used Y.live Y.closed w hY.1 hY.2.1 hY.2.2)
  have M1 : Hid True := trivial
  clear h hbb hx hy hX hY hxl hyl
  go_enter Tryz.func51, Tryz.ntmps51
  go_wp2_with fail
  go_region_held3 (fun w' => Below W.heap.size W w' ∧ (BLies w' p q cap size l ∧ w'.cell? ⟨bb, 0, none⟩ = some (.pointer (some ⟨p, 0, none⟩)) ∧ w'.cell? ⟨p, 1, none⟩ = some (.slice (some ⟨q, 0, none⟩) l.length cap) ∧ w'.cell? ⟨q, x * 4, none⟩ = some (.int .i64 X.use) ∧ w'.cell? ⟨q, x * 4 + 1, none⟩ = some (.int .i64 X.used) ∧ w'.cell? ⟨q, x * 4 + 2, none⟩ = some (.int .i64 X.live) ∧ w'.cell? ⟨q, x * 4 + 3, none⟩ = some (.bool X.closed) ∧ w'.cell? ⟨q, y * 4, none⟩ = some (.int .i64 Y.use) ∧ w'.cell? ⟨q, y * 4 + 1, none⟩ = some (.int .i64 Y.used) ∧ w'.cell? ⟨q, y * 4 + 2, none⟩ = some (.int .i64 Y.live) ∧ w'.cell? ⟨q, y * 4 + 3, none⟩ = some (.bool Y.closed))) (first | assumption | exact ⟨Below.drew (And.left ‹Below _ _ _ ∧ _›), cs_later HX.out HY.out (And.right ‹Below _ _ _ ∧ _›) (Below.refl _ _).drew⟩)
    (first
    | (clear M1; go_at_call 46; refine (kY.out _).mono ?_; rintro e w' ⟨rfl, hb⟩; have hk := And.intro (Below.after (And.left ‹Below _ _ _ ∧ _›) hb) (cs_later HX.out HY.out (And.right ‹Below _ _ _ ∧ _›) hb); clear hb)
    | (go_at_call 46; refine (kX.out _).mono ?_; rintro e w' ⟨rfl, hb⟩; have hk := And.intro (Below.after (And.left ‹Below _ _ _ ∧ _›) hb) (cs_later HX.out HY.out (And.right ‹Below _ _ _ ∧ _›) hb); clear hb)
    | (go_at_call 52; refine (Tryz.cmp_Compare_int _ _ _).mono ?_; rintro e w' ⟨rfl, rfl⟩))
  all_goals go_wp2
  all_goals go_ret
  all_goals exact ⟨_, rfl, by rw [cmp_neg]; exact HL.out.symm, And.left ‹Below _ _ _ ∧ _›⟩
end Go.Proofs.YtmaekpfkkpkgpaaGreatDoor
