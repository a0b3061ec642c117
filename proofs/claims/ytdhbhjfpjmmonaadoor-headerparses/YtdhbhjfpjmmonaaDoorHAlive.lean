/-
  The chapter's examples: the laws' alive answers true, and turns nothing that was there.
-/
import Derived.Test.YtdhbhjfpjmmonaaDoorHMath
namespace Go.Proofs.YtdhbhjfpjmmonaaDoor
open Go.RowKit Go.Extern.Stop Go.Stop Go.Extern M

theorem fillL_lt {l : List Nat} (h : ∀ x ∈ l, x < 256) (n : Nat) : ∀ x ∈ fillL l n, x < 256 := by
  intro x hx
  simp only [fillL, List.mem_append, List.mem_replicate] at hx
  rcases hx with hx | ⟨_, rfl⟩
  · exact h x (List.mem_of_mem_take hx)
  · decide
theorem imgL_lt {p : List Nat} (h : ∀ x ∈ p, x < 256) (page : Nat) : ∀ x ∈ imgL p page, x < 256 := fillL_lt (frameL_lt h) page

/-- Bytes that lie in memory. -/
structure Lies (w : World) (a : Option Addr) (n cap : Nat) (l : List Nat) : Prop where
  len : n = l.length
  le : n ≤ cap
  max : cap ≤ maxLen
  lt : ∀ x ∈ l, x < 256
  row : BRow w a l
theorem Lies.later {w w' : World} {a : Option Addr} {n cap : Nat} {l : List Nat} (h : Lies w a n cap l) (hb : Below w.heap.size w w') : Lies w' a n cap l := ⟨h.len, h.le, h.max, h.lt, h.row.later hb⟩
theorem lies_img {w w' : World} {g page : Nat} {p : List Nat} (ho : Own w w' (.slice (some ⟨g, 0, none⟩) page page) (imgL p page)) (hp : page ≤ 512) (h : ∀ x ∈ p, x < 256) : Lies w' (some ⟨g, 0, none⟩) page page (imgL p page) :=
  ⟨(imgL_length _ _).symm, Nat.le_refl _, by unfold maxLen; omega, imgL_lt h page, own_at ho⟩

theorem pc_some {w : World} {a : Option Addr} {n cap z : Nat} {l : List Nat} (hg : Glb w) (h : Lies w a n cap l) (hr : parseC l = some z) :
    Calls Tryd.prog 13 #[.slice a n cap] w fun e w' => e = .returned (.tuple #[.int .i64 (z : Int), .bool true]) ∧ Below w.heap.size w w' := by
  have := parseCount_any a n cap l w hg h.len h.le h.max h.lt h.row
  rw [hr] at this
  exact this
theorem pc_none {w : World} {a : Option Addr} {n cap : Nat} {l : List Nat} (hg : Glb w) (h : Lies w a n cap l) (hr : parseC l = none) :
    Calls Tryd.prog 13 #[.slice a n cap] w fun e w' => e = .returned (.tuple #[.int .i64 0, .bool false]) ∧ Below w.heap.size w w' := by
  have := parseCount_any a n cap l w hg h.len h.le h.max h.lt h.row
  rw [hr] at this
  exact this
theorem pm_some {w : World} {a : Option Addr} {n cap x y z : Nat} {l : List Nat} (hg : Glb w) (h : Lies w a n cap l) (hr : parseM l = some (x, y, z)) :
    Calls Tryd.prog 15 #[.slice a n cap] w fun e w' => e = .returned (.tuple #[.agg #[.int .i64 (x : Int), .int .u64 (y : Int), .int .i64 (z : Int)], .bool true]) ∧ Below w.heap.size w w' := by
  have := parseMapping_any a n cap l w hg h.len h.le h.max h.lt h.row
  rw [hr] at this
  exact this
theorem pm_none {w : World} {a : Option Addr} {n cap : Nat} {l : List Nat} (hg : Glb w) (h : Lies w a n cap l) (hr : parseM l = none) :
    Calls Tryd.prog 15 #[.slice a n cap] w fun e w' => e = .returned (.tuple #[.agg #[.int .i64 0, .int .u64 0, .int .i64 0], .bool false]) ∧ Below w.heap.size w w' := by
  have := parseMapping_any a n cap l w hg h.len h.le h.max h.lt h.row
  rw [hr] at this
  exact this
/-- Count and Mapping, with what is needed behind them. -/
def MadePost (w : World) (p : List Nat) (page : Nat) (e : Ending) (w' : World) : Prop :=
  ∃ g, e = .returned (.tuple #[.slice (some ⟨g, 0, none⟩) page page, .int .i64 0]) ∧ Lies w' (some ⟨g, 0, none⟩) page page (imgL p page) ∧ Below w.heap.size w w' ∧ Own w w' (.slice (some ⟨g, 0, none⟩) page page) (imgL p page)
theorem count_made (n page : Nat) (w : World) (h1 : n ≤ 2147483647) (h2 : 64 ≤ page) (h3 : page ≤ 512) : Calls Tryd.prog 7 #[.int .i64 n, .int .i64 page] w (MadePost w (countL n) page) := by
  refine (count_yes n page w h1 h2 h3).mono ?_
  rintro e w' ⟨g, rfl, ho⟩
  exact ⟨g, rfl, lies_img ho h3 (countL_lt n), ho.2, ho⟩
theorem map_made (leb seq pages page : Nat) (w : World) (h1 : leb ≤ 255) (h2 : pages ≤ 64) (hs : seq < 18446744073709551616) (h3 : 64 ≤ page) (h4 : page ≤ 512) :
    Calls Tryd.prog 9 #[.agg #[.int .i64 leb, .int .u64 seq, .int .i64 pages], .int .i64 page] w (MadePost w (mapL leb seq pages) page) := by
  refine (mapping_yes leb seq pages page w h1 h2 hs h3 h4).mono ?_
  rintro e w' ⟨g, rfl, ho⟩
  exact ⟨g, rfl, lies_img ho h4 (mapL_lt _ _ _), ho.2, ho⟩

theorem b7 : parseC (imgL (countL 7) 64) = some 7 := back_c 7 64 (by decide) (by decide) (by decide)
theorem b392 : parseM (imgL (mapL 3 9 2) 64) = some (3, 9, 2) := back_m 3 9 2 64 (by decide) (by decide) (by decide) (by decide) (by decide)
theorem x392 : parseC (imgL (mapL 3 9 2) 64) = none := cross_m 3 9 2 64 (by decide) (by decide)

set_option maxRecDepth 10000 in
set_option maxHeartbeats 4000000 in
theorem alive_any (w : World) (hg : Glb w) : Calls Tryd.prog 12 #[] w fun e w' => e = .returned (.bool true) ∧ Below w.heap.size w w' := by
  have HG : Hid (Glb w) := hg
  have c1 : Calls Tryd.prog 7 #[.int .i64 7, .int .i64 64] w (MadePost w (countL 7) 64) := count_made 7 64 w (by decide) (by decide) (by decide)
  have c2 : ∀ w, Calls Tryd.prog 9 #[.agg #[.int .i64 3, .int .u64 9, .int .i64 2], .int .i64 64] w (MadePost w (mapL 3 9 2) 64) := fun w => map_made 3 9 2 64 w (by decide) (by decide) (by decide) (by decide) (by decide)
  have c3 : ∀ w a, Glb w → Lies w a 64 64 (imgL (mapL 3 9 2) 64) → Calls Tryd.prog 15 #[.slice a 64 64] w fun e w' => e = .returned (.tuple #[.agg #[.int .i64 3, .int .u64 9, .int .i64 2], .bool true]) ∧ Below w.heap.size w w' := fun w a hg h => pm_some hg h b392
  clear hg
  have M1 : Hid True := trivial
  go_enter Tryd.func12, Tryd.ntmps12
  go_wp2_with (first
    | (go_at_call 7; refine c1.mono ?_; rintro e w1 ⟨g1, rfl, hl1, hb1, _⟩; have HL1 : Hid (Lies _ _ _ _ _) := hl1; have HB1 : Hid (Below w.heap.size w w1) := hb1; clear hl1 hb1 c1)
    | (go_at_call 9; refine (c2 _).mono ?_; rintro e w2 ⟨g2, rfl, hl2, hb2, _⟩; have HL2 : Hid (Lies _ _ _ _ _) := hl2; have HL12 : Hid (Lies w2 _ _ _ _) := HL1.out.later hb2; have HB2 : Hid (Below w.heap.size w w2) := Below.after HB1.out hb2; clear hl2 hb2 c2)
    | (go_at_call 13; clear M1; refine (pc_some (HG.out.later HB2.out) HL12.out b7).mono ?_; rintro e w3 ⟨rfl, hb3⟩; have HL3 : Hid (Lies w3 _ _ _ _) := HL2.out.later hb3; have HB3 : Hid (Below w.heap.size w w3) := Below.after HB2.out hb3; clear hb3)
    | (go_at_call 15; refine (c3 _ _ (HG.out.later HB3.out) HL3.out).mono ?_; rintro e w4 ⟨rfl, hb4⟩; have HL4 : Hid (Lies (w4.alloc (.cells #[.int .i64 3, .int .u64 9, .int .i64 2] 30)) _ _ _ _) := HL3.out.later (Below.after hb4 (below_new _ _)); have HB4 : Hid (Below w.heap.size w (w4.alloc (.cells #[.int .i64 3, .int .u64 9, .int .i64 2] 30))) := Below.after (Below.after HB3.out hb4) (below_new _ _); clear hb4)
    | (go_at_call 13; refine (pc_none (HG.out.later HB4.out) HL4.out x392).mono ?_; rintro e w5 ⟨rfl, hb5⟩; have hr5 := (Row.new w4 [.int .i64 3, .int .u64 9, .int .i64 2] 30).later hb5; have d0 : w5.cell? ⟨w4.heap.size, 0, none⟩ = some (.int .i64 3) := hr5.cell (i := 0) rfl; have d1 : w5.cell? ⟨w4.heap.size, 1, none⟩ = some (.int .u64 9) := hr5.cell (i := 1) rfl; have d2 : w5.cell? ⟨w4.heap.size, 2, none⟩ = some (.int .i64 2) := hr5.cell (i := 2) rfl; have HB5 : Hid (Below w.heap.size w w5) := Below.after HB4.out hb5; clear hb5 hr5))
  go_ret
  exact ⟨rfl, HB5.out⟩
end Go.Proofs.YtdhbhjfpjmmonaaDoor
