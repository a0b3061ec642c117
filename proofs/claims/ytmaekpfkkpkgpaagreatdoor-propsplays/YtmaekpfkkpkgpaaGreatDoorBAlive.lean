/-
  A list of one block is sorted; Victims of such a list; Ints; alive.
-/
import Derived.Test.YtmaekpfkkpkgpaaGreatDoorBLists
namespace Go.Proofs.YtmaekpfkkpkgpaaGreatDoor
open Go.RowKit Go.Shelf
set_option maxRecDepth 10000

set_option maxHeartbeats 1000000 in
theorem insert_one (a : Option Addr) (m cap : Nat) (hm : m ≤ 1) (fv : Value) (w : World) : Calls Tryz.prog 74 #[.slice a m cap, .int .i64 0, .int .i64 (m : Nat), fv] w fun e w' => e = .returned (.tuple #[]) ∧ w = w' := by
  have h1 : ¬ (1 : Int) < (m : Int) := by omega
  clear hm
  go_enter Tryz.func74, Tryz.ntmps74
  go_wp2_with fail
  go_loopw [8] (fun s8 wr => s8 = .int .i64 1 ∧ w = wr) (fun _ _ => 0)
  case atStart => exact ⟨rfl, rfl⟩
  case round =>
    obtain ⟨rfl, rfl⟩ := hrel
    go_wp2
    go_end0
    exact ⟨rfl, rfl⟩
set_option maxHeartbeats 1000000 in
theorem stable_one (a : Option Addr) (m cap : Nat) (hm : m ≤ 1) (fv : Value) (w : World) : Calls Tryz.prog 65 #[.slice a m cap, .int .i64 (m : Nat), fv] w fun e w' => e = .returned (.tuple #[]) ∧ w = w' := by
  have h1 : ¬ (20 : Int) ≤ (m : Int) := by omega
  have h2 : ¬ (20 : Int) < (m : Int) := by omega
  have kI := insert_one a m cap hm fv w
  clear hm
  go_enter Tryz.func65, Tryz.ntmps65
  go_wp2_with fail
  go_loopw [7, 8] (fun s7 s8 wr => s7 = .int .i64 0 ∧ s8 = .int .i64 20 ∧ w = wr) (fun _ _ _ => 0)
  case atStart => exact ⟨rfl, rfl, rfl⟩
  case round =>
    obtain ⟨rfl, rfl, rfl⟩ := hrel
    go_wp2_with (go_at_call 74; refine kI.mono ?_; rintro e w1 ⟨rfl, rfl⟩)
    go_loopw [6] (fun s6 wr => s6 = .int .i64 20 ∧ w = wr) (fun _ _ => 0)
    case atStart => exact ⟨rfl, rfl⟩
    case round =>
      obtain ⟨rfl, rfl⟩ := hrel
      go_wp2
      go_end0
      exact ⟨rfl, rfl⟩
theorem sort_one (a : Option Addr) (m cap : Nat) (hm : m ≤ 1) (fv : Value) (w : World) : Calls Tryz.prog 50 #[.slice a m cap, fv] w fun e w' => e = .returned (.tuple #[]) ∧ w = w' := by
  have kI := stable_one a m cap hm fv w
  clear hm
  go_enter Tryz.func50, Tryz.ntmps50
  go_wp2_with (go_at_call 65; refine kI.mono ?_; rintro e w1 ⟨rfl, rfl⟩)
  go_end0
  exact ⟨rfl, rfl⟩
theorem taken_any (x : PB) (use : Int) (w : World) : Calls Tryz.prog 49 #[.agg #[.int .i64 x.use, .int .i64 x.used, .int .i64 x.live, .bool x.closed], .int .i64 use] w fun e w' => e = .returned (.bool (decide (x.use ≠ 0 ∧ x.use = use))) ∧ Below w.heap.size w w' := by
  have hr := Row.new w [.int .i64 x.use, .int .i64 x.used, .int .i64 x.live, .bool x.closed] 54
  have kF := free_any x.use x.used x.live x.closed (w.alloc (.cells #[.int .i64 x.use, .int .i64 x.used, .int .i64 x.live, .bool x.closed] 54))
  have HR := hidW hr
  clear hr
  by_cases h0 : x.use = 0
  · rw [decide_eq_true h0] at kF
    have e1 : decide (x.use ≠ 0 ∧ x.use = use) = false := by simp [h0]
    rw [e1]
    clear h0 e1
    go_enter Tryz.func49, Tryz.ntmps49
    go_wp2_with (go_at_call 42; refine kF.mono ?_; rintro e w1 ⟨rfl, hb1⟩; have HB1 := hidW hb1; clear hb1)
    go_ret
    exact ⟨rfl, Below.after (below_new _ _) HB1.out⟩
  · rw [decide_eq_false h0] at kF
    by_cases h1 : x.use = use
    · have e1 : decide (x.use ≠ 0 ∧ x.use = use) = true := by simp [h1]; rw [← h1]; exact h0
      rw [e1]
      have e2 : (x.use == use) = true := by simpa using h1
      clear h0 e1 h1
      go_enter Tryz.func49, Tryz.ntmps49
      go_wp2_with (go_at_call 42; refine kF.mono ?_; rintro e w1 ⟨rfl, hb1⟩; have c0 : w1.cell? ⟨w.heap.size, 0, none⟩ = some (.int .i64 x.use) := (HR.out.later hb1).cell (i := 0) rfl; have HB1 := hidW hb1; clear hb1)
      go_ret
      exact ⟨by first | rfl | exact ret_bool (by simp [e2]), Below.after (below_new _ _) HB1.out⟩
    · have e1 : decide (x.use ≠ 0 ∧ x.use = use) = false := by simp [h1]
      rw [e1]
      have e2 : (x.use == use) = false := by simpa using h1
      clear h0 e1 h1
      go_enter Tryz.func49, Tryz.ntmps49
      go_wp2_with (go_at_call 42; refine kF.mono ?_; rintro e w1 ⟨rfl, hb1⟩; have c0 : w1.cell? ⟨w.heap.size, 0, none⟩ = some (.int .i64 x.use) := (HR.out.later hb1).cell (i := 0) rfl; have HB1 := hidW hb1; clear hb1)
      go_ret
      exact ⟨by first | rfl | exact ret_bool (by simp [e2]), Below.after (below_new _ _) HB1.out⟩
/-- Is it a victim? -/
def vicB (use : Int) (x : PB) : Bool := decide (x.use ≠ 0 ∧ x.use = use) && x.closed && decide (0 < x.used - x.live)
set_option maxHeartbeats 1000000 in
theorem vict1_any (x : PB) (use : Int) (ub : Nat) (w : World) (hu : w.cell? ⟨ub, 0, none⟩ = some (.int .i64 use)) (h1 : 0 ≤ x.live) (h2 : x.live ≤ x.used) (h3 : x.used ≤ 16777216) : Calls Tryz.prog 48 #[.agg #[.int .i64 x.use, .int .i64 x.used, .int .i64 x.live, .bool x.closed], .pointer (some ⟨ub, 0, none⟩)] w fun e w' => e = .returned (.bool (vicB use x)) ∧ Below w.heap.size w w' := by
  obtain ⟨us, ud, lv, c⟩ := x
  dsimp only at h1 h2 h3 ⊢
  obtain ⟨X, hX⟩ : ∃ X, X = w.alloc (.cells #[.int .i64 us, .int .i64 ud, .int .i64 lv, .bool c] 54) := ⟨_, rfl⟩
  have hb := below_new w (.cells #[.int .i64 us, .int .i64 ud, .int .i64 lv, .bool c] 54)
  have hu1 : (w.alloc (.cells #[.int .i64 us, .int .i64 ud, .int .i64 lv, .bool c] 54)).cell? ⟨ub, 0, none⟩ = some (.int .i64 use) := (hb.cell (p := ⟨ub, 0, none⟩) (World.block_lt_of_cell? w _ hu)).trans hu
  have HR := hidW (show Row X w.heap.size [.int .i64 us, .int .i64 ud, .int .i64 lv, .bool c] 54 by rw [hX]; exact Row.new w _ _)
  have HB := hidW (show Below w.heap.size w X by rw [hX]; exact hb)
  have kT := taken_any ⟨us, ud, lv, c⟩ use X
  have kD := hidW (fun W => dirty_any us ud lv c W h1 h2 h3)
  unfold vicB
  dsimp only at kT ⊢
  obtain ⟨b1, hb1⟩ : ∃ b1, b1 = decide (us ≠ 0 ∧ us = use) := ⟨_, rfl⟩
  rw [← hb1] at kT ⊢
  clear hb1 hb h1 h2 h3 hu
  have hR := hidW (fun w1 (hb : Below X.heap.size X w1) => HR.out.later hb)
  cases b1 with
  | false =>
    go_enter Tryz.func48, Tryz.ntmps48
    go_wp2_with fail
    rw [← hX]
    clear hX
    refine kT.mono ?_
    rintro e w1 ⟨rfl, hb2⟩
    have HB1 := hidW (Below.after HB.out hb2)
    clear hb2
    go_wp2
    go_ret
    exact ⟨rfl, HB1.out⟩
  | true =>
    cases c with
    | true =>
      go_enter Tryz.func48, Tryz.ntmps48
      go_wp2_with fail
      rw [← hX]
      clear hX
      refine kT.mono ?_
      rintro e w1 ⟨rfl, hb2⟩
      have HB1 := hidW (Below.after HB.out hb2)
      have r1 := hR.out _ hb2
      have c0 : w1.cell? ⟨w.heap.size, 0, none⟩ = some (.int .i64 us) := r1.cell (i := 0) rfl
      have c1 : w1.cell? ⟨w.heap.size, 1, none⟩ = some (.int .i64 ud) := r1.cell (i := 1) rfl
      have c2 : w1.cell? ⟨w.heap.size, 2, none⟩ = some (.int .i64 lv) := r1.cell (i := 2) rfl
      have c3 : w1.cell? ⟨w.heap.size, 3, none⟩ = some (.bool true) := r1.cell (i := 3) rfl
      have kD1 := kD.out w1
      clear hb2 r1
      go_wp2_with (go_at_call 46; refine kD1.mono ?_; rintro e w2 ⟨rfl, hb3⟩; have HB3 := hidW hb3; clear hb3)
      go_ret
      exact ⟨by first | rfl | exact ret_bool (by simp), Below.after HB1.out HB3.out⟩
    | false =>
      go_enter Tryz.func48, Tryz.ntmps48
      go_wp2_with fail
      rw [← hX]
      clear hX
      refine kT.mono ?_
      rintro e w1 ⟨rfl, hb2⟩
      have HB1 := hidW (Below.after HB.out hb2)
      have r1 := hR.out _ hb2
      have c3 : w1.cell? ⟨w.heap.size, 3, none⟩ = some (.bool false) := r1.cell (i := 3) rfl
      clear hb2 r1
      go_wp2
      go_ret
      exact ⟨by first | rfl | exact ret_bool (by simp), HB1.out⟩
/-- Victims of a book with at most one. -/
theorem victims_one {w : World} {p q cap : Nat} {size : Int} {l : List PB} (h : BLies w p q cap size l) (hO : BkOk size l) (use : Int) (h1 : (thoseF (vicB use) 0 l).length ≤ 1) :
    Calls Tryz.prog 20 #[.pointer (some ⟨p, 0, none⟩), .int .i64 use] w fun e w' => ∃ v, e = .returned v ∧ OwnI w.heap.size w' v (thoseF (vicB use) 0 l) ∧ Below w.heap.size w w' := by
  obtain ⟨X, hX⟩ : ∃ X, X = (w.alloc (.cells #[.pointer (some ⟨p, 0, none⟩)] 23)).alloc (.cells #[.int .i64 use] 3) := ⟨_, rfl⟩
  have hb : Below w.heap.size w X := by rw [hX]; exact Below.after (below_new _ _) (below_new _ _)
  have hu : X.cell? ⟨w.heap.size + 1, 0, none⟩ = some (.int .i64 use) := by
    rw [hX]
    have := (Row.new (w.alloc (.cells #[.pointer (some ⟨p, 0, none⟩)] 23)) [.int .i64 use] 3).cell (i := 0) rfl
    rw [World.size_alloc] at this
    exact this
  have hp0 : ((w.alloc (.cells #[.pointer (some ⟨p, 0, none⟩)] 23)).alloc (.cells #[.int .i64 use] 3)).cell? ⟨w.heap.size, 0, none⟩ = some (.pointer (some ⟨p, 0, none⟩)) := ((Row.new w [.pointer (some ⟨p, 0, none⟩)] 23).alloc _).cell (i := 0) rfl
  have hsz : w.heap.size + 1 < X.heap.size := by rw [hX]; simp
  have kT := those_vict (h.later hb) hO.n2 (vicB use) (w.heap.size + 1) (fun Y x hY hx => vict1_any x use (w.heap.size + 1) Y ((hY.cell (p := ⟨w.heap.size + 1, 0, none⟩) hsz).trans hu) (hO.ok x hx).l0 (hO.ok x hx).lu (by have := (hO.ok x hx).us; have := hO.s2; omega))
  have HB := hidW hb
  have hmf : ∀ (fn : Fn) (first cap : Array Value) (w : World), (Instr.makeFunc fn first cap).run Tryz.prog w = .ok (.func fn first cap) w := fun _ _ _ _ => rfl
  have HO := hidW (show ∀ v W, OwnI X.heap.size W v (thoseF (vicB use) 0 l) → OwnI w.heap.size W v (thoseF (vicB use) 0 l) from fun v W h => by
    refine ⟨h.1, ?_⟩
    rcases h.2 with e | ⟨g, cap, cur, e1, e2, e3⟩
    · exact .inl e
    · exact .inr ⟨g, cap, cur, e1, by omega, e3⟩)
  clear h hO hb hu
  go_enter Tryz.func20, Tryz.ntmps20
  go_wp2_with fail
  rw [← hX]
  clear hX hp0
  refine kT.mono ?_
  rintro e w1 ⟨v, rfl, ho, hb1⟩
  obtain ⟨a, cc, rfl⟩ := owns_form ho
  have HB1 := hidW (And.intro (HO.out _ _ ho) (Below.after HB.out hb1))
  clear hb1 ho
  go_wp2_with (go_at_call 50; refine (sort_one a _ cc h1 _ w1).mono ?_; rintro e w2 ⟨rfl, rfl⟩)
  go_ret
  exact ⟨_, rfl, HB1.out.1, HB1.out.2⟩
end Go.Proofs.YtmaekpfkkpkgpaaGreatDoor
