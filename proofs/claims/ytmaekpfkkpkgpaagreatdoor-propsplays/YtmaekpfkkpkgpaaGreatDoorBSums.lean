/-
  Of, Least; how many blocks there are of each use.
-/
import Derived.Test.YtmaekpfkkpkgpaaGreatDoorBLive
namespace Go.Proofs.YtmaekpfkkpkgpaaGreatDoor
open Go.RowKit Go.Shelf
set_option maxRecDepth 10000

def ofB (use : Int) (x : PB) : Bool := decide (x.use ≠ 0 ∧ x.use = use)
theorem of1_any (x : PB) (use : Int) (ub : Nat) (w : World) (hu : w.cell? ⟨ub, 0, none⟩ = some (.int .i64 use)) : Calls Tryz.prog 56 #[.agg #[.int .i64 x.use, .int .i64 x.used, .int .i64 x.live, .bool x.closed], .pointer (some ⟨ub, 0, none⟩)] w fun e w' => e = .returned (.bool (ofB use x)) ∧ Below w.heap.size w w' := by
  have hb := below_new w (.cells #[.int .i64 x.use, .int .i64 x.used, .int .i64 x.live, .bool x.closed] 54)
  have hu1 : (w.alloc (.cells #[.int .i64 x.use, .int .i64 x.used, .int .i64 x.live, .bool x.closed] 54)).cell? ⟨ub, 0, none⟩ = some (.int .i64 use) := (hb.cell (p := ⟨ub, 0, none⟩) (World.block_lt_of_cell? w _ hu)).trans hu
  have kT := taken_any x use (w.alloc (.cells #[.int .i64 x.use, .int .i64 x.used, .int .i64 x.live, .bool x.closed] 54))
  have HB := hidW hb
  obtain ⟨B, hB⟩ : ∃ B, B = decide (x.use ≠ 0 ∧ x.use = use) := ⟨_, rfl⟩
  unfold ofB
  rw [← hB] at kT ⊢
  clear hu hb hB
  go_enter Tryz.func56, Tryz.ntmps56
  go_wp2_with (go_at_call 49; refine kT.mono ?_; rintro e w1 ⟨rfl, hb1⟩; have HB1 := hidW hb1; clear hb1)
  go_ret
  exact ⟨rfl, Below.after HB.out HB1.out⟩
theorem of_any {w : World} {p q cap : Nat} {size : Int} {l : List PB} (h : BLies w p q cap size l) (hn : l.length ≤ 256) (use : Int) :
    Calls Tryz.prog 34 #[.pointer (some ⟨p, 0, none⟩), .int .i64 use] w fun e w' => ∃ v, e = .returned v ∧ OwnI w.heap.size w' v (thoseF (ofB use) 0 l) ∧ Below w.heap.size w w' := by
  obtain ⟨X, hX⟩ : ∃ X, X = w.alloc (.cells #[.int .i64 use] 3) := ⟨_, rfl⟩
  have hb : Below w.heap.size w X := by rw [hX]; exact below_new _ _
  have hu : X.cell? ⟨w.heap.size, 0, none⟩ = some (.int .i64 use) := by rw [hX]; exact (Row.new w [.int .i64 use] 3).cell (i := 0) rfl
  have hsz : w.heap.size < X.heap.size := by rw [hX]; simp
  have kT := those_of (h.later hb) hn (ofB use) w.heap.size (fun Y x hY hx => of1_any x use w.heap.size Y ((hY.cell (p := ⟨w.heap.size, 0, none⟩) hsz).trans hu))
  have HB := hidW hb
  have hmf : ∀ (fn : Fn) (first cap : Array Value) (w : World), (Instr.makeFunc fn first cap).run Tryz.prog w = .ok (.func fn first cap) w := fun _ _ _ _ => rfl
  have HO := hidW (show ∀ v W, OwnI X.heap.size W v (thoseF (ofB use) 0 l) → OwnI w.heap.size W v (thoseF (ofB use) 0 l) from fun v W h => by
    refine ⟨h.1, ?_⟩
    rcases h.2 with e | ⟨g, cap, cur, e1, e2, e3⟩
    · exact .inl e
    · exact .inr ⟨g, cap, cur, e1, by omega, e3⟩)
  clear h hb hu
  go_enter Tryz.func34, Tryz.ntmps34
  go_wp2_with fail
  rw [← hX]
  clear hX
  refine kT.mono ?_
  rintro e w1 ⟨v, rfl, ho, hb1⟩
  obtain ⟨a, cc, rfl⟩ := owns_form ho
  have HB1 := hidW (And.intro (HO.out _ _ ho) (Below.after HB.out hb1))
  clear hb1 ho
  go_wp2
  go_ret
  exact ⟨_, rfl, HB1.out.1, HB1.out.2⟩
theorem least_any {w : World} {p q cap : Nat} {size : Int} {l : List PB} (h : BLies w p q cap size l) (hn : l.length ≤ 256) :
    Calls Tryz.prog 28 #[.pointer (some ⟨p, 0, none⟩)] w fun e w' => e = .returned (.tuple #[.int .i64 ((freesF l).headD 0), .bool (decide (0 < (freesF l).length))]) ∧ Below w.heap.size w w' := by
  have kF := frees_any h hn
  clear h
  cases hF : freesF l with
  | nil =>
    rw [hF] at kF
    go_enter Tryz.func28, Tryz.ntmps28
    go_wp2_with (go_at_call 32; refine kF.mono ?_; rintro e w1 ⟨v, rfl, ho, hb1⟩; obtain ⟨a, cc, rfl, _⟩ := ho.form; have HB1 := hidW hb1; clear hb1 ho; simp only [List.length_nil])
    go_ret2
    exact ⟨rfl, HB1.out⟩
  | cons y r =>
    rw [hF] at kF
    have hlen : (y :: r).length ≤ 256 := by rw [← hF]; exact Nat.le_trans (thoseF_len _ _ _) hn
    obtain ⟨k, hk⟩ : ∃ k, k = (y :: r).length := ⟨_, rfl⟩
    have hk1 : 1 ≤ k := by rw [hk]; simp
    have e0 : ((k : Int) == 0) = false := by simp; omega
    have hk2 : (0 : Int) < (k : Int) := by omega
    have HK := hidW hk
    go_enter Tryz.func28, Tryz.ntmps28
    go_wp2_with (go_at_call 32; refine kF.mono ?_; rintro e w1 ⟨v, rfl, ho, hb1⟩; obtain ⟨a, cc, rfl, hr⟩ := ho.form; have HB1 := hidW hb1; rcases hr with hr | ⟨b, off, rfl, hr⟩; (cases hr); have c0 : w1.cell? ⟨b, off, none⟩ = some (.int .i64 y) := hr 0 y rfl; rw [← HK.out]; clear hb1 ho hr)
    go_ret2
    refine ⟨?_, HB1.out⟩
    show Ending.returned (.tuple #[.int .i64 y, .bool true]) = _
    simp
/-- How many are so. -/
def cnt (pr : PB → Bool) (l : List PB) : Nat := (l.filter pr).length
theorem those_cnt (pr : PB → Bool) : ∀ (l : List PB) (k : Nat), (thoseF pr k l).length = cnt pr l
  | [], _ => rfl
  | x :: l, k => by
    unfold thoseF cnt
    rw [List.filter_cons]
    split
    · rw [List.length_cons, List.length_cons, those_cnt pr l (k + 1)]; rfl
    · exact those_cnt pr l (k + 1)
theorem cnt_all {size : Int} : ∀ (l : List PB), AllOk size l → cnt (fun x => decide (x.use = 0)) l + cnt (ofB 1) l + cnt (ofB 2) l + cnt (ofB 3) l = l.length
  | [], _ => rfl
  | x :: l, h => by
    have ih := cnt_all l (fun y hy => h y (List.mem_cons_of_mem _ hy))
    have h1 := (h x (by simp)).use0
    have h2 := (h x (by simp)).use3
    have hx : x.use = 0 ∨ x.use = 1 ∨ x.use = 2 ∨ x.use = 3 := by omega
    unfold cnt at ih ⊢
    simp only [List.filter_cons, List.length_cons]
    rcases hx with e | e | e | e
    · rw [if_pos (by simp [e]), if_neg (by simp [ofB, e]), if_neg (by simp [ofB, e]), if_neg (by simp [ofB, e]), List.length_cons]; omega
    · rw [if_neg (by simp [e]), if_pos (by simp [ofB, e]), if_neg (by simp [ofB, e]), if_neg (by simp [ofB, e]), List.length_cons]; omega
    · rw [if_neg (by simp [e]), if_neg (by simp [ofB, e]), if_pos (by simp [ofB, e]), if_neg (by simp [ofB, e]), List.length_cons]; omega
    · rw [if_neg (by simp [e]), if_neg (by simp [ofB, e]), if_neg (by simp [ofB, e]), if_pos (by simp [ofB, e]), List.length_cons]; omega
theorem cnt_snoc (pr : PB → Bool) (l : List PB) (x : PB) : cnt pr (l ++ [x]) = cnt pr l + (if pr x = true then 1 else 0) := by
  unfold cnt
  rw [List.filter_append, List.length_append, List.filter_cons]
  split <;> simp_all
end Go.Proofs.YtmaekpfkkpkgpaaGreatDoor
