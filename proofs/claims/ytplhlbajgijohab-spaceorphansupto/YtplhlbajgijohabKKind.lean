/-
  What Kind of package node answers: a key's kind, its inode's number, its name, its block.
-/
import Derived.Test.YtplhlbajgijohabKRd2
import Derived.Test.YtplhlbajgijohabNLong
namespace Go.Proofs.Ytplhlbajgijohab
open Go.RowKit M

theorem within_any (n a b : Int) (w : World) :
    Calls Try.prog 22 #[.int .i64 n, .int .i64 a, .int .i64 b] w fun e w' => e = .returned (.bool (decide (a ≤ n ∧ n ≤ b))) ∧ w = w' := by
  by_cases h1 : a ≤ n
  · go_enter Try.func22, Try.ntmps22
    go_wp2
    go_ret
    exact ⟨by simp [h1], rfl⟩
  · go_enter Try.func22, Try.ntmps22
    go_wp2
    go_ret
    have h2 : ¬ a ≤ n := by omega
    exact ⟨by simp [h2], rfl⟩
/-- Is it an inode's number; a block's? -/
def inoB (n : Int) : Bool := decide (1 ≤ n ∧ n ≤ 4096)
def blkB (n : Int) : Bool := decide (0 ≤ n ∧ n ≤ 127)
theorem isIno_any (n : Int) (w : World) :
    Calls Try.prog 9 #[.int .i64 n] w fun e w' => e = .returned (.bool (inoB n)) ∧ w = w' := by
  have h := fun W => within_any n 1 4096 W
  unfold inoB
  obtain ⟨c, hc⟩ : ∃ c, c = decide (1 ≤ n ∧ n ≤ 4096) := ⟨_, rfl⟩
  rw [← hc] at h ⊢
  clear hc
  go_enter Try.func9, Try.ntmps9
  go_wp2_with (go_at_call 22; refine (h _).mono ?_; rintro e w1 ⟨rfl, rfl⟩)
  go_ret
  exact ⟨rfl, rfl⟩
/-- Is it a name? -/
def nameB (l : List UInt8) : Bool := rightOf l == 0
theorem isName_any (l : List UInt8) (hl : l.length ≤ maxLen) (w : World) :
    Calls Try.prog 23 #[.string (bs l)] w fun e w' => e = .returned (.bool (nameB l)) ∧ Below w.heap.size w w' := by
  have h := fun W => right_any l hl W
  unfold nameB
  obtain ⟨c, hc⟩ : ∃ c, c = rightOf l := ⟨_, rfl⟩
  obtain ⟨S, hS⟩ : ∃ S, S = bs l := ⟨_, rfl⟩
  rw [← hc, ← hS] at h
  rw [← hc, ← hS]
  clear hc hS
  go_enter Try.func23, Try.ntmps23
  go_wp2_with (go_at_call 33; refine (h _).mono ?_; rintro e w1 ⟨rfl, hb⟩)
  go_ret
  exact ⟨rfl, hb⟩

theorem belowK {w w1 w2 : World} {t : TypeId} {r : List UInt8} {sh : Bool} (hb : Below w.heap.size w w1) (p : RPost w1 w.heap.size t r sh w2) : Below w.heap.size w w2 :=
  hb.trans (p.kept.below hb.size (fun k e => by subst e; exact Nat.le_refl _))

/-- What Kind answers, as a value. -/
def kv (k n : Nat) (s : List UInt8) (b : Nat) : Value := .tuple #[.int .i64 k, .int .i64 n, .string (bs s), .int .i64 b]

abbrev InoAt (i : Nat) (o : Bool) : Prop := ∀ W : World, Calls Try.prog 9 #[.int .i64 (i : Int)] W fun e w' => e = .returned (.bool o) ∧ W = w'

theorem results_tmp4 {fn : Func} {t u v x : Tmp} (h : fn.results = #[.tmp t, .tmp u, .tmp v, .tmp x]) (tmps : Array Value) (P : Program) (w : World) :
    (results fn tmps).run P w = .ok (.tuple #[tmps.getD t undef, tmps.getD u undef, tmps.getD v undef, tmps.getD x undef]) w := by
  simp [results, h]

end Go.Proofs.Ytplhlbajgijohab
