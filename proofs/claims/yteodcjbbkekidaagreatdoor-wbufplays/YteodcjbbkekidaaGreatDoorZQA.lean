/-
  A range over a function whose iterator writes a block of its own between two rounds.
-/
import Derived.Test.YteodcjbbkekidaaGreatDoorZGI
import Derived.RangeFuncBox
import Derived.RangeFuncNested
import Derived.RangeFuncBound
import Derived.RangeFuncCalls
import Derived.RangeFuncLeaves
namespace Go.Proofs.YteodcjbbkekidaaGreatDoor
open Go.RowKit

/-- What lies in these blocks lies as it lay. -/
def Holds (K : Nat → Prop) (A B : World) : Prop := ∀ k, K k → B.heap[k]? = A.heap[k]?
theorem Holds.refl (K : Nat → Prop) (A : World) : Holds K A A := fun _ _ => rfl
theorem Holds.trans {K : Nat → Prop} {A B C : World} (h : Holds K A B) (k : Holds K B C) : Holds K A C := fun i hi => (k i hi).trans (h i hi)
/-- The contract of an iterator that writes the block Br, and reads the blocks K between two rounds: it hands over the list L; T is its own word on what lies behind. -/
def SeqSt {α : Type} (F : Fence) (n : Nat) (P : Program) (g : Nat) (lb : Array Value) (encs : α → Array Value) (Br : Nat) (K : Nat → Prop) (L : List α) (T : World → Prop) (w : World) : Prop :=
  ∀ (l : Nat) (J : List α → World → Prop) (W : World), Below w.heap.size w W →
    (∀ xs A B, J xs A → Kept (fun k => k = Br) A B → J xs B) →
    (∀ pre x A, J pre A → pre ++ [x] <+: L → YieldAt F (n - 1) P l (encs x) A fun e B => e = .returned (.bool true) ∧ J (pre ++ [x]) B ∧ Holds K A B) →
    J [] W →
    CallsIn F n P g (#[.func (.yield l) #[] #[]] ++ lb) W fun e B => (∃ v, e = .returned v) ∧ T B ∧ J L B
/-- How a round's body is left. -/
def stPost {α : Type} (K : Nat → Prop) (I : List α → World → Prop) (xs : List α) (W : World) : Exit → Act → World → Prop
  | .normal, _, W' => KeepsOthers W W' ∧ Holds K W W' ∧ I xs W'
  | _, _, _ => False
theorem kept_put (W : World) (l : Nat) (o : Obj) : Kept (fun k => k = l) W (W.putObj l o) := ⟨rfl, rfl, rfl, by simp, fun _ _ hk => World.putObj_heap_other hk⟩
theorem range_st {α : Type} {F : Fence} {n : Nat} {P : Program} {g : Operand} {ps : Array Tmp} {assign body : Code} {Q : Exit → Act → World → Prop} {a : Act} {w : World}
    (hro : F.round = none) (h1 : 1 ≤ n) {gf : Nat} {lb : Array Value} (hg : a.eval g = .func (.func gf) #[] lb) (hFg : F.fn gf) (eg : ∀ args w, (callFunc gf args).run P w = .ok (.enter gf args) w)
    {encs : α → Array Value} {Br : Nat} {K : Nat → Prop} {L : List α} {T : World → Prop} (hseq : SeqSt F (n - 1) P gf lb encs Br K L T w)
    (hK : ∀ k, K k → k < w.heap.size) (hBr : Br < w.heap.size) (hps : ∀ x, (encs x).size = ps.size) (I : List α → World → Prop)
    (hI : ∀ xs A B S, I xs A → Kept S A B → (∀ k, S k → k = Br ∨ (w.heap.size ≤ k ∧ ∃ o, A.heap[k]? = some o ∧ o.isCells = false)) → I xs B)
    (hT : ∀ A B, T A → Holds K A B → T B) (h0 : I [] w) (Ax : α → Act → World → Prop)
    (hAx : ∀ x a' A B S, Ax x a' A → Kept S A B → (∀ k, S k → w.heap.size ≤ k ∧ ∃ o, A.heap[k]? = some o ∧ o.isCells = false) → Ax x a' B)
    (hassign : ∀ (l : Nat) (pre : List α) (x : α) (W : World) (R : Act → World → Prop), I pre W → (∀ a' W', Ax x a' W' → I pre W' → KeepsOthers W W' → Holds K W W' → R a' W') →
      assign.wpIn (F.inRound l) (n - 1 - 1) P (Exit.then R (fun _ _ _ => False)) { tmps := (ps.zip (encs x)).foldl (fun t (p, v) => t.setIfInBounds p v) a.tmps, defers := [] } W)
    (hbody : ∀ (l : Nat) (pre : List α) (x : α) (a' : Act) (W : World), I pre W → Ax x a' W → pre ++ [x] <+: L → body.wpIn (F.inRound l) (n - 1 - 1) P (stPost K I (pre ++ [x]) W) a' W)
    (hdone : ∀ (D : Nat) (W : World), w.heap.size ≤ D → I L W → T W → W.heap[D]? = some (.deferred (some [])) → Q .normal { a with defers := { target := .collected D, args := #[] } :: a.defers } W) :
    (Code.rangeFunc g ps assign body).wpIn F n P Q a w := by
  refine wpIn_rangeFunc fun fn hfn => ?_
  rw [hro]
  obtain ⟨z, hz⟩ : ∃ z, z = w.heap.size := ⟨_, rfl⟩
  obtain ⟨rec, hrec⟩ : ∃ rec : LoopState → Loop, rec = fun st => { state := st, pending := none, fn, tmps := a.tmps, params := ps, assign, body, defers := w.heap.size } := ⟨_, rfl⟩
  obtain ⟨X, hX⟩ : ∃ X, X = (w.alloc (.deferred (some []))).alloc (.loop (rec .ready)) := ⟨_, rfl⟩
  have kX : Kept (fun _ => False) w X := by rw [hX]; exact ((Kept.refl _ w).alloc _).alloc _
  have bX : Below w.heap.size w X := by rw [hX]; exact ((Below.refl _ w).alloc (Nat.le_refl _) _).alloc (by simp) _
  have xL : X.heap[z + 1]? = some (.loop (rec .ready)) := by
    have := World.alloc_heap_new (w.alloc (.deferred (some []))) (.loop (rec .ready))
    rw [World.size_alloc] at this
    rw [hX, hz]; exact this
  have xD : X.heap[z]? = some (.deferred (some [])) := by
    rw [hX, hz]
    exact (Below.heap_alloc _ _ _ (by simp)).trans (World.alloc_heap_new w _)
  have put : ∀ xs A o o', I xs A → A.heap[z + 1]? = some o → o.isCells = false → I xs (A.putObj (z + 1) o') := fun xs A o o' hi ho hc =>
    hI xs A _ _ hi (kept_put A (z + 1) o') (fun k e => .inr ⟨by omega, o, by rw [e]; exact ho, hc⟩)
  have holds : ∀ A o', Holds K A (A.putObj (z + 1) o') := fun A o' k hk => World.putObj_heap_other (by have := hK k hk; omega)
  refine ⟨z + 1, [{ target := .collected z, args := #[] }], X, { target := .fn (.func gf) lb, args := #[.func (.yield (z + 1)) #[] #[]] }, X, gf, #[.func (.yield (z + 1)) #[] #[]] ++ lb, X, ?_, ?_, ?_, ?_, fun _ => h1, ?_⟩
  · rw [hX, hrec, hz]; exact run_enterLoop_outer _ _ _ _ _
  · simp only [resolve, hg]
    simp [go_sem]
  · intro f' hf'; simp [Target.leads] at hf'; subst hf'; exact hFg
  · simp [invoke, go_sem, eg]
  · refine (hseq (z + 1) (fun xs A => I xs A ∧ A.heap[z + 1]? = some (.loop (rec .ready)) ∧ A.heap[z]? = some (.deferred (some []))) X bX (fun xs A B hj hk => ?_) (fun pre x A hj hpre => ?_) ⟨hI _ _ _ _ h0 kX (fun k e => e.elim), xL, xD⟩).mono ?_
    · have lA : z + 1 < A.heap.size := (Array.getElem?_eq_some_iff.1 hj.2.1).1
      exact ⟨hI _ _ _ _ hj.1 hk (fun k e => .inl e), (hk.block _ lA (by omega)).trans hj.2.1, (hk.block _ (by omega) (by omega)).trans hj.2.2⟩
    · obtain ⟨hi, hl, hd⟩ := hj
      have hy := run_yield (P := P) (args := encs x) hl (by rw [hrec]; exact hps x)
      rw [hrec] at hy
      refine ⟨fn, _, assign, body, hy, roundIn_of_wpIn hfn (hassign _ pre x A _ hi fun a' A' hax hi' hko hko2 => ?_)⟩
      have hl' := hko.same _ _ hl rfl
      have hd' := hko.same _ _ hd rfl
      have lA : z + 1 < A'.heap.size := (Array.getElem?_eq_some_iff.1 hl').1
      refine ⟨_, run_beginRound hl' (by rw [hrec]), ?_⟩
      obtain ⟨Y, hY⟩ : ∃ Y, Y = A'.putObj (z + 1) (.loop { rec .ready with state := .busy }) := ⟨_, rfl⟩
      have yL : Y.heap[z + 1]? = some (.loop { rec .ready with state := .busy }) := by rw [hY]; exact World.putObj_heap_same lA
      have yD : Y.heap[z]? = some (.deferred (some [])) := by rw [hY]; exact (World.putObj_heap_other (by omega)).trans hd'
      have yI : I pre Y := by rw [hY]; exact put _ _ _ _ hi' hl' rfl
      have yK : Holds K A Y := by rw [hY]; exact hko2.trans (holds _ _)
      have yA : Ax x a' Y := by
        rw [hY]
        exact hAx _ _ _ _ _ hax (kept_put A' (z + 1) _) (fun k e => by subst e; exact ⟨by omega, _, hl', rfl⟩)
      rw [← hY]
      refine wpIn_mono (hbody _ pre x _ _ yI yA hpre) ?_
      rintro e a3 B hp
      cases e with
      | normal =>
        obtain ⟨p1, p2, p3⟩ := hp
        have bL := p1.same _ _ yL rfl
        have bD := p1.same _ _ yD rfl
        have hr := run_endRound (P := P) none bL
        refine ⟨_, _, hr, rfl, ⟨put _ _ _ _ p3 bL rfl, ?_, (World.putObj_heap_other (by omega)).trans bD⟩, (yK.trans p2).trans (holds _ _)⟩
        rw [World.putObj_heap_same (Array.getElem?_eq_some_iff.1 bL).1, hrec]
        rfl
      | ret => exact hp.elim
      | exit id => exact hp.elim
      | goto t => exact hp.elim
      | panic ch => exact hp.elim
      | outgrown => exact hp.elim
    · rintro e B ⟨⟨v, rfl⟩, hTB, hi, hl, hd⟩
      have he := run_endLoop (P := P) hl (by rw [hrec]; simp)
      rw [show (rec .ready).pending = none by rw [hrec]] at he
      exact ⟨none, _, he, hdone z _ (by omega) (put _ _ _ _ hi hl rfl) (hT _ _ hTB (holds _ _)) ((World.putObj_heap_other (by omega)).trans hd)⟩
end Go.Proofs.YteodcjbbkekidaaGreatDoor
