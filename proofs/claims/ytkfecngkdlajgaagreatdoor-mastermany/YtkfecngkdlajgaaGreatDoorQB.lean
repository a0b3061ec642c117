/-
  A range over a function whose iterator writes a block of its own between two rounds.
  A log's bytes: where frames begin, how they are read, what Append and Sync make of them.
-/
import Derived.Test.YtkfecngkdlajgaaGreatDoorGI
import Derived.Test.YtkfecngkdlajgaaGreatDoorGB
import Derived.RangeFuncBox
import Derived.RangeFuncNested
import Derived.RangeFuncBound
import Derived.RangeFuncCalls
import Derived.RangeFuncLeaves
namespace Go.Proofs.YtkfecngkdlajgaaGreatDoor
open Go.RowKit

/-- What lies in these blocks lies as it lay. -/
def Holds (K : Nat → Prop) (A B : World) : Prop := ∀ k, K k → B.heap[k]? = A.heap[k]?
theorem Holds.trans {K : Nat → Prop} {A B C : World} (h : Holds K A B) (k : Holds K B C) : Holds K A C := fun i hi => (k i hi).trans (h i hi)
/-- The contract of an iterator that writes the block Br, and reads the blocks K between two rounds: it hands over the list L; T is its own word on what lies behind. -/
def SeqSt {α : Type} (F : Fence) (n : Nat) (P : Program) (g : Nat) (lb : Array Value) (encs : α → Array Value) (Br : Nat) (K : Nat → Prop) (L : List α) (T : World → Prop) (w : World) : Prop :=
  ∀ (l : Nat) (J : List α → World → Prop) (W : World), Below w.heap.size w W →
    (∀ xs A B, J xs A → Kept (fun k => k = Br) A B → J xs B) →
    (∀ pre x A, J pre A → pre ++ [x] <+: L → YieldAt F (n - 1) P l (encs x) A fun e B => e = .returned (.bool true) ∧ J (pre ++ [x]) B ∧ Holds K A B) →
    J [] W →
    CallsIn F n P g (#[.func (.yield l) #[] #[]] ++ lb) W fun e B => (∃ v, e = .returned v) ∧ T B ∧ J L B
/-- How a round's body is left. -/
def stPost {α : Type} (K : Nat → Prop) (I : List α → World → Prop) (xs : List α) (W : World) : Exit → Act → World → Prop
  | .normal, _, W' => KeepsOthers W W' ∧ Holds K W W' ∧ I xs W'
  | _, _, _ => False
theorem kept_put (W : World) (l : Nat) (o : Obj) : Kept (fun k => k = l) W (W.putObj l o) := ⟨rfl, rfl, rfl, by simp, fun _ _ hk => World.putObj_heap_other hk⟩
theorem range_st {α : Type} {F : Fence} {n : Nat} {P : Program} {g : Operand} {ps : Array Tmp} {assign body : Code} {Q : Exit → Act → World → Prop} {a : Act} {w : World}
    (hro : F.round = none) (h1 : 1 ≤ n) {gf : Nat} {lb : Array Value} (hg : a.eval g = .func (.func gf) #[] lb) (hFg : F.fn gf) (eg : ∀ args w, (callFunc gf args).run P w = .ok (.enter gf args) w)
    {encs : α → Array Value} {Br : Nat} {K : Nat → Prop} {L : List α} {T : World → Prop} (hseq : SeqSt F (n - 1) P gf lb encs Br K L T w)
    (hK : ∀ k, K k → k < w.heap.size) (hBr : Br < w.heap.size) (hps : ∀ x, (encs x).size = ps.size) (I : List α → World → Prop)
    (hI : ∀ xs A B S, I xs A → Kept S A B → (∀ k, S k → k = Br ∨ (w.heap.size ≤ k ∧ ∃ o, A.heap[k]? = some o ∧ o.isCells = false)) → I xs B)
    (hT : ∀ A B, T A → Holds K A B → T B) (h0 : I [] w) (Ax : α → Act → World → Prop)
    (hAx : ∀ x a' A B S, Ax x a' A → Kept S A B → (∀ k, S k → w.heap.size ≤ k ∧ ∃ o, A.heap[k]? = some o ∧ o.isCells = false) → Ax x a' B)
    (hassign : ∀ (l : Nat) (pre : List α) (x : α) (W : World) (R : Act → World → Prop), I pre W → (∀ a' W', Ax x a' W' → I pre W' → KeepsOthers W W' → Holds K W W' → R a' W') →
      assign.wpIn (F.inRound l) (n - 1 - 1) P (Exit.then R (fun _ _ _ => False)) { tmps := (ps.zip (encs x)).foldl (fun t (p, v) => t.setIfInBounds p v) a.tmps, defers := [] } W)
    (hbody : ∀ (l : Nat) (pre : List α) (x : α) (a' : Act) (W : World), I pre W → Ax x a' W → pre ++ [x] <+: L → body.wpIn (F.inRound l) (n - 1 - 1) P (stPost K I (pre ++ [x]) W) a' W)
    (hdone : ∀ (D : Nat) (W : World), w.heap.size ≤ D → I L W → T W → W.heap[D]? = some (.deferred (some [])) → Q .normal { a with defers := { target := .collected D, args := #[] } :: a.defers } W) :
    (Code.rangeFunc g ps assign body).wpIn F n P Q a w := by
  refine wpIn_rangeFunc fun fn hfn => ?_
  rw [hro]
  obtain ⟨z, hz⟩ : ∃ z, z = w.heap.size := ⟨_, rfl⟩
  obtain ⟨rec, hrec⟩ : ∃ rec : LoopState → Loop, rec = fun st => { state := st, pending := none, fn, tmps := a.tmps, params := ps, assign, body, defers := w.heap.size } := ⟨_, rfl⟩
  obtain ⟨X, hX⟩ : ∃ X, X = (w.alloc (.deferred (some []))).alloc (.loop (rec .ready)) := ⟨_, rfl⟩
  have kX : Kept (fun _ => False) w X := by rw [hX]; exact ((Kept.refl _ w).alloc _).alloc _
  have bX : Below w.heap.size w X := by rw [hX]; exact ((Below.refl _ w).alloc (Nat.le_refl _) _).alloc (by simp) _
  have xL : X.heap[z + 1]? = some (.loop (rec .ready)) := by
    have := World.alloc_heap_new (w.alloc (.deferred (some []))) (.loop (rec .ready))
    rw [World.size_alloc] at this
    rw [hX, hz]; exact this
  have xD : X.heap[z]? = some (.deferred (some [])) := by
    rw [hX, hz]
    exact (Below.heap_alloc _ _ _ (by simp)).trans (World.alloc_heap_new w _)
  have put : ∀ xs A o o', I xs A → A.heap[z + 1]? = some o → o.isCells = false → I xs (A.putObj (z + 1) o') := fun xs A o o' hi ho hc =>
    hI xs A _ _ hi (kept_put A (z + 1) o') (fun k e => .inr ⟨by omega, o, by rw [e]; exact ho, hc⟩)
  have holds : ∀ A o', Holds K A (A.putObj (z + 1) o') := fun A o' k hk => World.putObj_heap_other (by have := hK k hk; omega)
  refine ⟨z + 1, [{ target := .collected z, args := #[] }], X, { target := .fn (.func gf) lb, args := #[.func (.yield (z + 1)) #[] #[]] }, X, gf, #[.func (.yield (z + 1)) #[] #[]] ++ lb, X, ?_, ?_, ?_, ?_, fun _ => h1, ?_⟩
  · rw [hX, hrec, hz]; exact run_enterLoop_outer _ _ _ _ _
  · simp only [resolve, hg]
    simp [go_sem]
  · intro f' hf'; simp [Target.leads] at hf'; subst hf'; exact hFg
  · simp [invoke, go_sem, eg]
  · refine (hseq (z + 1) (fun xs A => I xs A ∧ A.heap[z + 1]? = some (.loop (rec .ready)) ∧ A.heap[z]? = some (.deferred (some []))) X bX (fun xs A B hj hk => ?_) (fun pre x A hj hpre => ?_) ⟨hI _ _ _ _ h0 kX (fun k e => e.elim), xL, xD⟩).mono ?_
    · have lA : z + 1 < A.heap.size := (Array.getElem?_eq_some_iff.1 hj.2.1).1
      exact ⟨hI _ _ _ _ hj.1 hk (fun k e => .inl e), (hk.block _ lA (by omega)).trans hj.2.1, (hk.block _ (by omega) (by omega)).trans hj.2.2⟩
    · obtain ⟨hi, hl, hd⟩ := hj
      have hy := run_yield (P := P) (args := encs x) hl (by rw [hrec]; exact hps x)
      rw [hrec] at hy
      refine ⟨fn, _, assign, body, hy, roundIn_of_wpIn hfn (hassign _ pre x A _ hi fun a' A' hax hi' hko hko2 => ?_)⟩
      have hl' := hko.same _ _ hl rfl
      have hd' := hko.same _ _ hd rfl
      have lA : z + 1 < A'.heap.size := (Array.getElem?_eq_some_iff.1 hl').1
      refine ⟨_, run_beginRound hl' (by rw [hrec]), ?_⟩
      obtain ⟨Y, hY⟩ : ∃ Y, Y = A'.putObj (z + 1) (.loop { rec .ready with state := .busy }) := ⟨_, rfl⟩
      have yL : Y.heap[z + 1]? = some (.loop { rec .ready with state := .busy }) := by rw [hY]; exact World.putObj_heap_same lA
      have yD : Y.heap[z]? = some (.deferred (some [])) := by rw [hY]; exact (World.putObj_heap_other (by omega)).trans hd'
      have yI : I pre Y := by rw [hY]; exact put _ _ _ _ hi' hl' rfl
      have yK : Holds K A Y := by rw [hY]; exact hko2.trans (holds _ _)
      have yA : Ax x a' Y := by
        rw [hY]
        exact hAx _ _ _ _ _ hax (kept_put A' (z + 1) _) (fun k e => by subst e; exact ⟨by omega, _, hl', rfl⟩)
      rw [← hY]
      refine wpIn_mono (hbody _ pre x _ _ yI yA hpre) ?_
      rintro e a3 B hp
      cases e with
      | normal =>
        obtain ⟨p1, p2, p3⟩ := hp
        have bL := p1.same _ _ yL rfl
        have bD := p1.same _ _ yD rfl
        have hr := run_endRound (P := P) none bL
        refine ⟨_, _, hr, rfl, ⟨put _ _ _ _ p3 bL rfl, ?_, (World.putObj_heap_other (by omega)).trans bD⟩, (yK.trans p2).trans (holds _ _)⟩
        rw [World.putObj_heap_same (Array.getElem?_eq_some_iff.1 bL).1, hrec]
        rfl
      | ret => exact hp.elim
      | exit id => exact hp.elim
      | goto t => exact hp.elim
      | panic ch => exact hp.elim
      | outgrown => exact hp.elim
    · rintro e B ⟨⟨v, rfl⟩, hTB, hi, hl, hd⟩
      have he := run_endLoop (P := P) hl (by rw [hrec]; simp)
      rw [show (rec .ready).pending = none by rw [hrec]] at he
      exact ⟨none, _, he, hdone z _ (by omega) (put _ _ _ _ hi hl rfl) (hT _ _ hTB (holds _ _)) ((World.putObj_heap_other (by omega)).trans hd)⟩
end Go.Proofs.YtkfecngkdlajgaaGreatDoor
namespace Go.Proofs.YtkfecngkdlajgaaGreatDoor

/-- Where a frame begins, if all up to a place is taken. -/
def bgn (page q : Nat) : Nat := if q % page = page - 1 then q + 1 else q
/-- The next page's beginning. -/
def rup (page n : Nat) : Nat := if n % page = 0 then n else n + (page - n % page)
/-- Are all bytes 255? -/
def blk (l : List Nat) : Bool := l.all (· == 255)
/-- A frame: its place, its payload. -/
abbrev Fm := Nat × List Nat
/-- Are two bytes 255 at a place? -/
def mrk (b : List Nat) (q : Nat) : Bool := blk ((b.drop q).take 2)
def isF (b : List Nat) (q : Nat) : Bool :=
  decide (6 ≤ (b.drop q).length) && decide (1 ≤ Hd.sizeL (b.drop q)) && decide (Hd.sizeL (b.drop q) ≤ 1024) && decide (Hd.sizeL (b.drop q) ≤ (b.drop q).length - 6) && decide (Hd.M.sumL (Hd.bodyL (b.drop q)) = Hd.toldL (b.drop q))
theorem isF_iff (b : List Nat) (q : Nat) : isF b q = true ↔ Hd.isFrame (b.drop q) := by
  unfold isF Hd.isFrame
  simp [and_assoc]
/-- A frame's end. -/
def fend (b : List Nat) (q : Nat) : Nat := q + (6 + Hd.sizeL (b.drop q))
/-- The filling behind a frame is one. -/
def okF (page : Nat) (b : List Nat) (q : Nat) : Bool := blk ((b.drop (fend b q)).take (bgn page (fend b q) - fend b q))
/-- The rest of a page is filling. -/
def okS (page : Nat) (b : List Nat) (q : Nat) : Bool := blk ((b.drop q).take (rup page (q + 1) - q))
/-- The frames from a place on, the end, whether something else stands there. -/
def rdr (page : Nat) (b : List Nat) : Nat → Nat → List Fm × Nat × Bool
  | 0, q => ([], q, false)
  | f + 1, q =>
    if b.length ≤ q then ([], q, false)
    else if mrk b q then (if okS page b q then rdr page b f (rup page (q + 1)) else ([], q, true))
    else if isF b q then
      (if okF page b q then ((q, Hd.bodyL (b.drop q)) :: (rdr page b f (bgn page (fend b q))).1, (rdr page b f (bgn page (fend b q))).2)
       else ([(q, Hd.bodyL (b.drop q))], bgn page (fend b q), true))
    else ([], q, true)
theorem rdr_end {page : Nat} {b : List Nat} {f q : Nat} (h : b.length ≤ q) : rdr page b f q = ([], q, false) := by
  cases f with
  | zero => rfl
  | succ f => simp [rdr, h]
theorem rdr_skip {page : Nat} {b : List Nat} {f q : Nat} (h : q < b.length) (hm : mrk b q = true) (ho : okS page b q = true) : rdr page b (f + 1) q = rdr page b f (rup page (q + 1)) := by
  have h' : ¬ b.length ≤ q := by omega
  simp [rdr, h', hm, ho]
theorem rdr_skip_no {page : Nat} {b : List Nat} {f q : Nat} (h : q < b.length) (hm : mrk b q = true) (ho : okS page b q = false) : rdr page b (f + 1) q = ([], q, true) := by
  have h' : ¬ b.length ≤ q := by omega
  simp [rdr, h', hm, ho]
theorem rdr_frame {page : Nat} {b : List Nat} {f q : Nat} (h : q < b.length) (hm : mrk b q = false) (hf : isF b q = true) (ho : okF page b q = true) : rdr page b (f + 1) q = ((q, Hd.bodyL (b.drop q)) :: (rdr page b f (bgn page (fend b q))).1, (rdr page b f (bgn page (fend b q))).2) := by
  have h' : ¬ b.length ≤ q := by omega
  simp [rdr, h', hm, hf, ho]
theorem rdr_frame_no {page : Nat} {b : List Nat} {f q : Nat} (h : q < b.length) (hm : mrk b q = false) (hf : isF b q = true) (ho : okF page b q = false) : rdr page b (f + 1) q = ([(q, Hd.bodyL (b.drop q))], bgn page (fend b q), true) := by
  have h' : ¬ b.length ≤ q := by omega
  simp [rdr, h', hm, hf, ho]
theorem rdr_none {page : Nat} {b : List Nat} {f q : Nat} (h : q < b.length) (hm : mrk b q = false) (hf : isF b q = false) : rdr page b (f + 1) q = ([], q, true) := by
  have h' : ¬ b.length ≤ q := by omega
  simp [rdr, h', hm, hf]
theorem bgn_le (page q : Nat) : q ≤ bgn page q ∧ bgn page q ≤ q + 1 := by unfold bgn; split <;> omega
theorem bgn_mod {page : Nat} (hp : 2 ≤ page) (q : Nat) : bgn page q % page ≠ page - 1 := by
  unfold bgn
  split
  · rename_i h
    have e : (q + 1) % page = 0 := by
      have := Nat.div_add_mod q page
      have : q + 1 = page * (q / page + 1) := by rw [Nat.mul_add]; omega
      rw [this]; exact Nat.mul_mod_right _ _
    omega
  · assumption
theorem bgn_fit {page q n : Nat} (hp : 2 ≤ page) (h : q ≤ page * n) : bgn page q ≤ page * n := by
  unfold bgn
  split
  · rename_i hq
    by_cases e : q = page * n
    · rw [e, Nat.mul_mod_right] at hq; omega
    · omega
  · exact h
theorem rup_mod {page : Nat} (hp : 1 ≤ page) (n : Nat) : rup page n % page = 0 := by
  unfold rup
  split
  · assumption
  · have := Nat.div_add_mod n page
    have hl := Nat.mod_lt n (show 0 < page by omega)
    have : n + (page - n % page) = page * (n / page + 1) := by rw [Nat.mul_add]; omega
    rw [this]; exact Nat.mul_mod_right _ _
theorem rup_ge {page : Nat} (n : Nat) (hp : 1 ≤ page) : n ≤ rup page n ∧ rup page n < n + page := by
  unfold rup
  split
  · omega
  · have hl := Nat.mod_lt n (show 0 < page by omega); omega
theorem rup_fit {page n k : Nat} (hp : 1 ≤ page) (h : n ≤ page * k) : rup page n ≤ page * k := by
  have h1 := rup_mod hp n
  have h2 := (rup_ge n hp).2
  have hd := Nat.div_add_mod (rup page n) page
  rw [h1, Nat.add_zero] at hd
  by_cases e : n = page * k
  · have : rup page n = n := by unfold rup; rw [e, Nat.mul_mod_right]; simp
    omega
  · have hlt : rup page n / page < k + 1 := by
      by_cases g : rup page n / page < k + 1
      · exact g
      · have : page * (k + 1) ≤ page * (rup page n / page) := Nat.mul_le_mul_left _ (by omega)
        rw [Nat.mul_add] at this
        omega
    have : page * (rup page n / page) ≤ page * k := Nat.mul_le_mul_left _ (by omega)
    omega
/-- What is known of frames that were read out of b: places rise, payloads stand in b. -/
structure FrOk (b : List Nat) (lo hi : Nat) (fs : List Fm) : Prop where
  rise : fs.Pairwise fun x y => x.1 < y.1
  at_ : ∀ x ∈ fs, lo ≤ x.1 ∧ x.1 + 6 + x.2.length ≤ hi ∧ (b.drop (x.1 + 6)).take x.2.length = x.2 ∧ 1 ≤ x.2.length ∧ x.2.length ≤ 1024
theorem FrOk.nil (b : List Nat) (lo hi : Nat) : FrOk b lo hi [] := ⟨.nil, by simp⟩
theorem isF_facts {b : List Nat} {q : Nat} (hf : isF b q = true) : q + 6 + (Hd.bodyL (b.drop q)).length = fend b q ∧ fend b q ≤ b.length ∧ (b.drop (q + 6)).take (Hd.bodyL (b.drop q)).length = Hd.bodyL (b.drop q) ∧ 1 ≤ (Hd.bodyL (b.drop q)).length ∧ (Hd.bodyL (b.drop q)).length ≤ 1024 := by
  have h := (isF_iff b q).1 hf
  obtain ⟨h1, h2, h3, h4, h5⟩ := h
  have hl : (b.drop q).length = b.length - q := by simp
  have hb : (Hd.bodyL (b.drop q)).length = Hd.sizeL (b.drop q) := by unfold Hd.bodyL; simp; omega
  refine ⟨by unfold fend; omega, by unfold fend; omega, ?_, by omega, by omega⟩
  rw [hb]
  unfold Hd.bodyL
  rw [List.drop_drop]
theorem rdr_ok (page : Nat) (hp : 2 ≤ page) (b : List Nat) (N : Nat) (hN : b.length = page * N) : ∀ (f q : Nat), q ≤ b.length → q % page ≠ page - 1 →
    FrOk b q (rdr page b f q).2.1 (rdr page b f q).1 ∧ q ≤ (rdr page b f q).2.1 ∧ (rdr page b f q).2.1 ≤ b.length ∧ (rdr page b f q).2.1 % page ≠ page - 1 := by
  intro f
  induction f with
  | zero => intro q hq hm; exact ⟨FrOk.nil _ _ _, Nat.le_refl _, hq, hm⟩
  | succ f ih =>
    intro q hq hm
    by_cases h : b.length ≤ q
    · rw [rdr_end h]; exact ⟨FrOk.nil _ _ _, Nat.le_refl _, hq, hm⟩
    · have h' : q < b.length := by omega
      cases hk : mrk b q with
      | true =>
        cases ho : okS page b q with
        | true =>
          rw [rdr_skip h' hk ho]
          have g1 := rup_ge (q + 1) (show 1 ≤ page by omega)
          have g2 : rup page (q + 1) ≤ b.length := by rw [hN]; exact rup_fit (by omega) (by omega)
          obtain ⟨i1, i2, i3, i4⟩ := ih (rup page (q + 1)) g2 (by rw [rup_mod (by omega)]; omega)
          exact ⟨⟨i1.rise, fun x hx => ⟨by have := (i1.at_ x hx).1; omega, (i1.at_ x hx).2⟩⟩, by omega, i3, i4⟩
        | false => rw [rdr_skip_no h' hk ho]; exact ⟨FrOk.nil _ _ _, Nat.le_refl _, hq, hm⟩
      | false =>
        cases hf : isF b q with
        | false => rw [rdr_none h' hk hf]; exact ⟨FrOk.nil _ _ _, Nat.le_refl _, hq, hm⟩
        | true =>
          obtain ⟨a1, a2, a3, a4, a5⟩ := isF_facts hf
          have g1 := bgn_le page (fend b q)
          have g2 : bgn page (fend b q) ≤ b.length := by rw [hN]; exact bgn_fit hp (by omega)
          cases ho : okF page b q with
          | false =>
            rw [rdr_frame_no h' hk hf ho]
            refine ⟨⟨by simp, fun x hx => ?_⟩, by simp only []; omega, g2, bgn_mod hp _⟩
            simp only [List.mem_singleton] at hx
            subst hx
            exact ⟨Nat.le_refl _, by simp only []; omega, a3, a4, a5⟩
          | true =>
            rw [rdr_frame h' hk hf ho]
            obtain ⟨i1, i2, i3, i4⟩ := ih (bgn page (fend b q)) g2 (bgn_mod hp _)
            refine ⟨⟨List.pairwise_cons.2 ⟨fun y hy => ?_, i1.rise⟩, fun x hx => ?_⟩, by simp only []; omega, i3, i4⟩
            · have := (i1.at_ y hy).1
              simp only []
              omega
            · rcases List.mem_cons.1 hx with e | e
              · subst e
                exact ⟨Nat.le_refl _, by simp only []; omega, a3, a4, a5⟩
              · exact ⟨by have := (i1.at_ x e).1; omega, (i1.at_ x e).2⟩
/-- The bytes of a log behind Append. -/
def appD (page : Nat) (d p : List Nat) : List Nat := d ++ (Hd.frameL p ++ List.replicate (bgn page (d.length + (6 + p.length)) - (d.length + (6 + p.length))) 255)
/-- .. behind Sync. -/
def synD (page : Nat) (d : List Nat) : List Nat := d ++ List.replicate (rup page d.length - d.length) 255
theorem appD_length (page : Nat) (d p : List Nat) : (appD page d p).length = bgn page (d.length + (6 + p.length)) := by
  have := bgn_le page (d.length + (6 + p.length))
  unfold appD
  simp [Hd.frameL_length]
  omega
theorem synD_length {page : Nat} (hp : 1 ≤ page) (d : List Nat) : (synD page d).length = rup page d.length := by
  have := rup_ge d.length hp
  unfold synD
  simp
  omega
/-- The bytes and the frames of a log that was made by Append and Sync alone. -/
inductive Laid (page : Nat) : List Nat → List Fm → Prop
  | nil : Laid page [] []
  | app {d : List Nat} {fs : List Fm} (p : List Nat) (h : Laid page d fs) (h1 : 1 ≤ p.length) (h2 : p.length ≤ 1024) : Laid page (appD page d p) (fs ++ [(d.length, p)])
  | syn {d : List Nat} {fs : List Fm} (h : Laid page d fs) : Laid page (synD page d) fs
theorem Laid.mod {page : Nat} (hp : 2 ≤ page) {d : List Nat} {fs : List Fm} (h : Laid page d fs) : d.length % page ≠ page - 1 := by
  cases h with
  | nil => simp; omega
  | app p h h1 h2 => rw [appD_length]; exact bgn_mod hp _
  | syn h => rw [synD_length (by omega), rup_mod (by omega)]; omega
theorem blk_rep (n : Nat) (l : List Nat) (k : Nat) (h : k ≤ n) : blk ((List.replicate n 255 ++ l).take k) = true := by
  unfold blk
  rw [List.take_append_of_le_length (by simpa using h), List.all_eq_true]
  intro x hx
  have := List.mem_of_mem_take hx
  simp at this
  simp [this.2]
theorem mrk_frame (d p rest : List Nat) (h2 : p.length ≤ 1024) : mrk (d ++ (Hd.frameL p ++ rest)) d.length = false := by
  unfold mrk blk
  rw [List.drop_left, Hd.take2]
  simp only [Hd.M.putL, List.all_cons, List.all_nil, Bool.and_true]
  have : p.length / 256 % 256 ≠ 255 := by omega
  simp [this]
theorem Laid.rdr {page : Nat} (hp : 2 ≤ page) {d : List Nat} {fs : List Fm} (h : Laid page d fs) :
    ∀ (rest : List Nat) (f : Nat), d.length < f → ∃ f', f ≤ f' + d.length ∧ Go.Proofs.YtkfecngkdlajgaaGreatDoor.rdr page (d ++ rest) f 0 = (fs ++ (Go.Proofs.YtkfecngkdlajgaaGreatDoor.rdr page (d ++ rest) f' d.length).1, (Go.Proofs.YtkfecngkdlajgaaGreatDoor.rdr page (d ++ rest) f' d.length).2) := by
  induction h with
  | nil => intro rest f _; exact ⟨f, by simp, by simp⟩
  | @app d fs p h h1 h2 ih =>
    intro rest f hf
    rw [appD_length] at hf ⊢
    obtain ⟨e, he⟩ : ∃ e, e = d.length + (6 + p.length) := ⟨_, rfl⟩
    rw [← he] at hf ⊢
    have hb := bgn_le page e
    obtain ⟨f', h3, h4⟩ := ih (Hd.frameL p ++ (List.replicate (bgn page e - e) 255 ++ rest)) f (by omega)
    have hbytes : appD page d p ++ rest = d ++ (Hd.frameL p ++ (List.replicate (bgn page e - e) 255 ++ rest)) := by unfold appD; rw [he]; simp [List.append_assoc]
    rw [hbytes, h4]
    obtain ⟨f2, rfl⟩ : ∃ f2, f' = f2 + 1 := ⟨f' - 1, by omega⟩
    have hdrop : (d ++ (Hd.frameL p ++ (List.replicate (bgn page e - e) 255 ++ rest))).drop d.length = Hd.frameL p ++ (List.replicate (bgn page e - e) 255 ++ rest) := List.drop_left
    have hfe : fend (d ++ (Hd.frameL p ++ (List.replicate (bgn page e - e) 255 ++ rest))) d.length = e := by unfold fend; rw [hdrop, Hd.size_frame _ _ h2, he]
    have hbod : Hd.bodyL ((d ++ (Hd.frameL p ++ (List.replicate (bgn page e - e) 255 ++ rest))).drop d.length) = p := by rw [hdrop]; exact Hd.body_frame _ _ h2
    have hde : (d ++ (Hd.frameL p ++ (List.replicate (bgn page e - e) 255 ++ rest))).drop e = List.replicate (bgn page e - e) 255 ++ rest := by
      rw [← List.append_assoc, List.drop_append_of_le_length (by simp [Hd.frameL_length]; omega), List.drop_of_length_le (by simp [Hd.frameL_length]; omega), List.nil_append]
    have g := rdr_frame (page := page) (b := d ++ (Hd.frameL p ++ (List.replicate (bgn page e - e) 255 ++ rest))) (f := f2) (q := d.length) (by simp [Hd.frameL_length]; omega) (mrk_frame d p _ h2) ((isF_iff _ _).2 (by rw [hdrop]; exact Hd.frame_is _ _ h1 h2)) (by unfold okF; rw [hfe, hde]; exact blk_rep _ _ _ (Nat.le_refl _))
    rw [hfe, hbod] at g
    rw [g]
    exact ⟨f2, by omega, by simp [List.append_assoc]⟩
  | @syn d fs h ih =>
    intro rest f hf
    rw [synD_length (by omega)] at hf ⊢
    have hr := rup_ge d.length (show 1 ≤ page by omega)
    obtain ⟨f', h3, h4⟩ := ih (List.replicate (rup page d.length - d.length) 255 ++ rest) f (by omega)
    have hbytes : synD page d ++ rest = d ++ (List.replicate (rup page d.length - d.length) 255 ++ rest) := by unfold synD; simp [List.append_assoc]
    rw [hbytes]
    by_cases hz : d.length % page = 0
    · have e0 : rup page d.length = d.length := by unfold rup; rw [if_pos hz]
      refine ⟨f', by omega, ?_⟩
      rw [h4, e0]
    · have hm := h.mod hp
      have hl := Nat.mod_lt d.length (show 0 < page by omega)
      have e1 : rup page d.length = d.length + (page - d.length % page) := by unfold rup; rw [if_neg hz]
      have em : (d.length + 1) % page = d.length % page + 1 := by
        rw [Nat.add_mod, Nat.mod_eq_of_lt (show 1 < page by omega), Nat.mod_eq_of_lt (by omega)]
      have e2 : rup page (d.length + 1) = rup page d.length := by unfold rup; rw [if_neg hz, if_neg (by omega), em]; omega
      obtain ⟨f2, rfl⟩ : ∃ f2, f' = f2 + 1 := ⟨f' - 1, by omega⟩
      obtain ⟨k, hk⟩ : ∃ k, k = rup page d.length - d.length := ⟨_, rfl⟩
      have hdrop : (d ++ (List.replicate k 255 ++ rest)).drop d.length = List.replicate k 255 ++ rest := List.drop_left
      rw [← hk] at h4 ⊢
      have g := rdr_skip (page := page) (b := d ++ (List.replicate k 255 ++ rest)) (f := f2) (q := d.length) (by simp; omega) (by unfold mrk; rw [hdrop]; exact blk_rep _ _ _ (by omega)) (by unfold okS; rw [hdrop, e2]; exact blk_rep _ _ _ (by omega))
      refine ⟨f2, by omega, ?_⟩
      rw [h4, g, e2]
/-- A log that was made so is read as it was made. -/
theorem Laid.whole {page : Nat} (hp : 2 ≤ page) {d : List Nat} {fs : List Fm} (h : Laid page d fs) (f : Nat) (hf : d.length < f) : Go.Proofs.YtkfecngkdlajgaaGreatDoor.rdr page d f 0 = (fs, d.length, false) := by
  obtain ⟨f', _, h2⟩ := h.rdr hp [] f hf
  rw [List.append_nil] at h2
  rw [h2, rdr_end (Nat.le_refl _)]
  simp
theorem FrOk.grow {b b' : List Nat} {lo hi hi' : Nat} {fs : List Fm} (h : FrOk b lo hi fs) (hb : ∃ r, b' = b ++ r) (hi2 : hi ≤ hi') (hl : hi ≤ b.length) : FrOk b' lo hi' fs := by
  obtain ⟨r, rfl⟩ := hb
  refine ⟨h.rise, fun x hx => ?_⟩
  obtain ⟨h1, h2, h3, h4⟩ := h.at_ x hx
  refine ⟨h1, by omega, ?_, h4⟩
  rw [List.drop_append_of_le_length (by omega), List.take_append_of_le_length (by simp; omega)]
  exact h3
theorem FrOk.app {page : Nat} {d p : List Nat} {fs : List Fm} (h : FrOk d 0 d.length fs) (h1 : 1 ≤ p.length) (h2 : p.length ≤ 1024) : FrOk (appD page d p) 0 (appD page d p).length (fs ++ [(d.length, p)]) := by
  have hl := appD_length page d p
  have hb := bgn_le page (d.length + (6 + p.length))
  have g := h.grow (b' := appD page d p) (hi' := (appD page d p).length) ⟨_, rfl⟩ (by omega) (Nat.le_refl _)
  refine ⟨List.pairwise_append.2 ⟨h.rise, by simp, fun x hx y hy => ?_⟩, fun x hx => ?_⟩
  · simp only [List.mem_singleton] at hy
    subst hy
    have := (h.at_ x hx).2.1
    simp only []
    omega
  · rcases List.mem_append.1 hx with e | e
    · exact g.at_ x e
    · simp only [List.mem_singleton] at e
      subst e
      refine ⟨Nat.zero_le _, by simp only []; omega, ?_, h1, h2⟩
      simp only []
      unfold appD
      rw [← List.drop_drop, List.drop_left, Hd.drop6, List.take_left]
theorem FrOk.syn {page : Nat} {d : List Nat} {fs : List Fm} (hp : 1 ≤ page) (h : FrOk d 0 d.length fs) : FrOk (synD page d) 0 (synD page d).length fs :=
  h.grow ⟨_, rfl⟩ (by rw [synD_length hp]; exact (rup_ge _ hp).1) (Nat.le_refl _)
end Go.Proofs.YtkfecngkdlajgaaGreatDoor
