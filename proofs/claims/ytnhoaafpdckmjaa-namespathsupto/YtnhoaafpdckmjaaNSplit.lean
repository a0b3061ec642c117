/-
  What Split answers: a path's parts, and whether it ends as a directory's; or the error.
-/
import Derived.Test.YtnhoaafpdckmjaaNPieces
import Derived.Stop.RegionWithIn
namespace Go.Proofs.Ytnhoaafpdckmjaa
open Go.RowKit Go.Shelf M
attribute [local go_sem] Oper.semAt_some

set_option maxHeartbeats 1000000 in
/-- The results are read out of their two blocks. -/
theorem split_results (tmps : Array Value) (B C : Nat) (a b c : Value) (W : World) (h2 : tmps[2]?.getD undef = .pointer (some ⟨B, 0, none⟩)) (h3 : tmps[3]?.getD undef = .pointer (some ⟨C, 0, none⟩))
    (ca : W.cell? ⟨B, 0, none⟩ = some a) (cb : W.cell? ⟨B, 1, none⟩ = some b) (cc : W.cell? ⟨C, 0, none⟩ = some c) :
    (results Try.f9 tmps).run Try.prog W = .ok (.tuple #[.agg #[a, b], c]) W := by
  simp [results, Try.f9, go_sem, h2, h3, ca, cb, cc]

/-- A block of cells, as it lies. -/
def Blk (W : World) (B : Nat) (cs : Array Value) (t : TypeId) : Prop := W.heap[B]? = some (.cells cs t (0, 0))
theorem blk_own {β : Type} (B : Nat) (cs : Array Value) (t : TypeId) : Go.Own (fun (_ : β) W => Blk W B cs t) := by
  intro s X Y row h hg hr
  refine (hg.block B (Array.getElem?_eq_some_iff.1 h).1 (fun e => ?_)).trans h
  obtain ⟨o, ho, hc⟩ := hr B e.symm
  rw [show X.heap[B]? = _ from h] at ho
  cases ho
  cases hc
theorem pure_own {β : Type} (p : β → Prop) : Go.Own (fun (s : β) (_ : World) => p s) := fun _ _ _ _ h _ _ => h
theorem Blk.cell0 {W : World} {B : Nat} {a b : Value} {t : TypeId} (h : Blk W B #[a, b] t) : W.cell? ⟨B, 0, none⟩ = some a := by simp [World.cell?, show W.heap[B]? = _ from h]
theorem Blk.cell1 {W : World} {B : Nat} {a b : Value} {t : TypeId} (h : Blk W B #[a, b] t) : W.cell? ⟨B, 1, none⟩ = some b := by simp [World.cell?, show W.heap[B]? = _ from h]
theorem Blk.frozen0 {W : World} {B : Nat} {a b : Value} {t : TypeId} (h : Blk W B #[a, b] t) : W.frozen? ⟨B, 0, none⟩ = false := by simp [World.frozen?, show W.heap[B]? = _ from h]
theorem Blk.frozen1 {W : World} {B : Nat} {a b : Value} {t : TypeId} (h : Blk W B #[a, b] t) : W.frozen? ⟨B, 1, none⟩ = false := by simp [World.frozen?, show W.heap[B]? = _ from h]
theorem Blk.set0 {W : World} {B : Nat} {a b : Value} {t : TypeId} (v : Value) (h : Blk W B #[a, b] t) : Blk (W.setCell ⟨B, 0, none⟩ v) B #[v, b] t := by
  obtain ⟨hlt, hk⟩ := Array.getElem?_eq_some_iff.1 h
  show (W.heap.modify B _)[B]? = _
  rw [Array.getElem?_eq_getElem (by rw [Array.size_modify]; exact hlt), Array.getElem_modify_self, hk]
  rfl
theorem Blk.set1 {W : World} {B : Nat} {a b : Value} {t : TypeId} (v : Value) (h : Blk W B #[a, b] t) : Blk (W.setCell ⟨B, 1, none⟩ v) B #[a, v] t := by
  obtain ⟨hlt, hk⟩ := Array.getElem?_eq_some_iff.1 h
  show (W.heap.modify B _)[B]? = _
  rw [Array.getElem?_eq_getElem (by rw [Array.size_modify]; exact hlt), Array.getElem_modify_self, hk]
  rfl
theorem Blk.other {W : World} {B : Nat} {cs : Array Value} {t : TypeId} (p : Addr) (v : Value) (h : Blk W B cs t) (hne : B ≠ p.block) : Blk (W.setCell p v) B cs t :=
  (Below.heap_setCell _ _ _ B hne).trans h
theorem boxed_blk {W : World} {B : Nat} {v : Value} {t : TypeId} : Boxed W B t v = Blk W B #[v] t := rfl
theorem Blk.not_row {W : World} {B : Nat} {t e : TypeId} {cs : Array Value} (h : Blk W B cs t) (hte : t ≠ e) {base size k : Nat} {v : Value} {xs : List Value} (hr : W.ownsRow base e size v k xs) : some B ≠ v.ownBlock := by
  rcases hr.2 with ⟨rfl, _⟩ | ⟨g, cap, cur, rfl, _, hgb, _⟩
  · simp [Value.ownBlock]
  · intro e'
    obtain rfl : B = g := by simpa [Value.ownBlock] using e'
    have := (show W.heap[B]? = _ from h).symm.trans hgb
    simp at this
    exact hte this.2
theorem Blk.kept {W W' : World} {row : Option Nat} {B : Nat} {cs : Array Value} {t : TypeId} (h : Blk W B cs t) (hg : W.grownBy W' row) (hne : some B ≠ row) : Blk W' B cs t := (hg.block B (Array.getElem?_eq_some_iff.1 h).1 hne).trans h
/-- The two results are stored. -/
theorem split_stored {W : World} {B : Nat} {x y z : Value} {tp te : TypeId} (hP : Blk W B #[x, y] tp) (hE : Boxed W (B + 1) te z) (a b c : Value) :
    Blk (((W.setCell ⟨B, 0, none⟩ a).setCell ⟨B, 1, none⟩ b).setCell ⟨B + 1, 0, none⟩ c) B #[a, b] tp ∧ Boxed (((W.setCell ⟨B, 0, none⟩ a).setCell ⟨B, 1, none⟩ b).setCell ⟨B + 1, 0, none⟩ c) (B + 1) te c ∧
    KeepsOthers W (((W.setCell ⟨B, 0, none⟩ a).setCell ⟨B, 1, none⟩ b).setCell ⟨B + 1, 0, none⟩ c) ∧ Below B W (((W.setCell ⟨B, 0, none⟩ a).setCell ⟨B, 1, none⟩ b).setCell ⟨B + 1, 0, none⟩ c) := by
  refine ⟨Blk.other _ _ ((hP.set0 a).set1 b) (by simp), ?_, ((KeepsOthers.setCell _ _ _).trans (KeepsOthers.setCell _ _ _)).trans (KeepsOthers.setCell _ _ _), ?_⟩
  · have h1 : Blk W (B + 1) #[z] te := hE
    have h2 : Boxed ((W.setCell ⟨B, 0, none⟩ a).setCell ⟨B, 1, none⟩ b) (B + 1) te z := (h1.other _ _ (by simp)).other _ _ (by simp)
    exact h2.set c
  · exact (((Below.refl B W).setCell (p := ⟨B, 0, none⟩) (Nat.le_refl _) _).setCell (p := ⟨B, 1, none⟩) (Nat.le_refl _) _).setCell (p := ⟨B + 1, 0, none⟩) (by simp) _
theorem stored_row {W : World} {B : Nat} {x y z : Value} {tp te e : TypeId} (hP : Blk W B #[x, y] tp) (hE : Boxed W (B + 1) te z) (h1 : tp ≠ e) (h2 : te ≠ e) (a b c : Value) {base size k : Nat} {v : Value} {xs : List Value} (hr : W.ownsRow base e size v k xs) :
    (((W.setCell ⟨B, 0, none⟩ a).setCell ⟨B, 1, none⟩ b).setCell ⟨B + 1, 0, none⟩ c).ownsRow base e size v k xs := by
  have n1 := hP.not_row h1 hr
  have n2 := hE.not_row h2 hr
  have key : ∀ (w : World) (p : Addr) (u : Value), some p.block ≠ v.ownBlock → w.ownsRow base e size v k xs → (w.setCell p u).ownsRow base e size v k xs := by
    intro w p u hne hr
    refine hr.kept (row := some p.block) ⟨rfl, rfl, rfl, (KeepsWalks.setCell w _ u).size, fun k _ hk => Below.heap_setCell _ _ _ k (fun e => hk (by rw [e]))⟩ (.inr hne.symm)
  exact key _ _ _ n2 (key _ _ _ n1 (key _ _ _ n1 hr))
theorem bad_left {pre : List ByteArray} {x : ByteArray} (h : pre.length = 32) : 32 < (pre ++ [x]).length ∨ ∃ p ∈ pre ++ [x], 24 < p.size := .inl (by simp; omega)
theorem bad_right {pre : List ByteArray} {x : ByteArray} (h : 24 < x.size) : 32 < (pre ++ [x]).length ∨ ∃ p ∈ pre ++ [x], 24 < p.size := .inr ⟨x, by simp, h⟩
theorem pieces_size {s : List UInt8} {p : ByteArray} : p ∈ pieces s ↔ ∃ q ∈ parts s, p = bs q := by
  unfold pieces; rw [List.mem_map]; constructor <;> rintro ⟨q, h1, h2⟩ <;> exact ⟨q, h1, h2.symm⟩
theorem err_bad {s : List UInt8} {pre : List ByteArray} (h1 : s ≠ []) (h2 : s.length ≤ 255) (h3 : 0 ∉ s) (hpre : pre <+: pieces s) (hb : 32 < pre.length ∨ ∃ p ∈ pre, 24 < p.size) : ends s = false ∧ err s = 36 ∧ told s = [] := by
  have e : err s = 36 := by
    unfold err
    rw [if_neg h1, if_neg (by omega), if_neg h3, if_pos]
    rcases hb with hb | ⟨p, hp, hs⟩
    · left
      have := hpre.length_le
      have e2 : (pieces s).length = (parts s).length := by unfold pieces; simp
      omega
    · right
      obtain ⟨q, hq, rfl⟩ := pieces_size.1 (hpre.subset hp)
      exact ⟨q, hq, hs⟩
  refine ⟨by unfold ends; rw [e]; rfl, e, ?_⟩
  unfold told
  rw [e]
  rfl
theorem err_good {s : List UInt8} (h1 : s ≠ []) (h2 : s.length ≤ 255) (h3 : 0 ∉ s) (hb : (pieces s).length ≤ 32 ∧ ∀ p ∈ pieces s, p.size ≤ 24) : ends s = (s.getLast? == some 47) ∧ err s = 0 ∧ told s = parts s := by
  have e2 : (pieces s).length = (parts s).length := by unfold pieces; simp
  have e : err s = 0 := err_zero.2 ⟨h1, h2, h3, by omega, fun p hp => hb.2 (bs p) (pieces_size.2 ⟨p, hp, rfl⟩)⟩
  refine ⟨by unfold ends; rw [e]; simp, e, ?_⟩
  unfold told
  rw [e]
  rfl
theorem wpIn_then_false {F : Fence} {n : Nat} {P : Program} {c : Code} {K : Act → World → Prop} {Q : Exit → Act → World → Prop} {a : Act} {w : World}
    (h : Code.wpIn F n P c (Exit.then K (fun _ _ _ => False)) a w) : Code.wpIn F n P c (Exit.then K Q) a w :=
  Code.wpIn_mono (fun e a w hq => by cases e <;> first | exact hq | exact hq.elim) h
theorem split_empty (w : World) :
    Calls Try.prog 9 #[.string (bs [])] w fun e w' => e = .returned (.tuple #[.agg #[.slice none 0 0, .bool false], .int .i64 2]) ∧ Below w.heap.size w w' := by
  have h0 := bs_nil
  go_enter Try.func9, Try.ntmps9
  go_wp2
  refine bodyPost_ret (v := .tuple #[.agg #[.slice none 0 0, .bool false], .int .i64 2]) ?_ rfl ⟨rfl, ?_⟩
  · simp [results, Try.f9, go_sem]
  · exact ((Below.refl _ w).alloc (Nat.le_refl _) _).alloc (by simp) _
theorem split_long (s : List UInt8) (h : 255 < s.length) (w : World) :
    Calls Try.prog 9 #[.string (bs s)] w fun e w' => e = .returned (.tuple #[.agg #[.slice none 0 0, .bool false], .int .i64 36]) ∧ Below w.heap.size w w' := by
  have h0 := bs_ne2 (l := s) (by intro e; subst e; simp at h)
  have h1 : (255 : Int) < (bs s).size := by rw [bs_size]; omega
  go_enter Try.func9, Try.ntmps9
  go_wp2
  refine bodyPost_ret (v := .tuple #[.agg #[.slice none 0 0, .bool false], .int .i64 36]) ?_ rfl ⟨rfl, ?_⟩
  · simp [results, Try.f9, go_sem]
  · exact ((Below.refl _ w).alloc (Nat.le_refl _) _).alloc (by simp) _
theorem split_zero (s : List UInt8) (h1 : s ≠ []) (h2 : s.length ≤ 255) (h3 : 0 ∈ s) (w : World) :
    Calls Try.prog 9 #[.string (bs s)] w fun e w' => e = .returned (.tuple #[.agg #[.slice none 0 0, .bool false], .int .i64 22]) ∧ Below w.heap.size w w' := by
  have h0 := bs_ne2 (l := s) h1
  have h1 : ¬ (255 : Int) < (bs s).size := by rw [bs_size]; omega
  have hc := fun w => contains_any s 0 w
  rw [decide_eq_true h3] at hc
  clear h2 h3
  go_enter Try.func9, Try.ntmps9
  go_wp2_with (go_at_call 28; refine (hc _).mono ?_; rintro e w' ⟨rfl, rfl⟩)
  refine bodyPost_ret (v := .tuple #[.agg #[.slice none 0 0, .bool false], .int .i64 22]) ?_ rfl ⟨rfl, ?_⟩
  · simp [results, Try.f9, go_sem]
  · exact ((Below.refl _ w).alloc (Nat.le_refl _) _).alloc (by simp) _
set_option maxRecDepth 100000 in
set_option maxHeartbeats 2000000 in
theorem split_go (n : Nat) (hn : 3 ≤ n) (s : List UInt8) (h1 : s ≠ []) (h2 : s.length ≤ 255) (h3 : 0 ∉ s) (w : World) :
    CallsIn Fence.wide n Try.prog 9 #[.string (bs s)] w fun e w' => ∃ v, e = .returned (.tuple #[.agg #[v, .bool (ends s)], .int .i64 (err s)]) ∧ SOwn w w' v ((told s).map bs) := by
  have h0 := bs_ne2 (l := s) h1
  have h10 : ¬ (255 : Int) < (bs s).size := by rw [bs_size]; omega
  have hc := fun w => contains_any s 0 w
  rw [decide_eq_false h3] at hc
  have hn1 : 1 ≤ n := by omega
  obtain ⟨i0, hi, hz0, hz1, hz2⟩ := info_parts infoS
  refine callsIn_of_wp_marks Try.func9 rfl trivial ?_ rfl
  simp only [Try.ntmps9, List.size_toArray, List.length_cons, List.length_nil, Nat.reduceAdd, Nat.reduceSub, Array.replicate_succ, Array.replicate_zero, List.push_toArray, List.append_toArray, List.nil_append, List.cons_append]
  gi_wp2_with (first
    | (refine ⟨trivial, ?_⟩; gi_at_call 28; refine (callsIn_wide.2 (hc _)).mono ?_; rintro e w' ⟨rfl, rfl⟩)
    | (refine ⟨trivial, ?_⟩; gi_at_call 29; refine (pieces_in (n - 1) _ _).mono ?_; rintro e w' ⟨rfl, rfl⟩))
  have bP : Blk (w.alloc (Obj.cells #[Value.slice none 0 0, Value.bool false] 24)) w.heap.size #[Value.slice none 0 0, Value.bool false] 24 := World.alloc_heap_new w _
  obtain ⟨w1, hw1⟩ : ∃ w1, w1 = w.alloc (Obj.cells #[Value.slice none 0 0, Value.bool false] 24) := ⟨_, rfl⟩
  have hs1 : w1.heap.size = w.heap.size + 1 := by rw [hw1, World.size_alloc]
  have hB1 : Below w.heap.size w w1 := by rw [hw1]; exact (Below.refl _ w).alloc (Nat.le_refl _) _
  rw [← hw1] at bP ⊢
  clear hw1
  have bE := Boxed.new w1 25 (.int .i64 0)
  have hB2 := hB1.alloc hB1.size (Obj.cells #[Value.int IntKind.i64 0] 25)
  have bP2 : Blk (w1.alloc (Obj.cells #[Value.int IntKind.i64 0] 25)) w.heap.size #[Value.slice none 0 0, Value.bool false] 24 := (blk_own (β := Unit) _ _ _).alloc (s := ()) _ bP
  obtain ⟨w2, hw2⟩ : ∃ w2, w2 = w1.alloc (Obj.cells #[Value.int IntKind.i64 0] 25) := ⟨_, rfl⟩
  have hs2 : w2.heap.size = w.heap.size + 1 + 1 := by rw [hw2, World.size_alloc, hs1]
  rw [← hw2] at bE hB2 bP2 ⊢
  rw [hs1] at bE
  clear hw2
  have rO := own_empty w2 w.heap.size hB2.size
  rw [hs2] at rO
  have hB3 := hB2.alloc hB2.size (Obj.cells #[] 9)
  have bP3 : Blk (w2.alloc (Obj.cells #[] 9)) w.heap.size #[Value.slice none 0 0, Value.bool false] 24 := (blk_own (β := Unit) _ _ _).alloc (s := ()) _ bP2
  have bE3 := bE.alloc (Obj.cells #[] 9)
  obtain ⟨w3, hw3⟩ : ∃ w3, w3 = w2.alloc (Obj.cells #[] 9) := ⟨_, rfl⟩
  have hs3 : w3.heap.size = w.heap.size + 1 + 1 + 1 := by rw [hw3, World.size_alloc, hs2]
  rw [← hw3] at rO hB3 bP3 bE3 ⊢
  clear hw3
  have bX := Boxed.new w3 22 (.slice (some ⟨w.heap.size + 1 + 1, 0, none⟩) 0 0)
  have rO4 := rO.alloc (Obj.cells #[Value.slice (some ⟨w.heap.size + 1 + 1, 0, none⟩) 0 0] 22)
  have hB4 := hB3.alloc hB3.size (Obj.cells #[Value.slice (some ⟨w.heap.size + 1 + 1, 0, none⟩) 0 0] 22)
  have bP4 : Blk (w3.alloc (Obj.cells #[Value.slice (some ⟨w.heap.size + 1 + 1, 0, none⟩) 0 0] 22)) w.heap.size #[Value.slice none 0 0, Value.bool false] 24 := (blk_own (β := Unit) _ _ _).alloc (s := ()) _ bP3
  have bE4 := bE3.alloc (Obj.cells #[Value.slice (some ⟨w.heap.size + 1 + 1, 0, none⟩) 0 0] 22)
  obtain ⟨w4, hw4⟩ : ∃ w4, w4 = w3.alloc (Obj.cells #[Value.slice (some ⟨w.heap.size + 1 + 1, 0, none⟩) 0 0] 22) := ⟨_, rfl⟩
  have hs4 : w4.heap.size = w.heap.size + 1 + 1 + 1 + 1 := by rw [hw4, World.size_alloc, hs3]
  rw [← hw4] at bX rO4 hB4 bP4 bE4 ⊢
  rw [hs3] at bX
  clear hw4
  have bT := Boxed.new w4 9 (.string (bs s))
  rw [hs4] at bT
  have hB5 := hB4.alloc hB4.size (Obj.cells #[Value.string (bs s)] 9)
  clear bP bP2 bP3 bE bE3 rO hB1 hB2 hB3
  refine wpIn_rangeFunc_ownG rfl hn1 (gf := 39) (lb := #[.pointer (some ⟨w.heap.size + 1 + 1 + 1 + 1, 0, none⟩)]) rfl trivial (enters_of Try.func39 (by kernel_rfl) rfl)
    (pieces_stops (n - 1) (by omega) (w.heap.size + 1 + 1 + 1 + 1) w.heap.size s (by omega) _ (by rw [World.size_alloc]; omega) bT.cell) belowK_t (belowK_b (by rw [World.size_alloc]; omega)) (Below.refl _ _) (fun _ => rfl)
    (fun pre W => (∃ v, Boxed W (w.heap.size + 1 + 1 + 1) 22 v ∧ W.ownsRow w.heap.size 9 1 v pre.length (pre.map Value.string) ∧ True) ∧ Blk W w.heap.size #[Value.slice none 0 0, Value.bool false] 24 ∧ Boxed W (w.heap.size + 1) 25 (.int .i64 0) ∧ (pre.length ≤ 32 ∧ ∀ p ∈ pre, p.size ≤ 24) ∧ Below w.heap.size w W)
    (fun c pre W => c = .ret ∧ Blk W w.heap.size #[Value.slice none 0 0, Value.bool false] 24 ∧ Boxed W (w.heap.size + 1) 25 (.int .i64 36) ∧ (32 < pre.length ∨ ∃ p ∈ pre, 24 < p.size) ∧ Below w.heap.size w W)
    (OwnFrom.and (Own.from (holdsRow_own w.heap.size (w.heap.size + 1 + 1 + 1) 22 9 1 (fun pre : List ByteArray => pre.length) (fun pre => pre.map Value.string) (fun _ _ => True)) _) (OwnFrom.and (Own.from (blk_own _ _ _) _) (OwnFrom.and (Own.from (boxed_own _ _ _) _) (OwnFrom.and (Own.from (pure_own _) _) (ownFrom_below (Nat.le_refl _) (by rw [World.size_alloc]; omega))))))
    (fun c => OwnFrom.and (Own.from (pure_own _) _) (OwnFrom.and (Own.from (blk_own _ _ _) _) (OwnFrom.and (Own.from (boxed_own _ _ _) _) (OwnFrom.and (Own.from (pure_own _) _) (ownFrom_below (Nat.le_refl _) (by rw [World.size_alloc]; omega))))))
    ⟨⟨_, bX.alloc _, by simpa using rO4.alloc _, trivial⟩, (blk_own (β := Unit) _ _ _).alloc (s := ()) _ bP4, bE4.alloc _, ⟨by simp, by simp⟩, hB5⟩
    (fun x => { tmps := #[Value.string (bs s), undef, Value.pointer (some { block := w.heap.size, off := 0 }),
          Value.pointer (some { block := w.heap.size + 1, off := 0 }),
          Value.pointer (some { block := w.heap.size + 1 + 1 + 1, off := 0 }), .string x, Value.bool false,
          Value.string (bs s), Value.bool false, undef, Value.bool false, Value.string (bs s),
          Value.int IntKind.i64 (bs s).size, Value.bool false, undef, Value.bool false, Value.string (bs s),
          Value.bool false, undef, Value.slice (some { block := w.heap.size + 1 + 1, off := 0 }) 0 0,
          Value.string (bs s),
          Value.func (Fn.func 39) #[] #[Value.pointer (some { block := w.heap.size + 1 + 1 + 1 + 1, off := 0 })], .string x,
          undef, undef, undef, undef, undef, undef, undef, undef, undef, undef, undef, undef, undef, undef, undef,
          undef, undef], defers := [] }) ?assign ?body ?done ?stop
  case assign =>
    intro l x W K hK
    gi_wp2
    exact hK
  case body =>
    rintro l pre x W ⟨⟨v, hv, hrow, _⟩, hP, hE, ⟨hp1, hp2⟩, hB⟩ hlt
    obtain ⟨a, cap, rfl, hr, hnil, hcap, hmax⟩ := owns_row' (l := pre) rfl hrow
    have hc := hv.cell
    have c0 := hP.cell0
    have c1 := hP.cell1
    have f0 := hP.frozen0
    have f1 := hP.frozen1
    have d0 := hE.cell
    have g0 := hE.frozen
    obtain ⟨k, hk⟩ : ∃ k, k = pre.length := ⟨_, rfl⟩
    have HK : Hid (k = pre.length) := hk
    have HV : Hid (Boxed W (w.heap.size + 1 + 1 + 1) 22 (.slice a pre.length cap)) := hv
    have HR : Hid (W.ownsRow w.heap.size 9 1 (.slice a pre.length cap) pre.length (pre.map Value.string)) := hrow
    have HP : Hid (Blk W w.heap.size #[Value.slice none 0 0, Value.bool false] 24) := hP
    have HE : Hid (Boxed W (w.heap.size + 1) 25 (.int .i64 0)) := hE
    have HB : Hid (Below w.heap.size w W) := hB
    rw [← hk] at hp1 hc
    clear hk hv hrow hP hE hB hr hnil hcap hmax hlt
    by_cases hk32 : k = 32
    · have e1 : ((k : Int) == 32) = true := by simp [hk32]
      gi_wp2
      obtain ⟨q1, q2, q3, q4⟩ := split_stored HP.out HE.out (.slice none 0 0) (.bool false) (.int .i64 36)
      exact ⟨q3.from _, rfl, q1, q2, bad_left (by rw [← HK.out, hk32]), HB.out.trans q4⟩
    · have e1 : ((k : Int) == 32) = false := by simp; omega
      by_cases hx : 24 < x.size
      · have e2 : (24 : Int) < (x.size : Int) := by omega
        gi_wp2
        obtain ⟨q1, q2, q3, q4⟩ := split_stored HP.out HE.out (.slice none 0 0) (.bool false) (.int .i64 36)
        exact ⟨q3.from _, rfl, q1, q2, bad_right hx, HB.out.trans q4⟩
      · have e2 : ¬ (24 : Int) < (x.size : Int) := by omega
        have hk2 : k < 32 := by omega
        have hrow := HR.out
        rw [← HK.out] at hrow
        have hbs := HB.out.size
        gi_wp2_with (gi_at_builtin; refine wpListIn_append_own _ rfl _ _ 22 rfl w.heap.size 9 i0 (.string ⟨#[]⟩) 1 16 Try.underlying22 hi hz0 hz1 hz2 rfl (by decide) _ _ _ rfl (hrow.alloc _) ⟨W.heap.size, 0, none⟩ 1 1 [.string x] rfl rfl (cell_one_new _ _ _) (by simp [Value.oneCell']) (by unfold maxLen; omega) (by omega) (by simp; omega) ?_; intro v' w5 hown' hgrow _; obtain ⟨g', cap', rfl⟩ := ownsRow_succ hown'; obtain ⟨hv1, hv2, hr2, hk2, hb2⟩ := (show Boxed W (w.heap.size + 1 + 1 + 1) 22 (.slice a k cap) by rw [HK.out]; exact HV.out).appended (by decide) hrow hbs (by omega) hown' hgrow; have hc1 := hv1.cell; have hf1 := hv1.frozen)
        refine ⟨hk2.from _, hb2, ⟨_, hv2, by simpa [← HK.out] using hr2⟩, ?_, ?_, ⟨by rw [List.length_append, ← HK.out]; simp; omega, ?_⟩, HB.out.trans hb2⟩
        · exact ((HP.out.kept (World.grownBy_alloc W _ none) (by simp)).kept hgrow (HP.out.not_row (by decide) hrow)).other _ _ (by simp; omega)
        · have hE2 : Blk W (w.heap.size + 1) #[.int .i64 0] 25 := HE.out
          exact ((hE2.kept (World.grownBy_alloc W _ none) (by simp)).kept hgrow (hE2.not_row (by decide) hrow)).other _ _ (by simp)
        · intro p hp
          rcases List.mem_append.1 hp with hp | hp
          · exact hp2 p hp
          · simp at hp; subst hp; omega
  case done =>
    rintro D ys W hD rfl ⟨⟨v, hv, hrow, _⟩, hP, hE, ⟨hp1, hp2⟩, hB⟩ hK
    obtain ⟨a, cap, rfl, hr, hnil, hcap, hmax⟩ := owns_row' (l := pieces s) rfl hrow
    have hcc := hv.cell
    have c0 := hP.cell0
    have c1 := hP.cell1
    have f0 := hP.frozen0
    have f1 := hP.frozen1
    have d0 := hE.cell
    have g0 := hE.frozen
    have hsuf := fun w => suffix_any s w (by omega)
    gi_wp2
    refine wpIn_then_false ?_
    gi_region_with (refine ⟨trivial, ?_⟩; gi_at_call 30; refine (callsIn_wide.2 (hsuf _)).mono ?_; rintro e w' ⟨rfl, rfl⟩)
    all_goals gi_wp2
    all_goals
      obtain ⟨z1, z2, z3⟩ := err_good h1 h2 h3 ⟨hp1, hp2⟩
      rw [z1, z2, z3]
      obtain ⟨q1, q2, q3, q4⟩ := split_stored hP hE (.slice a (pieces s).length cap) (.bool (s.getLast? == some 47)) (.int .i64 0)
      have q5 := stored_row hP hE (by decide) (by decide) (.slice a (pieces s).length cap) (.bool (s.getLast? == some 47)) (.int .i64 0) hrow
      obtain ⟨X, hX⟩ : ∃ X, X = (((W.setCell ⟨w.heap.size, 0, none⟩ (Value.slice a (pieces s).length cap)).setCell ⟨w.heap.size, 1, none⟩ (Value.bool (s.getLast? == some 47))).setCell ⟨w.heap.size + 1, 0, none⟩ (Value.int IntKind.i64 0)) := ⟨_, rfl⟩
      rw [← hX] at q1 q2 q3 q4 q5 ⊢
      have hKd : X.drew.heap[D]? = some (.deferred (some [])) := q3.same D _ hK rfl
      refine ⟨by simp, .inl ⟨_, _, rfl, run_takeDeferred hKd, ?_⟩⟩
      have hP' : Blk (X.drew.putObj D (.deferred none)) w.heap.size #[Value.slice a (pieces s).length cap, .bool (s.getLast? == some 47)] 24 := (blk_own (β := Unit) _ _ _).putObj (s := ()) _ (show Blk X.drew _ _ _ from q1) hKd rfl
      have hE' : Boxed (X.drew.putObj D (.deferred none)) (w.heap.size + 1) 25 (.int .i64 0) := (blk_own (β := Unit) _ _ _).putObj (s := ()) _ (show Blk X.drew _ _ _ from q2) hKd rfl
      have hR' : X.drew.ownsRow w.heap.size 9 1 (.slice a (pieces s).length cap) (pieces s).length ((pieces s).map Value.string) := q5
      exact ⟨_, split_results _ w.heap.size (w.heap.size + 1) _ _ _ _ rfl rfl hP'.cell0 hP'.cell1 hE'.cell, _, rfl, ownsRow_putObj hR' _ hKd rfl, (hB.trans q4).drew.trans (belowK_b (w := w) (Nat.le_refl _) X.drew D _ _ (by rw [World.size_alloc] at hD; omega) hKd rfl rfl)⟩
  case stop =>
    rintro D c pre W hD hpre ⟨rfl, hP, hE, hbad, hB⟩ hK
    gi_wp2
    obtain ⟨z1, z2, z3⟩ := err_bad h1 h2 h3 hpre hbad
    rw [z1, z2, z3]
    refine ⟨by simp, .inl ⟨_, _, rfl, run_takeDeferred hK, ?_⟩⟩
    have hP' : Blk (W.putObj D (.deferred none)) w.heap.size #[Value.slice none 0 0, Value.bool false] 24 := (blk_own (β := Unit) _ _ _).putObj (s := ()) _ hP hK rfl
    have hE' : Boxed (W.putObj D (.deferred none)) (w.heap.size + 1) 25 (.int .i64 36) := (blk_own (β := Unit) _ _ _).putObj (s := ()) _ hE hK rfl
    exact ⟨_, split_results _ w.heap.size (w.heap.size + 1) _ _ _ _ rfl rfl hP'.cell0 hP'.cell1 hE'.cell, _, rfl, World.ownsRow_nil _ _ _ _, hB.trans (belowK_b (w := w) (Nat.le_refl _) W D _ _ (by rw [World.size_alloc] at hD; omega) hK rfl rfl)⟩

theorem split_any (s : List UInt8) (w : World) :
    Calls Try.prog 9 #[.string (bs s)] w fun e w' => ∃ v, e = .returned (.tuple #[.agg #[v, .bool (ends s)], .int .i64 (err s)]) ∧ SOwn w w' v ((told s).map bs) := by
  have key : ∀ {w' : World}, err s ≠ 0 → Below w.heap.size w w' → ∃ v, (Value.slice none 0 0) = v ∧ false = ends s ∧ SOwn w w' v ((told s).map bs) := by
    intro w' he hb
    have h1 : told s = [] := by unfold told; rw [if_neg he]
    have h2 : ends s = false := by unfold ends; rw [decide_eq_false he]; rfl
    refine ⟨_, rfl, h2.symm, ?_⟩
    rw [h1]
    exact ⟨World.ownsRow_nil _ _ _ _, hb⟩
  by_cases h1 : s = []
  · subst h1
    refine (split_empty w).mono ?_
    rintro e w' ⟨rfl, hb⟩
    obtain ⟨v, rfl, h2, h3⟩ := key (by decide) hb
    exact ⟨_, by rw [← h2]; rfl, h3⟩
  · by_cases h2 : 255 < s.length
    · have he : err s = 36 := by unfold err; rw [if_neg h1, if_pos h2]
      refine (split_long s h2 w).mono ?_
      rintro e w' ⟨rfl, hb⟩
      obtain ⟨v, rfl, h2, h3⟩ := key (by rw [he]; decide) hb
      exact ⟨_, by rw [← h2, he], h3⟩
    · by_cases h3 : 0 ∈ s
      · have he : err s = 22 := by unfold err; rw [if_neg h1, if_neg h2, if_pos h3]
        refine (split_zero s h1 (by omega) h3 w).mono ?_
        rintro e w' ⟨rfl, hb⟩
        obtain ⟨v, rfl, h2, h3⟩ := key (by rw [he]; decide) hb
        exact ⟨_, by rw [← h2, he], h3⟩
      · exact callsIn_wide.1 (split_go 3 (by omega) s h1 (by omega) h3 w)
end Go.Proofs.Ytnhoaafpdckmjaa
