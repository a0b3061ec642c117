/-
  The document's tree: a list of nodes in a box.
  The document's tree: Get, Put, Delete.
-/
import Derived.Test.YtlfgeanafidopaaRF
import Derived.Test.YtlfgeanafidopaaRO
import Derived.Test.YtlfgeanafidopaaRM
import Derived.OwnWalk
namespace Go.Proofs.Ytlfgeanafidopaa.Bt
open Go.RowKit
set_option maxRecDepth 10000

def RAt (w : World) (r : Nat) (L : List KV) : Prop := ∃ v, Whole w r [v] 40 ∧ NdAt w v L
theorem RAt.later {w w' : World} {r : Nat} {L : List KV} (h : RAt w r L) (hb : Below w.heap.size w w') : RAt w' r L := by
  obtain ⟨v, h1, h2⟩ := h
  exact ⟨v, h1.later hb, h2.later hb⟩
theorem NdAt.keptS {S : Nat → Prop} {w w' : World} {v : Value} {l : List KV} (h : NdAt w v l) (hk : Kept S w w') (hn : ∀ b cs, Whole w b cs 54 → ¬ S b) : NdAt w' v l := by
  refine ⟨h.own.1, ?_⟩
  rcases h.own.2 with q | ⟨g, cap, cur, q1, q2, q3, q4⟩
  · exact .inl q
  · have hw : Whole w g cur.toList 54 := by unfold Whole; simpa using q3
    exact .inr ⟨g, cap, cur, q1, q2, (hk.block g hw.lt (hn g _ hw)).trans q3, q4⟩
theorem RAt.keptS {S : Nat → Prop} {w w' : World} {r : Nat} {L : List KV} (h : RAt w r L) (hk : Kept S w w') (hr : ¬ S r) (hn : ∀ b cs, Whole w b cs 54 → ¬ S b) : RAt w' r L := by
  obtain ⟨v, h1, h2⟩ := h
  exact ⟨v, h1.kept hk hr, h2.keptS hk hn⟩
/-- The code's tree lies on where the document's is changed, and the other way round. -/
theorem Live.keptS {w w' : World} {p F : Nat} {x : Tre} {fs : List Nat} (h : Live w p F x fs) {r : Nat} {cs : List Value} (hr : Whole w r cs 40) (hk : Kept (fun b => b = r) w w') : Live w' p F x fs := by
  obtain ⟨t, ht, hfs⟩ := h.tr
  have hp : p ≠ r := fun e => Row.ne ht.row hr.row (by decide) e
  have hf : ∀ b ∈ foot (x.n + 1) t, ¬ b = r := fun b hb e => hr.row.notFoot (by decide) (by decide) ht.lies (e ▸ hb)
  exact ⟨⟨t, ⟨ht.row.kept hk hp, ht.lies.kept hk hf, ht.nd, ht.abs⟩, hfs⟩, h.inv, h.lo, h.hi⟩
theorem RAt.left {w w' : World} {r : Nat} {L : List KV} {p F : Nat} {x x' : Tre} {fs : List Nat} (h : RAt w r L) (hl : Live w p F x fs) (hL : Left w p F fs x' w') : RAt w' r L := by
  have hv := h
  obtain ⟨v, h1, h2⟩ := hv
  refine h.keptS hL.kept (hl.notIn h1.row (by decide) (by decide) (by decide)) (fun b cs hb => hl.notIn hb.row (by decide) (by decide) (by decide))
theorem nd_one (w : World) (x : KV) : NdAt (w.alloc (.cells #[.string x.1, .string x.2, .bool false] 54)) (.slice (some ⟨w.heap.size, 0, none⟩) 1 1) [x] :=
  ⟨rfl, .inr ⟨w.heap.size, 1, #[.string x.1, .string x.2, .bool false], rfl, Nat.zero_le _, World.alloc_heap_new w _, Nat.le_refl _, by unfold maxLen; omega, rfl, rfl⟩⟩
def rpDone (k : K) (A : List KV) : Bool := A.any fun x => klt k x.1
def rpAcc (k v : K) (A : List KV) : List KV := if rpDone k A then ins k v (del k A) else del k A
theorem del_snoc (k : K) (A : List KV) (x : KV) : del k (A ++ [x]) = if x.1 = k then del k A else del k A ++ [x] := by
  unfold del
  rw [List.filter_append]
  by_cases h : x.1 = k
  · rw [if_pos h]; simp [h]
  · rw [if_neg h]; simp [h]
theorem done_snoc (k : K) (A : List KV) (x : KV) : rpDone k (A ++ [x]) = (rpDone k A || klt k x.1) := by
  unfold rpDone; rw [List.any_append]; simp
theorem del_low {k : K} {A : List KV} (h : rpDone k A = false) : ∀ x ∈ del k A, klt x.1 k = true := fun x hx => by
  obtain ⟨h1, h2⟩ := List.mem_filter.1 hx
  have h3 : klt k x.1 = false := by
    cases e : klt k x.1 with
    | false => rfl
    | true =>
      have : rpDone k A = true := List.any_eq_true.2 ⟨x, h1, e⟩
      rw [this] at h; cases h
  cases e : klt x.1 k with
  | true => rfl
  | false => exact absurd (klt_total e h3) (by simpa using h2)
theorem rp_eq {k v : K} {A : List KV} {x : KV} (h : x.1 = k) : rpAcc k v (A ++ [x]) = rpAcc k v A ∧ rpDone k (A ++ [x]) = rpDone k A := by
  have e : rpDone k (A ++ [x]) = rpDone k A := by rw [done_snoc, h, klt_irrefl, Bool.or_false]
  exact ⟨by unfold rpAcc; rw [e, del_snoc, if_pos h], e⟩
theorem rp_new {k v : K} {A : List KV} {x : KV} (h : x.1 ≠ k) (hd : rpDone k A = false) (hk : klt k x.1 = true) : rpAcc k v (A ++ [x]) = rpAcc k v A ++ [(k, v)] ++ [x] ∧ rpDone k (A ++ [x]) = true := by
  have e : rpDone k (A ++ [x]) = true := by rw [done_snoc, hk, Bool.or_true]
  refine ⟨?_, e⟩
  unfold rpAcc
  rw [e, hd, if_pos rfl, if_neg (by decide), del_snoc, if_neg h, ins_right k v _ [x] (fun y hy => by rw [List.mem_singleton.1 hy]; exact hk)]
  congr 1
  have := ins_left k v (del k A) [] (del_low hd)
  rw [List.append_nil] at this
  exact this
theorem rp_low {k v : K} {A : List KV} {x : KV} (h : x.1 ≠ k) (hd : rpDone k A = false) (hk : klt k x.1 = false) : rpAcc k v (A ++ [x]) = rpAcc k v A ++ [x] ∧ rpDone k (A ++ [x]) = false := by
  have e : rpDone k (A ++ [x]) = false := by rw [done_snoc, hk, hd]; rfl
  exact ⟨by unfold rpAcc; rw [e, hd, if_neg (by decide), if_neg (by decide), del_snoc, if_neg h], e⟩
theorem rp_high {k v : K} {A : List KV} {x : KV} (hs : Srt (A ++ [x])) (h : x.1 ≠ k) (hd : rpDone k A = true) : rpAcc k v (A ++ [x]) = rpAcc k v A ++ [x] ∧ rpDone k (A ++ [x]) = true := by
  have e : rpDone k (A ++ [x]) = true := by rw [done_snoc, hd, Bool.true_or]
  refine ⟨?_, e⟩
  obtain ⟨y, hy, hky⟩ := List.any_eq_true.1 hd
  have hyx := (srt_append.1 hs).2.2 y hy x (by simp)
  unfold rpAcc
  rw [e, hd, if_pos rfl, if_pos rfl, del_snoc, if_neg h, ins_right k v _ [x] (fun z hz => by rw [List.mem_singleton.1 hz]; exact klt_trans hky hyx)]
theorem ins_del (k v : K) : ∀ {L : List KV}, Srt L → ins k v (del k L) = ins k v L
  | [], _ => rfl
  | x :: L, h => by
    obtain ⟨h1, h2⟩ := List.pairwise_cons.1 h
    have ih := ins_del k v h2
    by_cases e : x.1 = k
    · have ed : del k (x :: L) = L := by
        unfold del
        rw [List.filter_cons, if_neg (by simpa using e), List.filter_eq_self]
        intro y hy
        have := h1 y hy
        rw [e] at this
        simpa using (klt_ne this).symm
      rw [ed]
      conv => rhs; rw [ins, e, if_neg (by rw [klt_irrefl]; decide), if_pos rfl]
      have := ins_right k v [] L (fun y hy => by have := h1 y hy; rwa [e] at this)
      rw [List.nil_append] at this
      rw [this]; rfl
    · have ed : del k (x :: L) = x :: del k L := by
        unfold del
        rw [List.filter_cons, if_pos (by simpa using e)]
      rw [ed, ins, ins, ih]
      split
      · rfl
      · rename_i hk
        have hkx : klt k x.1 = true := by
          cases q : klt k x.1 with
          | true => rfl
          | false => exact absurd (klt_total (by simpa using hk) q) e
        have : del k L = L := by
          unfold del
          rw [List.filter_eq_self]
          intro y hy
          simpa using (klt_ne (klt_trans hkx (h1 y hy))).symm
        rw [this]
theorem rp_fin {k v : K} {L : List KV} (hs : Srt L) : (if rpDone k L then rpAcc k v L else rpAcc k v L ++ [(k, v)]) = ins k v L := by
  unfold rpAcc
  cases hd : rpDone k L with
  | true => rw [if_pos rfl, if_pos rfl]; exact ins_del k v hs
  | false =>
    rw [if_neg (by decide), if_neg (by decide), ← ins_del k v hs]
    have := ins_left k v (del k L) [] (del_low hd)
    rw [List.append_nil] at this
    exact this.symm
theorem rp_len (k v : K) (A : List KV) : (rpAcc k v A).length ≤ A.length + 1 := by
  have h1 : (del k A).length ≤ A.length := List.length_filter_le _ _
  have h2 : ∀ l : List KV, (ins k v l).length ≤ l.length + 1 := fun l => by
    induction l with
    | nil => simp [ins]
    | cons x l ih =>
      rw [ins]
      split
      · simp; omega
      · split <;> simp
  unfold rpAcc
  split
  · have := h2 (del k A); omega
  · omega
end Go.Proofs.Ytlfgeanafidopaa.Bt
namespace Go.Proofs.Ytlfgeanafidopaa.Bt
open Go.RowKit
set_option maxRecDepth 10000

/-- What is read of the document's list. -/
theorem RAt.cells {w : World} {r : Nat} {L : List KV} (h : RAt w r L) : ∃ a cap, w.cell? ⟨r, 0, none⟩ = some (.slice a L.length cap) ∧ ∀ i x, L[i]? = some x → ∃ g, a = some ⟨g, 0, none⟩ ∧ w.cell? ⟨g, i * 3, none⟩ = some (.string x.1) ∧ w.cell? ⟨g, i * 3 + 1, none⟩ = some (.string x.2) ∧ w.cell? ⟨g, i * 3 + 2, none⟩ = some (.bool false) := by
  obtain ⟨v, h1, h2⟩ := h
  obtain ⟨a, cap, e⟩ := own_slice h2.own
  refine ⟨a, cap, by rw [← e]; exact h1.cell, fun i x hx => ?_⟩
  obtain ⟨g, c, e2, q0, q1, q2⟩ := h2.cells hx
  rw [e] at e2; cases e2
  exact ⟨g, rfl, q0, q1, q2⟩
/-- .. and as long as memory is only added to. -/
theorem RAt.reads {w : World} {r : Nat} {L : List KV} (h : RAt w r L) : ∃ a cap, (∀ X, Below w.heap.size w X → X.cell? ⟨r, 0, none⟩ = some (.slice a L.length cap)) ∧ ∀ i x, L[i]? = some x → ∃ g, a = some ⟨g, 0, none⟩ ∧ ∀ X, Below w.heap.size w X → X.cell? ⟨g, i * 3, none⟩ = some (.string x.1) ∧ X.cell? ⟨g, i * 3 + 1, none⟩ = some (.string x.2) ∧ X.cell? ⟨g, i * 3 + 2, none⟩ = some (.bool false) := by
  obtain ⟨a, cap, c0, hc⟩ := h.cells
  refine ⟨a, cap, fun X hX => (hX.cell (p := ⟨r, 0, none⟩) (World.block_lt_of_cell? w _ c0)).trans c0, fun i x hx => ?_⟩
  obtain ⟨g, e, q0, q1, q2⟩ := hc i x hx
  have key : ∀ {X : World}, Below w.heap.size w X → ∀ {o v}, w.cell? ⟨g, o, none⟩ = some v → X.cell? ⟨g, o, none⟩ = some v := fun {X} hX {o v} q => (hX.cell (p := ⟨g, o, none⟩) (World.block_lt_of_cell? w _ q)).trans q
  exact ⟨g, e, fun X hX => ⟨key hX q0, key hX q1, key hX q2⟩⟩
theorem look_take {k : K} {L : List KV} {i : Nat} {x : KV} (hx : L[i]? = some x) (hn : look k (L.take i) = none) : look k (L.take (i + 1)) = if x.1 = k then some x.2 else none := by
  have e : L.take (i + 1) = L.take i ++ [x] := by rw [List.take_add_one, hx]; rfl
  have : ∀ (A B : List KV), look k A = none → look k (A ++ B) = look k B := fun A => by
    induction A with
    | nil => intro B _; rfl
    | cons a A ih =>
      intro B h
      rw [look] at h
      split at h
      · cases h
      · rename_i hne
        rw [List.cons_append, look, if_neg hne]
        exact ih B h
  rw [e, this _ _ hn]
  rfl
theorem look_pre {k : K} {L : List KV} {i : Nat} {v : K} (h : look k (L.take i) = some v) : look k L = some v := by
  have : ∀ (A B : List KV), look k A = some v → look k (A ++ B) = some v := fun A => by
    induction A with
    | nil => intro B h; cases h
    | cons a A ih =>
      intro B h
      rw [look] at h
      rw [List.cons_append, look]
      split at h
      · rename_i he; rw [if_pos he]; exact h
      · rename_i hne; rw [if_neg hne]; exact ih B h
  rw [← List.take_append_drop i L]
  exact this _ _ h
set_option maxHeartbeats 2000000 in
theorem rget_any {w : World} {r : Nat} {L : List KV} (h : RAt w r L) (k : K) (hl : L.length ≤ 1000000000) :
    Calls Try.prog 33 #[.pointer (some ⟨r, 0, none⟩), .string k] w fun e w' => e = .returned (.tuple #[.string ((look k L).getD ⟨#[]⟩), .bool (look k L).isSome]) ∧ w = w' := by
  obtain ⟨a, cap, c0, hc⟩ := h.cells
  have HC : Hid (∀ i x, L[i]? = some x → ∃ g, a = some ⟨g, 0, none⟩ ∧ w.cell? ⟨g, i * 3, none⟩ = some (.string x.1) ∧ w.cell? ⟨g, i * 3 + 1, none⟩ = some (.string x.2) ∧ w.cell? ⟨g, i * 3 + 2, none⟩ = some (.bool false)) := hc
  have HL : Hid (∀ i, i < L.length → ∃ x, L[i]? = some x) := fun i hi => ⟨_, List.getElem?_eq_getElem hi⟩
  obtain ⟨N, hN⟩ : ∃ N, N = L.length := ⟨_, rfl⟩
  have HN : Hid (N = L.length) := hN
  rw [← hN] at c0 hl HL
  clear hc hN h
  go_enter Try.func33, Try.ntmps33
  go_wp2
  go_loopg [6] N (fun kx s wr => ∃ i : Nat, i + kx = N ∧ s = .int .i64 (i : Nat) ∧ wr = w ∧ Hid (look k (L.take i) = none))
  case atStart => exact ⟨0, by omega, rfl, rfl, (rfl : look k (L.take 0) = none)⟩
  case round =>
    obtain ⟨i, hi, rfl, rfl, I⟩ := hrel
    by_cases hlt : i < N
    · obtain ⟨x, hx⟩ := HL.out i hlt
      obtain ⟨g, rfl, q0, q1, q2⟩ := HC.out i x hx
      have hi1 : (i : Int) < (N : Int) := by omega
      have hlk := look_take hx I.out
      clear hx
      by_cases he : x.1.toList = k.toList
      · have he2 : (x.1.toList == k.toList) = true := by simpa using he
        have HF : Hid (look k L = some x.2) := look_pre (i := i + 1) (by rw [hlk, if_pos (list_inj he)])
        clear hlk
        go_wp2
        go_ret2
        exact ⟨by rw [HF.out]; rfl, rfl⟩
      · have he2 : (x.1.toList == k.toList) = false := by simpa using he
        have HF : Hid (look k (L.take (i + 1)) = none) := by show _ = _; rw [hlk, if_neg (fun e => he (by rw [e]))]
        clear hlk
        go_wp2
        go_roundg (N - (i + 1))
        case measure => omega
        case rel => exact ⟨i + 1, by omega, by go_num, rfl, HF.out⟩
    · have hin : i = N := by omega
      subst hin
      have HF : Hid (look k L = none) := by
        have := I.out
        rwa [List.take_of_length_le (by have := HN.out; omega)] at this
      have hi1 : ¬ (i : Int) < (i : Int) := by omega
      go_wp2
      go_ret2
      exact ⟨by rw [HF.out]; rfl, rfl⟩
/-- Put's list, while it is made. -/
structure RP (w : World) (acc : List KV) (vo : Value) (W : World) : Prop where
  own : W.ownsRow w.heap.size 54 3 vo acc.length (acc.flatMap ndv)
  below : Below w.heap.size w W
theorem RP.zero (w : World) : RP w [] (.slice none 0 0) w := ⟨World.ownsRow_nil _ _ _ 3, Below.refl _ _⟩
theorem RP.later {w : World} {acc : List KV} {vo : Value} {W W' : World} (h : RP w acc vo W) (hb : Below W.heap.size W W') : RP w acc vo W' :=
  ⟨h.own.kept (below_grown hb) (own_ne h.own (row := none) (fun r e => by cases e)), bafter h.below hb⟩
theorem RP.push {w : World} {acc : List KV} {vo v' : Value} {X W' : World} {l2 : List KV} (h : RP w acc vo X) (ho : W'.ownsRow w.heap.size 54 3 v' (acc ++ l2).length ((acc ++ l2).flatMap ndv)) (hg : X.grownBy W' vo.ownBlock) : RP w (acc ++ l2) v' W' :=
  ⟨ho, h.below.grown hg h.below.size (fun k ek => (h.own.lt k ek).1)⟩
theorem RP.slice {w : World} {acc : List KV} {vo : Value} {W : World} (h : RP w acc vo W) : ∃ a n c, vo = .slice a n c := by
  obtain ⟨a, c, e⟩ := own_slice h.own
  exact ⟨a, _, c, e⟩
/-- .. and put into its box. -/
theorem RP.store {w : World} {r : Nat} {L acc : List KV} {vo : Value} {W : World} (h : RP w acc vo W) (hr : RAt w r L) : RAt (W.setCell ⟨r, 0, none⟩ vo) r acc ∧ Kept (fun b => b = r) w (W.setCell ⟨r, 0, none⟩ vo) := by
  obtain ⟨v, h1, _⟩ := hr
  have h2 := h1.later (h.below.mono (Nat.le_refl _))
  refine ⟨⟨vo, h2.set (i := 0) vo, ?_⟩, (Kept.of_below (S := fun b => b = r) h.below).setCell (p := ⟨r, 0, none⟩) rfl _⟩
  refine ⟨h.own.1, ?_⟩
  rcases h.own.2 with q | ⟨g, cap, cur, q1, q2, q3, q4⟩
  · exact .inl q
  · refine .inr ⟨g, cap, cur, q1, Nat.zero_le _, ?_, q4⟩
    have hw : Whole W g cur.toList 54 := by unfold Whole; simpa using q3
    refine (Below.heap_setCell _ _ _ g (fun e => ?_)).trans q3
    exact Row.ne hw.row h2.row (by decide) e
end Go.Proofs.Ytlfgeanafidopaa.Bt
