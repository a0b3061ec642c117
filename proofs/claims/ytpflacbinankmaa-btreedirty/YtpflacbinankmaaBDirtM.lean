/-
  How many nodes of each level are dirty: a count without places.
-/
import Derived.Test.YtpflacbinankmaaBBuild
namespace Go.Proofs.Ytpflacbinankmaa.Bt
open Go.RowKit
set_option maxRecDepth 10000

def dirt : (n : Nat) → El n → Nat → Nat
  | 0, _, _ => 0
  | n + 1, t, j => if j = n then (if t.d then 1 else 0) else (t.l.map fun e => dirt n e j).sum
def dirts {n : Nat} (l : List (El n)) (j : Nat) : Nat := (l.map fun e => dirt n e j).sum
theorem dirt_succ {n : Nat} (t : El (n + 1)) (j : Nat) : dirt (n + 1) t j = if j = n then (if t.d then 1 else 0) else dirts t.l j := rfl
@[simp] theorem dirts_nil {n : Nat} (j : Nat) : dirts ([] : List (El n)) j = 0 := rfl
theorem dirts_cons {n : Nat} (a : El n) (l : List (El n)) (j : Nat) : dirts (a :: l) j = dirt n a j + dirts l j := rfl
theorem dirts_append {n : Nat} (a b : List (El n)) (j : Nat) : dirts (a ++ b) j = dirts a j + dirts b j := by
  unfold dirts; rw [List.map_append, List.sum_append]
theorem dirt_high : ∀ (n : Nat) (e : El n) (j : Nat), n ≤ j → dirt n e j = 0
  | 0, _, _, _ => rfl
  | n + 1, t, j, h => by
    rw [dirt_succ, if_neg (by omega)]
    unfold dirts
    have : ∀ l : List (El n), (l.map fun e => dirt n e j).sum = 0 := fun l => by
      induction l with
      | nil => rfl
      | cons a l ih => rw [List.map_cons, List.sum_cons, ih, dirt_high n a j (by omega)]
    exact this _
def Cl (n : Nat) (e : El n) : Prop := ∀ j, dirt n e j = 0
theorem cl_dirts {n : Nat} {l : List (El n)} (h : ∀ e ∈ l, Cl n e) (j : Nat) : dirts l j = 0 := by
  induction l with
  | nil => rfl
  | cons a l ih => rw [dirts_cons, h a (by simp) j, ih (fun e he => h e (by simp [he]))]
theorem dirts_cl {n : Nat} {l : List (El n)} {j : Nat} (h : dirts l j = 0) : ∀ e ∈ l, dirt n e j = 0 := by
  induction l with
  | nil => intro e he; cases he
  | cons a l ih =>
    rw [dirts_cons] at h
    intro e he
    rcases List.mem_cons.1 he with rfl | he
    · omega
    · exact ih (by omega) e he
theorem Cl.d {n : Nat} {t : El (n + 1)} (h : Cl (n + 1) t) : t.d = false := by
  have := h n
  rw [dirt_succ, if_pos rfl] at this
  cases e : t.d with
  | false => rfl
  | true => rw [e] at this; cases this
theorem Cl.kids {n : Nat} {t : El (n + 1)} (h : Cl (n + 1) t) : ∀ e ∈ t.l, Cl n e := fun e he j => by
  by_cases hj : j < n
  · have := h j
    rw [dirt_succ, if_neg (by omega)] at this
    exact dirts_cl this e he
  · exact dirt_high n e j (by omega)
/-- Below a node that is clean all are. -/
def Up : (n : Nat) → El n → Prop
  | 0, _ => True
  | n + 1, t => (t.d = false → ∀ e ∈ t.l, Cl n e) ∧ ∀ e ∈ t.l, Up n e
theorem up_succ {n : Nat} (t : El (n + 1)) : Up (n + 1) t ↔ (t.d = false → ∀ e ∈ t.l, Cl n e) ∧ ∀ e ∈ t.l, Up n e := Iff.rfl
theorem up_nd {n : Nat} {l : List (El n)} (h : ∀ e ∈ l, Up n e) : Up (n + 1) (.nd true l) := ⟨fun e => (by cases e), h⟩
theorem cl_up : ∀ (n : Nat) (e : El n), Cl n e → Up n e
  | 0, _, _ => trivial
  | n + 1, _, h => ⟨fun _ => h.kids, fun e he => cl_up n e (h.kids e he)⟩
theorem wipe_cl : ∀ (n : Nat) (e : El n), Up n e → Cl n (wipe n e)
  | 0, _, _ => fun _ => rfl
  | n + 1, t, h => fun j => by
    have ew : wipe (n + 1) t = if t.d then .nd false (t.l.map (wipe n)) else t := rfl
    rw [ew]
    split
    · rw [dirt_succ, El.d_nd, El.l_nd]
      split
      · rfl
      · refine cl_dirts (fun e he => ?_) j
        obtain ⟨y, hy, rfl⟩ := List.mem_map.1 he
        exact wipe_cl n y (h.2 y hy)
    · rename_i hd
      have hd : t.d = false := by simpa using hd
      rw [dirt_succ, hd]
      split
      · rfl
      · exact cl_dirts (h.1 hd) j
theorem sum_add {α : Type} (f g : α → Nat) : ∀ l : List α, (l.map fun x => f x + g x).sum = (l.map f).sum + (l.map g).sum
  | [] => rfl
  | x :: l => by simp only [List.map_cons, List.sum_cons, sum_add f g l]; omega
theorem sum_swap {n : Nat} (r : List Nat) : ∀ l : List (El n), (l.map fun e => (r.map fun j => dirt n e j).sum).sum = (r.map fun j => dirts l j).sum
  | [] => by
    simp only [List.map_nil, List.sum_nil, dirts_nil]
    induction r with
    | nil => rfl
    | cons a r ih => rw [List.map_cons, List.sum_cons, ← ih]; rfl
  | a :: l => by
    rw [List.map_cons, List.sum_cons, sum_swap r l, ← sum_add]
    rfl
theorem sum_zero {α : Type} (f : α → Nat) : ∀ l : List α, (∀ x ∈ l, f x = 0) → (l.map f).sum = 0
  | [], _ => rfl
  | x :: l, h => by rw [List.map_cons, List.sum_cons, h x (by simp), sum_zero f l (fun y hy => h y (by simp [hy]))]
/-- Clean's count is that of all levels. -/
theorem cnt_dirt : ∀ (n : Nat) (e : El n), Up n e → cnt n e = ((List.range n).map fun j => dirt n e j).sum
  | 0, _, _ => rfl
  | n + 1, t, h => by
    have ec : cnt (n + 1) t = if t.d then 1 + (t.l.map (cnt n)).sum else 0 := rfl
    rw [ec, List.range_succ, List.map_append, List.sum_append]
    have e1 : ([n].map fun j => dirt (n + 1) t j).sum = if t.d then 1 else 0 := by
      simp only [List.map_cons, List.map_nil, List.sum_cons, List.sum_nil, Nat.add_zero]
      rw [dirt_succ, if_pos rfl]
    have e2 : ((List.range n).map fun j => dirt (n + 1) t j) = (List.range n).map fun j => dirts t.l j := by
      refine List.map_congr_left (fun j hj => ?_)
      rw [List.mem_range] at hj
      rw [dirt_succ, if_neg (by omega)]
    rw [e1, e2]
    split
    · have e3 : t.l.map (cnt n) = t.l.map fun e => ((List.range n).map fun j => dirt n e j).sum := List.map_congr_left (fun e he => cnt_dirt n e (h.2 e he))
      rw [e3, sum_swap]
      omega
    · rename_i hd
      have hd : t.d = false := by simpa using hd
      rw [sum_zero _ _ (fun j _ => cl_dirts (h.1 hd) j)]
theorem dirts_half {n : Nat} (c : El (n + 1)) (j : Nat) (hj : j ≠ n) : dirt (n + 1) (halfL c) j + dirt (n + 1) (halfR c) j = dirt (n + 1) c j := by
  rw [dirt_succ, dirt_succ, dirt_succ, if_neg hj, if_neg hj, if_neg hj]
  unfold halfL halfR
  rw [El.l_nd, El.l_nd, ← dirts_append, List.take_append_drop]
theorem dirts_putIn {n : Nat} (F : Nat) {i : Nat} {l : List (El (n + 1))} (c : El (n + 1)) (hi : i < l.length) (j : Nat) :
    (j ≠ n → dirts (putIn F i l c) j = dirts (l.take i) j + dirt (n + 1) c j + dirts (l.drop (i + 1)) j) ∧ dirts (putIn F i l c) n ≤ dirts (l.take i) n + 2 + dirts (l.drop (i + 1)) n := by
  have h1 : ∀ t : El (n + 1), dirt (n + 1) t n ≤ 1 := fun t => by rw [dirt_succ, if_pos rfl]; split <;> omega
  unfold putIn
  split
  · refine ⟨fun hj => ?_, ?_⟩
    · rw [dirts_append, dirts_cons, dirts_cons, ← dirts_half c j hj]; omega
    · rw [dirts_append, dirts_cons, dirts_cons]
      have := h1 (halfL c); have := h1 (halfR c); omega
  · have e : l.set i c = l.take i ++ c :: l.drop (i + 1) := by rw [List.set_eq_take_append_cons_drop, if_pos hi]
    rw [e, dirts_append, dirts_cons, dirts_append, dirts_cons]
    refine ⟨fun _ => by omega, by have := h1 c; omega⟩
theorem set_dirts {n : Nat} {i : Nat} {l : List (El n)} (c : El n) (hi : i < l.length) (hl : ∀ e ∈ l, Cl n e) (j : Nat) : dirts (l.set i c) j = dirt n c j := by
  have e : l.set i c = l.take i ++ c :: l.drop (i + 1) := by rw [List.set_eq_take_append_cons_drop, if_pos hi]
  rw [e, dirts_append, dirts_cons, cl_dirts (fun e he => hl e (List.mem_of_mem_take he)), cl_dirts (fun e he => hl e (List.mem_of_mem_drop he))]
  omega
theorem put_dirt (F : Nat) (k v : K) : ∀ (n : Nat) (T : El (n + 1)), Cl (n + 1) T → ∀ j, dirt (n + 1) (put F k v n T) j ≤ if j = n then 1 else 2
  | 0, T, h, j => by
    have e : put F k v 0 T = .nd true (layE k v T.l) := rfl
    rw [e, dirt_succ]
    split
    · split <;> omega
    · refine Nat.le_trans (Nat.le_of_eq (cl_dirts (fun e _ j => rfl) j)) (by omega)
  | n + 1, T, h, j => by
    have e : put F k v (n + 1) T = match T.l[place k T.l]? with | none => .nd true T.l | some c => .nd true (putIn F (place k T.l) T.l (put F k v n c)) := rfl
    rw [e]
    split
    · rw [dirt_succ]
      split
      · split <;> omega
      · rw [El.l_nd, cl_dirts h.kids j]; omega
    · rename_i c hc
      have hi := (List.getElem?_eq_some_iff.1 hc).1
      rw [dirt_succ]
      split
      · split <;> omega
      · rw [El.l_nd]
        obtain ⟨p1, p2⟩ := dirts_putIn F (put F k v n c) hi j
        have z1 : ∀ q, dirts (T.l.take (place k T.l)) q = 0 := cl_dirts (fun e he => h.kids e (List.mem_of_mem_take he))
        have z2 : ∀ q, dirts (T.l.drop (place k T.l + 1)) q = 0 := cl_dirts (fun e he => h.kids e (List.mem_of_mem_drop he))
        by_cases hj : j = n
        · subst hj; rw [z1, z2] at p2; omega
        · have := put_dirt F k v n c (h.kids c (List.mem_of_getElem? hc)) j
          rw [if_neg hj] at this
          rw [p1 hj, z1, z2]; omega
theorem joined_dirt {n : Nat} (F : Nat) (i : Nat) (l : List (El (n + 1))) (j : Nat) : (j ≠ n → dirts (joined F i l) j = dirts l j) ∧ (dirts (joined F i l) n = dirts l n ∨ dirts (joined F i l) n ≤ dirts (l.take i) n + 2 + dirts (l.drop (i + 2)) n) := by
  unfold joined
  split
  · rename_i a b ha hb
    have h1 := (List.getElem?_eq_some_iff.1 ha).1
    have h2 := (List.getElem?_eq_some_iff.1 hb).1
    have hl : i < (l.take (i + 1) ++ l.drop (i + 2)).length := by rw [List.length_append, List.length_take]; omega
    obtain ⟨p1, p2⟩ := dirts_putIn F (.nd true (a.l ++ b.l)) hl j
    have e1 : (l.take (i + 1) ++ l.drop (i + 2)).take i = l.take i := by
      rw [List.take_append_of_le_length (by rw [List.length_take]; omega), List.take_take, Nat.min_eq_left (by omega)]
    have e2 : (l.take (i + 1) ++ l.drop (i + 2)).drop (i + 1) = l.drop (i + 2) := by
      rw [List.drop_append, List.drop_eq_nil_of_le (by rw [List.length_take]; omega), List.length_take, Nat.min_eq_left (by omega), Nat.sub_self, List.nil_append, List.drop_zero]
    rw [e1, e2] at p1 p2
    refine ⟨fun hj => ?_, .inr p2⟩
    rw [p1 hj]
    have e3 : l = l.take i ++ a :: b :: l.drop (i + 2) := by
      conv => lhs; rw [split_at ha]
      congr 2
      have := split_at hb
      have h3 : (l.drop (i + 1)) = b :: l.drop (i + 2) := by
        rw [List.drop_eq_getElem_cons h2]
        have : l[i + 1] = b := (List.getElem?_eq_some_iff.1 hb).2
        rw [this]
      exact h3
    conv => rhs; rw [e3]
    rw [dirts_append, dirts_cons, dirts_cons, dirt_succ, if_neg hj, El.l_nd, dirts_append, dirt_succ a, if_neg hj, dirt_succ b, if_neg hj]
    omega
  · exact ⟨fun _ => rfl, .inl rfl⟩
theorem take_dirts_le {n : Nat} (l : List (El n)) (i j : Nat) : dirts (l.take i) j ≤ dirts l j := by
  conv => rhs; rw [← List.take_append_drop i l, dirts_append]
  omega
theorem remove_dirt (F : Nat) (k : K) : ∀ (n : Nat) (T : El (n + 1)), Cl (n + 1) T → ∀ j, dirt (n + 1) (remove F k n T) j ≤ if j = n then 1 else 3
  | 0, T, h, j => by
    have e : remove F k 0 T = .nd true (T.l.take (lb k (T.l.map (ek 0))) ++ T.l.drop (lb k (T.l.map (ek 0)) + 1)) := rfl
    rw [e, dirt_succ]
    split
    · split <;> omega
    · refine Nat.le_trans (Nat.le_of_eq (cl_dirts (fun e _ j => rfl) j)) (by omega)
  | n + 1, T, h, j => by
    have e : remove F k (n + 1) T = match T.l[place k T.l]? with | none => .nd true T.l | some c => .nd true (takeIn F (place k T.l) T.l (remove F k n c)) := rfl
    rw [e]
    split
    · rw [dirt_succ]
      split
      · split <;> omega
      · rw [El.l_nd, cl_dirts h.kids j]; omega
    · rename_i c hc
      have hi := (List.getElem?_eq_some_iff.1 hc).1
      have ih := remove_dirt F k n c (h.kids c (List.mem_of_getElem? hc))
      rw [dirt_succ]
      split
      · split <;> omega
      · rw [El.l_nd]
        have s1 := set_dirts (remove F k n c) hi h.kids
        have hcj := ih j
        have hcn := ih n
        rw [if_pos rfl] at hcn
        unfold takeIn
        split
        · obtain ⟨p1, p2⟩ := joined_dirt F (place k T.l - 1) (T.l.set (place k T.l) (remove F k n c)) j
          by_cases hj : j = n
          · subst hj
            have t1 := take_dirts_le (T.l.set (place k T.l) (remove F k j c)) (place k T.l - 1) j
            have t2 : dirts ((T.l.set (place k T.l) (remove F k j c)).take (place k T.l - 1)) j + dirts ((T.l.set (place k T.l) (remove F k j c)).drop (place k T.l - 1 + 2)) j ≤ dirts (T.l.set (place k T.l) (remove F k j c)) j := by
              conv => rhs; rw [← List.take_append_drop (place k T.l - 1) (T.l.set (place k T.l) (remove F k j c)), dirts_append]
              have : dirts ((T.l.set (place k T.l) (remove F k j c)).drop (place k T.l - 1 + 2)) j ≤ dirts ((T.l.set (place k T.l) (remove F k j c)).drop (place k T.l - 1)) j := by
                rw [← List.drop_drop]
                conv => rhs; rw [← List.take_append_drop 2 ((T.l.set (place k T.l) (remove F k j c)).drop (place k T.l - 1)), dirts_append]
                omega
              omega
            have s2 := s1 j
            omega
          · rw [p1 hj, s1]; rw [if_neg hj] at hcj; omega
        · rw [s1]
          by_cases hj : j = n
          · subst hj; omega
          · rw [if_neg hj] at hcj; omega
end Go.Proofs.Ytpflacbinankmaa.Bt
