/-
  How many nodes of each level are dirty: a count without places.
  dirty: how many nodes of each level are, as a list.
-/
import Derived.Test.YtlfgeanafidopaaQV
import Derived.Test.YtlfgeanafidopaaQW
namespace Go.Proofs.Ytlfgeanafidopaa.Bt
open Go.RowKit
set_option maxRecDepth 10000

def dirt : (n : Nat) → El n → Nat → Nat
  | 0, _, _ => 0
  | n + 1, t, j => if j = n then (if t.d then 1 else 0) else (t.l.map fun e => dirt n e j).sum
def dirts {n : Nat} (l : List (El n)) (j : Nat) : Nat := (l.map fun e => dirt n e j).sum
theorem dirt_succ {n : Nat} (t : El (n + 1)) (j : Nat) : dirt (n + 1) t j = if j = n then (if t.d then 1 else 0) else dirts t.l j := rfl
@[simp] theorem dirts_nil {n : Nat} (j : Nat) : dirts ([] : List (El n)) j = 0 := rfl
theorem dirts_cons {n : Nat} (a : El n) (l : List (El n)) (j : Nat) : dirts (a :: l) j = dirt n a j + dirts l j := rfl
theorem dirts_append {n : Nat} (a b : List (El n)) (j : Nat) : dirts (a ++ b) j = dirts a j + dirts b j := by
  unfold dirts; rw [List.map_append, List.sum_append]
theorem dirt_high : ∀ (n : Nat) (e : El n) (j : Nat), n ≤ j → dirt n e j = 0
  | 0, _, _, _ => rfl
  | n + 1, t, j, h => by
    rw [dirt_succ, if_neg (by omega)]
    unfold dirts
    have : ∀ l : List (El n), (l.map fun e => dirt n e j).sum = 0 := fun l => by
      induction l with
      | nil => rfl
      | cons a l ih => rw [List.map_cons, List.sum_cons, ih, dirt_high n a j (by omega)]
    exact this _
def Cl (n : Nat) (e : El n) : Prop := ∀ j, dirt n e j = 0
theorem cl_dirts {n : Nat} {l : List (El n)} (h : ∀ e ∈ l, Cl n e) (j : Nat) : dirts l j = 0 := by
  induction l with
  | nil => rfl
  | cons a l ih => rw [dirts_cons, h a (by simp) j, ih (fun e he => h e (by simp [he]))]
theorem dirts_cl {n : Nat} {l : List (El n)} {j : Nat} (h : dirts l j = 0) : ∀ e ∈ l, dirt n e j = 0 := by
  induction l with
  | nil => intro e he; cases he
  | cons a l ih =>
    rw [dirts_cons] at h
    intro e he
    rcases List.mem_cons.1 he with rfl | he
    · omega
    · exact ih (by omega) e he
theorem Cl.d {n : Nat} {t : El (n + 1)} (h : Cl (n + 1) t) : t.d = false := by
  have := h n
  rw [dirt_succ, if_pos rfl] at this
  cases e : t.d with
  | false => rfl
  | true => rw [e] at this; cases this
theorem Cl.kids {n : Nat} {t : El (n + 1)} (h : Cl (n + 1) t) : ∀ e ∈ t.l, Cl n e := fun e he j => by
  by_cases hj : j < n
  · have := h j
    rw [dirt_succ, if_neg (by omega)] at this
    exact dirts_cl this e he
  · exact dirt_high n e j (by omega)
/-- Below a node that is clean all are. -/
def Up : (n : Nat) → El n → Prop
  | 0, _ => True
  | n + 1, t => (t.d = false → ∀ e ∈ t.l, Cl n e) ∧ ∀ e ∈ t.l, Up n e
theorem up_succ {n : Nat} (t : El (n + 1)) : Up (n + 1) t ↔ (t.d = false → ∀ e ∈ t.l, Cl n e) ∧ ∀ e ∈ t.l, Up n e := Iff.rfl
theorem up_nd {n : Nat} {l : List (El n)} (h : ∀ e ∈ l, Up n e) : Up (n + 1) (.nd true l) := ⟨fun e => (by cases e), h⟩
theorem cl_up : ∀ (n : Nat) (e : El n), Cl n e → Up n e
  | 0, _, _ => trivial
  | n + 1, _, h => ⟨fun _ => h.kids, fun e he => cl_up n e (h.kids e he)⟩
theorem wipe_cl : ∀ (n : Nat) (e : El n), Up n e → Cl n (wipe n e)
  | 0, _, _ => fun _ => rfl
  | n + 1, t, h => fun j => by
    have ew : wipe (n + 1) t = if t.d then .nd false (t.l.map (wipe n)) else t := rfl
    rw [ew]
    split
    · rw [dirt_succ, El.d_nd, El.l_nd]
      split
      · rfl
      · refine cl_dirts (fun e he => ?_) j
        obtain ⟨y, hy, rfl⟩ := List.mem_map.1 he
        exact wipe_cl n y (h.2 y hy)
    · rename_i hd
      have hd : t.d = false := by simpa using hd
      rw [dirt_succ, hd]
      split
      · rfl
      · exact cl_dirts (h.1 hd) j
theorem sum_add {α : Type} (f g : α → Nat) : ∀ l : List α, (l.map fun x => f x + g x).sum = (l.map f).sum + (l.map g).sum
  | [] => rfl
  | x :: l => by simp only [List.map_cons, List.sum_cons, sum_add f g l]; omega
theorem sum_swap {n : Nat} (r : List Nat) : ∀ l : List (El n), (l.map fun e => (r.map fun j => dirt n e j).sum).sum = (r.map fun j => dirts l j).sum
  | [] => by
    simp only [List.map_nil, List.sum_nil, dirts_nil]
    induction r with
    | nil => rfl
    | cons a r ih => rw [List.map_cons, List.sum_cons, ← ih]; rfl
  | a :: l => by
    rw [List.map_cons, List.sum_cons, sum_swap r l, ← sum_add]
    rfl
theorem sum_zero {α : Type} (f : α → Nat) : ∀ l : List α, (∀ x ∈ l, f x = 0) → (l.map f).sum = 0
  | [], _ => rfl
  | x :: l, h => by rw [List.map_cons, List.sum_cons, h x (by simp), sum_zero f l (fun y hy => h y (by simp [hy]))]
/-- Clean's count is that of all levels. -/
theorem cnt_dirt : ∀ (n : Nat) (e : El n), Up n e → cnt n e = ((List.range n).map fun j => dirt n e j).sum
  | 0, _, _ => rfl
  | n + 1, t, h => by
    have ec : cnt (n + 1) t = if t.d then 1 + (t.l.map (cnt n)).sum else 0 := rfl
    rw [ec, List.range_succ, List.map_append, List.sum_append]
    have e1 : ([n].map fun j => dirt (n + 1) t j).sum = if t.d then 1 else 0 := by
      simp only [List.map_cons, List.map_nil, List.sum_cons, List.sum_nil, Nat.add_zero]
      rw [dirt_succ, if_pos rfl]
    have e2 : ((List.range n).map fun j => dirt (n + 1) t j) = (List.range n).map fun j => dirts t.l j := by
      refine List.map_congr_left (fun j hj => ?_)
      rw [List.mem_range] at hj
      rw [dirt_succ, if_neg (by omega)]
    rw [e1, e2]
    split
    · have e3 : t.l.map (cnt n) = t.l.map fun e => ((List.range n).map fun j => dirt n e j).sum := List.map_congr_left (fun e he => cnt_dirt n e (h.2 e he))
      rw [e3, sum_swap]
      omega
    · rename_i hd
      have hd : t.d = false := by simpa using hd
      rw [sum_zero _ _ (fun j _ => cl_dirts (h.1 hd) j)]
theorem dirts_half {n : Nat} (c : El (n + 1)) (j : Nat) (hj : j ≠ n) : dirt (n + 1) (halfL c) j + dirt (n + 1) (halfR c) j = dirt (n + 1) c j := by
  rw [dirt_succ, dirt_succ, dirt_succ, if_neg hj, if_neg hj, if_neg hj]
  unfold halfL halfR
  rw [El.l_nd, El.l_nd, ← dirts_append, List.take_append_drop]
theorem dirts_putIn {n : Nat} (F : Nat) {i : Nat} {l : List (El (n + 1))} (c : El (n + 1)) (hi : i < l.length) (j : Nat) :
    (j ≠ n → dirts (putIn F i l c) j = dirts (l.take i) j + dirt (n + 1) c j + dirts (l.drop (i + 1)) j) ∧ dirts (putIn F i l c) n ≤ dirts (l.take i) n + 2 + dirts (l.drop (i + 1)) n := by
  have h1 : ∀ t : El (n + 1), dirt (n + 1) t n ≤ 1 := fun t => by rw [dirt_succ, if_pos rfl]; split <;> omega
  unfold putIn
  split
  · refine ⟨fun hj => ?_, ?_⟩
    · rw [dirts_append, dirts_cons, dirts_cons, ← dirts_half c j hj]; omega
    · rw [dirts_append, dirts_cons, dirts_cons]
      have := h1 (halfL c); have := h1 (halfR c); omega
  · have e : l.set i c = l.take i ++ c :: l.drop (i + 1) := by rw [List.set_eq_take_append_cons_drop, if_pos hi]
    rw [e, dirts_append, dirts_cons, dirts_append, dirts_cons]
    refine ⟨fun _ => by omega, by have := h1 c; omega⟩
theorem set_dirts {n : Nat} {i : Nat} {l : List (El n)} (c : El n) (hi : i < l.length) (hl : ∀ e ∈ l, Cl n e) (j : Nat) : dirts (l.set i c) j = dirt n c j := by
  have e : l.set i c = l.take i ++ c :: l.drop (i + 1) := by rw [List.set_eq_take_append_cons_drop, if_pos hi]
  rw [e, dirts_append, dirts_cons, cl_dirts (fun e he => hl e (List.mem_of_mem_take he)), cl_dirts (fun e he => hl e (List.mem_of_mem_drop he))]
  omega
theorem put_dirt (F : Nat) (k v : K) : ∀ (n : Nat) (T : El (n + 1)), Cl (n + 1) T → ∀ j, dirt (n + 1) (put F k v n T) j ≤ if j = n then 1 else 2
  | 0, T, h, j => by
    have e : put F k v 0 T = .nd true (layE k v T.l) := rfl
    rw [e, dirt_succ]
    split
    · split <;> omega
    · refine Nat.le_trans (Nat.le_of_eq (cl_dirts (fun e _ j => rfl) j)) (by omega)
  | n + 1, T, h, j => by
    have e : put F k v (n + 1) T = match T.l[place k T.l]? with | none => .nd true T.l | some c => .nd true (putIn F (place k T.l) T.l (put F k v n c)) := rfl
    rw [e]
    split
    · rw [dirt_succ]
      split
      · split <;> omega
      · rw [El.l_nd, cl_dirts h.kids j]; omega
    · rename_i c hc
      have hi := (List.getElem?_eq_some_iff.1 hc).1
      rw [dirt_succ]
      split
      · split <;> omega
      · rw [El.l_nd]
        obtain ⟨p1, p2⟩ := dirts_putIn F (put F k v n c) hi j
        have z1 : ∀ q, dirts (T.l.take (place k T.l)) q = 0 := cl_dirts (fun e he => h.kids e (List.mem_of_mem_take he))
        have z2 : ∀ q, dirts (T.l.drop (place k T.l + 1)) q = 0 := cl_dirts (fun e he => h.kids e (List.mem_of_mem_drop he))
        by_cases hj : j = n
        · subst hj; rw [z1, z2] at p2; omega
        · have := put_dirt F k v n c (h.kids c (List.mem_of_getElem? hc)) j
          rw [if_neg hj] at this
          rw [p1 hj, z1, z2]; omega
theorem joined_dirt {n : Nat} (F : Nat) (i : Nat) (l : List (El (n + 1))) (j : Nat) : (j ≠ n → dirts (joined F i l) j = dirts l j) ∧ (dirts (joined F i l) n = dirts l n ∨ dirts (joined F i l) n ≤ dirts (l.take i) n + 2 + dirts (l.drop (i + 2)) n) := by
  unfold joined
  split
  · rename_i a b ha hb
    have h1 := (List.getElem?_eq_some_iff.1 ha).1
    have h2 := (List.getElem?_eq_some_iff.1 hb).1
    have hl : i < (l.take (i + 1) ++ l.drop (i + 2)).length := by rw [List.length_append, List.length_take]; omega
    obtain ⟨p1, p2⟩ := dirts_putIn F (.nd true (a.l ++ b.l)) hl j
    have e1 : (l.take (i + 1) ++ l.drop (i + 2)).take i = l.take i := by
      rw [List.take_append_of_le_length (by rw [List.length_take]; omega), List.take_take, Nat.min_eq_left (by omega)]
    have e2 : (l.take (i + 1) ++ l.drop (i + 2)).drop (i + 1) = l.drop (i + 2) := by
      rw [List.drop_append, List.drop_eq_nil_of_le (by rw [List.length_take]; omega), List.length_take, Nat.min_eq_left (by omega), Nat.sub_self, List.nil_append, List.drop_zero]
    rw [e1, e2] at p1 p2
    refine ⟨fun hj => ?_, .inr p2⟩
    rw [p1 hj]
    have e3 : l = l.take i ++ a :: b :: l.drop (i + 2) := by
      conv => lhs; rw [split_at ha]
      congr 2
      have := split_at hb
      have h3 : (l.drop (i + 1)) = b :: l.drop (i + 2) := by
        rw [List.drop_eq_getElem_cons h2]
        have : l[i + 1] = b := (List.getElem?_eq_some_iff.1 hb).2
        rw [this]
      exact h3
    conv => rhs; rw [e3]
    rw [dirts_append, dirts_cons, dirts_cons, dirt_succ, if_neg hj, El.l_nd, dirts_append, dirt_succ a, if_neg hj, dirt_succ b, if_neg hj]
    omega
  · exact ⟨fun _ => rfl, .inl rfl⟩
theorem take_dirts_le {n : Nat} (l : List (El n)) (i j : Nat) : dirts (l.take i) j ≤ dirts l j := by
  conv => rhs; rw [← List.take_append_drop i l, dirts_append]
  omega
theorem remove_dirt (F : Nat) (k : K) : ∀ (n : Nat) (T : El (n + 1)), Cl (n + 1) T → ∀ j, dirt (n + 1) (remove F k n T) j ≤ if j = n then 1 else 3
  | 0, T, h, j => by
    have e : remove F k 0 T = .nd true (T.l.take (lb k (T.l.map (ek 0))) ++ T.l.drop (lb k (T.l.map (ek 0)) + 1)) := rfl
    rw [e, dirt_succ]
    split
    · split <;> omega
    · refine Nat.le_trans (Nat.le_of_eq (cl_dirts (fun e _ j => rfl) j)) (by omega)
  | n + 1, T, h, j => by
    have e : remove F k (n + 1) T = match T.l[place k T.l]? with | none => .nd true T.l | some c => .nd true (takeIn F (place k T.l) T.l (remove F k n c)) := rfl
    rw [e]
    split
    · rw [dirt_succ]
      split
      · split <;> omega
      · rw [El.l_nd, cl_dirts h.kids j]; omega
    · rename_i c hc
      have hi := (List.getElem?_eq_some_iff.1 hc).1
      have ih := remove_dirt F k n c (h.kids c (List.mem_of_getElem? hc))
      rw [dirt_succ]
      split
      · split <;> omega
      · rw [El.l_nd]
        have s1 := set_dirts (remove F k n c) hi h.kids
        have hcj := ih j
        have hcn := ih n
        rw [if_pos rfl] at hcn
        unfold takeIn
        split
        · obtain ⟨p1, p2⟩ := joined_dirt F (place k T.l - 1) (T.l.set (place k T.l) (remove F k n c)) j
          by_cases hj : j = n
          · subst hj
            have t1 := take_dirts_le (T.l.set (place k T.l) (remove F k j c)) (place k T.l - 1) j
            have t2 : dirts ((T.l.set (place k T.l) (remove F k j c)).take (place k T.l - 1)) j + dirts ((T.l.set (place k T.l) (remove F k j c)).drop (place k T.l - 1 + 2)) j ≤ dirts (T.l.set (place k T.l) (remove F k j c)) j := by
              conv => rhs; rw [← List.take_append_drop (place k T.l - 1) (T.l.set (place k T.l) (remove F k j c)), dirts_append]
              have : dirts ((T.l.set (place k T.l) (remove F k j c)).drop (place k T.l - 1 + 2)) j ≤ dirts ((T.l.set (place k T.l) (remove F k j c)).drop (place k T.l - 1)) j := by
                rw [← List.drop_drop]
                conv => rhs; rw [← List.take_append_drop 2 ((T.l.set (place k T.l) (remove F k j c)).drop (place k T.l - 1)), dirts_append]
                omega
              omega
            have s2 := s1 j
            omega
          · rw [p1 hj, s1]; rw [if_neg hj] at hcj; omega
        · rw [s1]
          by_cases hj : j = n
          · subst hj; omega
          · rw [if_neg hj] at hcj; omega
end Go.Proofs.Ytlfgeanafidopaa.Bt
namespace Go.Proofs.Ytlfgeanafidopaa.Bt
open Go.RowKit Go.Shelf
set_option maxRecDepth 10000

def dcount (S : List Shp) (j : Nat) : Nat := S.countP fun s => s.d && s.lv == j
theorem dcount_append (a b : List Shp) (j : Nat) : dcount (a ++ b) j = dcount a j + dcount b j := List.countP_append
theorem shps_lv : ∀ (n : Nat) (l : List (El (n + 1))), ∀ s ∈ shps n l, s.lv ≤ n
  | 0, l, s, hs => by
    obtain ⟨t, _, rfl⟩ := List.mem_map.1 hs
    exact Nat.le_refl _
  | n + 1, l, s, hs => by
    rcases List.mem_append.1 hs with h | h
    · obtain ⟨t, _, rfl⟩ := List.mem_map.1 h
      exact Nat.le_refl _
    · have := shps_lv n _ s h; omega
theorem dcount_row (n : Nat) (l : List (El (n + 1))) (j : Nat) : dcount (l.map (shp n)) j = if j = n then dirts l n else 0 := by
  induction l with
  | nil => split <;> rfl
  | cons a l ih =>
    rw [List.map_cons]
    have e : dcount (shp n a :: l.map (shp n)) j = dcount (l.map (shp n)) j + if (shp n a).d && (shp n a).lv == j then 1 else 0 := by
      unfold dcount
      rw [List.countP_cons]
    rw [e, ih, dirts_cons, dirt_succ, if_pos rfl]
    show _ + (if a.d && n == j then 1 else 0) = _
    by_cases hj : j = n
    · subst hj
      rw [if_pos rfl, if_pos rfl]
      cases a.d <;> simp; omega
    · rw [if_neg hj, if_neg hj]
      have : (n == j) = false := by simpa using fun e => hj e.symm
      rw [this]
      simp
theorem dirts_flat {n : Nat} (l : List (El (n + 2))) (j : Nat) (hj : j ≠ n + 1) : dirts l j = dirts (l.flatMap El.l) j := by
  induction l with
  | nil => rfl
  | cons a l ih => rw [dirts_cons, List.flatMap_cons, dirts_append, ih, dirt_succ, if_neg hj]
theorem dcount_shps : ∀ (n : Nat) (l : List (El (n + 1))) (j : Nat), dcount (shps n l) j = dirts l j
  | 0, l, j => by
    show dcount (l.map (shp 0)) j = _
    rw [dcount_row]
    split
    · rename_i h; rw [h]
    · rename_i h
      have : ∀ l : List (El 1), dirts l j = 0 := fun l => by
        induction l with
        | nil => rfl
        | cons a l ih => rw [dirts_cons, ih, dirt_high 1 a j (by omega)]
      rw [this]
  | n + 1, l, j => by
    show dcount (l.map (shp (n + 1)) ++ shps n (l.flatMap El.l)) j = _
    rw [dcount_append, dcount_row, dcount_shps n]
    by_cases hj : j = n + 1
    · subst hj
      rw [if_pos rfl]
      have : ∀ l : List (El (n + 1)), dirts l (n + 1) = 0 := fun l => by
        induction l with
        | nil => rfl
        | cons a l ih => rw [dirts_cons, ih, dirt_high (n + 1) a (n + 1) (Nat.le_refl _)]
      rw [this]; rfl
    · rw [if_neg hj, Nat.zero_add, dirts_flat l j hj]
theorem infoInt : (Try.prog.info? 3).map (fun i => (i.zero, i.size, i.bytes)) = some (some (.int .i64 0), 1, 8) := by kernel_rfl
theorem makeInt (N : Nat) (h : N ≤ 4000000000000) (W : World) : (Instr.makeSlice 59 (.int .i64 (N : Int)) (.int .i64 (N : Int))).run Try.prog W = .ok (.slice (some ⟨W.heap.size, 0, none⟩) N N) (W.alloc (.cells (List.replicate N (Value.int .i64 0)).toArray 3)) := by
  obtain ⟨i0, hi, hz0, hz1, hz2⟩ := info_parts infoInt
  have := run_make (P := Try.prog) W 59 3 i0 _ Try.underlying59 hi hz0 .i64 .i64 N N (by omega) (Int.le_refl _) (by rw [hz2]; omega) (by omega)
  rw [hz1] at this
  have e : (madeCells (Value.int .i64 0).cells ((N : Int).toNat * 1)) = (List.replicate N (Value.int .i64 0)).toArray := by
    apply Array.toList_inj.1
    rw [show (Value.int .i64 0).cells = #[Value.int .i64 0] from rfl, made_one]; simp
  rw [e] at this
  exact this
/-- So many of each level. -/
def dcV (H : Nat) (f : Nat → Nat) : List Value := (List.range H).map fun j => .int .i64 ((f j : Nat) : Int)
theorem dcV_set (H : Nat) (f g : Nat → Nat) (k : Nat) (hk : k < H) (h1 : g k = f k + 1) (h2 : ∀ j, j ≠ k → g j = f j) : (dcV H f).set k (.int .i64 ((f k + 1 : Nat) : Int)) = dcV H g := by
  apply List.ext_getElem?
  intro i
  unfold dcV
  rw [List.getElem?_set]
  by_cases hi : k = i
  · subst hi
    rw [if_pos rfl, List.length_map, List.length_range, if_pos hk, List.getElem?_map, List.getElem?_range hk]
    simp [h1]
  · rw [if_neg hi, List.getElem?_map, List.getElem?_map]
    by_cases hH : i < H
    · rw [List.getElem?_range hH]; simp [h2 i (fun e => hi e.symm)]
    · rw [List.getElem?_eq_none (by simpa using hH)]; rfl
theorem dcV_get (H : Nat) (f : Nat → Nat) (k : Nat) (hk : k < H) : (dcV H f)[k]? = some (.int .i64 ((f k : Nat) : Int)) := by
  unfold dcV; rw [List.getElem?_map, List.getElem?_range hk]; rfl
theorem dcV_zero (H : Nat) : dcV H (dcount []) = List.replicate H (.int .i64 0) := by
  apply List.ext_getElem?
  intro i
  unfold dcV
  rw [List.getElem?_map, List.getElem?_replicate]
  by_cases hH : i < H
  · rw [List.getElem?_range hH, if_pos hH]; rfl
  · rw [List.getElem?_eq_none (by simpa using hH), if_neg hH]; rfl
theorem ShRow.cells {w W : World} {v : Value} {S : List Shc} (h : ShRow w W v S) {i : Nat} {c : Shc} (hi : S[i]? = some c) : ∃ g cap, v = .slice (some ⟨g, 0, none⟩) S.length cap ∧ W.cell? ⟨g, i * 3, none⟩ = some (.int .i64 (c.s.lv : Int)) ∧ W.cell? ⟨g, i * 3 + 1, none⟩ = some (.slice (some ⟨c.B, 0, none⟩) c.s.ks.length c.s.ks.length) ∧ W.cell? ⟨g, i * 3 + 2, none⟩ = some (.bool c.s.d) := by
  have hil := (List.getElem?_eq_some_iff.1 hi).1
  rcases h.own.2 with ⟨_, h0⟩ | ⟨g, cap, cur, rfl, _, hgg, hnc, hcm, hcs, htake⟩
  · omega
  · have hw : Whole W g cur.toList 48 := by unfold Whole; simpa using hgg
    have hc : ∀ j, j < 3 → W.cell? ⟨g, i * 3 + j, none⟩ = (shcv c)[j]? := fun j hj => by
      rw [hw.cell, ← flat_get shcv 3 shcv_len j hj S i c hi, ← htake, List.getElem?_take, if_pos (by omega)]
    exact ⟨g, cap, rfl, hc 0 (by omega), hc 1 (by omega), hc 2 (by omega)⟩
set_option maxHeartbeats 4000000 in
theorem dirty_any {w : World} {p F : Nat} {x : Tre} {fs : List Nat} (h : Live w p F x fs) (hsz : (shps x.n [x.T]).length ≤ 3518437208880) (hlen : x.all.length ≤ 3518437208884) :
    Calls Try.prog 27 #[.pointer (some ⟨p, 0, none⟩)] w fun e w' => ∃ B, e = .returned (.slice (some ⟨B, 0, none⟩) (x.n + 1) (x.n + 1)) ∧ Below w.heap.size w w' ∧ Whole w' B (dcV (x.n + 1) (dirt (x.n + 1) x.T)) 3 := by
  have kS := shapes_any h hsz
  have HH : Hid (∀ W, Below w.heap.size w W → Calls Try.prog 21 #[.pointer (some ⟨p, 0, none⟩)] W fun e w' => e = .returned (.int .i64 ((x.n + 1 : Nat) : Int)) ∧ W = w') := fun W hb => height_any (h.later hb) (by omega)
  have hnl : x.n ≤ x.all.length := inv_level h.lo h.inv
  have HD : Hid (∀ j, dcount (shps x.n [x.T]) j = dirt (x.n + 1) x.T j) := fun j => by rw [dcount_shps, dirts_cons, dirts_nil, Nat.add_zero]
  have HLv : Hid (∀ s ∈ shps x.n [x.T], s.lv ≤ x.n) := shps_lv _ _
  have HSz : Hid ((shps x.n [x.T]).length ≤ 3518437208880) := hsz
  obtain ⟨tot, htot⟩ : ∃ tot, tot = shps x.n [x.T] := ⟨_, rfl⟩
  rw [← htot] at kS HD HLv HSz
  obtain ⟨DF, hDF⟩ : ∃ DF, DF = dirt (x.n + 1) x.T := ⟨_, rfl⟩
  rw [← hDF] at HD ⊢
  obtain ⟨H, hH⟩ : ∃ H, H = x.n + 1 := ⟨_, rfl⟩
  have HLv2 : Hid (∀ s ∈ tot, s.lv < H) := fun s hs => by have := HLv.out s hs; omega
  rw [← hH] at HH ⊢
  have hHb : H ≤ 4000000000000 := by omega
  have hmk := makeInt H hHb
  clear htot hDF hH hnl h hsz hlen HLv
  go_enter Try.func27, Try.ntmps27
  go_wp2_with (first
    | (go_at_call 20; refine kS.mono ?_; rintro e W1 ⟨a1, n1, c1, S, rfl, hR, hE, hb1⟩; have HR : Hid (ShRow w W1 (.slice a1 n1 c1) S) := hR; have HE : Hid (S.map Shc.s = tot) := hE; have Hb1 : Hid (Below w.heap.size w W1) := hb1; have hn1 : Hid (n1 = S.length) := (by rcases hR.own.2 with ⟨e, e0⟩ | ⟨g, cap, cur, e, _⟩ <;> cases e; exact e0.symm; rfl); clear hR hE hb1)
    | (go_at_call 21; refine (HH.out W1 Hb1.out).mono ?_; rintro e W2 ⟨rfl, rfl⟩))
  have hn1b : n1 ≤ 3518437208880 := by
    have q := congrArg List.length HE.out
    rw [List.length_map] at q
    have := HSz.out; have := hn1.out
    omega
  go_loopg [5] n1 (fun kx s wr => ∃ i : Nat, i + kx = n1 ∧ s = .int .i64 (i : Nat) ∧ Hid (Below W1.heap.size W1 wr ∧ Whole wr W1.heap.size (dcV H (dcount (tot.take i))) 3))
  case atStart =>
    refine ⟨0, by omega, rfl, (⟨below_new W1 _, ?_⟩ : Below W1.heap.size W1 _ ∧ Whole _ W1.heap.size _ _)⟩
    rw [List.take_zero, dcV_zero]
    exact Whole.new W1 _ _
  case round =>
    obtain ⟨i, hi, rfl, I⟩ := hrel
    by_cases hlt : i < n1
    · obtain ⟨c, hc⟩ : ∃ c, S[i]? = some c := ⟨_, List.getElem?_eq_getElem (by have := hn1.out; omega)⟩
      have hct : tot[i]? = some c.s := by rw [← HE.out, List.getElem?_map, hc]; rfl
      have hlv := HLv2.out c.s (List.mem_of_getElem? hct)
      obtain ⟨g, cap, hv, q0, q1, q2⟩ := (HR.out.later I.out.1).cells hc
      have ea : a1 = some ⟨g, 0, none⟩ := by cases hv; rfl
      subst ea
      have htk : tot.take (i + 1) = tot.take i ++ [c.s] := by rw [List.take_add_one, hct]; rfl
      have hi1 : (i : Int) < (n1 : Int) := by omega
      have hl0 : (0 : Int) ≤ (c.s.lv : Int) := by omega
      have hl1 : (c.s.lv : Int) < (H : Int) := by omega
      obtain ⟨lv, hlve⟩ : ∃ lv, lv = c.s.lv := ⟨_, rfl⟩
      rw [← hlve] at q0 hlv hl0 hl1
      have hcnt : dcount (tot.take i) lv ≤ 3518437208880 := by
        unfold dcount
        refine Nat.le_trans List.countP_le_length ?_
        rw [List.length_take]; omega
      have HC : Hid (∀ j, dcount (tot.take (i + 1)) j = dcount (tot.take i) j + if c.s.d && lv == j then 1 else 0) := fun j => by
        rw [htk, dcount_append]
        unfold dcount
        rw [List.countP_cons, List.countP_nil, ← hlve]
        simp
      have o1 : wr.cell? ⟨W1.heap.size, lv, none⟩ = some (.int .i64 ((dcount (tot.take i) lv : Nat) : Int)) := I.out.2.cell.trans (dcV_get H _ lv hlv)
      have o2 := I.out.2.frozen lv
      have HI := I
      obtain ⟨cc, hcc⟩ : ∃ cc, cc = dcount (tot.take i) lv := ⟨_, rfl⟩
      rw [← hcc] at o1 hcnt
      have HCC : Hid (cc = dcount (tot.take i) lv) := hcc
      have hlr : W1.heap.size < wr.heap.size := I.out.2.lt
      clear hv hct hlve htk hc I hcc
      cases hd : c.s.d with
      | true =>
        rw [hd] at q2
        have HF : Hid (Below W1.heap.size W1 (wr.setCell ⟨W1.heap.size, lv, none⟩ (.int .i64 ((cc : Int) + 1))) ∧ Whole (wr.setCell ⟨W1.heap.size, lv, none⟩ (.int .i64 ((cc : Int) + 1))) W1.heap.size (dcV H (dcount (tot.take (i + 1)))) 3) := by
          refine (⟨HI.out.1.setCell (p := ⟨W1.heap.size, lv, none⟩) (Nat.le_refl _) _, ?_⟩ : Below W1.heap.size W1 _ ∧ Whole _ W1.heap.size _ _)
          have := HI.out.2.set (i := lv) (.int .i64 ((cc + 1 : Nat) : Int))
          have hne : ∀ j, j ≠ lv → dcount (tot.take (i + 1)) j = dcount (tot.take i) j := fun j hj => by
            have hb : (lv == j) = false := by simpa using fun e => hj (Eq.symm e)
            rw [HC.out, hd, hb]
            simp
          rw [HCC.out, dcV_set H _ (dcount (tot.take (i + 1))) lv hlv (by rw [HC.out, hd]; simp) hne] at this
          rw [HCC.out]
          exact this
        clear HC hd HI
        go_wp2
        go_roundg (n1 - (i + 1))
        case measure => omega
        case rel =>
          refine ⟨i + 1, by omega, by go_num, ?_⟩
          exact HF.out
      | false =>
        rw [hd] at q2
        have HF : Hid (Below W1.heap.size W1 wr ∧ Whole wr W1.heap.size (dcV H (dcount (tot.take (i + 1)))) 3) := by
          refine (⟨HI.out.1, ?_⟩ : Below W1.heap.size W1 _ ∧ Whole _ W1.heap.size _ _)
          have e : dcV H (dcount (tot.take (i + 1))) = dcV H (dcount (tot.take i)) := by
            unfold dcV
            refine List.map_congr_left fun j _ => ?_
            rw [HC.out, hd]; simp
          rw [e]
          exact HI.out.2
        clear HC hd HI
        go_wp2
        go_roundg (n1 - (i + 1))
        case measure => omega
        case rel => exact ⟨i + 1, by omega, by go_num, HF.out⟩
    · have hin : i = n1 := by omega
      subst hin
      have HF : Hid (Below w.heap.size w wr ∧ Whole wr W1.heap.size (dcV H DF) 3) := by
        refine (⟨bafter Hb1.out I.out.1, ?_⟩ : Below w.heap.size w wr ∧ Whole wr W1.heap.size _ _)
        have := I.out.2
        have q := congrArg List.length HE.out
        rw [List.length_map] at q
        rw [List.take_of_length_le (by have := hn1.out; omega)] at this
        rw [show dcount tot = DF from funext HD.out] at this
        exact this
      go_wp2
      go_ret
      exact ⟨_, rfl, HF.out⟩
end Go.Proofs.Ytlfgeanafidopaa.Bt
