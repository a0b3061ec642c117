/-
  A B+tree as lists of lists: the order of keys, sorted lists of keys and values, what putting and taking out make of nodes.
-/
import Derived.Test.YtpflacbinankmaaRows
import Derived.WalkKit
import Derived.WalkSpells
import Derived.Laws.BytesArg
namespace Go.Proofs.Ytpflacbinankmaa.Bt

abbrev K := ByteArray
abbrev KV := K × K
theorem bl_irrefl : ∀ x : List UInt8, Op.bytesLess x x = false
  | [] => rfl
  | a :: x => by simp [Op.bytesLess, bl_irrefl x]
theorem bl_asymm : ∀ {x y : List UInt8}, Op.bytesLess x y = true → Op.bytesLess y x = false
  | [], [], h => by simp [Op.bytesLess] at h
  | [], _ :: _, _ => rfl
  | _ :: _, [], h => by simp [Op.bytesLess] at h
  | a :: x, b :: y, h => by
    simp only [Op.bytesLess, Bool.or_eq_true, decide_eq_true_eq, Bool.and_eq_true, beq_iff_eq] at h
    rcases h with h | ⟨rfl, h⟩
    · have h1 : ¬ b < a := by rw [UInt8.lt_iff_toNat_lt] at h ⊢; omega
      have h2 : (b == a) = false := by rw [beq_eq_false_iff_ne]; intro e; rw [e, UInt8.lt_iff_toNat_lt] at h; omega
      simp [Op.bytesLess, h1, h2]
    · have h1 : ¬ a < a := by rw [UInt8.lt_iff_toNat_lt]; omega
      simp [Op.bytesLess, h1, bl_asymm h]
theorem bl_total : ∀ {x y : List UInt8}, x ≠ y → Op.bytesLess x y = true ∨ Op.bytesLess y x = true
  | [], [], h => absurd rfl h
  | [], _ :: _, _ => .inl rfl
  | _ :: _, [], _ => .inr rfl
  | a :: x, b :: y, h => by
    by_cases e : a = b
    · subst e
      have hxy : x ≠ y := fun e => h (by rw [e])
      rcases bl_total hxy with h1 | h1
      · exact .inl (by simp [Op.bytesLess, h1])
      · exact .inr (by simp [Op.bytesLess, h1])
    · by_cases h1 : a < b
      · exact .inl (by simp [Op.bytesLess, h1])
      · have h2 : b < a := by
          rw [UInt8.lt_iff_toNat_lt] at h1 ⊢
          have : a.toNat ≠ b.toNat := fun e2 => e (UInt8.toNat_inj.1 e2)
          omega
        exact .inr (by simp [Op.bytesLess, h2])
theorem bl_trans : ∀ {x y z : List UInt8}, Op.bytesLess x y = true → Op.bytesLess y z = true → Op.bytesLess x z = true
  | [], [], _, h, _ => by simp [Op.bytesLess] at h
  | _ :: _, [], _, h, _ => by simp [Op.bytesLess] at h
  | [], _ :: _, [], _, h => by simp [Op.bytesLess] at h
  | [], _ :: _, _ :: _, _, _ => rfl
  | _ :: _, _ :: _, [], _, h => by simp [Op.bytesLess] at h
  | a :: x, b :: y, c :: z, h1, h2 => by
    simp only [Op.bytesLess, Bool.or_eq_true, decide_eq_true_eq, Bool.and_eq_true, beq_iff_eq] at h1 h2 ⊢
    rcases h1 with h1 | ⟨rfl, h1⟩
    · rcases h2 with h2 | ⟨rfl, h2⟩
      · left; rw [UInt8.lt_iff_toNat_lt] at h1 h2 ⊢; omega
      · exact .inl h1
    · rcases h2 with h2 | ⟨rfl, h2⟩
      · exact .inl h2
      · exact .inr ⟨rfl, bl_trans h1 h2⟩

/-- The order of keys. -/
def klt (a b : K) : Bool := Op.bytesLess a.toList b.toList
theorem klt_irrefl (a : K) : klt a a = false := bl_irrefl _
theorem klt_asymm {a b : K} (h : klt a b = true) : klt b a = false := bl_asymm h
theorem klt_trans {a b c : K} (h : klt a b = true) (g : klt b c = true) : klt a c = true := bl_trans h g
theorem list_inj {a b : K} (h : a.toList = b.toList) : a = b := by
  rw [ByteArray.toList_eq, ByteArray.toList_eq] at h
  cases a; cases b
  simpa [Array.toList_inj] using h
theorem klt_total {a b : K} (h : klt a b = false) (g : klt b a = false) : a = b := by
  by_cases e : a.toList = b.toList
  · exact list_inj e
  · rcases bl_total e with q | q
    · unfold klt at h; rw [h] at q; cases q
    · unfold klt at g; rw [g] at q; cases q
theorem keq (a b : K) : (a.toList == b.toList) = decide (a = b) := by
  by_cases e : a = b
  · subst e; simp
  · have : a.toList ≠ b.toList := fun q => e (list_inj q)
    simp [e, this]
theorem kgt (a b : K) : (!(Op.bytesLess a.toList b.toList || a.toList == b.toList)) = klt b a := by
  rw [keq]
  cases h : klt b a with
  | true =>
    have h1 := klt_asymm h
    have h2 : ¬ a = b := fun e => by rw [e, klt_irrefl] at h; cases h
    unfold klt at h1
    simp [h1, h2]
  | false =>
    by_cases e : a = b
    · simp [e]
    · have : klt a b = true := by
        cases q : klt a b with
        | true => rfl
        | false => exact absurd (klt_total q h) e
      unfold klt at this
      simp [this]
/-- What is no lesser than a greater one is greater. -/
theorem klt_of_le {a b c : K} (h : klt a b = true) (g : klt c b = false) : klt a c = true := by
  cases q : klt a c with
  | true => rfl
  | false =>
    cases q2 : klt c a with
    | true => rw [klt_trans q2 h] at g; cases g
    | false => rw [klt_total q q2, g] at h; cases h
theorem klt_of_le' {a b c : K} (h : klt b a = false) (g : klt b c = true) : klt a c = true := by
  cases q : klt a b with
  | true => exact klt_trans q g
  | false => rw [klt_total q h]; exact g
theorem klt_ne {a b : K} (h : klt a b = true) : a ≠ b := fun e => by rw [e, klt_irrefl] at h; cases h

def Srt (l : List KV) : Prop := l.Pairwise fun x y => klt x.1 y.1 = true
def ins (k v : K) : List KV → List KV
  | [] => [(k, v)]
  | x :: r => if klt x.1 k = true then x :: ins k v r else if x.1 = k then (k, v) :: r else (k, v) :: x :: r
def del (k : K) (l : List KV) : List KV := l.filter fun x => decide (x.1 ≠ k)
def look (k : K) : List KV → Option K
  | [] => none
  | x :: r => if x.1 = k then some x.2 else look k r

theorem ins_left (k v : K) : ∀ (A B : List KV), (∀ x ∈ A, klt x.1 k = true) → ins k v (A ++ B) = A ++ ins k v B
  | [], _, _ => rfl
  | x :: A, B, h => by
    rw [List.cons_append, ins, if_pos (h x (by simp)), ins_left k v A B (fun y hy => h y (by simp [hy]))]; rfl
theorem ins_right (k v : K) : ∀ (B C : List KV), (∀ x ∈ C, klt k x.1 = true) → ins k v (B ++ C) = ins k v B ++ C
  | [], [], _ => rfl
  | [], x :: C, h => by
    have h1 := h x (by simp)
    show ins k v (x :: C) = [(k, v)] ++ x :: C
    simp only [ins]
    rw [if_neg (by rw [klt_asymm h1]; decide), if_neg (klt_ne h1).symm]
    rfl
  | y :: B, C, h => by
    rw [List.cons_append, ins, ins, ins_right k v B C h]
    split
    · rfl
    · split <;> rfl
theorem del_left (k : K) (A B : List KV) (h : ∀ x ∈ A, klt x.1 k = true) : del k (A ++ B) = A ++ del k B := by
  unfold del
  rw [List.filter_append, List.filter_eq_self.2 (fun x hx => by simpa using klt_ne (h x hx))]
theorem del_right (k : K) (B C : List KV) (h : ∀ x ∈ C, klt k x.1 = true) : del k (B ++ C) = del k B ++ C := by
  unfold del
  rw [List.filter_append, (List.filter_eq_self (l := C)).2 (fun x hx => by simpa using (klt_ne (h x hx)).symm)]
theorem look_left (k : K) : ∀ (A B : List KV), (∀ x ∈ A, klt x.1 k = true) → look k (A ++ B) = look k B
  | [], _, _ => rfl
  | x :: A, B, h => by
    rw [List.cons_append, look, if_neg (klt_ne (h x (by simp))), look_left k A B (fun y hy => h y (by simp [hy]))]
theorem look_none (k : K) : ∀ (C : List KV), (∀ x ∈ C, klt k x.1 = true) → look k C = none
  | [], _ => rfl
  | x :: C, h => by
    rw [look, if_neg (klt_ne (h x (by simp))).symm, look_none k C (fun y hy => h y (by simp [hy]))]
theorem look_right (k : K) : ∀ (B C : List KV), (∀ x ∈ C, klt k x.1 = true) → look k (B ++ C) = look k B
  | [], C, h => look_none k C h
  | y :: B, C, h => by rw [List.cons_append, look, look, look_right k B C h]
theorem look_mem (k : K) : ∀ (l : List KV), (∃ v, look k l = some v) ↔ k ∈ l.map Prod.fst
  | [] => by simp [look]
  | x :: r => by
    have ih := look_mem k r
    rw [look, List.map_cons, List.mem_cons]
    by_cases h : x.1 = k
    · simp [h]
    · rw [if_neg h, ih]
      constructor
      · exact .inr
      · rintro (e | e)
        · exact absurd e.symm h
        · exact e

/-- How many of an ascending list come first. -/
theorem countP_split {α : Type} (p : α → Bool) : ∀ (l : List α), l.Pairwise (fun x y => p y = true → p x = true) → ∀ i x, l[i]? = some x → (i < l.countP p ↔ p x = true)
  | [], _, i, x, h => by simp at h
  | a :: l, hp, i, x, h => by
    obtain ⟨h1, h2⟩ := List.pairwise_cons.1 hp
    have ih := countP_split p l h2
    cases ha : p a with
    | true =>
      rw [List.countP_cons_of_pos ha]
      cases i with
      | zero => simp at h; subst h; simp [ha]
      | succ i => have := ih i x (by simpa using h); rw [← this]; omega
    | false =>
      have h0 : ∀ y ∈ l, p y = false := fun y hy => by
        cases q : p y with
        | false => rfl
        | true => rw [h1 y hy q] at ha; cases ha
      have hc : l.countP p = 0 := List.countP_eq_zero.2 (fun y hy => by rw [h0 y hy]; decide)
      rw [List.countP_cons_of_neg (by rw [ha]; decide), hc]
      have hx : p x = false := by
        cases i with
        | zero => simp at h; rw [← h]; exact ha
        | succ i => exact h0 x (List.mem_of_getElem? (i := i) (by simpa using h))
      simp [hx]
def lb (k : K) (l : List K) : Nat := l.countP fun x => klt x k
def ub (k : K) (l : List K) : Nat := l.countP fun x => !klt k x
def Ksrt (l : List K) : Prop := l.Pairwise fun x y => klt x y = true
theorem lb_le (k : K) (l : List K) : lb k l ≤ l.length := List.countP_le_length
theorem ub_le (k : K) (l : List K) : ub k l ≤ l.length := List.countP_le_length
theorem lb_iff {k : K} {l : List K} (h : Ksrt l) (i : Nat) (x : K) (hx : l[i]? = some x) : i < lb k l ↔ klt x k = true :=
  countP_split (fun x => klt x k) l (h.imp fun hab hb => klt_trans hab hb) i x hx
theorem ub_iff {k : K} {l : List K} (h : Ksrt l) (i : Nat) (x : K) (hx : l[i]? = some x) : i < ub k l ↔ klt k x = false := by
  have := countP_split (fun x => !klt k x) l (h.imp fun {a b} hab hb => by
    have hb' : klt k b = false := by simpa using hb
    cases q : klt k a with
    | false => rfl
    | true => rw [klt_trans q hab] at hb'; cases hb') i x hx
  unfold ub
  simpa using this

theorem split_at {α : Type} {l : List α} {i : Nat} {c : α} (h : l[i]? = some c) : l = l.take i ++ c :: l.drop (i + 1) := by
  obtain ⟨h1, h2⟩ := List.getElem?_eq_some_iff.1 h
  rw [← h2, ← List.drop_eq_getElem_cons h1, List.take_append_drop]

/-- A slot into a leaf. -/
def lay (k v : K) (l : List KV) : List KV :=
  if (l[lb k (l.map Prod.fst)]?).map Prod.fst = some k then l.set (lb k (l.map Prod.fst)) (k, v) else l.take (lb k (l.map Prod.fst)) ++ (k, v) :: l.drop (lb k (l.map Prod.fst))
theorem srt_keys {l : List KV} (h : Srt l) : Ksrt (l.map Prod.fst) := List.pairwise_map.2 h
theorem lb_parts {k : K} {l : List KV} (h : Srt l) : (∀ x ∈ l.take (lb k (l.map Prod.fst)), klt x.1 k = true) ∧ (∀ x ∈ l.drop (lb k (l.map Prod.fst)), klt x.1 k = false) := by
  have hi := fun i x hx => lb_iff (k := k) (srt_keys h) i x hx
  constructor
  · intro x hx
    obtain ⟨i, hi1, hi2⟩ := List.getElem_of_mem hx
    rw [List.getElem_take] at hi2
    have hlt : i < lb k (l.map Prod.fst) := by rw [List.length_take] at hi1; omega
    have hl : i < l.length := by rw [List.length_take] at hi1; omega
    exact (hi i x.1 (by rw [List.getElem?_map, List.getElem?_eq_getElem hl, hi2]; rfl)).1 hlt
  · intro x hx
    obtain ⟨i, hi1, hi2⟩ := List.getElem_of_mem hx
    rw [List.getElem_drop] at hi2
    rw [List.length_drop] at hi1
    cases q : klt x.1 k with
    | false => rfl
    | true =>
      have hl : lb k (l.map Prod.fst) + i < l.length := by omega
      have := (hi _ x.1 (by rw [List.getElem?_map, List.getElem?_eq_getElem hl, hi2]; rfl)).2 q
      omega
theorem lay_ins {k v : K} {l : List KV} (h : Srt l) : lay k v l = ins k v l := by
  obtain ⟨h1, h2⟩ := lb_parts (k := k) h
  unfold lay
  generalize lb k (l.map Prod.fst) = i at *
  cases hx : l[i]? with
  | none =>
    have hd : l.drop i = [] := List.drop_eq_nil_of_le (List.getElem?_eq_none_iff.1 hx)
    rw [if_neg (by simp)]
    conv => rhs; rw [← List.take_append_drop i l, ins_left k v _ _ h1, hd]
    rw [hd]; rfl
  | some x =>
    have hs := split_at hx
    have hd : l.drop i = x :: l.drop (i + 1) := by
      have := (List.getElem?_eq_some_iff.1 hx)
      rw [← this.2, ← List.drop_eq_getElem_cons this.1]
    have hxk := h2 x (by rw [hd]; simp)
    conv => rhs; rw [← List.take_append_drop i l, ins_left k v _ _ h1, hd, ins, if_neg (by rw [hxk]; decide)]
    by_cases e : x.1 = k
    · rw [if_pos (by simp [e]), if_pos e, List.set_eq_take_append_cons_drop, if_pos (List.getElem?_eq_some_iff.1 hx).1]
    · rw [if_neg (by simp [e]), if_neg e, hd]
theorem lay_len (k v : K) (l : List KV) : l.length ≤ (lay k v l).length ∧ (lay k v l).length ≤ l.length + 1 ∧ 0 < (lay k v l).length := by
  unfold lay
  have h := lb_le k (l.map Prod.fst)
  rw [List.length_map] at h
  split
  · rename_i q
    have : 0 < l.length := by
      cases l with
      | nil => simp at q
      | cons => simp
    simp; exact this
  · simp [List.length_take, List.length_drop]; omega
/-- The place that is taken out of a leaf. -/
theorem del_at {k : K} {l : List KV} (h : Srt l) (hk : k ∈ l.map Prod.fst) : ∃ x, l[lb k (l.map Prod.fst)]? = some x ∧ x.1 = k ∧ l.take (lb k (l.map Prod.fst)) ++ l.drop (lb k (l.map Prod.fst) + 1) = del k l := by
  obtain ⟨h1, h2⟩ := lb_parts (k := k) h
  obtain ⟨y, hy, hyk⟩ := List.mem_map.1 hk
  generalize lb k (l.map Prod.fst) = i at *
  have hys : y ∈ l.drop i := by
    rw [← List.take_append_drop i l, List.mem_append] at hy
    rcases hy with hy | hy
    · have := h1 y hy; rw [hyk, klt_irrefl] at this; cases this
    · exact hy
  obtain ⟨x, r, hd⟩ : ∃ x r, l.drop i = x :: r := by
    cases hq : l.drop i with
    | nil => rw [hq] at hys; simp at hys
    | cons x r => exact ⟨x, r, rfl⟩
  have hsr : Srt (l.drop i) := h.sublist (List.drop_sublist _ _)
  have hxy : x = y := by
    rw [hd] at hys hsr
    rcases List.mem_cons.1 hys with e | e
    · exact e.symm
    · have := (List.pairwise_cons.1 hsr).1 y e
      have h3 := h2 x (by rw [hd]; simp)
      rw [hyk] at this; rw [this] at h3; cases h3
  have hx : l[i]? = some x := by
    have := congrArg List.head? hd
    rw [List.head?_drop] at this
    simpa using this
  have hr : l.drop (i + 1) = r := by
    have := congrArg (List.drop 1) hd
    rw [List.drop_drop] at this
    simpa using this
  refine ⟨x, hx, by rw [hxy]; exact hyk, ?_⟩
  conv => rhs; rw [← List.take_append_drop i l, del_left k _ _ h1, hd]
  rw [hr]
  rw [hd] at hsr
  have hgt : ∀ z ∈ r, klt k z.1 = true := fun z hz => by
    have := (List.pairwise_cons.1 hsr).1 z hz
    rwa [hxy, hyk] at this
  have : del k (x :: r) = r := by
    have := del_right k [x] r hgt
    rw [List.singleton_append] at this
    rw [this]
    simp [del, hxy, hyk]
  rw [this]
theorem look_at {k : K} {l : List KV} (h : Srt l) : look k l = match l[lb k (l.map Prod.fst)]? with | none => none | some x => if x.1 = k then some x.2 else none := by
  obtain ⟨h1, h2⟩ := lb_parts (k := k) h
  generalize lb k (l.map Prod.fst) = i at *
  have hsr : Srt (l.drop i) := h.sublist (List.drop_sublist _ _)
  conv => lhs; rw [← List.take_append_drop i l, look_left k _ _ h1]
  cases hx : l[i]? with
  | none => rw [List.drop_eq_nil_of_le (List.getElem?_eq_none_iff.1 hx)]; rfl
  | some x =>
    have hd : l.drop i = x :: l.drop (i + 1) := by
      have := (List.getElem?_eq_some_iff.1 hx)
      rw [← this.2, ← List.drop_eq_getElem_cons this.1]
    rw [hd, look]
    rw [hd] at hsr
    have hxk := h2 x (by rw [hd]; simp)
    by_cases e : x.1 = k
    · simp [e]
    · rw [if_neg e]
      simp only [e, if_false]
      refine look_none k _ (fun z hz => ?_)
      have h3 := (List.pairwise_cons.1 hsr).1 z hz
      have h4 : klt k x.1 = true := by
        cases q : klt k x.1 with
        | true => rfl
        | false => exact absurd (klt_total hxk q) e
      exact klt_trans h4 h3
end Go.Proofs.Ytpflacbinankmaa.Bt
