/-
  A B+tree as lists of lists: the order of keys, sorted lists of keys and values, what putting and taking out make of nodes.
  Nodes of a B+tree, level by level, without places in memory: Put and Delete on them, and that they are those of a sorted list.
  Memory: rows of cells, what stays while others are written; a node and its slots as they lie.
  slices.Delete at slots.
  slices.Insert at slots: one slot, at whatever place.
-/
import Derived.Test.YtlfgeanafidopaaRows
import Derived.WalkKit
import Derived.WalkSpells
import Derived.Laws.BytesArg
import Derived.WalkLawsBesides
import Derived.Laws.Cover1
import Derived.Laws.IdiomCopy
import Derived.Deep.AppendLies
import Derived.Deep.RegionLaw
import Derived.Deep.QuietTactic
import Derived.BigQuiet
import Derived.Lib.AppendZerosOnto
import Derived.Lib.AppendZeros
import Derived.Lib.Overlaps
import Derived.Laws.Externs
import Derived.Laws.NewBlocks
namespace Go.Proofs.Ytlfgeanafidopaa.Bt

abbrev K := ByteArray
abbrev KV := K × K
theorem bl_irrefl : ∀ x : List UInt8, Op.bytesLess x x = false
  | [] => rfl
  | a :: x => by simp [Op.bytesLess, bl_irrefl x]
theorem bl_asymm : ∀ {x y : List UInt8}, Op.bytesLess x y = true → Op.bytesLess y x = false
  | [], [], h => by simp [Op.bytesLess] at h
  | [], _ :: _, _ => rfl
  | _ :: _, [], h => by simp [Op.bytesLess] at h
  | a :: x, b :: y, h => by
    simp only [Op.bytesLess, Bool.or_eq_true, decide_eq_true_eq, Bool.and_eq_true, beq_iff_eq] at h
    rcases h with h | ⟨rfl, h⟩
    · have h1 : ¬ b < a := by rw [UInt8.lt_iff_toNat_lt] at h ⊢; omega
      have h2 : (b == a) = false := by rw [beq_eq_false_iff_ne]; intro e; rw [e, UInt8.lt_iff_toNat_lt] at h; omega
      simp [Op.bytesLess, h1, h2]
    · have h1 : ¬ a < a := by rw [UInt8.lt_iff_toNat_lt]; omega
      simp [Op.bytesLess, h1, bl_asymm h]
theorem bl_total : ∀ {x y : List UInt8}, x ≠ y → Op.bytesLess x y = true ∨ Op.bytesLess y x = true
  | [], [], h => absurd rfl h
  | [], _ :: _, _ => .inl rfl
  | _ :: _, [], _ => .inr rfl
  | a :: x, b :: y, h => by
    by_cases e : a = b
    · subst e
      have hxy : x ≠ y := fun e => h (by rw [e])
      rcases bl_total hxy with h1 | h1
      · exact .inl (by simp [Op.bytesLess, h1])
      · exact .inr (by simp [Op.bytesLess, h1])
    · by_cases h1 : a < b
      · exact .inl (by simp [Op.bytesLess, h1])
      · have h2 : b < a := by
          rw [UInt8.lt_iff_toNat_lt] at h1 ⊢
          have : a.toNat ≠ b.toNat := fun e2 => e (UInt8.toNat_inj.1 e2)
          omega
        exact .inr (by simp [Op.bytesLess, h2])
theorem bl_trans : ∀ {x y z : List UInt8}, Op.bytesLess x y = true → Op.bytesLess y z = true → Op.bytesLess x z = true
  | [], [], _, h, _ => by simp [Op.bytesLess] at h
  | _ :: _, [], _, h, _ => by simp [Op.bytesLess] at h
  | [], _ :: _, [], _, h => by simp [Op.bytesLess] at h
  | [], _ :: _, _ :: _, _, _ => rfl
  | _ :: _, _ :: _, [], _, h => by simp [Op.bytesLess] at h
  | a :: x, b :: y, c :: z, h1, h2 => by
    simp only [Op.bytesLess, Bool.or_eq_true, decide_eq_true_eq, Bool.and_eq_true, beq_iff_eq] at h1 h2 ⊢
    rcases h1 with h1 | ⟨rfl, h1⟩
    · rcases h2 with h2 | ⟨rfl, h2⟩
      · left; rw [UInt8.lt_iff_toNat_lt] at h1 h2 ⊢; omega
      · exact .inl h1
    · rcases h2 with h2 | ⟨rfl, h2⟩
      · exact .inl h2
      · exact .inr ⟨rfl, bl_trans h1 h2⟩

/-- The order of keys. -/
def klt (a b : K) : Bool := Op.bytesLess a.toList b.toList
theorem klt_irrefl (a : K) : klt a a = false := bl_irrefl _
theorem klt_asymm {a b : K} (h : klt a b = true) : klt b a = false := bl_asymm h
theorem klt_trans {a b c : K} (h : klt a b = true) (g : klt b c = true) : klt a c = true := bl_trans h g
theorem list_inj {a b : K} (h : a.toList = b.toList) : a = b := by
  rw [ByteArray.toList_eq, ByteArray.toList_eq] at h
  cases a; cases b
  simpa [Array.toList_inj] using h
theorem klt_total {a b : K} (h : klt a b = false) (g : klt b a = false) : a = b := by
  by_cases e : a.toList = b.toList
  · exact list_inj e
  · rcases bl_total e with q | q
    · unfold klt at h; rw [h] at q; cases q
    · unfold klt at g; rw [g] at q; cases q
theorem keq (a b : K) : (a.toList == b.toList) = decide (a = b) := by
  by_cases e : a = b
  · subst e; simp
  · have : a.toList ≠ b.toList := fun q => e (list_inj q)
    simp [e, this]
theorem kgt (a b : K) : (!(Op.bytesLess a.toList b.toList || a.toList == b.toList)) = klt b a := by
  rw [keq]
  cases h : klt b a with
  | true =>
    have h1 := klt_asymm h
    have h2 : ¬ a = b := fun e => by rw [e, klt_irrefl] at h; cases h
    unfold klt at h1
    simp [h1, h2]
  | false =>
    by_cases e : a = b
    · simp [e]
    · have : klt a b = true := by
        cases q : klt a b with
        | true => rfl
        | false => exact absurd (klt_total q h) e
      unfold klt at this
      simp [this]
/-- What is no lesser than a greater one is greater. -/
theorem klt_of_le {a b c : K} (h : klt a b = true) (g : klt c b = false) : klt a c = true := by
  cases q : klt a c with
  | true => rfl
  | false =>
    cases q2 : klt c a with
    | true => rw [klt_trans q2 h] at g; cases g
    | false => rw [klt_total q q2, g] at h; cases h
theorem klt_of_le' {a b c : K} (h : klt b a = false) (g : klt b c = true) : klt a c = true := by
  cases q : klt a b with
  | true => exact klt_trans q g
  | false => rw [klt_total q h]; exact g
theorem klt_ne {a b : K} (h : klt a b = true) : a ≠ b := fun e => by rw [e, klt_irrefl] at h; cases h

def Srt (l : List KV) : Prop := l.Pairwise fun x y => klt x.1 y.1 = true
def ins (k v : K) : List KV → List KV
  | [] => [(k, v)]
  | x :: r => if klt x.1 k = true then x :: ins k v r else if x.1 = k then (k, v) :: r else (k, v) :: x :: r
def del (k : K) (l : List KV) : List KV := l.filter fun x => decide (x.1 ≠ k)
def look (k : K) : List KV → Option K
  | [] => none
  | x :: r => if x.1 = k then some x.2 else look k r

theorem ins_left (k v : K) : ∀ (A B : List KV), (∀ x ∈ A, klt x.1 k = true) → ins k v (A ++ B) = A ++ ins k v B
  | [], _, _ => rfl
  | x :: A, B, h => by
    rw [List.cons_append, ins, if_pos (h x (by simp)), ins_left k v A B (fun y hy => h y (by simp [hy]))]; rfl
theorem ins_right (k v : K) : ∀ (B C : List KV), (∀ x ∈ C, klt k x.1 = true) → ins k v (B ++ C) = ins k v B ++ C
  | [], [], _ => rfl
  | [], x :: C, h => by
    have h1 := h x (by simp)
    show ins k v (x :: C) = [(k, v)] ++ x :: C
    simp only [ins]
    rw [if_neg (by rw [klt_asymm h1]; decide), if_neg (klt_ne h1).symm]
    rfl
  | y :: B, C, h => by
    rw [List.cons_append, ins, ins, ins_right k v B C h]
    split
    · rfl
    · split <;> rfl
theorem del_left (k : K) (A B : List KV) (h : ∀ x ∈ A, klt x.1 k = true) : del k (A ++ B) = A ++ del k B := by
  unfold del
  rw [List.filter_append, List.filter_eq_self.2 (fun x hx => by simpa using klt_ne (h x hx))]
theorem del_right (k : K) (B C : List KV) (h : ∀ x ∈ C, klt k x.1 = true) : del k (B ++ C) = del k B ++ C := by
  unfold del
  rw [List.filter_append, (List.filter_eq_self (l := C)).2 (fun x hx => by simpa using (klt_ne (h x hx)).symm)]
theorem look_left (k : K) : ∀ (A B : List KV), (∀ x ∈ A, klt x.1 k = true) → look k (A ++ B) = look k B
  | [], _, _ => rfl
  | x :: A, B, h => by
    rw [List.cons_append, look, if_neg (klt_ne (h x (by simp))), look_left k A B (fun y hy => h y (by simp [hy]))]
theorem look_none (k : K) : ∀ (C : List KV), (∀ x ∈ C, klt k x.1 = true) → look k C = none
  | [], _ => rfl
  | x :: C, h => by
    rw [look, if_neg (klt_ne (h x (by simp))).symm, look_none k C (fun y hy => h y (by simp [hy]))]
theorem look_right (k : K) : ∀ (B C : List KV), (∀ x ∈ C, klt k x.1 = true) → look k (B ++ C) = look k B
  | [], C, h => look_none k C h
  | y :: B, C, h => by rw [List.cons_append, look, look, look_right k B C h]
theorem look_mem (k : K) : ∀ (l : List KV), (∃ v, look k l = some v) ↔ k ∈ l.map Prod.fst
  | [] => by simp [look]
  | x :: r => by
    have ih := look_mem k r
    rw [look, List.map_cons, List.mem_cons]
    by_cases h : x.1 = k
    · simp [h]
    · rw [if_neg h, ih]
      constructor
      · exact .inr
      · rintro (e | e)
        · exact absurd e.symm h
        · exact e

/-- How many of an ascending list come first. -/
theorem countP_split {α : Type} (p : α → Bool) : ∀ (l : List α), l.Pairwise (fun x y => p y = true → p x = true) → ∀ i x, l[i]? = some x → (i < l.countP p ↔ p x = true)
  | [], _, i, x, h => by simp at h
  | a :: l, hp, i, x, h => by
    obtain ⟨h1, h2⟩ := List.pairwise_cons.1 hp
    have ih := countP_split p l h2
    cases ha : p a with
    | true =>
      rw [List.countP_cons_of_pos ha]
      cases i with
      | zero => simp at h; subst h; simp [ha]
      | succ i => have := ih i x (by simpa using h); rw [← this]; omega
    | false =>
      have h0 : ∀ y ∈ l, p y = false := fun y hy => by
        cases q : p y with
        | false => rfl
        | true => rw [h1 y hy q] at ha; cases ha
      have hc : l.countP p = 0 := List.countP_eq_zero.2 (fun y hy => by rw [h0 y hy]; decide)
      rw [List.countP_cons_of_neg (by rw [ha]; decide), hc]
      have hx : p x = false := by
        cases i with
        | zero => simp at h; rw [← h]; exact ha
        | succ i => exact h0 x (List.mem_of_getElem? (i := i) (by simpa using h))
      simp [hx]
def lb (k : K) (l : List K) : Nat := l.countP fun x => klt x k
def ub (k : K) (l : List K) : Nat := l.countP fun x => !klt k x
def Ksrt (l : List K) : Prop := l.Pairwise fun x y => klt x y = true
theorem lb_le (k : K) (l : List K) : lb k l ≤ l.length := List.countP_le_length
theorem ub_le (k : K) (l : List K) : ub k l ≤ l.length := List.countP_le_length
theorem lb_iff {k : K} {l : List K} (h : Ksrt l) (i : Nat) (x : K) (hx : l[i]? = some x) : i < lb k l ↔ klt x k = true :=
  countP_split (fun x => klt x k) l (h.imp fun hab hb => klt_trans hab hb) i x hx
theorem ub_iff {k : K} {l : List K} (h : Ksrt l) (i : Nat) (x : K) (hx : l[i]? = some x) : i < ub k l ↔ klt k x = false := by
  have := countP_split (fun x => !klt k x) l (h.imp fun {a b} hab hb => by
    have hb' : klt k b = false := by simpa using hb
    cases q : klt k a with
    | false => rfl
    | true => rw [klt_trans q hab] at hb'; cases hb') i x hx
  unfold ub
  simpa using this

theorem split_at {α : Type} {l : List α} {i : Nat} {c : α} (h : l[i]? = some c) : l = l.take i ++ c :: l.drop (i + 1) := by
  obtain ⟨h1, h2⟩ := List.getElem?_eq_some_iff.1 h
  rw [← h2, ← List.drop_eq_getElem_cons h1, List.take_append_drop]

/-- A slot into a leaf. -/
def lay (k v : K) (l : List KV) : List KV :=
  if (l[lb k (l.map Prod.fst)]?).map Prod.fst = some k then l.set (lb k (l.map Prod.fst)) (k, v) else l.take (lb k (l.map Prod.fst)) ++ (k, v) :: l.drop (lb k (l.map Prod.fst))
theorem srt_keys {l : List KV} (h : Srt l) : Ksrt (l.map Prod.fst) := List.pairwise_map.2 h
theorem lb_parts {k : K} {l : List KV} (h : Srt l) : (∀ x ∈ l.take (lb k (l.map Prod.fst)), klt x.1 k = true) ∧ (∀ x ∈ l.drop (lb k (l.map Prod.fst)), klt x.1 k = false) := by
  have hi := fun i x hx => lb_iff (k := k) (srt_keys h) i x hx
  constructor
  · intro x hx
    obtain ⟨i, hi1, hi2⟩ := List.getElem_of_mem hx
    rw [List.getElem_take] at hi2
    have hlt : i < lb k (l.map Prod.fst) := by rw [List.length_take] at hi1; omega
    have hl : i < l.length := by rw [List.length_take] at hi1; omega
    exact (hi i x.1 (by rw [List.getElem?_map, List.getElem?_eq_getElem hl, hi2]; rfl)).1 hlt
  · intro x hx
    obtain ⟨i, hi1, hi2⟩ := List.getElem_of_mem hx
    rw [List.getElem_drop] at hi2
    rw [List.length_drop] at hi1
    cases q : klt x.1 k with
    | false => rfl
    | true =>
      have hl : lb k (l.map Prod.fst) + i < l.length := by omega
      have := (hi _ x.1 (by rw [List.getElem?_map, List.getElem?_eq_getElem hl, hi2]; rfl)).2 q
      omega
theorem lay_ins {k v : K} {l : List KV} (h : Srt l) : lay k v l = ins k v l := by
  obtain ⟨h1, h2⟩ := lb_parts (k := k) h
  unfold lay
  generalize lb k (l.map Prod.fst) = i at *
  cases hx : l[i]? with
  | none =>
    have hd : l.drop i = [] := List.drop_eq_nil_of_le (List.getElem?_eq_none_iff.1 hx)
    rw [if_neg (by simp)]
    conv => rhs; rw [← List.take_append_drop i l, ins_left k v _ _ h1, hd]
    rw [hd]; rfl
  | some x =>
    have hs := split_at hx
    have hd : l.drop i = x :: l.drop (i + 1) := by
      have := (List.getElem?_eq_some_iff.1 hx)
      rw [← this.2, ← List.drop_eq_getElem_cons this.1]
    have hxk := h2 x (by rw [hd]; simp)
    conv => rhs; rw [← List.take_append_drop i l, ins_left k v _ _ h1, hd, ins, if_neg (by rw [hxk]; decide)]
    by_cases e : x.1 = k
    · rw [if_pos (by simp [e]), if_pos e, List.set_eq_take_append_cons_drop, if_pos (List.getElem?_eq_some_iff.1 hx).1]
    · rw [if_neg (by simp [e]), if_neg e, hd]
theorem lay_len (k v : K) (l : List KV) : l.length ≤ (lay k v l).length ∧ (lay k v l).length ≤ l.length + 1 ∧ 0 < (lay k v l).length := by
  unfold lay
  have h := lb_le k (l.map Prod.fst)
  rw [List.length_map] at h
  split
  · rename_i q
    have : 0 < l.length := by
      cases l with
      | nil => simp at q
      | cons => simp
    simp; exact this
  · simp [List.length_take, List.length_drop]; omega
/-- The place that is taken out of a leaf. -/
theorem del_at {k : K} {l : List KV} (h : Srt l) (hk : k ∈ l.map Prod.fst) : ∃ x, l[lb k (l.map Prod.fst)]? = some x ∧ x.1 = k ∧ l.take (lb k (l.map Prod.fst)) ++ l.drop (lb k (l.map Prod.fst) + 1) = del k l := by
  obtain ⟨h1, h2⟩ := lb_parts (k := k) h
  obtain ⟨y, hy, hyk⟩ := List.mem_map.1 hk
  generalize lb k (l.map Prod.fst) = i at *
  have hys : y ∈ l.drop i := by
    rw [← List.take_append_drop i l, List.mem_append] at hy
    rcases hy with hy | hy
    · have := h1 y hy; rw [hyk, klt_irrefl] at this; cases this
    · exact hy
  obtain ⟨x, r, hd⟩ : ∃ x r, l.drop i = x :: r := by
    cases hq : l.drop i with
    | nil => rw [hq] at hys; simp at hys
    | cons x r => exact ⟨x, r, rfl⟩
  have hsr : Srt (l.drop i) := h.sublist (List.drop_sublist _ _)
  have hxy : x = y := by
    rw [hd] at hys hsr
    rcases List.mem_cons.1 hys with e | e
    · exact e.symm
    · have := (List.pairwise_cons.1 hsr).1 y e
      have h3 := h2 x (by rw [hd]; simp)
      rw [hyk] at this; rw [this] at h3; cases h3
  have hx : l[i]? = some x := by
    have := congrArg List.head? hd
    rw [List.head?_drop] at this
    simpa using this
  have hr : l.drop (i + 1) = r := by
    have := congrArg (List.drop 1) hd
    rw [List.drop_drop] at this
    simpa using this
  refine ⟨x, hx, by rw [hxy]; exact hyk, ?_⟩
  conv => rhs; rw [← List.take_append_drop i l, del_left k _ _ h1, hd]
  rw [hr]
  rw [hd] at hsr
  have hgt : ∀ z ∈ r, klt k z.1 = true := fun z hz => by
    have := (List.pairwise_cons.1 hsr).1 z hz
    rwa [hxy, hyk] at this
  have : del k (x :: r) = r := by
    have := del_right k [x] r hgt
    rw [List.singleton_append] at this
    rw [this]
    simp [del, hxy, hyk]
  rw [this]
theorem look_at {k : K} {l : List KV} (h : Srt l) : look k l = match l[lb k (l.map Prod.fst)]? with | none => none | some x => if x.1 = k then some x.2 else none := by
  obtain ⟨h1, h2⟩ := lb_parts (k := k) h
  generalize lb k (l.map Prod.fst) = i at *
  have hsr : Srt (l.drop i) := h.sublist (List.drop_sublist _ _)
  conv => lhs; rw [← List.take_append_drop i l, look_left k _ _ h1]
  cases hx : l[i]? with
  | none => rw [List.drop_eq_nil_of_le (List.getElem?_eq_none_iff.1 hx)]; rfl
  | some x =>
    have hd : l.drop i = x :: l.drop (i + 1) := by
      have := (List.getElem?_eq_some_iff.1 hx)
      rw [← this.2, ← List.drop_eq_getElem_cons this.1]
    rw [hd, look]
    rw [hd] at hsr
    have hxk := h2 x (by rw [hd]; simp)
    by_cases e : x.1 = k
    · simp [e]
    · rw [if_neg e]
      simp only [e, if_false]
      refine look_none k _ (fun z hz => ?_)
      have h3 := (List.pairwise_cons.1 hsr).1 z hz
      have h4 : klt k x.1 = true := by
        cases q : klt k x.1 with
        | true => rfl
        | false => exact absurd (klt_total hxk q) e
      exact klt_trans h4 h3
end Go.Proofs.Ytlfgeanafidopaa.Bt
namespace Go.Proofs.Ytlfgeanafidopaa.Bt

/-- What stands in a node of the level n: a key and a value, or a node of the level below. -/
def El : Nat → Type
  | 0 => K × K
  | n + 1 => Bool × List (El n)
def El.kv (k v : K) : El 0 := Prod.mk (α := K) (β := K) k v
def El.nd {n : Nat} (d : Bool) (l : List (El n)) : El (n + 1) := Prod.mk (α := Bool) (β := List (El n)) d l
def El.l {n : Nat} (t : El (n + 1)) : List (El n) := Prod.snd (α := Bool) (β := List (El n)) t
def El.d {n : Nat} (t : El (n + 1)) : Bool := Prod.fst (α := Bool) (β := List (El n)) t
def El.pair (e : El 0) : KV := e
@[simp] theorem El.l_nd {n : Nat} (d : Bool) (l : List (El n)) : (El.nd d l).l = l := rfl
@[simp] theorem El.d_nd {n : Nat} (d : Bool) (l : List (El n)) : (El.nd d l).d = d := rfl
@[simp] theorem El.pair_kv (k v : K) : (El.kv k v).pair = (k, v) := rfl
theorem El.eta {n : Nat} (t : El (n + 1)) : El.nd t.d t.l = t := rfl
theorem El.eta0 (e : El 0) : El.kv e.pair.1 e.pair.2 = e := rfl
def ek : (n : Nat) → El n → K
  | 0, e => e.pair.1
  | n + 1, t => match t.l with
    | [] => ⟨#[]⟩
    | e :: _ => ek n e
def flat : (n : Nat) → El n → List KV
  | 0, e => [e.pair]
  | n + 1, t => t.l.flatMap (flat n)
def flats {n : Nat} (l : List (El n)) : List KV := l.flatMap (flat n)
theorem flat_succ {n : Nat} (t : El (n + 1)) : flat (n + 1) t = flats t.l := rfl
theorem ek_pair (e : El 0) : ek 0 e = e.pair.1 := rfl
theorem flats_zero (l : List (El 0)) : flats l = l.map El.pair := by
  induction l with
  | nil => rfl
  | cons x l ih => show flat 0 x ++ flats l = _; rw [ih]; rfl
theorem flats_append {n : Nat} (a b : List (El n)) : flats (a ++ b) = flats a ++ flats b := List.flatMap_append
theorem flats_cons {n : Nat} (a : El n) (b : List (El n)) : flats (a :: b) = flat n a ++ flats b := rfl
theorem keys_zero (l : List (El 0)) : l.map (ek 0) = (l.map El.pair).map Prod.fst := by
  rw [List.map_map]; exact List.map_congr_left fun e _ => ek_pair e
/-- A slot into a leaf's list. -/
def layE (k v : K) (l : List (El 0)) : List (El 0) :=
  if (l[lb k (l.map (ek 0))]?).map (ek 0) = some k then l.set (lb k (l.map (ek 0))) (.kv k v) else l.take (lb k (l.map (ek 0))) ++ .kv k v :: l.drop (lb k (l.map (ek 0)))
theorem layE_pair (k v : K) (l : List (El 0)) : (layE k v l).map El.pair = lay k v (l.map El.pair) := by
  unfold layE lay
  rw [keys_zero]
  have : ∀ i : Nat, (l[i]?).map (ek 0) = ((l.map El.pair)[i]?).map Prod.fst := fun i => by
    rw [List.getElem?_map]
    cases l[i]? with
    | none => rfl
    | some e => simp [ek_pair]
  rw [this]
  split
  · simp [List.map_set]
  · simp
theorem layE_len (k v : K) (l : List (El 0)) : l.length ≤ (layE k v l).length ∧ (layE k v l).length ≤ l.length + 1 ∧ 0 < (layE k v l).length := by
  have := lay_len k v (l.map El.pair)
  rw [← layE_pair, List.length_map, List.length_map] at this
  exact this
/-- The place of the kid under which a key stands. -/
def place {n : Nat} (k : K) (l : List (El n)) : Nat := ub k (l.map (ek n)) - 1
def halfL {n : Nat} (t : El (n + 1)) : El (n + 1) := .nd t.d (t.l.take (t.l.length / 2))
def halfR {n : Nat} (t : El (n + 1)) : El (n + 1) := .nd true (t.l.drop (t.l.length / 2))
def putIn {n : Nat} (F : Nat) (i : Nat) (l : List (El (n + 1))) (c : El (n + 1)) : List (El (n + 1)) :=
  if F < c.l.length then l.take i ++ halfL c :: halfR c :: l.drop (i + 1) else l.set i c
def put (F : Nat) (k v : K) : (n : Nat) → El (n + 1) → El (n + 1)
  | 0, t => .nd true (layE k v t.l)
  | n + 1, t => match t.l[place k t.l]? with
    | none => .nd true t.l
    | some c => .nd true (putIn F (place k t.l) t.l (put F k v n c))
def joined {n : Nat} (F : Nat) (i : Nat) (l : List (El (n + 1))) : List (El (n + 1)) :=
  match l[i]?, l[i + 1]? with
  | some a, some b => putIn F i (l.take (i + 1) ++ l.drop (i + 2)) (.nd true (a.l ++ b.l))
  | _, _ => l
def takeIn {n : Nat} (F : Nat) (i : Nat) (l : List (El (n + 1))) (c : El (n + 1)) : List (El (n + 1)) :=
  if c.l.length < F / 2 then joined F (i - 1) (l.set i c) else l.set i c
def remove (F : Nat) (k : K) : (n : Nat) → El (n + 1) → El (n + 1)
  | 0, t => .nd true (t.l.take (lb k (t.l.map (ek 0))) ++ t.l.drop (lb k (t.l.map (ek 0)) + 1))
  | n + 1, t => match t.l[place k t.l]? with
    | none => .nd true t.l
    | some c => .nd true (takeIn F (place k t.l) t.l (remove F k n c))
/-- As many keys as may be, in a node that is not the root, and in all below it. -/
def Fill (F : Nat) : (n : Nat) → El n → Prop
  | 0, _ => True
  | n + 1, t => F / 2 ≤ (t.l).length ∧ (t.l).length ≤ F ∧ ∀ e ∈ t.l, Fill F n e
/-- A first key. -/
def Hd1 (n : Nat) (e : El n) : Prop := ∃ x r, flat n e = x :: r ∧ x.1 = ek n e
theorem fill_hd {F : Nat} (hF : 4 ≤ F) : ∀ (n : Nat) (e : El n), Fill F n e → Hd1 n e
  | 0, e, _ => ⟨e.pair, [], rfl, rfl⟩
  | n + 1, t, h => by
    obtain ⟨h1, h2, h3⟩ := h
    unfold Hd1
    rw [flat_succ, ek]
    cases hl : t.l with
    | nil => rw [hl] at h1; simp at h1; omega
    | cons e l =>
      rw [hl] at h3
      obtain ⟨x, r, hx, hk⟩ := fill_hd hF n e (h3 e (by simp))
      exact ⟨x, r ++ flats l, by rw [flats_cons, hx]; rfl, hk⟩
theorem flat_le {n : Nat} {e : El n} (h : Hd1 n e) (hs : Srt (flat n e)) : ∀ x ∈ flat n e, klt x.1 (ek n e) = false := by
  obtain ⟨y, r, hy, hk⟩ := h
  intro x hx
  rw [hy] at hx hs
  rcases List.mem_cons.1 hx with rfl | hx
  · rw [hk]; exact klt_irrefl _
  · rw [← hk]; exact klt_asymm ((List.pairwise_cons.1 hs).1 x hx)
theorem srt_append {a b : List KV} : Srt (a ++ b) ↔ Srt a ∧ Srt b ∧ ∀ x ∈ a, ∀ y ∈ b, klt x.1 y.1 = true := List.pairwise_append
/-- The keys of a node rise. -/
theorem keys_srt {n : Nat} : ∀ (l : List (El n)), (∀ e ∈ l, Hd1 n e) → Srt (flats l) → Ksrt (l.map (ek n))
  | [], _, _ => List.Pairwise.nil
  | e :: l, h, hs => by
    rw [flats_cons] at hs
    obtain ⟨h1, h2, h3⟩ := srt_append.1 hs
    refine List.pairwise_cons.2 ⟨?_, keys_srt l (fun x hx => h x (by simp [hx])) h2⟩
    intro k hk
    obtain ⟨e2, he2, rfl⟩ := List.mem_map.1 hk
    obtain ⟨x, r, hx, hxk⟩ := h e (by simp)
    obtain ⟨y, r2, hy, hyk⟩ := h e2 (by simp [he2])
    rw [← hxk, ← hyk]
    exact h3 x (by rw [hx]; simp) y (List.mem_flatMap.2 ⟨e2, he2, by rw [hy]; simp⟩)
theorem place_lt {n : Nat} (k : K) (l : List (El n)) (h : 0 < l.length) : place k l < l.length := by
  unfold place
  have := ub_le k (l.map (ek n))
  rw [List.length_map] at this
  omega
theorem mem_flats {n : Nat} {l : List (El n)} {x : KV} : x ∈ flats l ↔ ∃ e ∈ l, x ∈ flat n e := List.mem_flatMap
theorem srt_of_mem {n : Nat} : ∀ {l : List (El n)} {e : El n}, Srt (flats l) → e ∈ l → Srt (flat n e)
  | a :: l, e, hs, he => by
    rw [flats_cons] at hs
    obtain ⟨h1, h2, h3⟩ := srt_append.1 hs
    rcases List.mem_cons.1 he with rfl | he
    · exact h1
    · exact srt_of_mem h2 he
/-- All that stands ahead of a key's kid is lesser than the key, all that stands behind it is greater. -/
theorem located {n : Nat} {k : K} {l : List (El n)} {c : El n} (h : ∀ e ∈ l, Hd1 n e) (hs : Srt (flats l)) (hc : l[place k l]? = some c) :
    (∀ x ∈ flats (l.take (place k l)), klt x.1 k = true) ∧ (∀ x ∈ flats (l.drop (place k l + 1)), klt k x.1 = true) := by
  have hks := keys_srt l h hs
  have hi := fun i x hx => ub_iff (k := k) hks i x hx
  constructor
  · intro x hx
    by_cases h0 : place k l = 0
    · rw [h0] at hx; simp [flats] at hx
    · have hlt : place k l < ub k (l.map (ek n)) := by unfold place at h0 ⊢; omega
      have hck := (hi (place k l) (ek n c) (by rw [List.getElem?_map, hc]; rfl)).1 hlt
      have hs2 := hs
      rw [split_at hc, flats_append, flats_cons] at hs2
      obtain ⟨_, _, h3⟩ := srt_append.1 hs2
      obtain ⟨y, r, hy, hyk⟩ := h c (List.mem_of_getElem? hc)
      have := h3 x hx y (by rw [hy]; simp)
      rw [hyk] at this
      exact klt_of_le this hck
  · intro x hx
    obtain ⟨e, he, hxe⟩ := mem_flats.1 hx
    obtain ⟨i, hi1, hi2⟩ := List.getElem_of_mem he
    rw [List.getElem_drop] at hi2
    rw [List.length_drop] at hi1
    have hl : place k l + 1 + i < l.length := by omega
    have hem : e ∈ l := by rw [← hi2]; exact List.getElem_mem hl
    have hke : klt k (ek n e) = true := by
      cases q : klt k (ek n e) with
      | true => rfl
      | false =>
        have := (hi _ (ek n e) (by rw [List.getElem?_map, List.getElem?_eq_getElem hl, hi2]; rfl)).2 q
        unfold place at this; omega
    have := flat_le (h e hem) (srt_of_mem hs hem) x hxe
    exact klt_of_le hke this
theorem flats_put {n : Nat} (F : Nat) {i : Nat} {l : List (El (n + 1))} (c : El (n + 1)) (hi : i < l.length) : flats (putIn F i l c) = flats (l.take i) ++ flats c.l ++ flats (l.drop (i + 1)) := by
  unfold putIn
  split
  · rw [flats_append, flats_cons, flats_cons, flat_succ, flat_succ]
    have : flats c.l = flats (halfL c).l ++ flats (halfR c).l := by
      rw [← flats_append]; simp [halfL, halfR]
    rw [this]; simp
  · rw [List.set_eq_take_append_cons_drop, if_pos hi, flats_append, flats_cons, flat_succ]
    simp
theorem len_put {n : Nat} (F : Nat) {i : Nat} {l : List (El (n + 1))} (c : El (n + 1)) (hi : i < l.length) : l.length ≤ (putIn F i l c).length ∧ (putIn F i l c).length ≤ l.length + 1 := by
  unfold putIn
  split
  · simp [List.length_take, List.length_drop]; omega
  · simp
theorem fill_put {n F : Nat} (hF : 4 ≤ F) {i : Nat} {l : List (El (n + 1))} (c : El (n + 1)) (hl : ∀ e ∈ l.take i ++ l.drop (i + 1), Fill F (n + 1) e) (hi : i < l.length) (h1 : F / 2 ≤ c.l.length) (h2 : c.l.length ≤ 2 * F) (hk : ∀ e ∈ c.l, Fill F n e) : ∀ e ∈ putIn F i l c, Fill F (n + 1) e := by
  unfold putIn
  intro e he
  split at he
  · rename_i hc
    simp only [List.mem_append, List.mem_cons] at he
    rcases he with he | rfl | rfl | he
    · exact hl e (by simp [he])
    · refine ⟨?_, ?_, fun x hx => hk x (List.mem_of_mem_take hx)⟩ <;> (show _ ≤ _; simp only [halfL, El.l_nd, List.length_take]; omega)
    · refine ⟨?_, ?_, fun x hx => hk x (List.mem_of_mem_drop hx)⟩ <;> (show _ ≤ _; simp only [halfR, El.l_nd, List.length_drop]; omega)
    · exact hl e (by simp [he])
  · rename_i hc
    rw [List.set_eq_take_append_cons_drop, if_pos hi] at he
    simp only [List.mem_append, List.mem_cons] at he
    rcases he with he | rfl | he
    · exact hl e (by simp [he])
    · exact ⟨h1, by omega, hk⟩
    · exact hl e (by simp [he])
/-- A node that is right but for how many slots it has itself. -/
structure Good (F n : Nat) (t : El (n + 1)) : Prop where
  kids : ∀ e ∈ t.l, Fill F n e
  srt : Srt (flats t.l)
theorem Good.kid {F n : Nat} {t : El (n + 2)} {c : El (n + 1)} (h : Good F (n + 1) t) (hc : (c : El (n + 1)) ∈ t.l) : Good F n c := ⟨(h.kids c hc).2.2, srt_of_mem h.srt hc⟩
theorem Good.hd {F n : Nat} (hF : 4 ≤ F) {t : El (n + 1)} (h : Good F n t) : ∀ e ∈ t.l, Hd1 n e := fun e he => fill_hd hF n e (h.kids e he)
theorem ins_srt {k v : K} : ∀ {l : List KV}, Srt l → Srt (ins k v l) ∧ ∀ x ∈ ins k v l, x = (k, v) ∨ x ∈ l
  | [], _ => ⟨List.pairwise_singleton _ _, fun x hx => by simp [ins] at hx; exact .inl hx⟩
  | y :: l, h => by
    obtain ⟨h1, h2⟩ := List.pairwise_cons.1 h
    obtain ⟨i1, i2⟩ := ins_srt (k := k) (v := v) h2
    rw [ins]
    split
    · rename_i q
      refine ⟨List.pairwise_cons.2 ⟨fun x hx => ?_, i1⟩, fun x hx => ?_⟩
      · rcases i2 x hx with rfl | e
        · exact q
        · exact h1 x e
      · rcases List.mem_cons.1 hx with rfl | e
        · exact .inr (by simp)
        · rcases i2 x e with e | e
          · exact .inl e
          · exact .inr (by simp [e])
    · rename_i q
      split
      · rename_i q2
        refine ⟨List.pairwise_cons.2 ⟨fun x hx => by rw [← q2]; exact h1 x hx, h2⟩, fun x hx => ?_⟩
        rcases List.mem_cons.1 hx with e | e
        · exact .inl e
        · exact .inr (by simp [e])
      · rename_i q2
        have hk : klt k y.1 = true := by
          cases q3 : klt k y.1 with
          | true => rfl
          | false => exact absurd (klt_total (by simpa using q) q3) q2
        refine ⟨List.pairwise_cons.2 ⟨fun x hx => ?_, h⟩, fun x hx => ?_⟩
        · rcases List.mem_cons.1 hx with rfl | e
          · exact hk
          · exact klt_trans hk (h1 x e)
        · rcases List.mem_cons.1 hx with e | e
          · exact .inl e
          · exact .inr e
theorem del_srt {k : K} {l : List KV} (h : Srt l) : Srt (del k l) := h.sublist List.filter_sublist

theorem put_ok {F : Nat} (hF : 4 ≤ F) (k v : K) : ∀ (n : Nat) (t : El (n + 1)), Good F n t → t.l.length ≤ F → (0 < n → 0 < t.l.length) →
    flats (put F k v n t).l = ins k v (flats t.l) ∧ (∀ e ∈ (put F k v n t).l, Fill F n e) ∧ t.l.length ≤ (put F k v n t).l.length ∧ (put F k v n t).l.length ≤ t.l.length + 1 ∧ 0 < (put F k v n t).l.length
  | 0, t, h, hl, _ => by
    have h1 := h.srt
    rw [flats_zero] at h1
    refine ⟨?_, fun _ _ => trivial, (layE_len k v _).1, (layE_len k v _).2.1, (layE_len k v _).2.2⟩
    rw [flats_zero, flats_zero]
    exact (layE_pair k v _).trans (lay_ins h1)
  | n + 1, t, h, hl, hp => by
    have hp := hp (by omega)
    have hi := place_lt k t.l hp
    obtain ⟨c, hc⟩ : ∃ c : El (n + 1), t.l[place k t.l]? = some (c : El (n + 1)) := ⟨_, List.getElem?_eq_getElem hi⟩
    have hcm := List.mem_of_getElem? hc
    obtain ⟨f1, f2, f3⟩ := h.kids _ hcm
    obtain ⟨i1, i2, i3, i4, i5⟩ := put_ok hF k v n c (h.kid hcm) f2 (fun _ => Nat.lt_of_lt_of_le (by omega) f1)
    have e : put F k v (n + 1) t = .nd true (putIn F (place k t.l) t.l (put F k v n c)) := by rw [put, hc]
    rw [e]
    obtain ⟨l1, l2⟩ := len_put F (put F k v n c) hi
    obtain ⟨o1, o2⟩ := located (h.hd hF) h.srt hc
    refine ⟨?_, fill_put hF _ (fun e he => ?_) hi (Nat.le_trans f1 i3) (by omega) i2, l1, l2, by show 0 < (putIn F _ _ _).length; omega⟩
    · show flats (putIn F _ _ _) = _
      rw [flats_put F _ hi, i1]
      conv => rhs; rw [split_at hc, flats_append, flats_cons, ins_left k v _ _ o1, ins_right k v _ _ o2, flat_succ]
      simp
    · rcases List.mem_append.1 he with he | he
      · exact h.kids e (List.mem_of_mem_take he)
      · exact h.kids e (List.mem_of_mem_drop he)
theorem mem_fst_append {k : K} {a b : List KV} : k ∈ (a ++ b).map Prod.fst ↔ k ∈ a.map Prod.fst ∨ k ∈ b.map Prod.fst := by simp
theorem not_left {k : K} {a : List KV} (h : ∀ x ∈ a, klt x.1 k = true) : k ∉ a.map Prod.fst := fun hk => by
  obtain ⟨x, hx, e⟩ := List.mem_map.1 hk
  have := h x hx; rw [e, klt_irrefl] at this; cases this
theorem not_right {k : K} {a : List KV} (h : ∀ x ∈ a, klt k x.1 = true) : k ∉ a.map Prod.fst := fun hk => by
  obtain ⟨x, hx, e⟩ := List.mem_map.1 hk
  have := h x hx; rw [e, klt_irrefl] at this; cases this
theorem joined_ok {n F : Nat} (hF : 4 ≤ F) {i j : Nat} {l : List (El (n + 1))} {c : El (n + 1)} (hi : l[i]? = some c) (hj : j = i - 1) (h2 : 2 ≤ l.length) (hc1 : c.l.length + 1 = F / 2) (hck : ∀ e ∈ c.l, Fill F n e)
    (hl : ∀ m e, l[m]? = some e → m ≠ i → Fill F (n + 1) e) :
    flats (joined F j l) = flats l ∧ (∀ e ∈ joined F j l, Fill F (n + 1) e) ∧ l.length ≤ (joined F j l).length + 1 ∧ (joined F j l).length ≤ l.length := by
  obtain ⟨hil, _⟩ := List.getElem?_eq_some_iff.1 hi
  have hjl : j + 1 < l.length := by omega
  obtain ⟨a, ha⟩ : ∃ a : El (n + 1), l[j]? = some (a : El (n + 1)) := ⟨_, List.getElem?_eq_getElem (by omega)⟩
  obtain ⟨b, hb⟩ : ∃ b : El (n + 1), l[j + 1]? = some (b : El (n + 1)) := ⟨_, List.getElem?_eq_getElem hjl⟩
  have hd : l.drop (j + 1) = (b : El (n + 1)) :: l.drop (j + 2) := by
    have := List.getElem?_eq_some_iff.1 hb
    rw [← this.2, ← List.drop_eq_getElem_cons this.1]
  have hsp : l = l.take j ++ (a : El (n + 1)) :: (b : El (n + 1)) :: l.drop (j + 2) := by
    rw [← hd]; exact split_at ha
  have hlens : F / 2 ≤ (a.l ++ b.l).length ∧ (a.l ++ b.l).length ≤ 2 * F ∧ ∀ e ∈ a.l ++ b.l, Fill F n e := by
    rw [List.length_append]
    by_cases h0 : i = 0
    · have : j = i := by omega
      rw [this, hi] at ha
      obtain rfl := Option.some.inj ha
      obtain ⟨g1, g2, g3⟩ := hl (j + 1) b hb (by omega)
      replace g1 : F / 2 ≤ b.l.length := g1
      replace g2 : b.l.length ≤ F := g2
      refine ⟨by omega, by omega, fun e he => ?_⟩
      rcases List.mem_append.1 he with he | he
      · exact hck e he
      · exact g3 e he
    · have : j + 1 = i := by omega
      rw [this, hi] at hb
      obtain rfl := Option.some.inj hb
      obtain ⟨g1, g2, g3⟩ := hl j a ha (by omega)
      replace g1 : F / 2 ≤ a.l.length := g1
      replace g2 : a.l.length ≤ F := g2
      refine ⟨by omega, by omega, fun e he => ?_⟩
      rcases List.mem_append.1 he with he | he
      · exact g3 e he
      · exact hck e he
  have e : joined F j l = putIn F j (l.take (j + 1) ++ l.drop (j + 2)) (.nd true (a.l ++ b.l)) := by unfold joined; rw [ha, hb]
  have ht : l.take (j + 1) = l.take j ++ [(a : El (n + 1))] := by
    have := List.getElem?_eq_some_iff.1 ha
    rw [List.take_succ_eq_append_getElem this.1, this.2]
  have hlm : (l.take (j + 1) ++ l.drop (j + 2)).length + 1 = l.length := by
    rw [List.length_append, List.length_take, List.length_drop]; omega
  have hjm : j < (l.take (j + 1) ++ l.drop (j + 2)).length := by omega
  have t1 : (l.take (j + 1) ++ l.drop (j + 2)).take j = l.take j := by
    rw [List.take_append_of_le_length (by rw [List.length_take]; omega), List.take_take, Nat.min_eq_left (by omega)]
  have t2 : (l.take (j + 1) ++ l.drop (j + 2)).drop (j + 1) = l.drop (j + 2) := by
    rw [List.drop_append_of_le_length (by rw [List.length_take]; omega), List.drop_eq_nil_of_le (by rw [List.length_take]; omega)]
    rfl
  rw [e]
  have hlp := len_put F (n := n) (.nd true (a.l ++ b.l)) hjm
  refine ⟨?_, fill_put hF _ (fun x hx => ?_) hjm hlens.1 hlens.2.1 hlens.2.2, by omega, by omega⟩
  · rw [flats_put F _ hjm, t1, t2]
    conv => rhs; rw [hsp, flats_append, flats_cons, flats_cons, flat_succ, flat_succ]
    rw [El.l_nd, flats_append]; simp
  · rw [t1, t2] at hx
    obtain ⟨m, hm, hmn⟩ : ∃ m, l[m]? = some x ∧ (m < j ∨ j + 2 ≤ m) := by
      rcases List.mem_append.1 hx with hx | hx
      · obtain ⟨m, hm1, hm2⟩ := List.getElem_of_mem hx
        rw [List.length_take] at hm1
        rw [List.getElem_take] at hm2
        exact ⟨m, by rw [List.getElem?_eq_getElem (by omega), hm2], .inl (by omega)⟩
      · obtain ⟨m, hm1, hm2⟩ := List.getElem_of_mem hx
        rw [List.length_drop] at hm1
        rw [List.getElem_drop] at hm2
        exact ⟨j + 2 + m, by rw [List.getElem?_eq_getElem (by omega), hm2], .inr (by omega)⟩
    exact hl m x hm (by omega)
theorem remove_ok {F : Nat} (hF : 4 ≤ F) (k : K) : ∀ (n : Nat) (t : El (n + 1)), Good F n t → t.l.length ≤ F → (0 < n → 2 ≤ t.l.length) → k ∈ (flats t.l).map Prod.fst →
    flats (remove F k n t).l = del k (flats t.l) ∧ (∀ e ∈ (remove F k n t).l, Fill F n e) ∧ t.l.length ≤ (remove F k n t).l.length + 1 ∧ (remove F k n t).l.length ≤ t.l.length
  | 0, t, h, hl, _, hk => by
    have h1 := h.srt
    rw [flats_zero] at h1 hk
    obtain ⟨x, hx, _, hd⟩ := del_at h1 hk
    obtain ⟨hlt, _⟩ := List.getElem?_eq_some_iff.1 hx
    have e : (remove F k 0 t).l = t.l.take (lb k (t.l.map (ek 0))) ++ t.l.drop (lb k (t.l.map (ek 0)) + 1) := rfl
    rw [← keys_zero, List.length_map] at hlt
    refine ⟨?_, fun _ _ => trivial, ?_, ?_⟩
    · rw [flats_zero, flats_zero, e, keys_zero, List.map_append, List.map_take, List.map_drop]; exact hd
    · rw [e, List.length_append, List.length_take, List.length_drop]
      omega
    · rw [e, List.length_append, List.length_take, List.length_drop]
      omega
  | n + 1, t, h, hl, hp, hk => by
    have hp := hp (by omega)
    have hi := place_lt k t.l (by omega)
    obtain ⟨c, hc⟩ : ∃ c : El (n + 1), t.l[place k t.l]? = some (c : El (n + 1)) := ⟨_, List.getElem?_eq_getElem hi⟩
    have hcm := List.mem_of_getElem? hc
    obtain ⟨f1, f2, f3⟩ := h.kids _ hcm
    replace f1 : F / 2 ≤ c.l.length := f1
    replace f2 : c.l.length ≤ F := f2
    obtain ⟨o1, o2⟩ := located (h.hd hF) h.srt hc
    have hkc : k ∈ (flats c.l).map Prod.fst := by
      rw [split_at hc, flats_append, flats_cons, flat_succ, mem_fst_append, mem_fst_append] at hk
      rcases hk with hk | hk | hk
      · exact absurd hk (not_left o1)
      · exact hk
      · exact absurd hk (not_right o2)
    obtain ⟨i1, i2, i3, i4⟩ := remove_ok hF k n c (h.kid hcm) f2 (fun _ => by omega) hkc
    have e : remove F k (n + 1) t = .nd true (takeIn F (place k t.l) t.l (remove F k n c)) := by rw [remove, hc]
    rw [e]
    have hfl : flats (t.l.set (place k t.l) (remove F k n c : El (n + 1))) = del k (flats t.l) := by
      rw [List.set_eq_take_append_cons_drop, if_pos hi, flats_append, flats_cons, flat_succ, i1]
      conv => rhs; rw [split_at hc, flats_append, flats_cons, del_left k _ _ o1, del_right k _ _ o2, flat_succ]
    show flats (takeIn F _ _ _) = _ ∧ (∀ e ∈ takeIn F _ _ _, _) ∧ _ ≤ (takeIn F _ _ _).length + 1 ∧ (takeIn F _ _ _).length ≤ _
    unfold takeIn
    split
    · rename_i hlt
      have hset : (t.l.set (place k t.l) (remove F k n c : El (n + 1)))[place k t.l]? = some (remove F k n c : El (n + 1)) := by
        rw [List.getElem?_set_self hi]
      have hj := joined_ok hF hset rfl (by rw [List.length_set]; omega) (by omega) i2 (fun m e he hm => by
        rw [List.getElem?_set_ne (fun q => hm q.symm)] at he
        exact h.kids e (List.mem_of_getElem? he))
      rw [List.length_set, hfl] at hj
      exact hj
    · rename_i hge
      refine ⟨hfl, fun e he => ?_, by rw [List.length_set]; omega, by rw [List.length_set]; exact Nat.le_refl _⟩
      rcases List.mem_or_eq_of_mem_set he with he | rfl
      · exact h.kids e he
      · exact ⟨by show F / 2 ≤ (remove F k n c).l.length; omega, by show (remove F k n c).l.length ≤ F; omega, i2⟩
end Go.Proofs.Ytlfgeanafidopaa.Bt
namespace Go.Proofs.Ytlfgeanafidopaa.Bt
open Go.RowKit

theorem ret_int {k : IntKind} {a b : Int} (h : a = b) : Ending.returned (.int k a) = .returned (.int k b) := by rw [h]
theorem ret_bool {a b : Bool} (h : a = b) : Ending.returned (.bool a) = .returned (.bool b) := by rw [h]
theorem bafter {w w1 w2 : World} (h : Below w.heap.size w w1) (h2 : Below w1.heap.size w1 w2) : Below w.heap.size w w2 := h.trans (h2.mono h.size)
theorem below_new (w : World) (o : Obj) : Below w.heap.size w (w.alloc o) := (Below.refl _ w).alloc (Nat.le_refl _) _
theorem below_drawn (w : World) (n : Nat) : Below w.heap.size w (w.drewN n) := by
  induction n with
  | zero => exact Below.refl _ _
  | succ n ih => exact (ih.drew)

/-- A block whose cells begin with cs. -/
def Row (W : World) (B : Nat) (cs : List Value) (t : TypeId) : Prop := ∃ rest : List Value, W.heap[B]? = some (.cells (cs ++ rest).toArray t (0, 0))
theorem Row.lt {W : World} {B : Nat} {cs : List Value} {t : TypeId} (h : Row W B cs t) : B < W.heap.size := by
  obtain ⟨r, h⟩ := h; exact (Array.getElem?_eq_some_iff.1 h).1
theorem Row.cell {W : World} {B i : Nat} {cs : List Value} {t : TypeId} {v : Value} (h : Row W B cs t) (hi : cs[i]? = some v) : W.cell? ⟨B, i, none⟩ = some v := by
  obtain ⟨r, h⟩ := h
  have hlt := (List.getElem?_eq_some_iff.1 hi).1
  simp only [World.cell?, h]
  simp [List.getElem?_append_left hlt, hi]
theorem Row.frozen {W : World} {B : Nat} {cs : List Value} {t : TypeId} (h : Row W B cs t) (i : Nat) : W.frozen? ⟨B, i, none⟩ = false := by
  obtain ⟨r, h⟩ := h
  simp [World.frozen?, h]
theorem Row.set {W : World} {B i : Nat} {cs : List Value} {t : TypeId} (v : Value) (h : Row W B cs t) (hi : i < cs.length) : Row (W.setCell ⟨B, i, none⟩ v) B (cs.set i v) t := by
  obtain ⟨r, h⟩ := h
  obtain ⟨hlt, hk⟩ := Array.getElem?_eq_some_iff.1 h
  refine ⟨r, ?_⟩
  show (W.heap.modify B _)[B]? = _
  rw [Array.getElem?_eq_getElem (by rw [Array.size_modify]; exact hlt), Array.getElem_modify_self, hk]
  simp [List.set_append_left _ _ hi]
theorem Row.same {W W' : World} {B : Nat} {cs : List Value} {t : TypeId} (h : Row W B cs t) (e : W'.heap[B]? = W.heap[B]?) : Row W' B cs t := by
  obtain ⟨r, h⟩ := h; exact ⟨r, e.trans h⟩
theorem Row.other {W : World} {B : Nat} {cs : List Value} {t : TypeId} (p : Addr) (v : Value) (h : Row W B cs t) (hne : B ≠ p.block) : Row (W.setCell p v) B cs t := h.same (Below.heap_setCell _ _ _ B hne)
theorem Row.alloc {W : World} {B : Nat} {cs : List Value} {t : TypeId} (h : Row W B cs t) (o : Obj) : Row (W.alloc o) B cs t := h.same (Below.heap_alloc _ _ _ h.lt)
theorem Row.drew {W : World} {B : Nat} {cs : List Value} {t : TypeId} (h : Row W B cs t) : Row W.drew B cs t := h
theorem Row.drewN {W : World} {B : Nat} {cs : List Value} {t : TypeId} (h : Row W B cs t) (n : Nat) : Row (W.drewN n) B cs t := h
theorem Row.later {W W' : World} {B : Nat} {cs : List Value} {t : TypeId} (h : Row W B cs t) (hb : Below W.heap.size W W') : Row W' B cs t := h.same (hb.block B h.lt)
theorem Row.ne {W : World} {B C : Nat} {cs ds : List Value} {t u : TypeId} (h : Row W B cs t) (g : Row W C ds u) (hn : t ≠ u) : B ≠ C := by
  rintro rfl
  obtain ⟨r, h⟩ := h
  obtain ⟨s, g⟩ := g
  have := h.symm.trans g
  simp at this
  exact hn this.2
theorem Row.new (W : World) (cs : List Value) (t : TypeId) : Row (W.alloc (.cells cs.toArray t)) W.heap.size cs t := ⟨[], by show (W.heap.push _)[W.heap.size]? = _; simp⟩

/-- But for the blocks S all that there was is as it was. -/
structure Kept (S : Nat → Prop) (w w' : World) : Prop where
  os : w'.os = w.os
  tape : w'.tape = w.tape
  output : w'.output = w.output
  size : w.heap.size ≤ w'.heap.size
  block : ∀ k, k < w.heap.size → ¬ S k → w'.heap[k]? = w.heap[k]?
theorem Kept.refl (S : Nat → Prop) (w : World) : Kept S w w := ⟨rfl, rfl, rfl, Nat.le_refl _, fun _ _ _ => rfl⟩
theorem Kept.trans {S : Nat → Prop} {a b c : World} (h : Kept S a b) (k : Kept S b c) : Kept S a c :=
  ⟨k.os.trans h.os, k.tape.trans h.tape, k.output.trans h.output, Nat.le_trans h.size k.size, fun i hi hs => (k.block i (Nat.lt_of_lt_of_le hi h.size) hs).trans (h.block i hi hs)⟩
theorem Kept.mono {S T : Nat → Prop} {a b : World} (h : Kept S a b) (hs : ∀ k, S k → T k) : Kept T a b := ⟨h.os, h.tape, h.output, h.size, fun k hk hn => h.block k hk (fun x => hn (hs k x))⟩
theorem Kept.of_below {S : Nat → Prop} {a b : World} (h : Below a.heap.size a b) : Kept S a b := ⟨h.os, h.tape, h.output, h.size, fun k hk _ => h.block k hk⟩
theorem Kept.later {S : Nat → Prop} {a b c : World} (h : Kept S a b) (k : Below b.heap.size b c) : Kept S a c := h.trans (.of_below k)
theorem Kept.of_grown {S : Nat → Prop} {a b : World} {r : Option Nat} (h : a.grownBy b r) (hr : ∀ k, r = some k → S k) : Kept S a b := ⟨h.os, h.tape, h.output, h.size, fun k hk hn => h.block k hk (fun e => hn (hr k e.symm))⟩
theorem Kept.setCell {S : Nat → Prop} {a w : World} (h : Kept S a w) {p : Addr} (hp : S p.block) (u : Value) : Kept S a (w.setCell p u) :=
  h.trans ⟨rfl, rfl, rfl, by simp [World.setCell], fun k _ hn => Below.heap_setCell _ _ _ _ (fun e => hn (e ▸ hp))⟩
theorem Kept.setNew {S : Nat → Prop} {a w : World} (h : Kept S a w) {p : Addr} (hp : a.heap.size ≤ p.block) (u : Value) : Kept S a (w.setCell p u) :=
  ⟨h.os, h.tape, h.output, by have := h.size; simpa [World.setCell] using this, fun k hk hn => (Below.heap_setCell _ _ _ _ (by omega)).trans (h.block k hk hn)⟩
theorem Kept.alloc {S : Nat → Prop} {a w : World} (h : Kept S a w) (o : Obj) : Kept S a (w.alloc o) := h.trans ⟨rfl, rfl, rfl, by simp, fun k hk _ => Below.heap_alloc _ _ _ hk⟩
theorem Kept.drew {S : Nat → Prop} {a w : World} (h : Kept S a w) : Kept S a w.drew := ⟨h.os, h.tape, h.output, h.size, h.block⟩
theorem Kept.drewN {S : Nat → Prop} {a w : World} (h : Kept S a w) (n : Nat) : Kept S a (w.drewN n) := ⟨h.os, h.tape, h.output, h.size, h.block⟩
/-- What is turned of blocks that are new is nothing to what was ahead. -/
theorem Kept.comp {S T : Nat → Prop} {a b c : World} (h : Kept S a b) (k : Kept T b c) (hT : ∀ i, T i → S i ∨ a.heap.size ≤ i) : Kept S a c :=
  ⟨k.os.trans h.os, k.tape.trans h.tape, k.output.trans h.output, Nat.le_trans h.size k.size, fun i hi hs => (k.block i (Nat.lt_of_lt_of_le hi h.size) (fun x => by rcases hT i x with q | q; exact hs q; omega)).trans (h.block i hi hs)⟩
theorem Kept.below {S : Nat → Prop} {B : Nat} {a b : World} (h : Kept S a b) (hB : B ≤ a.heap.size) (hs : ∀ k, S k → B ≤ k) : Below B a b :=
  ⟨h.os, h.tape, h.output, h.size, fun k hk => h.block k (by omega) (fun x => by have := hs k x; omega)⟩
theorem Row.kept {S : Nat → Prop} {W W' : World} {B : Nat} {cs : List Value} {t : TypeId} (h : Row W B cs t) (hk : Kept S W W') (hn : ¬ S B) : Row W' B cs t := h.same (hk.block B h.lt hn)
theorem kept_setCells {S : Nat → Prop} {a : World} {b : Nat} (hb : S b) : ∀ (vs : List Value) (o : Nat) (w : World), Kept S a w → Kept S a (w.setCells b o vs)
  | [], _, _, h => h
  | v :: r, o, _, h => kept_setCells hb r (o + 1) _ (h.setCell (p := ⟨b, o, none⟩) hb v)
theorem setCells_new {a : World} {S : Nat → Prop} {b : Nat} (hb : a.heap.size ≤ b) : ∀ (vs : List Value) (o : Nat) (w : World), Kept S a w → Kept S a (w.setCells b o vs)
  | [], _, _, h => h
  | v :: r, o, _, h => setCells_new hb r (o + 1) _ (h.setNew (p := ⟨b, o, none⟩) hb v)

/-- A block known whole. -/
def Whole (W : World) (B : Nat) (cs : List Value) (t : TypeId) : Prop := W.heap[B]? = some (.cells cs.toArray t (0, 0))
theorem Whole.set {W : World} {B i : Nat} {cs : List Value} {t : TypeId} (v : Value) (h : Whole W B cs t) : Whole (W.setCell ⟨B, i, none⟩ v) B (cs.set i v) t := by
  obtain ⟨hlt, hk⟩ := Array.getElem?_eq_some_iff.1 h
  show (W.heap.modify B _)[B]? = _
  rw [Array.getElem?_eq_getElem (by rw [Array.size_modify]; exact hlt), Array.getElem_modify_self, hk]
  simp
theorem Whole.setCells {B : Nat} {t : TypeId} : ∀ (vs : List Value) (o : Nat) (W : World) (cs : List Value), Whole W B cs t → o + vs.length ≤ cs.length → Whole (W.setCells B o vs) B (cs.take o ++ vs ++ cs.drop (o + vs.length)) t
  | [], o, W, cs, h, _ => by simpa [World.setCells] using h
  | v :: r, o, W, cs, h, hl => by
    have h1 := Whole.setCells r (o + 1) _ _ (h.set (i := o) v) (by rw [List.length_set]; simp only [List.length_cons] at hl; omega)
    have e : (cs.set o v).take (o + 1) ++ r ++ (cs.set o v).drop (o + 1 + r.length) = cs.take o ++ (v :: r) ++ cs.drop (o + (v :: r).length) := by
      simp only [List.length_cons] at hl
      have e1 : (cs.set o v).take (o + 1) = cs.take o ++ [v] := by
        rw [List.set_eq_take_append_cons_drop, if_pos (by omega), List.take_append, List.length_take, Nat.min_eq_left (by omega)]
        rw [List.take_of_length_le (by rw [List.length_take]; omega)]
        simp
      have e2 : (cs.set o v).drop (o + 1 + r.length) = cs.drop (o + (r.length + 1)) := by
        rw [List.drop_set_of_lt (by omega)]; congr 1; omega
      rw [e1, e2]; simp
    rw [e] at h1
    exact h1
theorem Whole.cell {W : World} {B i : Nat} {cs : List Value} {t : TypeId} (h : Whole W B cs t) : W.cell? ⟨B, i, none⟩ = cs[i]? := by
  simp only [World.cell?, show W.heap[B]? = _ from h]
  simp
theorem Whole.frozen {W : World} {B : Nat} {cs : List Value} {t : TypeId} (h : Whole W B cs t) (i : Nat) : W.frozen? ⟨B, i, none⟩ = false := by simp [World.frozen?, show W.heap[B]? = _ from h]
theorem Whole.lt {W : World} {B : Nat} {cs : List Value} {t : TypeId} (h : Whole W B cs t) : B < W.heap.size := (Array.getElem?_eq_some_iff.1 h).1

/-- Cells laid one behind the other, n to each. -/
theorem flat_len {α : Type} (f : α → List Value) (n : Nat) (hf : ∀ x, (f x).length = n) : ∀ l : List α, (l.flatMap f).length = l.length * n
  | [] => by simp
  | x :: l => by rw [List.flatMap_cons, List.length_append, flat_len f n hf l, hf, List.length_cons, Nat.succ_mul, Nat.add_comm]
theorem flat_get {α : Type} (f : α → List Value) (n : Nat) (hf : ∀ x, (f x).length = n) (k : Nat) (hk : k < n) : ∀ (l : List α) (i : Nat) (x : α), l[i]? = some x → (l.flatMap f)[i * n + k]? = (f x)[k]?
  | [], i, x, h => by simp at h
  | y :: l, 0, x, h => by
    simp at h; subst h
    rw [List.flatMap_cons, Nat.zero_mul, Nat.zero_add, List.getElem?_append_left (by rw [hf]; exact hk)]
  | y :: l, i + 1, x, h => by
    rw [List.flatMap_cons, List.getElem?_append_right (by rw [hf, Nat.succ_mul]; omega), hf, show (i + 1) * n + k - n = i * n + k by rw [Nat.succ_mul]; omega]
    exact flat_get f n hf k hk l i x (by simpa using h)
theorem flat_take {α : Type} (f : α → List Value) (n : Nat) (hf : ∀ x, (f x).length = n) : ∀ (l : List α) (i : Nat), (l.flatMap f).take (i * n) = (l.take i).flatMap f
  | [], i => by simp
  | y :: l, 0 => by simp
  | y :: l, i + 1 => by
    rw [List.flatMap_cons, List.take_append, hf, List.take_of_length_le (by rw [hf, Nat.succ_mul]; omega), show (i + 1) * n - n = i * n by rw [Nat.succ_mul]; omega, flat_take f n hf l i, List.take_succ_cons, List.flatMap_cons]
theorem flat_drop {α : Type} (f : α → List Value) (n : Nat) (hf : ∀ x, (f x).length = n) : ∀ (l : List α) (i : Nat), (l.flatMap f).drop (i * n) = (l.drop i).flatMap f
  | [], i => by simp
  | y :: l, 0 => by simp
  | y :: l, i + 1 => by
    rw [List.flatMap_cons, List.drop_append, hf, List.drop_eq_nil_of_le (by rw [hf, Nat.succ_mul]; omega), show (i + 1) * n - n = i * n by rw [Nat.succ_mul]; omega, flat_drop f n hf l i, List.drop_succ_cons, List.nil_append]

/-- A slot of a node. -/
structure Sl where
  k : K
  v : K
  kid : Option Nat
def slv (s : Sl) : List Value := [.string s.k, .string s.v, .pointer (s.kid.map fun b => ⟨b, 0, none⟩)]
theorem slv_len (s : Sl) : (slv s).length = 3 := rfl
theorem slv_one (l : List Sl) : ∀ u ∈ l.flatMap slv, u.oneCell' = true := by
  intro u hu
  obtain ⟨s, _, hs⟩ := List.mem_flatMap.1 hu
  simp only [slv, List.mem_cons, List.not_mem_nil, or_false] at hs
  rcases hs with rfl | rfl | rfl <;> rfl
/-- A slice of slots of one's own. -/
def Slots (w : World) (v : Value) (l : List Sl) : Prop := w.ownsRow 0 77 3 v l.length (l.flatMap slv)
theorem infoS : (Try.prog.info? 77).map (fun i => (i.zero, i.size, i.bytes)) = some (some (.agg #[.string ⟨#[]⟩, .string ⟨#[]⟩, .pointer none]), 3, 40) := by kernel_rfl
theorem Slots.form {w : World} {v : Value} {l : List Sl} (h : Slots w v l) : (v = .slice none 0 0 ∧ l = []) ∨ ∃ g cap cs, v = .slice (some ⟨g, 0, none⟩) l.length cap ∧ v.ownBlock = some g ∧ Whole w g cs 77 ∧ l.length ≤ cap ∧ cap ≤ maxLen ∧ cs.length = cap * 3 ∧ cs.take (l.length * 3) = l.flatMap slv := by
  rcases h.2 with ⟨e, hn⟩ | ⟨g, cap, cur, rfl, _, hg, h1, h2, h3, h4⟩
  · exact .inl ⟨e, List.eq_nil_of_length_eq_zero hn⟩
  · exact .inr ⟨g, cap, cur.toList, rfl, rfl, by unfold Whole; simpa using hg, h1, h2, by simpa using h3, h4⟩
theorem Slots.of {w : World} {g cap : Nat} {l : List Sl} {cs : List Value} (h : Whole w g cs 77) (h1 : l.length ≤ cap) (h2 : cap ≤ maxLen) (h3 : cs.length = cap * 3) (h4 : cs.take (l.length * 3) = l.flatMap slv) : Slots w (.slice (some ⟨g, 0, none⟩) l.length cap) l :=
  ⟨by rw [flat_len slv 3 slv_len], .inr ⟨g, cap, cs.toArray, rfl, Nat.zero_le _, h, h1, h2, by simpa using h3, by simpa using h4⟩⟩
theorem Slots.slice {w : World} {v : Value} {l : List Sl} (h : Slots w v l) : ∃ a cap, v = .slice a l.length cap ∧ l.length ≤ cap ∧ cap ≤ maxLen := by
  rcases h.form with ⟨rfl, rfl⟩ | ⟨g, cap, cs, rfl, _, _, h1, h2, _⟩
  · exact ⟨none, 0, rfl, Nat.le_refl _, by decide⟩
  · exact ⟨_, cap, rfl, h1, h2⟩
theorem Slots.at {w : World} {v : Value} {l : List Sl} (h : Slots w v l) {i : Nat} {s : Sl} (hi : l[i]? = some s) :
    ∃ g cap, v = .slice (some ⟨g, 0, none⟩) l.length cap ∧ v.ownBlock = some g ∧ l.length ≤ cap ∧ cap ≤ maxLen ∧ g < w.heap.size ∧ w.cell? ⟨g, i * 3, none⟩ = some (.string s.k) ∧ w.cell? ⟨g, i * 3 + 1, none⟩ = some (.string s.v) ∧ w.cell? ⟨g, i * 3 + 2, none⟩ = some (.pointer (s.kid.map fun b => ⟨b, 0, none⟩)) ∧ (∀ j, w.frozen? ⟨g, j, none⟩ = false) := by
  have hil := (List.getElem?_eq_some_iff.1 hi).1
  rcases h.form with ⟨rfl, rfl⟩ | ⟨g, cap, cs, rfl, ho, hw, h1, h2, h3, h4⟩
  · simp at hi
  · have hc : ∀ k, k < 3 → w.cell? ⟨g, i * 3 + k, none⟩ = (slv s)[k]? := fun k hk => by
      rw [hw.cell, ← flat_get slv 3 slv_len k hk l i s hi, ← h4, List.getElem?_take, if_pos (by omega)]
    exact ⟨g, cap, rfl, rfl, h1, h2, hw.lt, hc 0 (by omega), hc 1 (by omega), hc 2 (by omega), fun j => hw.frozen j⟩
theorem Slots.same {w w' : World} {v : Value} {l : List Sl} (h : Slots w v l) (e : ∀ g, v.ownBlock = some g → w'.heap[g]? = w.heap[g]?) : Slots w' v l := by
  refine ⟨h.1, ?_⟩
  rcases h.2 with hn | ⟨g, cap, cur, rfl, hbg, hgg, rest⟩
  · exact .inl hn
  · exact .inr ⟨g, cap, cur, rfl, hbg, (e g rfl).trans hgg, rest⟩
theorem Slots.lt {w : World} {v : Value} {l : List Sl} (h : Slots w v l) : ∀ g, v.ownBlock = some g → g < w.heap.size ∧ ∃ cs, Whole w g cs 77 := by
  intro g hg
  rcases h.form with ⟨rfl, rfl⟩ | ⟨g', cap, cs, rfl, ho, hw, _⟩
  · cases hg
  · rw [ho] at hg; cases hg; exact ⟨hw.lt, _, hw⟩
theorem Slots.later {w w' : World} {v : Value} {l : List Sl} (h : Slots w v l) (hb : Below w.heap.size w w') : Slots w' v l := h.same fun g hg => hb.block g (h.lt g hg).1
theorem Slots.kept {S : Nat → Prop} {w w' : World} {v : Value} {l : List Sl} (h : Slots w v l) (hk : Kept S w w') (hn : ∀ g, v.ownBlock = some g → ¬ S g) : Slots w' v l := h.same fun g hg => hk.block g (h.lt g hg).1 (hn g hg)

/-- Where a node lies: its block, its slice of slots, its mark. -/
structure Hd where
  p : Nat
  v : Value
  d : Bool
def Hd.blks (h : Hd) : List Nat := h.p :: h.v.ownBlock.toList
structure At (w : World) (h : Hd) (lv : Nat) (l : List Sl) : Prop where
  row : Row w h.p [.int .i64 (lv : Int), h.v, .bool h.d] 74
  own : Slots w h.v l
theorem At.lt {w : World} {h : Hd} {lv : Nat} {l : List Sl} (x : At w h lv l) : ∀ b ∈ h.blks, b < w.heap.size := by
  intro b hb
  rcases List.mem_cons.1 hb with rfl | hb
  · exact x.row.lt
  · exact (x.own.lt b (by simpa using hb)).1
theorem At.same {w w' : World} {h : Hd} {lv : Nat} {l : List Sl} (x : At w h lv l) (e : ∀ b ∈ h.blks, w'.heap[b]? = w.heap[b]?) : At w' h lv l :=
  ⟨x.row.same (e _ (by simp [Hd.blks])), x.own.same fun g hg => e g (by simp [Hd.blks, hg])⟩
theorem At.kept {S : Nat → Prop} {w w' : World} {h : Hd} {lv : Nat} {l : List Sl} (x : At w h lv l) (hk : Kept S w w') (hn : ∀ b ∈ h.blks, ¬ S b) : At w' h lv l := x.same fun b hb => hk.block b (x.lt b hb) (hn b hb)
theorem At.later {w w' : World} {h : Hd} {lv : Nat} {l : List Sl} (x : At w h lv l) (hb : Below w.heap.size w w') : At w' h lv l := x.same fun b hm => hb.block b (x.lt b hm)
theorem At.ne {w : World} {h : Hd} {lv : Nat} {l : List Sl} (x : At w h lv l) : ∀ g, h.v.ownBlock = some g → g ≠ h.p := by
  rintro g hg rfl
  obtain ⟨_, cs, hw⟩ := x.own.lt _ hg
  exact Row.ne (⟨[], by rw [List.append_nil]; exact hw⟩ : Row w h.p cs 77) x.row (by decide) rfl
end Go.Proofs.Ytlfgeanafidopaa.Bt
namespace Go.Proofs.Ytlfgeanafidopaa.Bt
open Go.RowKit
set_option maxRecDepth 10000

def zeroS : List Value := [.string ⟨#[]⟩, .string ⟨#[]⟩, .pointer none]
theorem zeros_slots (n : Nat) : ∀ v ∈ (Builtin.zeroCells zeroS.toArray n).toList, v.oneCell' = true := by
  intro v hv
  simp only [Builtin.zeroCells, zeroS] at hv
  simp at hv
  obtain ⟨i, _, rfl⟩ := hv
  have : i % 3 < 3 := Nat.mod_lt _ (by decide)
  rcases (by omega : i % 3 = 0 ∨ i % 3 = 1 ∨ i % 3 = 2) with e | e | e <;> simp [e] <;> rfl
theorem zeros_len (n : Nat) : (Builtin.zeroCells zeroS.toArray n).toList.length = n * 3 := by simp [Builtin.zeroCells, zeroS]
theorem zeroV (w : World) : (zeroValue 77).run Try.prog w = .ok (.agg zeroS.toArray) w := Try.zeroValue77 w
theorem run_clear_slots (w : World) (ty : TypeId) (g o n c : Nat) (hn : 0 < n) (hc : ∀ j, j < n * 3 → (w.cell? ⟨g, o + j, none⟩).isSome = true) (hf : ∀ j, w.frozen? ⟨g, j, none⟩ = false) :
    (Builtin.clear_ #[72] ty #[.slice (some ⟨g, o, none⟩) n c]).run Try.prog w = .ok (.tuple #[]) (w.setCells g o (Builtin.zeroCells zeroS.toArray n).toList) := by
  have hst := run_storeCells_cells (P := Try.prog) g o (Builtin.zeroCells zeroS.toArray n).toList 0 w (by rw [zeros_len]; simpa using hc) (fun j _ => hf _) (zeros_slots n)
  simp only [Nat.add_zero] at hst
  have hz := zeroV w
  obtain ⟨m, rfl⟩ : ∃ m, n = m + 1 := ⟨n - 1, by omega⟩
  have e : (Value.agg zeroS.toArray).cells = zeroS.toArray := rfl
  simp [Builtin.clear_, run_underlying Try.underlying72, hz, e, hst]
theorem run_copy_slots (w : World) (ty : TypeId) (g o dLen dCap : Nat) (a : Addr) (sLen sCap n : Nat) (cs : List Value) (hn : n = Nat.min sLen dLen) (hl : cs.length = n * 3)
    (hsrc : ∀ j v, cs[j]? = some v → w.cell? (a.add j) = some v) (hc : ∀ j, j < cs.length → (w.cell? ⟨g, o + j, none⟩).isSome = true) (hf : ∀ j, w.frozen? ⟨g, j, none⟩ = false) (h1 : ∀ v ∈ cs, v.oneCell' = true) :
    (Builtin.copy_ #[72, 72] ty #[.slice (some ⟨g, o, none⟩) dLen dCap, .slice (some a) sLen sCap]).run Try.prog w = .ok (goInt n) (w.setCells g o cs) := by
  have hld := run_loadCells_list (P := Try.prog) w a cs hsrc
  have hst := run_storeCells_cells (P := Try.prog) g o cs 0 w (by simpa using hc) (fun j _ => hf _) h1
  obtain ⟨i, hi, h0, h1', h2⟩ := info_parts infoS
  rw [hl] at hld
  simp only [Nat.add_zero] at hst
  simp [Builtin.copy_, run_underlying Try.underlying72, Builtin.lenOf, Builtin.firstCells, sizeOf, typeInfo, hi, h1', ← hn, hld, hst]

set_option maxHeartbeats 4000000 in
theorem delete_any (v : Value) (l : List Sl) (i j : Nat) (w : World) (h : Slots w v l) (hij : i < j) (hj : j ≤ l.length) :
    Calls Try.prog 64 #[v, .int .i64 i, .int .i64 j] w fun e w' => ∃ v', e = .returned v' ∧ Slots w' v' (l.take i ++ l.drop j) ∧ v'.ownBlock = v.ownBlock ∧ Kept (fun b => v.ownBlock = some b) w w' ∧ w'.heap.size = w.heap.size := by
  rcases h.form with ⟨rfl, rfl⟩ | ⟨g, cap, cs, rfl, ho, hw, c1, c2, c3, c4⟩
  · simp at hj; omega
  obtain ⟨n, hn⟩ : ∃ n, n = l.length := ⟨_, rfl⟩
  rw [← hn] at hj c1 c4
  rw [show (Value.slice (some ⟨g, 0, none⟩) l.length cap) = .slice (some ⟨g, 0, none⟩) n cap by rw [hn]]
  obtain ⟨news, hnews⟩ : ∃ news, news = (l.drop j).flatMap slv := ⟨_, rfl⟩
  have hlen : news.length = (n - j) * 3 := by rw [hnews, flat_len slv 3 slv_len, List.length_drop, hn]
  have hget : ∀ t u, news[t]? = some u → cs[j * 3 + t]? = some u := by
    intro t u hu
    have ht := (List.getElem?_eq_some_iff.1 hu).1
    rw [hlen] at ht
    rw [hnews, ← flat_drop slv 3 slv_len, List.getElem?_drop, ← c4, List.getElem?_take, if_pos (by omega)] at hu
    exact hu
  obtain ⟨A, hA, hsrc⟩ : ∃ A : Addr, (if cap = j then some (⟨g, 0, none⟩ : Addr) else some ⟨g, j * 3, none⟩) = some A ∧ Hid (∀ t u, news[t]? = some u → w.drew.cell? (A.add t) = some u) := by
    by_cases h : cap = j
    · refine ⟨⟨g, 0, none⟩, by simp [h], fun t u hu => ?_⟩
      have h0 : news.length = 0 := by rw [hlen]; omega
      rw [List.length_eq_zero_iff.1 h0] at hu
      simp at hu
    · refine ⟨⟨g, j * 3, none⟩, by simp [h], fun t u hu => ?_⟩
      rw [Addr.add_lit]
      exact hw.cell.trans (hget t u hu)
  have s1 : Hid (news.length = (n - j) * 3) := hlen
  have s2 : Hid (∀ u ∈ news, u.oneCell' = true) := by intro u hu; rw [hnews] at hu; exact slv_one _ u hu
  have s3 : Hid (∀ t, t < news.length → (w.drew.cell? ⟨g, 0 + i * 3 + t, none⟩).isSome = true ∧ w.drew.frozen? ⟨g, 0 + i * 3 + t, none⟩ = false) := by
    intro t ht
    refine ⟨?_, hw.frozen _⟩
    show (w.cell? _).isSome = true
    rw [hw.cell, List.getElem?_eq_getElem (by rw [c3]; omega)]; rfl
  obtain ⟨W1, hW1⟩ : ∃ W1, W1 = w.drew.setCells g (0 + i * 3) news := ⟨_, rfl⟩
  obtain ⟨cs1, hcs1⟩ : ∃ cs1, cs1 = cs.take (i * 3) ++ news ++ cs.drop (i * 3 + news.length) := ⟨_, rfl⟩
  have hw1 : Whole W1 g cs1 77 := by
    rw [hW1, hcs1, Nat.zero_add]
    exact Whole.setCells news (i * 3) w.drew cs hw (by rw [c3]; omega)
  have l1 : cs1.length = cap * 3 := by rw [hcs1]; simp only [List.length_append, List.length_take, List.length_drop]; omega
  have hcl : ∀ ty, (Builtin.clear_ #[72] ty #[.slice (some ⟨g, (i + (n - j)) * 3, none⟩) (n - (i + (n - j))) (cap - (i + (n - j)))]).run Try.prog W1 = .ok (.tuple #[]) (W1.setCells g ((i + (n - j)) * 3) (Builtin.zeroCells zeroS.toArray (n - (i + (n - j)))).toList) :=
    fun ty => run_clear_slots W1 ty g _ _ _ (by omega) (fun t ht => by rw [hw1.cell, List.getElem?_eq_getElem (by rw [l1]; omega)]; rfl) hw1.frozen
  have fin : ∀ W2, W2 = W1.setCells g ((i + (n - j)) * 3) (Builtin.zeroCells zeroS.toArray (n - (i + (n - j)))).toList → Slots W2 (.slice (some ⟨g, 0, none⟩) (i + (n - j)) cap) (l.take i ++ l.drop j) ∧ Kept (fun b => (some g : Option Nat) = some b) w W2 ∧ W2.heap.size = w.heap.size := by
    rintro W2 rfl
    have hw2 := Whole.setCells (Builtin.zeroCells zeroS.toArray (n - (i + (n - j)))).toList ((i + (n - j)) * 3) W1 cs1 hw1 (by rw [zeros_len, l1]; omega)
    have hle : (l.take i ++ l.drop j).length = i + (n - j) := by rw [List.length_append, List.length_take, List.length_drop]; omega
    have k1 : Kept (fun b => (some g : Option Nat) = some b) w W1 := by rw [hW1]; exact kept_setCells (S := fun b => (some g : Option Nat) = some b) rfl _ _ _ (Kept.refl _ w).drew
    refine ⟨?_, kept_setCells (S := fun b => (some g : Option Nat) = some b) rfl _ _ _ k1, ?_⟩
    · have sh := Slots.of (l := l.take i ++ l.drop j) (cap := cap) hw2 (by omega) c2 ?_ ?_
      · rw [hle] at sh; exact sh
      · simp only [List.length_append, List.length_take, List.length_drop, zeros_len]; omega
      · rw [hle, List.append_assoc, List.take_append_of_le_length (by rw [List.length_take, l1]; omega), List.take_take, Nat.min_self, hcs1, List.append_assoc, ← List.append_assoc, List.take_append_of_le_length (by rw [List.length_append, List.length_take, hlen]; omega)]
        rw [List.take_of_length_le (by rw [List.length_append, List.length_take, hlen]; omega), List.flatMap_append, hnews]
        congr 1
        rw [← flat_take slv 3 slv_len, ← c4, List.take_take, Nat.min_eq_left (by omega)]
    · have e : ∀ (vs : List Value) (o : Nat) (X : World), (X.setCells g o vs).heap.size = X.heap.size := by
        intro vs
        induction vs with
        | nil => intros; rfl
        | cons a r ih => intro o X; rw [World.setCells, ih]; simp [World.setCell]
      rw [e, hW1, e]; rfl
  have HF : Hid (∀ W2, W2 = W1.setCells g ((i + (n - j)) * 3) (Builtin.zeroCells zeroS.toArray (n - (i + (n - j)))).toList → Slots W2 (.slice (some ⟨g, 0, none⟩) (i + (n - j)) cap) (l.take i ++ l.drop j) ∧ Kept (fun b => (some g : Option Nat) = some b) w W2 ∧ W2.heap.size = w.heap.size) := fin
  have hW : Hid (W1 = w.drew.setCells g (0 + i * 3) news) := hW1
  have hic : i ≤ cap := by omega
  have hjc : j ≤ cap := by omega
  obtain ⟨i0, hi0, _, hz1, _⟩ := info_parts infoS
  clear fin hW1 hw1 hcs1 l1 hw hget hnews hlen c3 c4 h ho hn
  unfold maxLen at c2
  go_enter Try.func64, Try.ntmps64
  go_wp2_with fail
  go_region_law (refine step_append_room rfl (.tmp 22) (.tmp 25) 72 rfl 77 i0 3 Try.underlying72 hi0 hz1 g 0 i cap (by simp [Act.eval, Act.put]) A (n - j) (cap - j) news (by simp [Act.eval, Act.put]) s1.out hsrc.out s2.out (by omega) s3.out ?_; rw [← hW.out])
  go_wp2
  go_ret
  exact ⟨_, rfl, (HF.out _ rfl).1, rfl, (HF.out _ rfl).2.1, (HF.out _ rfl).2.2⟩
end Go.Proofs.Ytlfgeanafidopaa.Bt
namespace Go.Proofs.Ytlfgeanafidopaa.Bt
open Go.RowKit
set_option maxRecDepth 10000

theorem wp_copy_run {P : Program} (w : World) {o : Oper} {a : Act} {K : Act → World → Prop} {Q : Exit → Act → World → Prop} (d s : Operand) (t t' : TypeId)
    (ho : o.op = .call { callee := .builtin .copy, args := #[d, s], argTypes := #[t, t'] }) (v u : Value) (hd : a.eval d = v) (hs : a.eval s = u) {v' : Value} {w' : World}
    (hr : (Builtin.copy_ #[t, t'] o.type #[v, u]).run P w = .ok v' w') (h : K (a.put o.dst v') w') : o.wp P a w K Q := by
  unfold Oper.wp execOp
  simp only [ho, resolve, invoke, builtin, Sem.run_bind, Sem.run_pure, Result.andThen_ok, List.map_toArray, List.map_cons, List.map_nil, hd, hs, hr]
  exact h
theorem wpl_copy_run {P : Program} (w : World) {ops : Array Oper} {rest : List Oper} {o : Oper} {a : Act} {Q : Exit → Act → World → Prop} (hgd : o.guard = none) (d s : Operand) (t t' : TypeId)
    (ho : o.op = .call { callee := .builtin .copy, args := #[d, s], argTypes := #[t, t'] }) (v u : Value) (hd : a.eval d = v) (hs : a.eval s = u) {v' : Value} {w' : World}
    (hr : (Builtin.copy_ #[t, t'] o.type #[v, u]).run P w = .ok v' w') (h : wpList P ops Q rest (a.put o.dst v') w') : wpList P ops Q (o :: rest) a w :=
  wpList_plain hgd fun _ hK => wp_copy_run w d s t t' ho v u hd hs hr (hK _ _ h)
theorem step_copy_run {P : Program} {ops : Array Oper} {o : Oper} {a : Act} {w : World} {K : Act → World → Prop} {Q : Exit → Act → World → Prop} {E : Prop}
    (hg : o.guard = none) (d x : Operand) (dT sT : TypeId) (hop : o.op = Op.call { callee := Callee.builtin Builtin.copy, args := #[d, x], argTypes := #[dT, sT] })
    (v u : Value) (hd : a.eval d = v) (hx : a.eval x = u) {v' : Value} {w' : World} (hr : (Builtin.copy_ #[dT, sT] o.type #[v, u]).run P w = .ok v' w') (hK : K (a.put o.dst v') w') :
    if Region.wanted o (yielded ops a.tmps) = true then Oper.wp P o a w K Q else E := by
  have hw : Region.wanted o (yielded ops a.tmps) = true := by simp [Region.wanted, hg]
  rw [if_pos hw]
  unfold Oper.wp
  simp [execOp, hop, resolve, invoke, builtin, hd, hx, hr, Result.andThen]
  exact hK
theorem Whole.shape {W : World} {B : Nat} {cs : List Value} {t : TypeId} (h : Whole W B cs t) : W.shape? B = some (t, cs.length) := by simp [World.shape?, show W.heap[B]? = _ from h]
theorem Whole.same {W W' : World} {B : Nat} {cs : List Value} {t : TypeId} (h : Whole W B cs t) (e : W'.heap[B]? = W.heap[B]?) : Whole W' B cs t := e.trans h
theorem Whole.later {W W' : World} {B : Nat} {cs : List Value} {t : TypeId} (h : Whole W B cs t) (hb : Below W.heap.size W W') : Whole W' B cs t := h.same (hb.block B h.lt)
theorem Whole.kept {S : Nat → Prop} {W W' : World} {B : Nat} {cs : List Value} {t : TypeId} (h : Whole W B cs t) (hk : Kept S W W') (hn : ¬ S B) : Whole W' B cs t := h.same (hk.block B h.lt hn)
theorem Whole.new (W : World) (cs : List Value) (t : TypeId) : Whole (W.alloc (.cells cs.toArray t)) W.heap.size cs t := by show (W.heap.push _)[W.heap.size]? = _; simp
theorem Whole.row {W : World} {B : Nat} {cs : List Value} {t : TypeId} (h : Whole W B cs t) : Row W B cs t := ⟨[], by rw [List.append_nil]; exact h⟩
/-- What an Insert says of its answer. -/
def Inserted (w : World) (v : Value) (l : List Sl) (v' : Value) (w' : World) : Prop :=
  Slots w' v' l ∧ (∃ g, v'.ownBlock = some g ∧ (v.ownBlock = some g ∨ w.heap.size ≤ g)) ∧ Kept (fun b => v.ownBlock = some b) w w'

set_option maxHeartbeats 4000000 in
theorem insert_end (v : Value) (l : List Sl) (s : Sl) (vb vc : Nat) (w : World) (h : Slots w v l) (hl : l.length ≤ 1000) (hV : Whole w vb (slv s) 77) :
    Calls Try.prog 68 #[v, .int .i64 l.length, .slice (some ⟨vb, 0, none⟩) 1 vc] w fun e w' => ∃ v', e = .returned v' ∧ Inserted w v (l ++ [s]) v' w' := by
  obtain ⟨i0, hi0, hz0, hz1, hz2⟩ := info_parts infoS
  obtain ⟨n, hn⟩ : ∃ n, n = l.length := ⟨_, rfl⟩
  have hX : Hid (w.ownsRow 0 77 3 v n (l.flatMap slv)) := by show w.ownsRow _ _ _ _ _ _; rw [hn]; exact h
  have hN : Hid (∀ j u, (slv s)[j]? = some u → w.cell? ((⟨vb, 0, none⟩ : Addr).add j) = some u) := by
    intro j u hj; rw [Addr.add_lit, Nat.zero_add, hV.cell]; exact hj
  have h1 : Hid (∀ u ∈ slv s, u.oneCell' = true) := by intro u hu; exact slv_one [s] u (by simpa using hu)
  have fin : ∀ g cap w', w'.ownsRow 0 77 3 (.slice (some ⟨g, 0, none⟩) (n + 1) cap) (n + 1) (l.flatMap slv ++ slv s) → w.grownBy w' v.ownBlock → (v.ownBlock = some g ∨ g = w.heap.size) → Inserted w v (l ++ [s]) (.slice (some ⟨g, 0, none⟩) (n + 1) cap) w' := by
    intro g cap w' q1 q2 q3
    refine ⟨?_, ⟨g, rfl, ?_⟩, Kept.of_grown q2 fun k e => e⟩
    · unfold Slots
      rw [List.length_append, List.length_singleton, List.flatMap_append, ← hn]
      simpa using q1
    · rcases q3 with q | q
      · exact .inl q
      · exact .inr (by omega)
  have HF : Hid (∀ g cap w', w'.ownsRow 0 77 3 (.slice (some ⟨g, 0, none⟩) (n + 1) cap) (n + 1) (l.flatMap slv ++ slv s) → w.grownBy w' v.ownBlock → (v.ownBlock = some g ∨ g = w.heap.size) → Inserted w v (l ++ [s]) (.slice (some ⟨g, 0, none⟩) (n + 1) cap) w') := fin
  have hl2 : n ≤ 1000 := by omega
  rw [← hn]
  rcases h.form with ⟨rfl, rfl⟩ | ⟨g, cap, cs, rfl, _, _, c1, c2, _⟩
  · simp only [List.length_nil] at hn
    subst hn
    clear fin h hV
    go_enter Try.func68, Try.ntmps68
    go_wp2_with (at_builtin; refine wpList_append_lies _ rfl _ _ 72 rfl 0 77 i0 _ 3 40 Try.underlying72 hi0 hz0 hz1 hz2 rfl (by decide) _ 0 _ rfl hX.out ⟨vb, 0, none⟩ 1 vc (slv s) rfl rfl hN.out h1.out (by decide) (by decide) (by decide) (Nat.zero_le _) _ rfl ?_; intro g cap w1 q1 q2 q3 q4)
    go_ret
    exact ⟨_, rfl, HF.out _ _ _ q1 q2 q3⟩
  · rw [← hn] at hX HF ⊢
    have hc : n ≤ cap := by omega
    clear fin h hV hn
    unfold maxLen at c2
    go_enter Try.func68, Try.ntmps68
    go_wp2_with (at_builtin; refine wpList_append_lies _ rfl _ _ 72 rfl 0 77 i0 _ 3 40 Try.underlying72 hi0 hz0 hz1 hz2 rfl (by decide) _ n _ rfl hX.out ⟨vb, 0, none⟩ 1 vc (slv s) rfl rfl hN.out h1.out (by decide) (by unfold maxLen; omega) (by omega) (Nat.zero_le _) _ rfl ?_; intro g cap w1 q1 q2 q3 q4)
    all_goals go_ret
    all_goals exact ⟨_, rfl, HF.out _ _ _ q1 q2 q3⟩
end Go.Proofs.Ytlfgeanafidopaa.Bt
