/-
  Nodes of a B+tree, level by level, without places in memory: Put and Delete on them, and that they are those of a sorted list.
-/
import Derived.Test.YtpflacbinankmaaBMath
namespace Go.Proofs.Ytpflacbinankmaa.Bt

/-- What stands in a node of the level n: a key and a value, or a node of the level below. -/
def El : Nat → Type
  | 0 => K × K
  | n + 1 => Bool × List (El n)
def El.kv (k v : K) : El 0 := Prod.mk (α := K) (β := K) k v
def El.nd {n : Nat} (d : Bool) (l : List (El n)) : El (n + 1) := Prod.mk (α := Bool) (β := List (El n)) d l
def El.l {n : Nat} (t : El (n + 1)) : List (El n) := Prod.snd (α := Bool) (β := List (El n)) t
def El.d {n : Nat} (t : El (n + 1)) : Bool := Prod.fst (α := Bool) (β := List (El n)) t
def El.pair (e : El 0) : KV := e
@[simp] theorem El.l_nd {n : Nat} (d : Bool) (l : List (El n)) : (El.nd d l).l = l := rfl
@[simp] theorem El.d_nd {n : Nat} (d : Bool) (l : List (El n)) : (El.nd d l).d = d := rfl
@[simp] theorem El.pair_kv (k v : K) : (El.kv k v).pair = (k, v) := rfl
theorem El.eta {n : Nat} (t : El (n + 1)) : El.nd t.d t.l = t := rfl
theorem El.eta0 (e : El 0) : El.kv e.pair.1 e.pair.2 = e := rfl
def ek : (n : Nat) → El n → K
  | 0, e => e.pair.1
  | n + 1, t => match t.l with
    | [] => ⟨#[]⟩
    | e :: _ => ek n e
def flat : (n : Nat) → El n → List KV
  | 0, e => [e.pair]
  | n + 1, t => t.l.flatMap (flat n)
def flats {n : Nat} (l : List (El n)) : List KV := l.flatMap (flat n)
theorem flat_succ {n : Nat} (t : El (n + 1)) : flat (n + 1) t = flats t.l := rfl
theorem ek_pair (e : El 0) : ek 0 e = e.pair.1 := rfl
theorem flats_zero (l : List (El 0)) : flats l = l.map El.pair := by
  induction l with
  | nil => rfl
  | cons x l ih => show flat 0 x ++ flats l = _; rw [ih]; rfl
theorem flats_append {n : Nat} (a b : List (El n)) : flats (a ++ b) = flats a ++ flats b := List.flatMap_append
theorem flats_cons {n : Nat} (a : El n) (b : List (El n)) : flats (a :: b) = flat n a ++ flats b := rfl
theorem keys_zero (l : List (El 0)) : l.map (ek 0) = (l.map El.pair).map Prod.fst := by
  rw [List.map_map]; exact List.map_congr_left fun e _ => ek_pair e
/-- A slot into a leaf's list. -/
def layE (k v : K) (l : List (El 0)) : List (El 0) :=
  if (l[lb k (l.map (ek 0))]?).map (ek 0) = some k then l.set (lb k (l.map (ek 0))) (.kv k v) else l.take (lb k (l.map (ek 0))) ++ .kv k v :: l.drop (lb k (l.map (ek 0)))
theorem layE_pair (k v : K) (l : List (El 0)) : (layE k v l).map El.pair = lay k v (l.map El.pair) := by
  unfold layE lay
  rw [keys_zero]
  have : ∀ i : Nat, (l[i]?).map (ek 0) = ((l.map El.pair)[i]?).map Prod.fst := fun i => by
    rw [List.getElem?_map]
    cases l[i]? with
    | none => rfl
    | some e => simp [ek_pair]
  rw [this]
  split
  · simp [List.map_set]
  · simp
theorem layE_len (k v : K) (l : List (El 0)) : l.length ≤ (layE k v l).length ∧ (layE k v l).length ≤ l.length + 1 ∧ 0 < (layE k v l).length := by
  have := lay_len k v (l.map El.pair)
  rw [← layE_pair, List.length_map, List.length_map] at this
  exact this
/-- The place of the kid under which a key stands. -/
def place {n : Nat} (k : K) (l : List (El n)) : Nat := ub k (l.map (ek n)) - 1
def halfL {n : Nat} (t : El (n + 1)) : El (n + 1) := .nd t.d (t.l.take (t.l.length / 2))
def halfR {n : Nat} (t : El (n + 1)) : El (n + 1) := .nd true (t.l.drop (t.l.length / 2))
def putIn {n : Nat} (F : Nat) (i : Nat) (l : List (El (n + 1))) (c : El (n + 1)) : List (El (n + 1)) :=
  if F < c.l.length then l.take i ++ halfL c :: halfR c :: l.drop (i + 1) else l.set i c
def put (F : Nat) (k v : K) : (n : Nat) → El (n + 1) → El (n + 1)
  | 0, t => .nd true (layE k v t.l)
  | n + 1, t => match t.l[place k t.l]? with
    | none => .nd true t.l
    | some c => .nd true (putIn F (place k t.l) t.l (put F k v n c))
def joined {n : Nat} (F : Nat) (i : Nat) (l : List (El (n + 1))) : List (El (n + 1)) :=
  match l[i]?, l[i + 1]? with
  | some a, some b => putIn F i (l.take (i + 1) ++ l.drop (i + 2)) (.nd true (a.l ++ b.l))
  | _, _ => l
def takeIn {n : Nat} (F : Nat) (i : Nat) (l : List (El (n + 1))) (c : El (n + 1)) : List (El (n + 1)) :=
  if c.l.length < F / 2 then joined F (i - 1) (l.set i c) else l.set i c
def remove (F : Nat) (k : K) : (n : Nat) → El (n + 1) → El (n + 1)
  | 0, t => .nd true (t.l.take (lb k (t.l.map (ek 0))) ++ t.l.drop (lb k (t.l.map (ek 0)) + 1))
  | n + 1, t => match t.l[place k t.l]? with
    | none => .nd true t.l
    | some c => .nd true (takeIn F (place k t.l) t.l (remove F k n c))
/-- As many keys as may be, in a node that is not the root, and in all below it. -/
def Fill (F : Nat) : (n : Nat) → El n → Prop
  | 0, _ => True
  | n + 1, t => F / 2 ≤ (t.l).length ∧ (t.l).length ≤ F ∧ ∀ e ∈ t.l, Fill F n e
/-- A first key. -/
def Hd1 (n : Nat) (e : El n) : Prop := ∃ x r, flat n e = x :: r ∧ x.1 = ek n e
theorem fill_hd {F : Nat} (hF : 4 ≤ F) : ∀ (n : Nat) (e : El n), Fill F n e → Hd1 n e
  | 0, e, _ => ⟨e.pair, [], rfl, rfl⟩
  | n + 1, t, h => by
    obtain ⟨h1, h2, h3⟩ := h
    unfold Hd1
    rw [flat_succ, ek]
    cases hl : t.l with
    | nil => rw [hl] at h1; simp at h1; omega
    | cons e l =>
      rw [hl] at h3
      obtain ⟨x, r, hx, hk⟩ := fill_hd hF n e (h3 e (by simp))
      exact ⟨x, r ++ flats l, by rw [flats_cons, hx]; rfl, hk⟩
theorem flat_le {n : Nat} {e : El n} (h : Hd1 n e) (hs : Srt (flat n e)) : ∀ x ∈ flat n e, klt x.1 (ek n e) = false := by
  obtain ⟨y, r, hy, hk⟩ := h
  intro x hx
  rw [hy] at hx hs
  rcases List.mem_cons.1 hx with rfl | hx
  · rw [hk]; exact klt_irrefl _
  · rw [← hk]; exact klt_asymm ((List.pairwise_cons.1 hs).1 x hx)
theorem srt_append {a b : List KV} : Srt (a ++ b) ↔ Srt a ∧ Srt b ∧ ∀ x ∈ a, ∀ y ∈ b, klt x.1 y.1 = true := List.pairwise_append
/-- The keys of a node rise. -/
theorem keys_srt {n : Nat} : ∀ (l : List (El n)), (∀ e ∈ l, Hd1 n e) → Srt (flats l) → Ksrt (l.map (ek n))
  | [], _, _ => List.Pairwise.nil
  | e :: l, h, hs => by
    rw [flats_cons] at hs
    obtain ⟨h1, h2, h3⟩ := srt_append.1 hs
    refine List.pairwise_cons.2 ⟨?_, keys_srt l (fun x hx => h x (by simp [hx])) h2⟩
    intro k hk
    obtain ⟨e2, he2, rfl⟩ := List.mem_map.1 hk
    obtain ⟨x, r, hx, hxk⟩ := h e (by simp)
    obtain ⟨y, r2, hy, hyk⟩ := h e2 (by simp [he2])
    rw [← hxk, ← hyk]
    exact h3 x (by rw [hx]; simp) y (List.mem_flatMap.2 ⟨e2, he2, by rw [hy]; simp⟩)
theorem place_lt {n : Nat} (k : K) (l : List (El n)) (h : 0 < l.length) : place k l < l.length := by
  unfold place
  have := ub_le k (l.map (ek n))
  rw [List.length_map] at this
  omega
theorem mem_flats {n : Nat} {l : List (El n)} {x : KV} : x ∈ flats l ↔ ∃ e ∈ l, x ∈ flat n e := List.mem_flatMap
theorem srt_of_mem {n : Nat} : ∀ {l : List (El n)} {e : El n}, Srt (flats l) → e ∈ l → Srt (flat n e)
  | a :: l, e, hs, he => by
    rw [flats_cons] at hs
    obtain ⟨h1, h2, h3⟩ := srt_append.1 hs
    rcases List.mem_cons.1 he with rfl | he
    · exact h1
    · exact srt_of_mem h2 he
/-- All that stands ahead of a key's kid is lesser than the key, all that stands behind it is greater. -/
theorem located {n : Nat} {k : K} {l : List (El n)} {c : El n} (h : ∀ e ∈ l, Hd1 n e) (hs : Srt (flats l)) (hc : l[place k l]? = some c) :
    (∀ x ∈ flats (l.take (place k l)), klt x.1 k = true) ∧ (∀ x ∈ flats (l.drop (place k l + 1)), klt k x.1 = true) := by
  have hks := keys_srt l h hs
  have hi := fun i x hx => ub_iff (k := k) hks i x hx
  constructor
  · intro x hx
    by_cases h0 : place k l = 0
    · rw [h0] at hx; simp [flats] at hx
    · have hlt : place k l < ub k (l.map (ek n)) := by unfold place at h0 ⊢; omega
      have hck := (hi (place k l) (ek n c) (by rw [List.getElem?_map, hc]; rfl)).1 hlt
      have hs2 := hs
      rw [split_at hc, flats_append, flats_cons] at hs2
      obtain ⟨_, _, h3⟩ := srt_append.1 hs2
      obtain ⟨y, r, hy, hyk⟩ := h c (List.mem_of_getElem? hc)
      have := h3 x hx y (by rw [hy]; simp)
      rw [hyk] at this
      exact klt_of_le this hck
  · intro x hx
    obtain ⟨e, he, hxe⟩ := mem_flats.1 hx
    obtain ⟨i, hi1, hi2⟩ := List.getElem_of_mem he
    rw [List.getElem_drop] at hi2
    rw [List.length_drop] at hi1
    have hl : place k l + 1 + i < l.length := by omega
    have hem : e ∈ l := by rw [← hi2]; exact List.getElem_mem hl
    have hke : klt k (ek n e) = true := by
      cases q : klt k (ek n e) with
      | true => rfl
      | false =>
        have := (hi _ (ek n e) (by rw [List.getElem?_map, List.getElem?_eq_getElem hl, hi2]; rfl)).2 q
        unfold place at this; omega
    have := flat_le (h e hem) (srt_of_mem hs hem) x hxe
    exact klt_of_le hke this
theorem flats_put {n : Nat} (F : Nat) {i : Nat} {l : List (El (n + 1))} (c : El (n + 1)) (hi : i < l.length) : flats (putIn F i l c) = flats (l.take i) ++ flats c.l ++ flats (l.drop (i + 1)) := by
  unfold putIn
  split
  · rw [flats_append, flats_cons, flats_cons, flat_succ, flat_succ]
    have : flats c.l = flats (halfL c).l ++ flats (halfR c).l := by
      rw [← flats_append]; simp [halfL, halfR]
    rw [this]; simp
  · rw [List.set_eq_take_append_cons_drop, if_pos hi, flats_append, flats_cons, flat_succ]
    simp
theorem len_put {n : Nat} (F : Nat) {i : Nat} {l : List (El (n + 1))} (c : El (n + 1)) (hi : i < l.length) : l.length ≤ (putIn F i l c).length ∧ (putIn F i l c).length ≤ l.length + 1 := by
  unfold putIn
  split
  · simp [List.length_take, List.length_drop]; omega
  · simp
theorem fill_put {n F : Nat} (hF : 4 ≤ F) {i : Nat} {l : List (El (n + 1))} (c : El (n + 1)) (hl : ∀ e ∈ l.take i ++ l.drop (i + 1), Fill F (n + 1) e) (hi : i < l.length) (h1 : F / 2 ≤ c.l.length) (h2 : c.l.length ≤ 2 * F) (hk : ∀ e ∈ c.l, Fill F n e) : ∀ e ∈ putIn F i l c, Fill F (n + 1) e := by
  unfold putIn
  intro e he
  split at he
  · rename_i hc
    simp only [List.mem_append, List.mem_cons] at he
    rcases he with he | rfl | rfl | he
    · exact hl e (by simp [he])
    · refine ⟨?_, ?_, fun x hx => hk x (List.mem_of_mem_take hx)⟩ <;> (show _ ≤ _; simp only [halfL, El.l_nd, List.length_take]; omega)
    · refine ⟨?_, ?_, fun x hx => hk x (List.mem_of_mem_drop hx)⟩ <;> (show _ ≤ _; simp only [halfR, El.l_nd, List.length_drop]; omega)
    · exact hl e (by simp [he])
  · rename_i hc
    rw [List.set_eq_take_append_cons_drop, if_pos hi] at he
    simp only [List.mem_append, List.mem_cons] at he
    rcases he with he | rfl | he
    · exact hl e (by simp [he])
    · exact ⟨h1, by omega, hk⟩
    · exact hl e (by simp [he])
/-- A node that is right but for how many slots it has itself. -/
structure Good (F n : Nat) (t : El (n + 1)) : Prop where
  kids : ∀ e ∈ t.l, Fill F n e
  srt : Srt (flats t.l)
theorem Good.kid {F n : Nat} {t : El (n + 2)} {c : El (n + 1)} (h : Good F (n + 1) t) (hc : (c : El (n + 1)) ∈ t.l) : Good F n c := ⟨(h.kids c hc).2.2, srt_of_mem h.srt hc⟩
theorem Good.hd {F n : Nat} (hF : 4 ≤ F) {t : El (n + 1)} (h : Good F n t) : ∀ e ∈ t.l, Hd1 n e := fun e he => fill_hd hF n e (h.kids e he)
theorem ins_srt {k v : K} : ∀ {l : List KV}, Srt l → Srt (ins k v l) ∧ ∀ x ∈ ins k v l, x = (k, v) ∨ x ∈ l
  | [], _ => ⟨List.pairwise_singleton _ _, fun x hx => by simp [ins] at hx; exact .inl hx⟩
  | y :: l, h => by
    obtain ⟨h1, h2⟩ := List.pairwise_cons.1 h
    obtain ⟨i1, i2⟩ := ins_srt (k := k) (v := v) h2
    rw [ins]
    split
    · rename_i q
      refine ⟨List.pairwise_cons.2 ⟨fun x hx => ?_, i1⟩, fun x hx => ?_⟩
      · rcases i2 x hx with rfl | e
        · exact q
        · exact h1 x e
      · rcases List.mem_cons.1 hx with rfl | e
        · exact .inr (by simp)
        · rcases i2 x e with e | e
          · exact .inl e
          · exact .inr (by simp [e])
    · rename_i q
      split
      · rename_i q2
        refine ⟨List.pairwise_cons.2 ⟨fun x hx => by rw [← q2]; exact h1 x hx, h2⟩, fun x hx => ?_⟩
        rcases List.mem_cons.1 hx with e | e
        · exact .inl e
        · exact .inr (by simp [e])
      · rename_i q2
        have hk : klt k y.1 = true := by
          cases q3 : klt k y.1 with
          | true => rfl
          | false => exact absurd (klt_total (by simpa using q) q3) q2
        refine ⟨List.pairwise_cons.2 ⟨fun x hx => ?_, h⟩, fun x hx => ?_⟩
        · rcases List.mem_cons.1 hx with rfl | e
          · exact hk
          · exact klt_trans hk (h1 x e)
        · rcases List.mem_cons.1 hx with e | e
          · exact .inl e
          · exact .inr e
theorem del_srt {k : K} {l : List KV} (h : Srt l) : Srt (del k l) := h.sublist List.filter_sublist

theorem put_ok {F : Nat} (hF : 4 ≤ F) (k v : K) : ∀ (n : Nat) (t : El (n + 1)), Good F n t → t.l.length ≤ F → (0 < n → 0 < t.l.length) →
    flats (put F k v n t).l = ins k v (flats t.l) ∧ (∀ e ∈ (put F k v n t).l, Fill F n e) ∧ t.l.length ≤ (put F k v n t).l.length ∧ (put F k v n t).l.length ≤ t.l.length + 1 ∧ 0 < (put F k v n t).l.length
  | 0, t, h, hl, _ => by
    have h1 := h.srt
    rw [flats_zero] at h1
    refine ⟨?_, fun _ _ => trivial, (layE_len k v _).1, (layE_len k v _).2.1, (layE_len k v _).2.2⟩
    rw [flats_zero, flats_zero]
    exact (layE_pair k v _).trans (lay_ins h1)
  | n + 1, t, h, hl, hp => by
    have hp := hp (by omega)
    have hi := place_lt k t.l hp
    obtain ⟨c, hc⟩ : ∃ c : El (n + 1), t.l[place k t.l]? = some (c : El (n + 1)) := ⟨_, List.getElem?_eq_getElem hi⟩
    have hcm := List.mem_of_getElem? hc
    obtain ⟨f1, f2, f3⟩ := h.kids _ hcm
    obtain ⟨i1, i2, i3, i4, i5⟩ := put_ok hF k v n c (h.kid hcm) f2 (fun _ => Nat.lt_of_lt_of_le (by omega) f1)
    have e : put F k v (n + 1) t = .nd true (putIn F (place k t.l) t.l (put F k v n c)) := by rw [put, hc]
    rw [e]
    obtain ⟨l1, l2⟩ := len_put F (put F k v n c) hi
    obtain ⟨o1, o2⟩ := located (h.hd hF) h.srt hc
    refine ⟨?_, fill_put hF _ (fun e he => ?_) hi (Nat.le_trans f1 i3) (by omega) i2, l1, l2, by show 0 < (putIn F _ _ _).length; omega⟩
    · show flats (putIn F _ _ _) = _
      rw [flats_put F _ hi, i1]
      conv => rhs; rw [split_at hc, flats_append, flats_cons, ins_left k v _ _ o1, ins_right k v _ _ o2, flat_succ]
      simp
    · rcases List.mem_append.1 he with he | he
      · exact h.kids e (List.mem_of_mem_take he)
      · exact h.kids e (List.mem_of_mem_drop he)
theorem mem_fst_append {k : K} {a b : List KV} : k ∈ (a ++ b).map Prod.fst ↔ k ∈ a.map Prod.fst ∨ k ∈ b.map Prod.fst := by simp
theorem not_left {k : K} {a : List KV} (h : ∀ x ∈ a, klt x.1 k = true) : k ∉ a.map Prod.fst := fun hk => by
  obtain ⟨x, hx, e⟩ := List.mem_map.1 hk
  have := h x hx; rw [e, klt_irrefl] at this; cases this
theorem not_right {k : K} {a : List KV} (h : ∀ x ∈ a, klt k x.1 = true) : k ∉ a.map Prod.fst := fun hk => by
  obtain ⟨x, hx, e⟩ := List.mem_map.1 hk
  have := h x hx; rw [e, klt_irrefl] at this; cases this
theorem joined_ok {n F : Nat} (hF : 4 ≤ F) {i j : Nat} {l : List (El (n + 1))} {c : El (n + 1)} (hi : l[i]? = some c) (hj : j = i - 1) (h2 : 2 ≤ l.length) (hc1 : c.l.length + 1 = F / 2) (hck : ∀ e ∈ c.l, Fill F n e)
    (hl : ∀ m e, l[m]? = some e → m ≠ i → Fill F (n + 1) e) :
    flats (joined F j l) = flats l ∧ (∀ e ∈ joined F j l, Fill F (n + 1) e) ∧ l.length ≤ (joined F j l).length + 1 ∧ (joined F j l).length ≤ l.length := by
  obtain ⟨hil, _⟩ := List.getElem?_eq_some_iff.1 hi
  have hjl : j + 1 < l.length := by omega
  obtain ⟨a, ha⟩ : ∃ a : El (n + 1), l[j]? = some (a : El (n + 1)) := ⟨_, List.getElem?_eq_getElem (by omega)⟩
  obtain ⟨b, hb⟩ : ∃ b : El (n + 1), l[j + 1]? = some (b : El (n + 1)) := ⟨_, List.getElem?_eq_getElem hjl⟩
  have hd : l.drop (j + 1) = (b : El (n + 1)) :: l.drop (j + 2) := by
    have := List.getElem?_eq_some_iff.1 hb
    rw [← this.2, ← List.drop_eq_getElem_cons this.1]
  have hsp : l = l.take j ++ (a : El (n + 1)) :: (b : El (n + 1)) :: l.drop (j + 2) := by
    rw [← hd]; exact split_at ha
  have hlens : F / 2 ≤ (a.l ++ b.l).length ∧ (a.l ++ b.l).length ≤ 2 * F ∧ ∀ e ∈ a.l ++ b.l, Fill F n e := by
    rw [List.length_append]
    by_cases h0 : i = 0
    · have : j = i := by omega
      rw [this, hi] at ha
      obtain rfl := Option.some.inj ha
      obtain ⟨g1, g2, g3⟩ := hl (j + 1) b hb (by omega)
      replace g1 : F / 2 ≤ b.l.length := g1
      replace g2 : b.l.length ≤ F := g2
      refine ⟨by omega, by omega, fun e he => ?_⟩
      rcases List.mem_append.1 he with he | he
      · exact hck e he
      · exact g3 e he
    · have : j + 1 = i := by omega
      rw [this, hi] at hb
      obtain rfl := Option.some.inj hb
      obtain ⟨g1, g2, g3⟩ := hl j a ha (by omega)
      replace g1 : F / 2 ≤ a.l.length := g1
      replace g2 : a.l.length ≤ F := g2
      refine ⟨by omega, by omega, fun e he => ?_⟩
      rcases List.mem_append.1 he with he | he
      · exact g3 e he
      · exact hck e he
  have e : joined F j l = putIn F j (l.take (j + 1) ++ l.drop (j + 2)) (.nd true (a.l ++ b.l)) := by unfold joined; rw [ha, hb]
  have ht : l.take (j + 1) = l.take j ++ [(a : El (n + 1))] := by
    have := List.getElem?_eq_some_iff.1 ha
    rw [List.take_succ_eq_append_getElem this.1, this.2]
  have hlm : (l.take (j + 1) ++ l.drop (j + 2)).length + 1 = l.length := by
    rw [List.length_append, List.length_take, List.length_drop]; omega
  have hjm : j < (l.take (j + 1) ++ l.drop (j + 2)).length := by omega
  have t1 : (l.take (j + 1) ++ l.drop (j + 2)).take j = l.take j := by
    rw [List.take_append_of_le_length (by rw [List.length_take]; omega), List.take_take, Nat.min_eq_left (by omega)]
  have t2 : (l.take (j + 1) ++ l.drop (j + 2)).drop (j + 1) = l.drop (j + 2) := by
    rw [List.drop_append_of_le_length (by rw [List.length_take]; omega), List.drop_eq_nil_of_le (by rw [List.length_take]; omega)]
    rfl
  rw [e]
  have hlp := len_put F (n := n) (.nd true (a.l ++ b.l)) hjm
  refine ⟨?_, fill_put hF _ (fun x hx => ?_) hjm hlens.1 hlens.2.1 hlens.2.2, by omega, by omega⟩
  · rw [flats_put F _ hjm, t1, t2]
    conv => rhs; rw [hsp, flats_append, flats_cons, flats_cons, flat_succ, flat_succ]
    rw [El.l_nd, flats_append]; simp
  · rw [t1, t2] at hx
    obtain ⟨m, hm, hmn⟩ : ∃ m, l[m]? = some x ∧ (m < j ∨ j + 2 ≤ m) := by
      rcases List.mem_append.1 hx with hx | hx
      · obtain ⟨m, hm1, hm2⟩ := List.getElem_of_mem hx
        rw [List.length_take] at hm1
        rw [List.getElem_take] at hm2
        exact ⟨m, by rw [List.getElem?_eq_getElem (by omega), hm2], .inl (by omega)⟩
      · obtain ⟨m, hm1, hm2⟩ := List.getElem_of_mem hx
        rw [List.length_drop] at hm1
        rw [List.getElem_drop] at hm2
        exact ⟨j + 2 + m, by rw [List.getElem?_eq_getElem (by omega), hm2], .inr (by omega)⟩
    exact hl m x hm (by omega)
theorem remove_ok {F : Nat} (hF : 4 ≤ F) (k : K) : ∀ (n : Nat) (t : El (n + 1)), Good F n t → t.l.length ≤ F → (0 < n → 2 ≤ t.l.length) → k ∈ (flats t.l).map Prod.fst →
    flats (remove F k n t).l = del k (flats t.l) ∧ (∀ e ∈ (remove F k n t).l, Fill F n e) ∧ t.l.length ≤ (remove F k n t).l.length + 1 ∧ (remove F k n t).l.length ≤ t.l.length
  | 0, t, h, hl, _, hk => by
    have h1 := h.srt
    rw [flats_zero] at h1 hk
    obtain ⟨x, hx, _, hd⟩ := del_at h1 hk
    obtain ⟨hlt, _⟩ := List.getElem?_eq_some_iff.1 hx
    have e : (remove F k 0 t).l = t.l.take (lb k (t.l.map (ek 0))) ++ t.l.drop (lb k (t.l.map (ek 0)) + 1) := rfl
    rw [← keys_zero, List.length_map] at hlt
    refine ⟨?_, fun _ _ => trivial, ?_, ?_⟩
    · rw [flats_zero, flats_zero, e, keys_zero, List.map_append, List.map_take, List.map_drop]; exact hd
    · rw [e, List.length_append, List.length_take, List.length_drop]
      omega
    · rw [e, List.length_append, List.length_take, List.length_drop]
      omega
  | n + 1, t, h, hl, hp, hk => by
    have hp := hp (by omega)
    have hi := place_lt k t.l (by omega)
    obtain ⟨c, hc⟩ : ∃ c : El (n + 1), t.l[place k t.l]? = some (c : El (n + 1)) := ⟨_, List.getElem?_eq_getElem hi⟩
    have hcm := List.mem_of_getElem? hc
    obtain ⟨f1, f2, f3⟩ := h.kids _ hcm
    replace f1 : F / 2 ≤ c.l.length := f1
    replace f2 : c.l.length ≤ F := f2
    obtain ⟨o1, o2⟩ := located (h.hd hF) h.srt hc
    have hkc : k ∈ (flats c.l).map Prod.fst := by
      rw [split_at hc, flats_append, flats_cons, flat_succ, mem_fst_append, mem_fst_append] at hk
      rcases hk with hk | hk | hk
      · exact absurd hk (not_left o1)
      · exact hk
      · exact absurd hk (not_right o2)
    obtain ⟨i1, i2, i3, i4⟩ := remove_ok hF k n c (h.kid hcm) f2 (fun _ => by omega) hkc
    have e : remove F k (n + 1) t = .nd true (takeIn F (place k t.l) t.l (remove F k n c)) := by rw [remove, hc]
    rw [e]
    have hfl : flats (t.l.set (place k t.l) (remove F k n c : El (n + 1))) = del k (flats t.l) := by
      rw [List.set_eq_take_append_cons_drop, if_pos hi, flats_append, flats_cons, flat_succ, i1]
      conv => rhs; rw [split_at hc, flats_append, flats_cons, del_left k _ _ o1, del_right k _ _ o2, flat_succ]
    show flats (takeIn F _ _ _) = _ ∧ (∀ e ∈ takeIn F _ _ _, _) ∧ _ ≤ (takeIn F _ _ _).length + 1 ∧ (takeIn F _ _ _).length ≤ _
    unfold takeIn
    split
    · rename_i hlt
      have hset : (t.l.set (place k t.l) (remove F k n c : El (n + 1)))[place k t.l]? = some (remove F k n c : El (n + 1)) := by
        rw [List.getElem?_set_self hi]
      have hj := joined_ok hF hset rfl (by rw [List.length_set]; omega) (by omega) i2 (fun m e he hm => by
        rw [List.getElem?_set_ne (fun q => hm q.symm)] at he
        exact h.kids e (List.mem_of_getElem? he))
      rw [List.length_set, hfl] at hj
      exact hj
    · rename_i hge
      refine ⟨hfl, fun e he => ?_, by rw [List.length_set]; omega, by rw [List.length_set]; exact Nat.le_refl _⟩
      rcases List.mem_or_eq_of_mem_set he with he | rfl
      · exact h.kids e he
      · exact ⟨by show F / 2 ≤ (remove F k n c).l.length; omega, by show (remove F k n c).l.length ≤ F; omega, i2⟩
end Go.Proofs.Ytpflacbinankmaa.Bt
