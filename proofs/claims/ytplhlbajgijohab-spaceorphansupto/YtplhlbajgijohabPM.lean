/-
  What nodes cost: sums that stop, lists of nodes to which groups are done, maps that hold what each costs.
-/
import Derived.Test.YtplhlbajgijohabKEnt
import Derived.Maps.Ext
import Derived.Maps.RangeWalk
namespace Go.Proofs.Ytplhlbajgijohab
open Go.RowKit

abbrev KK := ByteArray
/-- A node of a list: its key, its value, whether it is gone. -/
structure Nw where
  k : KK
  v : KK
  g : Bool
/-- What a node costs. -/
def cst (k v : KK) : Nat := 64 + 2 * k.size + v.size
def Nw.c (x : Nw) : Nat := cst x.k x.v
/-- Where sums of many stop. -/
def top : Nat := 4611686018427387904
/-- A sum that stops. -/
def sumF (most : Nat) : Nat → List Nat → Nat
  | t, [] => t
  | t, n :: l => if most - t < n then most else sumF most (t + n) l
theorem sumF_eq {most : Nat} : ∀ {l : List Nat} {t : Nat}, t ≤ most → sumF most t l = min most (t + l.sum)
  | [], t, h => by simp [sumF]; omega
  | n :: l, t, h => by
    unfold sumF
    split
    · simp only [List.sum_cons]; omega
    · rw [sumF_eq (by omega)]; simp only [List.sum_cons]; omega
/-- What the nodes of a list that are not gone cost together. -/
def allC (l : List Nw) : Nat := ((l.filter fun x => !x.g).map Nw.c).sum
theorem allC_snoc (l : List Nw) (x : Nw) : allC (l ++ [x]) = allC l + (if x.g then 0 else x.c) := by
  unfold allC
  rw [List.filter_append, List.map_append, List.sum_append]
  cases h : x.g <;> simp [h]
theorem allC_app (l m : List Nw) : allC (l ++ m) = allC l + allC m := by
  unfold allC
  rw [List.filter_append, List.map_append, List.sum_append]
theorem min_min (a b : Nat) : min top (min top a + b) = min top (a + b) := by omega
def nodesF (l : List Nw) : Nat := min top (allC l)
theorem nodesF_le (l : List Nw) : nodesF l ≤ top := Nat.min_le_left _ _

/-- A map with a node more, or less. -/
def inL (m : List Nw) (n : Nw) : List Nw := (m.filter fun x => decide (x.k ≠ n.k)) ++ (if n.g then [] else [n])
def doneL (m g : List Nw) : List Nw := g.foldl inL m
theorem doneL_snoc (m g : List Nw) (n : Nw) : doneL m (g ++ [n]) = inL (doneL m g) n := by simp [doneL, List.foldl_append]
theorem inL_live {m : List Nw} (h : ∀ x ∈ m, x.g = false) (n : Nw) : ∀ x ∈ inL m n, x.g = false := by
  intro x hx
  rcases List.mem_append.1 hx with hx | hx
  · exact h x (List.mem_filter.1 hx).1
  · cases hg : n.g with
    | true => rw [hg] at hx; simp at hx
    | false => rw [hg] at hx; simp at hx; rw [hx]; exact hg
theorem doneL_live : ∀ (g : List Nw) {m : List Nw}, (∀ x ∈ m, x.g = false) → ∀ x ∈ doneL m g, x.g = false
  | [], _, h => h
  | n :: g, _, h => doneL_live g (inL_live h n)
theorem allC_live {l : List Nw} (h : ∀ x ∈ l, x.g = false) : allC l = (l.map Nw.c).sum := by
  unfold allC
  rw [List.filter_eq_self.2 (fun x hx => by rw [h x hx]; rfl)]
theorem inL_apart {m : List Nw} (h : m.Pairwise fun x y => x.k ≠ y.k) (n : Nw) : (inL m n).Pairwise fun x y => x.k ≠ y.k := by
  unfold inL
  refine List.pairwise_append.2 ⟨h.filter _, ?_, ?_⟩
  · cases n.g <;> simp
  · intro x hx y hy
    have h1 := (List.mem_filter.1 hx).2
    cases hg : n.g with
    | true => rw [hg] at hy; simp at hy
    | false => rw [hg] at hy; simp at hy; subst hy; simpa using h1
theorem doneL_apart : ∀ (g : List Nw) {m : List Nw}, (m.Pairwise fun x y => x.k ≠ y.k) → (doneL m g).Pairwise fun x y => x.k ≠ y.k
  | [], _, h => h
  | n :: g, _, h => doneL_apart g (inL_apart h n)
theorem doneL_app (m g h : List Nw) : doneL m (g ++ h) = doneL (doneL m g) h := by simp [doneL, List.foldl_append]

/-- A text as a map's key. -/
def keyL (s : KK) : Lit := .string s.data.toList
theorem keyL_inj {s t : KK} (h : keyL s = keyL t) : s = t := by
  cases s; cases t; simp [keyL] at h; rw [h]
theorem keyL_same (s t : KK) : (keyL s).sameKey (keyL t) = decide (s = t) := by
  by_cases h : s = t
  · subst h; rw [decide_eq_true rfl]; exact Go.WideAt.sameKey_self (by trivial)
  · rw [decide_eq_false h]; exact Maps.sameKey_ne (fun e => h (keyL_inj e))

/-- The map D holds what each node of m costs. -/
structure MapOf {H : Type} (D : DataW H) (m : List Nw) : Prop where
  isMap : Maps.IsMap D
  has : ∀ k : KK, Maps.has D (keyL k) = m.any fun x => decide (x.k = k)
  at_ : ∀ x ∈ m, ∀ z, D.atKey (keyL x.k) z = .lit (.int .i64 (x.c : Nat))
  apart : m.Pairwise fun x y => x.k ≠ y.k
theorem mapOf_nil {H : Type} : MapOf (.map [] : DataW H) [] := ⟨Maps.isMap_empty, fun k => rfl, fun x hx => by simp at hx, List.Pairwise.nil⟩
theorem MapOf.put {H : Type} {D : DataW H} {m : List Nw} (h : MapOf D m) (n : Nw) (hg : n.g = false) : MapOf (D.put (keyL n.k) (.lit (.int .i64 (n.c : Nat)))) (inL m n) where
  isMap := h.isMap.put _ _
  has := fun k => by
    unfold inL
    rw [hg]
    by_cases e : k = n.k
    · subst e
      rw [Maps.has_put_same h.isMap (by trivial)]
      simp
    · rw [Maps.has_put_other (fun q => e (keyL_inj q)), h.has, Bool.eq_iff_iff]
      simp only [List.any_eq_true, decide_eq_true_eq, List.mem_append, List.mem_filter, Bool.false_eq_true, if_false, List.mem_singleton]
      constructor
      · rintro ⟨x, hx, rfl⟩; exact ⟨x, .inl ⟨hx, e⟩, rfl⟩
      · rintro ⟨x, hx | rfl, rfl⟩
        · exact ⟨x, hx.1, rfl⟩
        · exact absurd rfl e
  at_ := fun x hx z => by
    unfold inL at hx
    rw [hg] at hx
    simp only [List.mem_append, List.mem_filter, decide_eq_true_eq, Bool.false_eq_true, if_false, List.mem_singleton] at hx
    rcases hx with ⟨hx, hne⟩ | rfl
    · rw [Maps.atKey_put_other (fun q => hne (keyL_inj q))]; exact h.at_ x hx z
    · exact Maps.atKey_put_same h.isMap (by trivial) _ _
  apart := inL_apart h.apart n
theorem MapOf.del {H : Type} {D : DataW H} {m : List Nw} (h : MapOf D m) (n : Nw) (hg : n.g = true) : MapOf (D.del (keyL n.k)) (inL m n) where
  isMap := h.isMap.del _
  has := fun k => by
    unfold inL
    rw [hg]
    by_cases e : k = n.k
    · subst e
      rw [Maps.has_del_same]
      simp
    · rw [Maps.has_del_other (fun q => e (keyL_inj q)), h.has, Bool.eq_iff_iff]
      simp only [List.any_eq_true, decide_eq_true_eq, List.mem_append, List.mem_filter, if_true, List.not_mem_nil, or_false]
      constructor
      · rintro ⟨x, hx, rfl⟩; exact ⟨x, ⟨hx, e⟩, rfl⟩
      · rintro ⟨x, hx, rfl⟩; exact ⟨x, hx.1, rfl⟩
  at_ := fun x hx z => by
    unfold inL at hx
    rw [hg] at hx
    simp only [List.mem_append, List.mem_filter, decide_eq_true_eq, if_true, List.not_mem_nil, or_false] at hx
    rw [Maps.atKey_del_other (fun q => hx.2 (keyL_inj q))]
    exact h.at_ x hx.1 z
  apart := inL_apart h.apart n

/-- What those nodes cost that the loop has met. -/
def metC (left : Lit → Bool) (m : List Nw) : Nat := ((m.filter fun x => !left (keyL x.k)).map Nw.c).sum
theorem met_none {left : Lit → Bool} {m : List Nw} (h : ∀ x ∈ m, left (keyL x.k) = true) : metC left m = 0 := by
  unfold metC
  rw [List.filter_eq_nil_iff.2 (fun x hx => by rw [h x hx]; simp)]
  rfl
theorem met_all {left : Lit → Bool} {m : List Nw} (h : ∀ k, left k = false) : metC left m = (m.map Nw.c).sum := by
  unfold metC
  rw [List.filter_eq_self.2 (fun x _ => by rw [h]; rfl)]
theorem met_same {left : Lit → Bool} {x : Nw} : ∀ {m : List Nw}, (∀ y ∈ m, y.k ≠ x.k) → metC (fun z => left z && !z.sameKey (keyL x.k)) m = metC left m
  | [], _ => rfl
  | y :: m, h => by
    have ih := met_same (left := left) (m := m) (x := x) fun z hz => h z (List.mem_cons_of_mem _ hz)
    unfold metC at ih ⊢
    have e : (keyL y.k).sameKey (keyL x.k) = false := by rw [keyL_same]; exact decide_eq_false (h y (List.mem_cons_self ..))
    simp only [List.filter_cons, e, Bool.not_false, Bool.and_true]
    cases left (keyL y.k)
    · simp only [Bool.not_false, if_true, List.map_cons, List.sum_cons, ih]
    · simp only [Bool.not_true, Bool.false_eq_true, if_false, ih]
theorem met_step {left : Lit → Bool} {x : Nw} : ∀ {m : List Nw}, (m.Pairwise fun x y => x.k ≠ y.k) → x ∈ m → left (keyL x.k) = true → metC (fun z => left z && !z.sameKey (keyL x.k)) m = metC left m + x.c
  | [], _, h, _ => by simp at h
  | y :: m, hp, h, hl => by
    obtain ⟨p1, p2⟩ := List.pairwise_cons.1 hp
    rcases List.mem_cons.1 h with rfl | hm
    · have ih := met_same (left := left) (m := m) (x := x) fun z hz => (p1 z hz).symm
      unfold metC at ih ⊢
      have e : (keyL x.k).sameKey (keyL x.k) = true := by rw [keyL_same]; exact decide_eq_true rfl
      simp only [List.filter_cons, e, hl, Bool.not_true, Bool.and_false, Bool.not_false, if_true, Bool.false_eq_true, if_false, List.map_cons, List.sum_cons, ih]
      omega
    · have ih := met_step p2 hm hl
      unfold metC at ih ⊢
      have e : (keyL y.k).sameKey (keyL x.k) = false := by rw [keyL_same]; exact decide_eq_false (p1 x hm)
      simp only [List.filter_cons, e, Bool.not_false, Bool.and_true]
      cases left (keyL y.k)
      · simp only [Bool.not_false, if_true, List.map_cons, List.sum_cons, ih]; omega
      · simp only [Bool.not_true, Bool.false_eq_true, if_false, ih]
/-- What a key that is still to come costs. -/
theorem MapOf.of_has {H : Type} {D : DataW H} {m : List Nw} (h : MapOf D m) {k : KK} (hk : Maps.has D (keyL k) = true) : ∃ x ∈ m, x.k = k := by
  rw [h.has] at hk
  obtain ⟨x, hx, e⟩ := List.any_eq_true.1 hk
  exact ⟨x, hx, of_decide_eq_true e⟩
theorem MapOf.start {H : Type} {D : DataW H} {m : List Nw} (h : MapOf D m) : metC (Maps.has D) m = 0 :=
  met_none fun x hx => by rw [h.has]; exact List.any_eq_true.2 ⟨x, hx, decide_eq_true rfl⟩
end Go.Proofs.Ytplhlbajgijohab
