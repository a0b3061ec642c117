/-
  Range of a list: parts of a range, one behind the other.
-/
import Derived.Test.YtpflacbinankmaaBSeq
namespace Go.Proofs.Ytpflacbinankmaa.Bt

theorem takeWhile_filter {q : KV → Bool} : ∀ {M : List KV}, Srt M → (∀ x y : KV, klt x.1 y.1 = true → q y = true → q x = true) → M.takeWhile q = M.filter q
  | [], _, _ => rfl
  | x :: M, h, hq => by
    obtain ⟨h1, h2⟩ := List.pairwise_cons.1 h
    cases hx : q x with
    | true => rw [List.takeWhile_cons_of_pos hx, List.filter_cons_of_pos hx, takeWhile_filter h2 hq]
    | false =>
      rw [List.takeWhile_cons_of_neg (by simp [hx]), List.filter_cons_of_neg (by simp [hx])]
      exact (List.filter_eq_nil_iff.2 fun y hy hqy => by rw [hq x y (h1 y hy) hqy] at hx; cases hx).symm
theorem okT_down {to : K} (x y : KV) (h : klt x.1 y.1 = true) (hy : okT to y = true) : okT to x = true := by
  unfold okT at *
  cases he : to.toList.isEmpty with
  | true => rfl
  | false => rw [he] at hy; exact klt_trans h hy
/-- What Range tells of a sorted list, where it may tell all. -/
theorem rng_filter {k to : K} {m : Nat} {L : List KV} (hs : Srt L) (hm : L.length ≤ m) : rng k to m L = L.filter fun x => !klt x.1 k && okT to x := by
  unfold rng
  rw [takeWhile_filter (hs.sublist List.filter_sublist) okT_down, List.filter_filter, List.take_of_length_le (Nat.le_trans (List.length_filter_le _ _) hm)]
  congr 1
  funext x
  exact Bool.and_comm _ _
theorem filter_parts {k at_ to : K} (h1 : klt at_ k = false) (ha : at_.toList.isEmpty = false) (h2 : to.toList.isEmpty = true ∨ klt to at_ = false) : ∀ {L : List KV}, Srt L →
    (L.filter fun x => !klt x.1 k && okT at_ x) ++ (L.filter fun x => !klt x.1 at_ && okT to x) = L.filter fun x => !klt x.1 k && okT to x
  | [], _ => rfl
  | x :: L, h => by
    obtain ⟨g1, g2⟩ := List.pairwise_cons.1 h
    have ok1 : ∀ y : KV, okT at_ y = klt y.1 at_ := fun y => by unfold okT; rw [ha]; rfl
    cases hx : klt x.1 at_ with
    | true =>
      have hto : okT to x = true := by
        unfold okT
        rcases h2 with q | q
        · rw [q]; rfl
        · rw [klt_of_le hx q, Bool.or_true]
      have e := filter_parts h1 ha h2 g2
      rw [List.filter_cons_of_neg (l := L) (p := fun x => !klt x.1 at_ && okT to x) (by simp [hx])]
      cases hk : klt x.1 k with
      | true => rw [List.filter_cons_of_neg (by simp [hk]), List.filter_cons_of_neg (by simp [hk])]; exact e
      | false => rw [List.filter_cons_of_pos (by simp [hk, ok1, hx]), List.filter_cons_of_pos (by simp [hk, hto]), List.cons_append, e]
    | false =>
      have hall : ∀ y ∈ x :: L, klt y.1 at_ = false := by
        intro y hy
        rcases List.mem_cons.1 hy with rfl | hy
        · exact hx
        · cases hc : klt y.1 at_ with
          | false => rfl
          | true => have := klt_trans (g1 y hy) hc; rw [hx] at this; cases this
      have hall2 : ∀ y ∈ x :: L, klt y.1 k = false := by
        intro y hy
        cases hc : klt y.1 k with
        | false => rfl
        | true =>
          have := klt_of_le hc h1
          rw [hall y hy] at this; cases this
      rw [List.filter_eq_nil_iff.2 (fun y hy => by rw [ok1, hall y hy]; simp), List.nil_append]
      exact List.filter_congr fun y hy => by rw [hall y hy, hall2 y hy]
theorem rng_parts {k at_ to : K} {m : Nat} {L : List KV} (hs : Srt L) (hm : L.length ≤ m) (h1 : klt at_ k = false) (ha : at_.toList.isEmpty = false) (h2 : to.toList.isEmpty = true ∨ klt to at_ = false) : rng k at_ m L ++ rng at_ to m L = rng k to m L := by
  rw [rng_filter hs hm, rng_filter hs hm, rng_filter hs hm]
  exact filter_parts h1 ha h2 hs
end Go.Proofs.Ytpflacbinankmaa.Bt
