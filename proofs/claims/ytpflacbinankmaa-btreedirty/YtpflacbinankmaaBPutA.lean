/-
  put, at whatever level.
-/
import Derived.Test.YtpflacbinankmaaBPutS
namespace Go.Proofs.Ytpflacbinankmaa.Bt
open Go.RowKit

/-- A node that is no leaf, opened at the place of a key. -/
theorem ctx_of {n : Nat} {F : Nat} (hF2 : F ≤ 64) {w : World} {t : En (n + 2)} (h : Lies w (n + 2) t) (hn : (foot (n + 2) t).Nodup) (hl : t.l.length ≤ F) (h0 : 0 < t.l.length) (k : K) :
    ∃ g N cap A B c, Ctx w t (place k (abs (n + 2) t).l) g N cap A B c ∧ (abs (n + 2) t).l[place k (abs (n + 2) t).l]? = some (abs (n + 1) c) := by
  have hp : place k (abs (n + 2) t).l < t.l.length := by
    have := place_lt k (abs (n + 2) t).l (by rw [abs_l, List.length_map]; exact h0)
    rwa [abs_l, List.length_map, ← abs_l] at this
  obtain ⟨c, hc⟩ : ∃ c, t.l[place k (abs (n + 2) t).l]? = some c := ⟨_, List.getElem?_eq_getElem hp⟩
  rcases h.1.own.form with ⟨_, e⟩ | ⟨g, cap, cs, hv, _⟩
  · have := congrArg List.length e; rw [List.length_map] at this; simp at this; rw [this] at h0; simp at h0
  · rw [List.length_map] at hv
    refine ⟨g, t.l.length, cap, _, _, c, ⟨h, hn, split_at hc, ?_, hv, rfl, by omega⟩, ?_⟩
    · rw [List.length_take]; omega
    · rw [abs_l, List.getElem?_map, ← abs_l, hc]; rfl
theorem put_any {F : Nat} (hF : 4 ≤ F) (hF2 : F ≤ 64) (k v : K) : ∀ n, Below1 F k v n
  | 0, c, w, h, hn, hg, hl, _ => put_leaf F k v c w h hn hg (by omega)
  | n + 1, t, w, h, hn, hg, hl, h0 => by
    obtain ⟨g, N, cap, A, B, c, x, hc⟩ := ctx_of hF2 h hn hl (h0 (by omega)) k
    have e : put F k v (n + 1) (abs (n + 2) t) = .nd true (putIn F (place k (abs (n + 2) t).l) (abs (n + 2) t).l (put F k v n (abs (n + 1) c))) := by rw [put, hc]
    rw [e]
    by_cases hC : (put F k v n (abs (n + 1) c)).l.length ≤ F
    · exact put_keep F hF hF2 k v (put_any hF hF2 k v n) w t _ g N cap A B c x hg rfl _ rfl hC
    · exact put_split F hF hF2 k v (put_any hF hF2 k v n) w t _ g N cap A B c x hg rfl _ rfl (by omega)
end Go.Proofs.Ytpflacbinankmaa.Bt
