/-
  remove, at whatever level.
-/
import Derived.Test.YtpflacbinankmaaBRemJ
import Derived.Test.YtpflacbinankmaaBPutA
namespace Go.Proofs.Ytpflacbinankmaa.Bt
open Go.RowKit

theorem remove_any {F : Nat} (hF : 4 ≤ F) (hF2 : F ≤ 64) (k : K) : ∀ n, Below2 F k n
  | 0, c, w, h, hn, hg, hl, _, hk => remove_leaf F k c w h hn hg (by omega) hk
  | n + 1, t, w, h, hn, hg, hl, h0, hk => by
    have h2 := h0 (by omega)
    obtain ⟨g, N, cap, A, B, c, x, hc⟩ := ctx_of hF2 h hn hl (by omega) k
    obtain ⟨o1, o2⟩ := located (hg.hd hF) hg.srt hc
    have hkc : k ∈ (flats (abs (n + 1) c).l).map Prod.fst := by
      rw [split_at hc, flats_append, flats_cons, flat_succ, mem_fst_append, mem_fst_append] at hk
      rcases hk with hk | hk | hk
      · exact absurd hk (not_left o1)
      · exact hk
      · exact absurd hk (not_right o2)
    have e : remove F k (n + 1) (abs (n + 2) t) = .nd true (takeIn F (place k (abs (n + 2) t).l) (abs (n + 2) t).l (remove F k n (abs (n + 1) c))) := by rw [remove, hc]
    rw [e]
    by_cases hC : F / 2 ≤ (remove F k n (abs (n + 1) c)).l.length
    · exact remove_keep F hF hF2 k (remove_any hF hF2 k n) w t _ g N cap A B c x hg rfl hkc _ rfl hC
    · exact remove_join F hF hF2 k (remove_any hF hF2 k n) w t _ g N cap A B c x hg rfl hkc _ rfl (by omega) (by rw [x.hN]; exact h2)
end Go.Proofs.Ytpflacbinankmaa.Bt
