/-
  The document's answers: Size and Mark of layer 6.
-/
import Derived.Test.YtefpcdpclpignaaKRPack2
namespace Go.Proofs.Ytefpcdpclpignaa
open Go.RowKit M

set_option maxRecDepth 10000 in
set_option maxHeartbeats 1000000 in
theorem rsize_any (n : Nd) (hk : n.key.length ≤ maxLen) (hv : n.val.length ≤ maxLen) (w : World) :
    Calls Try.prog 41 #[n.v] w fun e w' => e = .returned (.int .i64 (n.sz : Nat)) ∧ Below w.heap.size w w' := by
  unfold Nd.sz
  cases ho : n.ok
  · have hr := fun W => rpack_no n hk hv ho W
    obtain ⟨key, val, gone⟩ := n
    clear ho hk hv
    unfold Nd.v Nd.cells at hr ⊢
    dsimp only at hr ⊢
    go_enter Try.func41, Try.ntmps41
    go_wp2_with (go_at_call 35; refine (hr _).mono ?_; rintro e w1 ⟨rfl, hb⟩; have HB1 : Hid (Below w.heap.size w w1) := Below.after (below_new _ _) hb; clear hb)
    go_ret
    exact ⟨rfl, HB1.out⟩
  · obtain ⟨_, q2, q3, _⟩ := Nd.ok_le ho
    have hp := fun W => rpack_yes n ho W
    have hl := n.bytes_len
    obtain ⟨c, ec⟩ : ∃ c, c = n.bytes.length := ⟨_, rfl⟩
    obtain ⟨R, eR⟩ : ∃ R, R = n.bytes := ⟨_, rfl⟩
    rw [← ec] at hp hl
    rw [← eR] at hp
    obtain ⟨key, val, gone⟩ := n
    dsimp only at q2 q3 hl
    clear ho hk hv eR ec
    unfold Nd.v Nd.cells at hp ⊢
    dsimp only at hp ⊢
    obtain ⟨K, eK⟩ : ∃ K, K = bs key := ⟨_, rfl⟩
    obtain ⟨V, eV⟩ : ∃ V, V = bs val := ⟨_, rfl⟩
    rw [← eK, ← eV] at hp
    rw [← eK, ← eV]
    have hc : c ≤ 324 := by omega
    have e10 : 10 + key.length + val.length = 6 + c := by omega
    rw [cond_true, e10]
    clear eK eV e10 q2 q3 hl
    go_enter Try.func41, Try.ntmps41
    go_wp2_with (go_at_call 35; refine (hp _).mono ?_; rintro e w1 ⟨a, cap, rfl, _, hb⟩; have HB1 : Hid (Below w.heap.size w w1) := Below.after (below_new _ _) hb; clear hb)
    go_ret
    exact ⟨by simp, HB1.out⟩

theorem rmark_no (g : Nat) (k : Int) (h : inB k 1 16 = false) (w : World) :
    Calls Try.prog 37 #[.int .u64 (g : Int), .int .i64 k] w fun e w' => e = .returned (.tuple #[.slice none 0 0, .int .i64 22]) ∧ w = w' := by
  have h' := of_decide_eq_false h
  by_cases h1 : k < 1
  · go_enter Try.func37, Try.ntmps37
    go_wp2
    go_ret2
    exact ⟨rfl, rfl⟩
  · have d1 : decide (k < 1) = false := decide_eq_false h1
    have d2 : decide (16 < k) = true := decide_eq_true (by omega)
    clear h h' h1
    go_enter Try.func37, Try.ntmps37
    go_wp2
    go_ret2
    exact ⟨rfl, rfl⟩
theorem own_lit3 (w : World) : (w.alloc (.cells #[.int .u8 3] 5)).ownsRow w.heap.size 5 1 (.slice (some ⟨w.heap.size, 0, none⟩) 1 1) 1 [.int .u8 3] :=
  World.ownsRow_lit (e := 5) (size := 1) w #[.int .u8 3] 1 (Nat.le_refl _) (by decide) rfl

set_option maxRecDepth 10000 in
set_option maxHeartbeats 4000000 in
theorem rmark_yes (g : Nat) (hg : g < 18446744073709551616) (k : Nat) (h1 : 1 ≤ k) (h2 : k ≤ 16) (w : World) :
    Calls Try.prog 37 #[.int .u64 (g : Int), .int .i64 (k : Int)] w fun e w' => ∃ v, e = .returned (.tuple #[v, .int .i64 0]) ∧ Own w w' v (markL g k) := by
  have hp1 := fun W => ref_put g hg 8 8 rfl W
  have d1 : decide ((k : Int) < 1) = false := decide_eq_false (by omega)
  have d2 : decide (16 < (k : Int)) = false := decide_eq_false (by omega)
  have hk : (k : Int) % 256 = (k : Int) := by omega
  have HE : Hid ([] ++ [3] ++ putL 8 g ++ [k] = markL g k) := by
    show _ = _
    unfold markL putL putL
    rw [Nat.mod_eq_of_lt (show k < 256 by omega)]
  have M1 : Hid True := trivial
  clear h1 h2
  go_enter Try.func37, Try.ntmps37
  go_wp2_with (first
    | (go_at_call 73; refine (hp1 _).mono ?_; rintro e w1 ⟨v1, rfl, ho⟩; have G1 : Hid (Acc w w1 (.slice (some ⟨w.heap.size, 0, none⟩) 1 1) (0 + 1) ([] ++ [3])) := Acc.later ⟨own_lit3 w, rfl, below_new _ _⟩ ho.2; obtain ⟨a1, c1, rfl, hr1, hc1, _⟩ := own_len (putL_length 8 g) ho; have R1 : Hid (BRow w1 a1 (putL 8 g)) := hr1; have N1 : Hid (a1 = none → 8 = 0 ∧ c1 = 0) := (fun e => by subst e; rcases hr1 with h | ⟨b, off, h, _⟩; (have := congrArg List.length h; rw [putL_length] at this; cases this); cases h); clear ho hr1)
    | (at_builtin; clear M1; refine wpList_append_bytes rfl (.tmp 14) (.tmp 16) rfl w.heap.size _ (0 + 1) _ rfl G1.out.own a1 8 c1 (putL 8 g) rfl (putL_length _ _).symm R1.out N1.out (by decide) (by decide) G1.out.bel.size ?_; intro v3 w3 ho hg; have G3 : Hid (Acc w w3 v3 (0 + 1 + 8) ([] ++ [3] ++ putL 8 g)) := G1.out.app (putL_length _ _).symm ho hg; clear ho hg)
    | (at_builtin; have g5 := G3.out.later (below_new w3 (.cells #[.int .u8 (k : Int)] 5)); refine wpList_append_bytes rfl (.tmp 18) (.tmp 21) rfl w.heap.size v3 (0 + 1 + 8) _ rfl g5.own (some ⟨w3.heap.size, 0, none⟩) 1 1 [k] rfl rfl (brow_new1 w3 k) (fun h => by cases h) (by decide) (by decide) g5.bel.size ?_; intro v5 w5 ho hg; have G5 : Hid (Acc w w5 v5 (0 + 1 + 8 + 1) ([] ++ [3] ++ putL 8 g ++ [k])) := g5.app rfl ho hg; clear ho hg g5))
  go_ret2
  refine ⟨_, rfl, ?_⟩
  have h := G5.out.end
  rw [HE.out] at h
  exact h
end Go.Proofs.Ytefpcdpclpignaa
