/-
  The document's tree: Range, Next, Len.
  The document's tree: Next, New, Build.
  Nodes of unlike keys, put in either order; what Build answers, whatever comes in.
-/
import Derived.Test.YtlfgeanafidopaaRR
import Derived.Test.YtlfgeanafidopaaRB
namespace Go.Proofs.Ytlfgeanafidopaa.Bt
open Go.RowKit
set_option maxRecDepth 10000

def qR (k to : K) (x : KV) : Bool := !klt x.1 k && okT to x
theorem rng_take {k to : K} {m : Nat} {L : List KV} (hs : Srt L) : rng k to m L = (L.filter (qR k to)).take m := by
  unfold rng
  rw [takeWhile_filter (hs.sublist List.filter_sublist) okT_down, List.filter_filter]
  congr 2
  funext x
  exact Bool.and_comm _ _
theorem filt_snoc (k to : K) (A : List KV) (x : KV) : (A ++ [x]).filter (qR k to) = if qR k to x then A.filter (qR k to) ++ [x] else A.filter (qR k to) := by
  rw [List.filter_append]
  by_cases h : qR k to x
  · rw [if_pos h]; simp [h]
  · rw [if_neg h]; simp [h]
theorem filt_stop (k to : K) (L : List KV) (i M : Nat) (h : ((L.take i).filter (qR k to)).length = M) : (L.filter (qR k to)).take M = (L.take i).filter (qR k to) := by
  have e : L.filter (qR k to) = (L.take i).filter (qR k to) ++ (L.drop i).filter (qR k to) := by rw [← List.filter_append, List.take_append_drop]
  rw [e, List.take_append_of_le_length (by omega), List.take_of_length_le (by omega)]
theorem RP.nd {w : World} {acc : List KV} {vo : Value} {W : World} (h : RP w acc vo W) : NdAt W vo acc := by
  refine ⟨h.own.1, ?_⟩
  rcases h.own.2 with q | ⟨g, cap, cur, q1, q2, q3⟩
  · exact .inl q
  · exact .inr ⟨g, cap, cur, q1, Nat.zero_le _, q3⟩
theorem RP.sl {w : World} {acc : List KV} {vo : Value} {W : World} (h : RP w acc vo W) : ∃ a n c, vo = .slice a n c ∧ n = acc.length := by
  obtain ⟨a, c, e⟩ := own_slice h.own
  exact ⟨a, _, c, e, rfl⟩
set_option maxHeartbeats 8000000 in
theorem rrange_any {w : World} {r : Nat} {L : List KV} (h : RAt w r L) (hz : ∀ x ∈ L, x.1.size ≤ maxLen) (k to : K) (hk : k.size ≤ maxLen) (hto : to.size ≤ maxLen) (m : Int) (hl : L.length ≤ 1000000000) :
    Calls Try.prog 34 #[.pointer (some ⟨r, 0, none⟩), .string k, .string to, .int .i64 m] w fun e w' => ∃ v, e = .returned v ∧ NdAt w' v ((L.filter (qR k to)).take m.toNat) ∧ Below w.heap.size w w' := by
  obtain ⟨a, cap, c0, hc⟩ := h.reads
  have c00 := c0 w (Below.refl _ _)
  have HC0 : Hid (∀ X, Below w.heap.size w X → X.cell? ⟨r, 0, none⟩ = some (.slice a L.length cap)) := c0
  have HC : Hid (∀ (i : Nat) (x : KV), L[i]? = some x → ∃ g, a = some ⟨g, 0, none⟩ ∧ ∀ X, Below w.heap.size w X → X.cell? ⟨g, i * 3, none⟩ = some (.string x.1) ∧ X.cell? ⟨g, i * 3 + 1, none⟩ = some (.string x.2) ∧ X.cell? ⟨g, i * 3 + 2, none⟩ = some (.bool false)) := hc
  have HL : Hid (∀ i, i < L.length → ∃ x, L[i]? = some x) := fun i hi => ⟨_, List.getElem?_eq_getElem hi⟩
  have HL1 : Hid (∀ (i : Nat) (x : KV), L[i]? = some x → ∀ W, Calls Try.prog 43 #[.string x.1, .string k] W fun e w' => e = .returned (.bool (klt x.1 k)) ∧ ∃ q, w' = W.drewN q) := fun i x hx W => less_any (hz x (List.mem_of_getElem? hx)) hk W
  have HL2 : Hid (∀ (i : Nat) (x : KV), L[i]? = some x → ∀ W, Calls Try.prog 43 #[.string x.1, .string to] W fun e w' => e = .returned (.bool (klt x.1 to)) ∧ ∃ q, w' = W.drewN q) := fun i x hx W => less_any (hz x (List.mem_of_getElem? hx)) hto W
  have HTk : Hid (∀ (i : Nat) (x : KV), L[i]? = some x → L.take (i + 1) = L.take i ++ [x]) := fun i x hx => by rw [List.take_add_one, hx]; rfl
  obtain ⟨N, hN⟩ : ∃ N, N = L.length := ⟨_, rfl⟩
  have HN : Hid (N = L.length) := hN
  have HLen : Hid (∀ i, i ≤ N → ((L.take i).filter (qR k to)).length ≤ 1000000000) := fun i hi => by
    have : ((L.take i).filter (qR k to)).length ≤ (L.take i).length := List.length_filter_le _ _
    rw [List.length_take] at this; omega
  rw [← hN] at c00 hl HL HC0
  clear hc hN h c0 hz
  go_enter Try.func34, Try.ntmps34
  go_wp2
  go_loopg [9, 10] N (fun kx s9 s10 wr => ∃ (i : Nat) (a7 : Option Addr) (n7 c7 : Nat), i + kx = N ∧ s9 = .slice a7 n7 c7 ∧ s10 = .int .i64 (i : Nat) ∧ Hid (n7 = ((L.take i).filter (qR k to)).length) ∧ Hid (n7 ≤ m.toNat) ∧ Hid (RP w ((L.take i).filter (qR k to)) (.slice a7 n7 c7) wr))
  case atStart => exact ⟨0, none, 0, 0, by omega, rfl, rfl, (rfl : 0 = ((L.take 0).filter (qR k to)).length), (Nat.zero_le _ : 0 ≤ m.toNat), RP.zero w⟩
  case round =>
    obtain ⟨i, a7, n7, c7, hi, rfl, rfl, D, M, I⟩ := hrel
    have c0 := HC0.out wr I.out.below
    have hn7 : n7 ≤ 1000000000 := by rw [D.out]; exact HLen.out i (by omega)
    by_cases hlt : i < N
    · have hi1 : (i : Int) < (N : Int) := by omega
      by_cases hm : (n7 : Int) < m
      · obtain ⟨x, hx⟩ := HL.out i hlt
        obtain ⟨g, rfl, hcs⟩ := HC.out i x hx
        obtain ⟨q0, q1, q2⟩ := hcs wr I.out.below
        have HQ : Hid (∀ X, Below w.heap.size w X → X.cell? ⟨g, i * 3, none⟩ = some (.string x.1) ∧ X.cell? ⟨g, i * 3 + 1, none⟩ = some (.string x.2) ∧ X.cell? ⟨g, i * 3 + 2, none⟩ = some (.bool false)) := hcs
        have kL1 := HL1.out i x hx
        have kL2 := HL2.out i x hx
        have HT : Hid ((L.take (i + 1)).filter (qR k to) = if qR k to x then (L.take i).filter (qR k to) ++ [x] else (L.take i).filter (qR k to)) := by show _ = _; rw [HTk.out i x hx, filt_snoc]
        obtain ⟨xk, xv⟩ := x
        have HQx : Hid (qR k to (xk, xv) = (!klt xk k && (to.toList.isEmpty || klt xk to))) := rfl
        clear hx hcs
        have HSame : Hid (qR k to (xk, xv) = false → n7 = ((L.take (i + 1)).filter (qR k to)).length ∧ ∀ W, RP w ((L.take i).filter (qR k to)) (.slice a7 n7 c7) W → RP w ((L.take (i + 1)).filter (qR k to)) (.slice a7 n7 c7) W) := fun e => by
          rw [HT.out, e, if_neg (by decide)]
          exact ⟨D.out, fun W h => h⟩
        have HMore : Hid (qR k to (xk, xv) = true → ∀ v' W, RP w ((L.take i).filter (qR k to) ++ [(xk, xv)]) v' W → RP w ((L.take (i + 1)).filter (qR k to)) v' W ∧ ((L.take (i + 1)).filter (qR k to)).length ≤ m.toNat) := fun e v' W h => by
          rw [HT.out, e, if_pos rfl]
          refine ⟨h, ?_⟩
          rw [List.length_append, ← D.out]
          simp only [List.length_cons, List.length_nil]
          omega
        have HLb : Hid (((L.take i).filter (qR k to)).length ≤ 1000000000) := HLen.out i (by omega)
        have HI : Hid (RP w ((L.take i).filter (qR k to)) (.slice a7 n7 c7) wr) := I
        have HD : Hid (n7 = ((L.take i).filter (qR k to)).length) := D
        have HM : Hid (n7 ≤ m.toNat) := M
        generalize hacc : (L.take i).filter (qR k to) = acc at *
        clear hacc HT D M
        cases h1 : klt xk k with
        | true =>
          rw [h1] at kL1
          have HS := HSame.out (by rw [HQx.out, h1]; rfl)
          have HS1 : Hid (n7 = ((L.take (i + 1)).filter (qR k to)).length) := HS.1
          have HS2 : Hid (∀ W, RP w acc (.slice a7 n7 c7) W → RP w ((L.take (i + 1)).filter (qR k to)) (.slice a7 n7 c7) W) := HS.2
          clear HS
          go_wp2_with (go_at_call 43; refine (kL1 wr).mono ?_; rintro e W1 ⟨rfl, q, rfl⟩; have HI1 : Hid (RP w acc (.slice a7 n7 c7) (wr.drewN q)) := HI.out.later (below_drawn wr q))
          go_roundg (N - (i + 1))
          case measure => omega
          case rel => exact ⟨i + 1, a7, n7, c7, by omega, rfl, by go_num, HS1.out, HM.out, HS2.out _ HI1.out⟩
        | false =>
          rw [h1] at kL1
          have M1 : Hid True := trivial
          by_cases ht : to.toList = []
          · have ht2 : to.toList.isEmpty = true := by simp [ht]
            have hq : qR k to (xk, xv) = true := by rw [HQx.out, h1, ht2]; rfl
            have HMo := HMore.out hq
            have HMo2 : Hid (∀ v' W, RP w (acc ++ [(xk, xv)]) v' W → RP w ((L.take (i + 1)).filter (qR k to)) v' W ∧ ((L.take (i + 1)).filter (qR k to)).length ≤ m.toNat) := HMo
            clear HMo hq
            go_wp2_with (first
              | (go_at_call 43; refine (kL1 wr).mono ?_; rintro e W1 ⟨rfl, q, rfl⟩; have HI1 : Hid (RP w acc (.slice a7 n7 c7) (wr.drewN q)) := HI.out.later (below_drawn wr q))
              | (at_builtin; refine wpList_append_nds rfl (.tmp 52) (.tmp 60) rfl w.heap.size (.slice a7 n7 c7) _ acc rfl rfl (HI1.out.later (below_new (wr.drewN q) _)).own (.slice (some ⟨(wr.drewN q).heap.size, 0, none⟩) 1 1) [(xk, xv)] rfl (nd_one (wr.drewN q) (xk, xv)) (by have := HLb.out; simp; omega) ((HI1.out.later (below_new (wr.drewN q) (.cells #[.string xk, .string xv, .bool false] 54))).below.size) ?_; intro x1 W4 ho1 hg1; have HR4 : Hid (RP w ((L.take (i + 1)).filter (qR k to)) x1 W4 ∧ ((L.take (i + 1)).filter (qR k to)).length ≤ m.toNat) := HMo2.out _ _ ((HI1.out.later (below_new (wr.drewN q) _)).push ho1 hg1); obtain ⟨ax, nx, cx, ex, en⟩ := HR4.out.1.sl; subst ex; have HEN : Hid (nx = ((L.take (i + 1)).filter (qR k to)).length) := en; clear ho1 hg1 en))
            go_roundg (N - (i + 1))
            case measure => omega
            case rel => exact ⟨i + 1, ax, nx, cx, by omega, rfl, by go_num, HEN.out, (HEN.out ▸ HR4.out.2 : nx ≤ m.toNat), HR4.out.1⟩
          · have ht2 : to.toList.isEmpty = false := by simpa using ht
            have ht3 : (to.toList == []) = false := by simpa using ht
            cases h2 : klt xk to with
            | true =>
              rw [h2] at kL2
              have hq : qR k to (xk, xv) = true := by rw [HQx.out, h1, h2, Bool.or_true]; rfl
              have HMo2 : Hid (∀ v' W, RP w (acc ++ [(xk, xv)]) v' W → RP w ((L.take (i + 1)).filter (qR k to)) v' W ∧ ((L.take (i + 1)).filter (qR k to)).length ≤ m.toNat) := HMore.out hq
              clear hq
              go_wp2_with (first
                | (clear M1; go_at_call 43; refine (kL1 wr).mono ?_; rintro e W1 ⟨rfl, q, rfl⟩; have HI0 : Hid (RP w acc (.slice a7 n7 c7) (wr.drewN q)) := HI.out.later (below_drawn wr q))
                | (go_at_call 43; refine (kL2 (wr.drewN q)).mono ?_; rintro e W1 ⟨rfl, q2, rfl⟩; have HI1 : Hid (RP w acc (.slice a7 n7 c7) (wr.drewN (q + q2))) := HI.out.later (below_drawn wr (q + q2)))
                | (at_builtin; refine wpList_append_nds rfl (.tmp 52) (.tmp 60) rfl w.heap.size (.slice a7 n7 c7) _ acc rfl rfl (HI1.out.later (below_new (wr.drewN (q + q2)) _)).own (.slice (some ⟨(wr.drewN (q + q2)).heap.size, 0, none⟩) 1 1) [(xk, xv)] rfl (nd_one (wr.drewN (q + q2)) (xk, xv)) (by have := HLb.out; simp; omega) ((HI1.out.later (below_new (wr.drewN (q + q2)) (.cells #[.string xk, .string xv, .bool false] 54))).below.size) ?_; intro x1 W4 ho1 hg1; have HR4 : Hid (RP w ((L.take (i + 1)).filter (qR k to)) x1 W4 ∧ ((L.take (i + 1)).filter (qR k to)).length ≤ m.toNat) := HMo2.out _ _ ((HI1.out.later (below_new (wr.drewN (q + q2)) _)).push ho1 hg1); obtain ⟨ax, nx, cx, ex, en⟩ := HR4.out.1.sl; subst ex; have HEN : Hid (nx = ((L.take (i + 1)).filter (qR k to)).length) := en; clear ho1 hg1 en))
              go_roundg (N - (i + 1))
              case measure => omega
              case rel => exact ⟨i + 1, ax, nx, cx, by omega, rfl, by go_num, HEN.out, (HEN.out ▸ HR4.out.2 : nx ≤ m.toNat), HR4.out.1⟩
            | false =>
              rw [h2] at kL2
              have HS := HSame.out (by rw [HQx.out, h1, ht2, h2]; rfl)
              have HS1 : Hid (n7 = ((L.take (i + 1)).filter (qR k to)).length) := HS.1
              have HS2 : Hid (∀ W, RP w acc (.slice a7 n7 c7) W → RP w ((L.take (i + 1)).filter (qR k to)) (.slice a7 n7 c7) W) := HS.2
              clear HS
              go_wp2_with (first
                | (clear M1; go_at_call 43; refine (kL1 wr).mono ?_; rintro e W1 ⟨rfl, q, rfl⟩; have HI0 : Hid (RP w acc (.slice a7 n7 c7) (wr.drewN q)) := HI.out.later (below_drawn wr q))
                | (go_at_call 43; refine (kL2 (wr.drewN q)).mono ?_; rintro e W1 ⟨rfl, q2, rfl⟩; have HI1 : Hid (RP w acc (.slice a7 n7 c7) (wr.drewN (q + q2))) := HI.out.later (below_drawn wr (q + q2))))
              go_roundg (N - (i + 1))
              case measure => omega
              case rel => exact ⟨i + 1, a7, n7, c7, by omega, rfl, by go_num, HS1.out, HM.out, HS2.out _ HI1.out⟩
      · have HF : Hid ((L.filter (qR k to)).take m.toNat = (L.take i).filter (qR k to)) := filt_stop k to L i m.toNat (by rw [← D.out]; have := M.out; omega)
        have HI : Hid (RP w ((L.take i).filter (qR k to)) (.slice a7 n7 c7) wr) := I
        clear D M
        go_wp2
        go_ret
        exact ⟨_, rfl, by rw [HF.out]; exact HI.out.nd, HI.out.below⟩
    · have hin : i = N := by omega
      subst hin
      have hfull : L.take i = L := List.take_of_length_le (by have := HN.out; omega)
      have hI := I.out
      have hD := D.out
      rw [hfull] at hI hD
      have HF : Hid ((L.filter (qR k to)).take m.toNat = L.filter (qR k to)) := List.take_of_length_le (by rw [← hD]; exact M.out)
      have HI : Hid (RP w (L.filter (qR k to)) (.slice a7 n7 c7) wr) := hI
      have hi1 : ¬ (i : Int) < (i : Int) := by omega
      clear hfull hI hD D M I
      go_wp2
      go_ret
      exact ⟨_, rfl, by rw [HF.out]; exact HI.out.nd, HI.out.below⟩
set_option maxHeartbeats 400000 in
theorem rlen_any {w : World} {r : Nat} {L : List KV} (h : RAt w r L) : Calls Try.prog 15 #[.pointer (some ⟨r, 0, none⟩)] w fun e w' => e = .returned (.int .i64 ((L.length : Nat) : Int)) ∧ w = w' := by
  obtain ⟨a, cap, c0, _⟩ := h.cells
  clear h
  generalize L.length = N at *
  go_enter Try.func15, Try.ntmps15
  go_wp2
  go_ret
  exact ⟨rfl, rfl⟩
end Go.Proofs.Ytlfgeanafidopaa.Bt
namespace Go.Proofs.Ytlfgeanafidopaa.Bt
open Go.RowKit
set_option maxRecDepth 10000

theorem nxt_take {k : K} {L : List KV} {i : Nat} {x : KV} (hx : L[i]? = some x) (hn : nxt k (L.take i) = none) : nxt k (L.take (i + 1)) = if klt k x.1 then some x else none := by
  have e : L.take (i + 1) = L.take i ++ [x] := by rw [List.take_add_one, hx]; rfl
  unfold nxt at *
  rw [e, List.find?_append, hn, Option.none_or]
  cases h : klt k x.1 <;> simp [List.find?, h]
theorem nxt_pre {k : K} {L : List KV} {i : Nat} {x : KV} (h : nxt k (L.take i) = some x) : nxt k L = some x := by
  unfold nxt at *
  rw [← List.take_append_drop i L, List.find?_append, h]; rfl
/-- Next's box. -/
structure NB (w W : World) : Prop where
  n1 : Whole W w.heap.size [.string ⟨#[]⟩, .string ⟨#[]⟩, .bool false] 54
  below : Below w.heap.size w W
theorem NB.later {w W W' : World} (h : NB w W) (hb : Below W.heap.size W W') : NB w W' := ⟨h.n1.later hb, bafter h.below hb⟩
theorem NB.fill {w W W1 W2 W3 : World} (h : NB w W) {a b c : Value} (e1 : W1 = W.setCell ⟨w.heap.size, 0, none⟩ a) (e2 : W2 = W1.setCell ⟨w.heap.size, 1, none⟩ b) (e3 : W3 = W2.setCell ⟨w.heap.size, 2, none⟩ c) : Below w.heap.size w W3 ∧ Whole W3 w.heap.size [a, b, c] 54 := by
  have a1 : Whole W1 w.heap.size [a, .string ⟨#[]⟩, .bool false] 54 := by rw [e1]; exact h.n1.set (i := 0) a
  have a3 : Below w.heap.size w W1 := by rw [e1]; exact h.below.setCell (p := ⟨w.heap.size, 0, none⟩) (Nat.le_refl _) _
  clear e1
  have b1 : Whole W2 w.heap.size [a, b, .bool false] 54 := by rw [e2]; exact a1.set (i := 1) b
  have b3 : Below w.heap.size w W2 := by rw [e2]; exact a3.setCell (p := ⟨w.heap.size, 1, none⟩) (Nat.le_refl _) _
  clear e2
  subst e3
  exact ⟨b3.setCell (p := ⟨w.heap.size, 2, none⟩) (Nat.le_refl _) _, b1.set (i := 2) c⟩
set_option maxHeartbeats 4000000 in
theorem rnext_any {w : World} {r : Nat} {L : List KV} (h : RAt w r L) (hz : ∀ x ∈ L, x.1.size ≤ maxLen) (k : K) (hk : k.size ≤ maxLen) (hl : L.length ≤ 1000000000) :
    Calls Try.prog 35 #[.pointer (some ⟨r, 0, none⟩), .string k] w fun e w' => e = .returned (nxtV (nxt k L)) ∧ Below w.heap.size w w' := by
  obtain ⟨a, cap, c0, hc⟩ := h.reads
  have HC0 : Hid (∀ X, Below w.heap.size w X → X.cell? ⟨r, 0, none⟩ = some (.slice a L.length cap)) := c0
  have HC : Hid (∀ (i : Nat) (x : KV), L[i]? = some x → ∃ g, a = some ⟨g, 0, none⟩ ∧ ∀ X, Below w.heap.size w X → X.cell? ⟨g, i * 3, none⟩ = some (.string x.1) ∧ X.cell? ⟨g, i * 3 + 1, none⟩ = some (.string x.2) ∧ X.cell? ⟨g, i * 3 + 2, none⟩ = some (.bool false)) := hc
  have HL : Hid (∀ i, i < L.length → ∃ x, L[i]? = some x) := fun i hi => ⟨_, List.getElem?_eq_getElem hi⟩
  have HLess : Hid (∀ (i : Nat) (x : KV), L[i]? = some x → ∀ W, Calls Try.prog 43 #[.string k, .string x.1] W fun e w' => e = .returned (.bool (klt k x.1)) ∧ ∃ q, w' = W.drewN q) := fun i x hx W => less_any hk (hz x (List.mem_of_getElem? hx)) W
  obtain ⟨N, hN⟩ : ∃ N, N = L.length := ⟨_, rfl⟩
  have HN : Hid (N = L.length) := hN
  have HB : Hid (NB w (w.alloc (.cells #[.string ⟨#[]⟩, .string ⟨#[]⟩, .bool false] 54))) := ⟨World.alloc_heap_new w _, below_new w _⟩
  rw [← hN] at hl HL HC0
  clear hc hN h c0 hz
  go_enter Try.func35, Try.ntmps35
  go_wp2
  go_loopg [6] N (fun kx s wr => ∃ i : Nat, i + kx = N ∧ s = .int .i64 (i : Nat) ∧ Hid (NB w wr) ∧ Hid (nxt k (L.take i) = none))
  case atStart => exact ⟨0, by omega, rfl, HB.out, (rfl : nxt k (L.take 0) = none)⟩
  case round =>
    obtain ⟨i, hi, rfl, B, I⟩ := hrel
    have c0 := HC0.out wr B.out.below
    by_cases hlt : i < N
    · obtain ⟨x, hx⟩ := HL.out i hlt
      obtain ⟨g, rfl, hcs⟩ := HC.out i x hx
      obtain ⟨q0, q1, q2⟩ := hcs wr B.out.below
      have hi1 : (i : Int) < (N : Int) := by omega
      have kL := HLess.out i x hx wr
      have hnx := nxt_take hx I.out
      obtain ⟨xk, xv⟩ := x
      have HNx : Hid (nxt k (L.take (i + 1)) = if klt k xk then some (xk, xv) else none) := hnx
      clear hx hcs hnx
      cases hkx : klt k xk with
      | false =>
        rw [hkx] at kL
        have HF : Hid (nxt k (L.take (i + 1)) = none) := by show _ = _; rw [HNx.out, hkx]; rfl
        go_wp2_with (go_at_call 43; refine kL.mono ?_; rintro e W1 ⟨rfl, q, rfl⟩; have HB1 : Hid (NB w (wr.drewN q)) := B.out.later (below_drawn wr q))
        go_roundg (N - (i + 1))
        case measure => omega
        case rel => exact ⟨i + 1, by omega, by go_num, HB1.out, HF.out⟩
      | true =>
        rw [hkx] at kL
        have HF : Hid (nxt k L = some (xk, xv)) := nxt_pre (i := i + 1) (by rw [HNx.out, hkx]; rfl)
        go_wp2_with (go_at_call 43; refine kL.mono ?_; rintro e W1 ⟨rfl, q, rfl⟩; have HB1 : Hid (NB w (wr.drewN q)) := B.out.later (below_drawn wr q); have z0 : (wr.drewN q).cell? ⟨w.heap.size, 0, none⟩ = some (.string ⟨#[]⟩) := HB1.out.n1.cell; have z1 : (wr.drewN q).cell? ⟨w.heap.size, 1, none⟩ = some (.string ⟨#[]⟩) := HB1.out.n1.cell; have z2 : (wr.drewN q).cell? ⟨w.heap.size, 2, none⟩ = some (.bool false) := HB1.out.n1.cell; have f0 := HB1.out.n1.frozen 0; have f1 := HB1.out.n1.frozen 1; have f2 := HB1.out.n1.frozen 2)
        obtain ⟨W4, hW4⟩ : ∃ W4, W4 = (((wr.drewN q).setCell ⟨w.heap.size, 0, none⟩ (.string xk)).setCell ⟨w.heap.size, 1, none⟩ (.string xv)).setCell ⟨w.heap.size, 2, none⟩ (.bool false) := ⟨_, rfl⟩
        obtain ⟨y1, y2⟩ := HB1.out.fill rfl rfl hW4
        have u0 : W4.cell? ⟨w.heap.size, 0, none⟩ = some (.string xk) := y2.cell
        have u1 : W4.cell? ⟨w.heap.size, 1, none⟩ = some (.string xv) := y2.cell
        have u2 : W4.cell? ⟨w.heap.size, 2, none⟩ = some (.bool false) := y2.cell
        rw [← hW4]
        refine bodyPost_ret (v := nxtV (some (xk, xv))) ?_ rfl ⟨by rw [HF.out], y1⟩
        simp [results, Try.f35, go_sem, nxtV, nodeOf, u0, u1, u2]
    · have hin : i = N := by omega
      subst hin
      have HF : Hid (nxt k L = none) := by
        have := I.out
        rwa [List.take_of_length_le (by have := HN.out; omega)] at this
      have hi1 : ¬ (i : Int) < (i : Int) := by omega
      have z0 : wr.cell? ⟨w.heap.size, 0, none⟩ = some (.string ⟨#[]⟩) := B.out.n1.cell
      have z1 : wr.cell? ⟨w.heap.size, 1, none⟩ = some (.string ⟨#[]⟩) := B.out.n1.cell
      have z2 : wr.cell? ⟨w.heap.size, 2, none⟩ = some (.bool false) := B.out.n1.cell
      have f0 := B.out.n1.frozen 0
      have f1 := B.out.n1.frozen 1
      have f2 := B.out.n1.frozen 2
      go_wp2
      obtain ⟨W4, hW4⟩ : ∃ W4, W4 = ((wr.setCell ⟨w.heap.size, 0, none⟩ (.string ⟨#[]⟩)).setCell ⟨w.heap.size, 1, none⟩ (.string ⟨#[]⟩)).setCell ⟨w.heap.size, 2, none⟩ (.bool false) := ⟨_, rfl⟩
      obtain ⟨y1, y2⟩ := B.out.fill rfl rfl hW4
      have u0 : W4.cell? ⟨w.heap.size, 0, none⟩ = some (.string ⟨#[]⟩) := y2.cell
      have u1 : W4.cell? ⟨w.heap.size, 1, none⟩ = some (.string ⟨#[]⟩) := y2.cell
      have u2 : W4.cell? ⟨w.heap.size, 2, none⟩ = some (.bool false) := y2.cell
      rw [← hW4]
      refine bodyPost_ret (v := nxtV none) ?_ rfl ⟨by rw [HF.out], y1⟩
      simp [results, Try.f35, go_sem, nxtV, nodeOf, u0, u1, u2]
set_option maxHeartbeats 400000 in
theorem rnew_ok (F : Nat) (w : World) (h1 : 4 ≤ F) (h2 : F ≤ 64) : Calls Try.prog 29 #[.int .i64 (F : Nat)] w fun e w' => e = .returned (.tuple #[.pointer (some ⟨w.heap.size, 0, none⟩), .int .i64 0]) ∧ RAt w' w.heap.size [] ∧ Below w.heap.size w w' := by
  have g1 : ¬ (F : Int) < 4 := by omega
  have g2 : ¬ (64 : Int) < (F : Int) := by omega
  go_enter Try.func29, Try.ntmps29
  go_wp2
  go_ret2
  exact ⟨rfl, ⟨.slice none 0 0, World.alloc_heap_new w _, ⟨World.ownsRow_nil _ 0 _ 3⟩⟩, below_new w _⟩
set_option maxHeartbeats 400000 in
theorem rnew_bad (f : Int) (w : World) (h : okFan f = false) : Calls Try.prog 29 #[.int .i64 f] w fun e w' => e = .returned (.tuple #[.pointer none, .int .i64 22]) ∧ w = w' := by
  have hh : f < 4 ∨ 64 < f := by unfold okFan at h; simp at h; omega
  clear h
  by_cases h1 : f < 4
  · go_enter Try.func29, Try.ntmps29
    go_wp2
    go_ret2
    exact ⟨rfl, rfl⟩
  · have h2 : (64 : Int) < f := by omega
    go_enter Try.func29, Try.ntmps29
    go_wp2
    go_ret2
    exact ⟨rfl, rfl⟩
end Go.Proofs.Ytlfgeanafidopaa.Bt
namespace Go.Proofs.Ytlfgeanafidopaa.Bt
open Go.RowKit
set_option maxRecDepth 10000

def fine (y : Nw) : Bool := y.g || decide (putE y.k y.v = 0)
theorem bld_err (F : Nat) : ∀ (l : List Nw) (x : Tre), (bld F l x).2 = if l.all fine then 0 else 22
  | [], x => by simp [bld]
  | y :: l, x => by
    rw [bld, List.all_cons]
    cases hg : y.g with
    | true => rw [if_pos rfl, bld_err F l]; simp [fine, hg]
    | false =>
      rw [if_neg (by decide)]
      by_cases hE : putE y.k y.v = 0
      · rw [if_pos hE, bld_err F l]; simp [fine, hE]
      · rw [if_neg hE]
        have e1 : fine y = false := by simp [fine, hg, hE]
        rw [e1, Bool.false_and, if_neg (by decide)]
        show putE y.k y.v = 22
        unfold putE at hE ⊢
        split at hE
        · exact absurd rfl hE
        · rename_i q; rw [if_neg q]
theorem mem_ins (k v : K) : ∀ {l : List KV}, k ∉ l.map Prod.fst → ∀ z, z ∈ ins k v l ↔ z = (k, v) ∨ z ∈ l
  | [], _, z => by simp [ins]
  | x :: r, h, z => by
    have h1 : x.1 ≠ k := fun e => h (by simp [e])
    have h2 : k ∉ r.map Prod.fst := fun e => h (by rw [List.map_cons]; exact List.mem_cons_of_mem _ e)
    rw [ins, if_neg h1]
    split
    · rw [List.mem_cons, mem_ins k v h2 z, List.mem_cons]
      constructor
      · rintro (a | a | a) <;> simp [a]
      · rintro (a | a | a) <;> simp [a]
    · rw [List.mem_cons]
theorem srt_ext : ∀ {a b : List KV}, Srt a → Srt b → (∀ z, z ∈ a ↔ z ∈ b) → a = b
  | [], [], _, _, _ => rfl
  | [], y :: b, _, _, h => absurd ((h y).2 (by simp)) (by simp)
  | x :: a, [], _, _, h => absurd ((h x).1 (by simp)) (by simp)
  | x :: a, y :: b, ha, hb, h => by
    obtain ⟨a1, a2⟩ := List.pairwise_cons.1 ha
    obtain ⟨b1, b2⟩ := List.pairwise_cons.1 hb
    have e : x = y := by
      rcases List.mem_cons.1 ((h x).1 (by simp)) with q | q
      · exact q
      · rcases List.mem_cons.1 ((h y).2 (by simp)) with r | r
        · exact r.symm
        · have := klt_asymm (b1 x q); rw [a1 y r] at this; cases this
    subst e
    have hx : ∀ z, z ∈ a → z ≠ x := fun z hz e => by have := a1 z hz; rw [e, klt_irrefl] at this; cases this
    have hy : ∀ z, z ∈ b → z ≠ x := fun z hz e => by have := b1 z hz; rw [e, klt_irrefl] at this; cases this
    rw [srt_ext a2 b2 (fun z => ⟨fun q => ?_, fun q => ?_⟩)]
    · rcases List.mem_cons.1 ((h z).1 (List.mem_cons_of_mem _ q)) with r | r
      · exact absurd r (hx z q)
      · exact r
    · rcases List.mem_cons.1 ((h z).2 (List.mem_cons_of_mem _ q)) with r | r
      · exact absurd r (hy z q)
      · exact r
theorem look_no {k : K} {l : List KV} (h : k ∉ l.map Prod.fst) : look k l = none := by
  cases e : look k l with
  | none => rfl
  | some v => exact absurd ((look_mem k l).1 ⟨v, e⟩) h
theorem bld_mem {F : Nat} (hF : 4 ≤ F) : ∀ (l : List Nw) (x : Tre), InvT F x → l.all fine = true → l.Pairwise (fun a b => a.k ≠ b.k) → (∀ y ∈ l, y.k ∉ x.all.map Prod.fst) →
    InvT F (bld F l x).1 ∧ ∀ z, z ∈ (bld F l x).1.all ↔ z ∈ x.all ∨ ∃ y ∈ l, y.g = false ∧ z = (y.k, y.v)
  | [], x, h, _, _, _ => ⟨h, fun z => by simp [bld]⟩
  | y :: l, x, h, hf, hp, hn => by
    rw [List.all_cons, Bool.and_eq_true] at hf
    obtain ⟨f1, f2⟩ := hf
    obtain ⟨p1, p2⟩ := List.pairwise_cons.1 hp
    have hy := look_no (hn y (by simp))
    rw [bld]
    cases hg : y.g with
    | true =>
      rw [if_pos rfl]
      have e : delS F y.k x = x := by unfold delS; rw [hy, if_neg (by decide)]
      rw [e]
      obtain ⟨i1, i2⟩ := bld_mem hF l x h f2 p2 (fun z hz => hn z (by simp [hz]))
      refine ⟨i1, fun z => ?_⟩
      rw [i2 z]
      constructor
      · rintro (q | ⟨u, hu, q⟩)
        · exact .inl q
        · exact .inr ⟨u, by simp [hu], q⟩
      · rintro (q | ⟨u, hu, q⟩)
        · exact .inl q
        · rcases List.mem_cons.1 hu with r | r
          · rw [r, hg] at q; cases q.1
          · exact .inr ⟨u, r, q⟩
    | false =>
      have hE : putE y.k y.v = 0 := by simpa [fine, hg] using f1
      rw [if_neg (by decide), if_pos hE]
      have hok : (okKey y.k && okVal y.v) = true := by
        unfold putE at hE
        split at hE
        · assumption
        · exact absurd hE (by decide)
      have e : putR F y.k y.v x = putT F y.k y.v x := by unfold putR putS; rw [if_pos hok, hy, if_neg (by simp)]
      rw [e]
      obtain ⟨j1, j2⟩ := inv_put hF y.k y.v h
      have hm := mem_ins y.k y.v (hn y (by simp))
      obtain ⟨i1, i2⟩ := bld_mem hF l (putT F y.k y.v x) j1 f2 p2 (fun u hu hc => by
        rw [j2] at hc
        obtain ⟨z, hz, ez⟩ := List.mem_map.1 hc
        rcases (hm z).1 hz with q | q
        · rw [q] at ez; exact p1 u hu ez
        · exact hn u (by simp [hu]) (List.mem_map.2 ⟨z, q, ez⟩))
      refine ⟨i1, fun z => ?_⟩
      rw [i2 z, j2, hm z]
      constructor
      · rintro ((q | q) | ⟨u, hu, q⟩)
        · exact .inr ⟨y, by simp, hg, q⟩
        · exact .inl q
        · exact .inr ⟨u, by simp [hu], q⟩
      · rintro (q | ⟨u, hu, q⟩)
        · exact .inl (.inr q)
        · rcases List.mem_cons.1 hu with r | r
          · rw [r] at q; exact .inl (.inl q.2)
          · exact .inr ⟨u, r, q⟩
/-- Build's error and its entries, whatever the fan. -/
def bErr (f : Int) (l : List Nw) : Int := if okFan f then (bld f.toNat l tre0).2 else 22
def bAll (f : Int) (l : List Nw) : List KV := if bErr f l = 0 then (bld f.toNat l tre0).1.all else []
theorem bErr_eq (f : Int) (l : List Nw) : bErr f l = if okFan f && l.all fine then 0 else 22 := by
  unfold bErr
  rw [bld_err]
  cases okFan f <;> simp
theorem order_err (f : Int) (l : List Nw) : bErr f l.reverse = bErr f l := by rw [bErr_eq, bErr_eq, List.all_reverse]
theorem order_all (f : Int) {l : List Nw} (hp : l.Pairwise (fun a b => a.k ≠ b.k)) : bAll f l.reverse = bAll f l := by
  unfold bAll
  rw [order_err]
  split
  · rename_i h0
    rw [bErr_eq] at h0
    have hh : okFan f = true ∧ l.all fine = true := by
      cases h1 : okFan f <;> cases h2 : l.all fine <;> simp [h1, h2] at h0 ⊢
    have hF : 4 ≤ f.toNat := by have := hh.1; unfold okFan at this; simp at this; omega
    have e0 : ∀ y : Nw, y.k ∉ tre0.all.map Prod.fst := fun y h => by cases h
    have a := bld_mem hF l tre0 inv0 hh.2 hp (fun y _ => e0 y)
    have b := bld_mem hF l.reverse tre0 inv0 (by rw [List.all_reverse]; exact hh.2) (by rw [List.pairwise_reverse]; exact hp.imp fun h => Ne.symm h) (fun y _ => e0 y)
    refine srt_ext b.1.good.srt a.1.good.srt (fun z => ?_)
    rw [b.2 z, a.2 z]
    simp
  · rfl
/-- A tree, or none, as Build answers it. -/
def TP (w : World) (p : Option Addr) (L : List KV) : Prop := (p = none ∧ L = []) ∨ ∃ q F x fs, p = some ⟨q, 0, none⟩ ∧ Live w q F x fs ∧ x.all = L
theorem TP.later {w w' : World} {p : Option Addr} {L : List KV} (h : TP w p L) (hb : Below w.heap.size w w') : TP w' p L := by
  rcases h with h | ⟨q, F, x, fs, h1, h2, h3⟩
  · exact .inl h
  · exact .inr ⟨q, F, x, fs, h1, h2.later hb, h3⟩
theorem build_tp (f : Int) (a : Option Addr) (len cap : Nat) (l : List Nw) (w : World) (hA : NArg w a len cap l) (hsz : len < 2305843009213693000) :
    Calls Try.prog 9 #[.int .i64 f, .slice a len cap] w fun e w' => ∃ p, e = .returned (.tuple #[.pointer p, .int .i64 (bErr f l)]) ∧ TP w' p (bAll f l) ∧ Below w.heap.size w w' := by
  cases h : okFan f with
  | false =>
    have e : bErr f l = 22 := by unfold bErr; rw [h]; rfl
    refine (build_bad f a len cap w h).mono ?_
    rintro e' w' ⟨rfl, rfl⟩
    exact ⟨none, by rw [e], .inl ⟨rfl, by unfold bAll; rw [e, if_neg (by decide)]⟩, Below.refl _ _⟩
  | true =>
    obtain ⟨F, rfl, h1, h2⟩ : ∃ F : Nat, f = (F : Int) ∧ 4 ≤ F ∧ F ≤ 64 := by
      unfold okFan at h
      simp at h
      exact ⟨f.toNat, by omega, by omega, by omega⟩
    have e : bErr (F : Int) l = (bld F l tre0).2 := by unfold bErr; rw [if_pos h]; rfl
    refine (build_any F h1 h2 a len cap l w hA hsz).mono ?_
    rintro e' w' ⟨p, rfl, hb, hB⟩
    unfold bltV
    by_cases hE : (bld F l tre0).2 = 0
    · obtain ⟨fs, q1, _⟩ := (hB hE).live
      refine ⟨some ⟨p, 0, none⟩, by rw [if_pos hE, e, hE], .inr ⟨p, F, _, fs, rfl, q1, ?_⟩, hb⟩
      unfold bAll; rw [e, if_pos hE]; rfl
    · refine ⟨none, by rw [if_neg hE, e], .inl ⟨rfl, ?_⟩, hb⟩
      unfold bAll; rw [e, if_neg hE]
theorem range_tp {w : World} {p : Option Addr} {L : List KV} (h : TP w p L) (k to : K) (m : Nat) (hm : 0 < m) (hm2 : m ≤ 1099511627776) :
    Calls Try.prog 17 #[.pointer p, .string k, .string to, .int .i64 (m : Int)] w fun e w' => ∃ v, e = .returned v ∧ NdAt w' v (rng k to m L) ∧ Below w.heap.size w w' := by
  rcases h with ⟨rfl, rfl⟩ | ⟨q, F, x, fs, rfl, h2, rfl⟩
  · refine (range_nil k to m w).mono ?_
    rintro e w' ⟨rfl, hb⟩
    refine ⟨_, rfl, ⟨?_⟩, hb⟩
    have : rng k to m [] = [] := by simp [rng]
    rw [this]
    exact World.ownsRow_nil _ 0 _ 3
  · refine (h2.range k to m hm (by omega) (.inl hm2)).mono ?_
    rintro e w' ⟨v, rfl, ht⟩
    exact ⟨v, rfl, ht.at, ht.2⟩
set_option maxHeartbeats 400000 in
theorem len_nil (w : World) : Calls Try.prog 14 #[.pointer none] w fun e w' => e = .returned (.int .i64 0) ∧ w = w' := by
  go_enter Try.func14, Try.ntmps14
  go_wp2
  go_ret
  exact ⟨rfl, rfl⟩
theorem len_tp {w : World} {p : Option Addr} {L : List KV} (h : TP w p L) :
    Calls Try.prog 14 #[.pointer p] w fun e w' => e = .returned (.int .i64 ((L.length : Nat) : Int)) ∧ w = w' := by
  rcases h with ⟨rfl, rfl⟩ | ⟨q, F, x, fs, rfl, h2, rfl⟩
  · exact len_nil w
  · exact len_any h2
theorem rng_len (k to : K) (m : Nat) (L : List KV) : (rng k to m L).length ≤ m := by unfold rng; rw [List.length_take]; omega
/-- A row of nodes of any kind. -/
def nwv (y : Nw) : List Value := [.string y.k, .string y.v, .bool y.g]
theorem nwv_len (y : Nw) : (nwv y).length = 3 := rfl
theorem nwv_one (l : List Nw) : ∀ u ∈ l.flatMap nwv, u.oneCell' = true := by
  intro u hu
  obtain ⟨y, _, hy⟩ := List.mem_flatMap.1 hu
  simp only [nwv, List.mem_cons, List.not_mem_nil, or_false] at hy
  rcases hy with rfl | rfl | rfl <;> rfl
theorem nw_new (w : World) (y : Nw) : ∀ j u, (nwv y)[j]? = some u → (w.alloc (.cells #[.string y.k, .string y.v, .bool y.g] 54)).cell? ((⟨w.heap.size, 0, none⟩ : Addr).add j) = some u := by
  intro j u hj
  have hr : Whole (w.alloc (.cells #[.string y.k, .string y.v, .bool y.g] 54)) w.heap.size (nwv y) 54 := World.alloc_heap_new w _
  rw [show (⟨w.heap.size, 0, none⟩ : Addr).add j = ⟨w.heap.size, j, none⟩ by unfold Addr.add; split <;> simp_all, hr.cell]
  exact hj
theorem narg_row {base : Nat} {w : World} {a : Option Addr} {n cap : Nat} {l : List Nw} (hn : n = l.length) (h : w.ownsRow base 54 3 (.slice a n cap) n (l.flatMap nwv)) : NArg w a n cap l := by
  rcases h.2 with ⟨e, h0⟩ | ⟨g, cap', cur, e, _, hgg, hnc, hcm, hcs, htake⟩
  · cases e
    have : l = [] := List.eq_nil_of_length_eq_zero (by omega)
    subst this
    exact ⟨rfl, Nat.le_refl _, by decide, .inl rfl⟩
  · cases e
    refine ⟨hn, hnc, hcm, .inr ⟨g, 0, rfl, fun i y hy => ?_⟩⟩
    have hil := (List.getElem?_eq_some_iff.1 hy).1
    have hw : Whole w g cur.toList 54 := by unfold Whole; simpa using hgg
    have hc : ∀ j, j < 3 → w.cell? ⟨g, 0 + i * 3 + j, none⟩ = (nwv y)[j]? := fun j hj => by
      rw [hw.cell, ← flat_get nwv 3 nwv_len j hj l i y hy, ← htake, List.getElem?_take, if_pos (by omega), Nat.zero_add]
    exact ⟨hc 0 (by omega), hc 1 (by omega), hc 2 (by omega)⟩
end Go.Proofs.Ytlfgeanafidopaa.Bt
