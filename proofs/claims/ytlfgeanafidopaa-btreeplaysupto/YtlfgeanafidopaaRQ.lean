/-
  The document's tree: Put.
-/
import Derived.Test.YtlfgeanafidopaaRP
namespace Go.Proofs.Ytlfgeanafidopaa.Bt
open Go.RowKit
set_option maxRecDepth 10000

set_option maxHeartbeats 8000000 in
theorem rput_ok {w : World} {r : Nat} {L : List KV} (h : RAt w r L) (hs : Srt L) (hz : ∀ x ∈ L, x.1.size ≤ maxLen) (k v : K) (hk : k.size ≤ maxLen) (hl : L.length ≤ 1000000000) (hok : putE k v = 0) :
    Calls Try.prog 31 #[.pointer (some ⟨r, 0, none⟩), .string k, .string v] w fun e w' => e = .returned (.int .i64 0) ∧ RAt w' r (ins k v L) ∧ Kept (fun b => b = r) w w' := by
  obtain ⟨a, cap, c0, hc⟩ := h.reads
  have c00 := c0 w (Below.refl _ _)
  have HC0 : Hid (∀ X, Below w.heap.size w X → X.cell? ⟨r, 0, none⟩ = some (.slice a L.length cap)) := c0
  have HC : Hid (∀ (i : Nat) (x : KV), L[i]? = some x → ∃ g, a = some ⟨g, 0, none⟩ ∧ ∀ X, Below w.heap.size w X → X.cell? ⟨g, i * 3, none⟩ = some (.string x.1) ∧ X.cell? ⟨g, i * 3 + 1, none⟩ = some (.string x.2) ∧ X.cell? ⟨g, i * 3 + 2, none⟩ = some (.bool false)) := hc
  have HL : Hid (∀ i, i < L.length → ∃ x, L[i]? = some x) := fun i hi => ⟨_, List.getElem?_eq_getElem hi⟩
  have HLess : Hid (∀ (i : Nat) (x : KV), L[i]? = some x → ∀ W, Calls Try.prog 43 #[.string k, .string x.1] W fun e w' => e = .returned (.bool (klt k x.1)) ∧ ∃ q, w' = W.drewN q) := fun i x hx W => less_any hk (hz x (List.mem_of_getElem? hx)) W
  have HFr : Hid (∀ X : World, Below w.heap.size w X → X.frozen? ⟨r, 0, none⟩ = false) := fun X hX => by
    obtain ⟨u, h1, _⟩ := h
    exact (h1.later hX).frozen 0
  have HSt : Hid (∀ acc vo W, RP w acc vo W → RAt (W.setCell ⟨r, 0, none⟩ vo) r acc ∧ Kept (fun b => b = r) w (W.setCell ⟨r, 0, none⟩ vo)) := fun acc vo W hR => hR.store h
  have HTk : Hid (∀ (i : Nat) (x : KV), L[i]? = some x → L.take (i + 1) = L.take i ++ [x]) := fun i x hx => by rw [List.take_add_one, hx]; rfl
  have HSr : Hid (∀ (i : Nat) (x : KV), L[i]? = some x → Srt (L.take i ++ [x])) := fun i x hx => by rw [← HTk.out i x hx]; exact hs.sublist (List.take_sublist _ _)
  have HFin : Hid ((if rpDone k L then rpAcc k v L else rpAcc k v L ++ [(k, v)]) = ins k v L) := rp_fin hs
  obtain ⟨N, hN⟩ : ∃ N, N = L.length := ⟨_, rfl⟩
  have HN : Hid (N = L.length) := hN
  have HLen : Hid (∀ i, i ≤ N → (rpAcc k v (L.take i)).length ≤ 1000000002) := fun i hi => by have := rp_len k v (L.take i); rw [List.length_take] at this; omega
  rw [← hN] at c00 hl HL HC0
  have hok2 : okKey k = true ∧ okVal v = true := by
    unfold putE at hok
    split at hok
    · rename_i q; rwa [Bool.and_eq_true] at q
    · exact absurd hok (by decide)
  have hk1 : k.size ≠ 0 ∧ k.size ≤ 64 := by have := hok2.1; unfold okKey at this; rw [Bool.and_eq_true, bne_iff_ne, decide_eq_true_eq] at this; exact this
  have hv1 : v.size ≤ 256 := by have := hok2.2; unfold okVal at this; rw [decide_eq_true_eq] at this; exact this
  have k1 : ¬ (k.size : Int) = 0 := by omega
  have k2 : ((k.size : Int) == 0) = false := by simpa using k1
  have k3 : ¬ (64 : Int) < (k.size : Int) := by omega
  have k4 : ¬ (256 : Int) < (v.size : Int) := by omega
  clear hc hN h c0 hz hs hok hok2 hk1 hv1
  go_enter Try.func31, Try.ntmps31
  go_wp2
  go_loopg [7, 8, 9] N (fun kx s7 s8 s9 wr => ∃ (i : Nat) (a7 : Option Addr) (n7 c7 : Nat) (dn : Bool), i + kx = N ∧ s7 = .slice a7 n7 c7 ∧ s8 = .bool dn ∧ s9 = .int .i64 (i : Nat) ∧ Hid (dn = rpDone k (L.take i)) ∧ Hid (RP w (rpAcc k v (L.take i)) (.slice a7 n7 c7) wr))
  case atStart => exact ⟨0, none, 0, 0, false, by omega, rfl, rfl, rfl, (rfl : false = rpDone k (L.take 0)), RP.zero w⟩
  case round =>
    obtain ⟨i, a7, n7, c7, dn, hi, rfl, rfl, rfl, D, I⟩ := hrel
    have c0 := HC0.out wr I.out.below
    by_cases hlt : i < N
    · obtain ⟨x, hx⟩ := HL.out i hlt
      obtain ⟨g, rfl, hcs⟩ := HC.out i x hx
      obtain ⟨q0, q1, q2⟩ := hcs wr I.out.below
      have HQ : Hid (∀ X, Below w.heap.size w X → X.cell? ⟨g, i * 3, none⟩ = some (.string x.1) ∧ X.cell? ⟨g, i * 3 + 1, none⟩ = some (.string x.2) ∧ X.cell? ⟨g, i * 3 + 2, none⟩ = some (.bool false)) := hcs
      have kL := HLess.out i x hx
      have HT : Hid (L.take (i + 1) = L.take i ++ [x]) := HTk.out i x hx
      have HS1 : Hid (Srt (L.take i ++ [x])) := HSr.out i x hx
      have HL1 := HLen.out i (by omega)
      have HLb : Hid ((rpAcc k v (L.take i)).length ≤ 1000000002) := HL1
      have hi1 : (i : Int) < (N : Int) := by omega
      obtain ⟨xk, xv⟩ := x
      clear hx hcs HL1
      by_cases he : xk.toList = k.toList
      · have he2 : (xk.toList == k.toList) = true := by simpa using he
        have HF : Hid (dn = rpDone k (L.take (i + 1)) ∧ RP w (rpAcc k v (L.take (i + 1))) (.slice a7 n7 c7) wr) := by
          obtain ⟨e1, e2⟩ := rp_eq (k := k) (v := v) (A := L.take i) (x := (xk, xv)) (list_inj he)
          show dn = rpDone k (L.take (i + 1)) ∧ RP w (rpAcc k v (L.take (i + 1))) (.slice a7 n7 c7) wr
          rw [HT.out, e1, e2]
          exact ⟨D.out, I.out⟩
        go_wp2
        go_roundg (N - (i + 1))
        case measure => omega
        case rel => exact ⟨i + 1, a7, n7, c7, dn, by omega, rfl, rfl, by go_num, HF.out.1, HF.out.2⟩
      · have he2 : (xk.toList == k.toList) = false := by simpa using he
        have HNe : Hid (xk ≠ k) := fun e => he (by rw [e])
        cases dn with
        | true =>
          have HF : Hid (∀ v' W', RP w (rpAcc k v (L.take i) ++ [(xk, xv)]) v' W' → RP w (rpAcc k v (L.take (i + 1))) v' W') := fun v' W' hR => by
            rw [HT.out, (rp_high HS1.out HNe.out D.out.symm).1]; exact hR
          have HD : Hid (true = rpDone k (L.take (i + 1))) := by show true = _; rw [HT.out, (rp_high (v := v) HS1.out HNe.out D.out.symm).2]
          go_wp2_with (at_builtin; refine wpList_append_nds rfl (.tmp 64) (.tmp 72) rfl w.heap.size (.slice a7 n7 c7) _ (rpAcc k v (L.take i)) rfl rfl (I.out.later (below_new wr _)).own (.slice (some ⟨wr.heap.size, 0, none⟩) 1 1) [(xk, xv)] rfl (nd_one wr (xk, xv)) (by have := HLb.out; simp; omega) ((I.out.later (below_new wr (.cells #[.string xk, .string xv, .bool false] 54))).below.size) ?_; intro x1 W4 ho1 hg1; have HR4 : Hid (RP w (rpAcc k v (L.take (i + 1))) x1 W4) := HF.out _ _ ((I.out.later (below_new wr _)).push ho1 hg1); obtain ⟨ax, nx, cx, ex⟩ := HR4.out.slice; subst ex; clear ho1 hg1)
          go_roundg (N - (i + 1))
          case measure => omega
          case rel => exact ⟨i + 1, ax, nx, cx, true, by omega, rfl, rfl, by go_num, HD.out, HR4.out⟩
        | false =>
          cases hkx : klt k xk with
          | true =>
            rw [hkx] at kL
            have HF : Hid (∀ v' W', RP w (rpAcc k v (L.take i) ++ [(k, v)] ++ [(xk, xv)]) v' W' → RP w (rpAcc k v (L.take (i + 1))) v' W') := fun v' W' hR => by
              rw [HT.out, (rp_new (v := v) (x := (xk, xv)) HNe.out D.out.symm hkx).1]; exact hR
            have HD : Hid (true = rpDone k (L.take (i + 1))) := by show true = _; rw [HT.out, (rp_new (v := v) (x := (xk, xv)) HNe.out D.out.symm hkx).2]
            have A1 : Hid True := trivial
            go_wp2_with (first
              | (go_at_call 43; refine (kL wr).mono ?_; rintro e W1 ⟨rfl, q, rfl⟩; have HI1 : Hid (RP w (rpAcc k v (L.take i)) (.slice a7 n7 c7) (wr.drewN q)) := I.out.later (below_drawn wr q))
              | (at_builtin; clear A1; refine wpList_append_nds rfl (.tmp 58) (.tmp 62) rfl w.heap.size (.slice a7 n7 c7) _ (rpAcc k v (L.take i)) rfl rfl (HI1.out.later (below_new (wr.drewN q) _)).own (.slice (some ⟨(wr.drewN q).heap.size, 0, none⟩) 1 1) [(k, v)] rfl (nd_one (wr.drewN q) (k, v)) (by have := HLb.out; simp; omega) ((HI1.out.later (below_new (wr.drewN q) (.cells #[.string k, .string v, .bool false] 54))).below.size) ?_; intro x1 W4 ho1 hg1; have HR4 : Hid (RP w (rpAcc k v (L.take i) ++ [(k, v)]) x1 W4) := ((HI1.out.later (below_new (wr.drewN q) _)).push ho1 hg1); obtain ⟨ax, nx, cx, ex⟩ := HR4.out.slice; subst ex; obtain ⟨r0, r1, r2⟩ := HQ.out W4 HR4.out.below; have c4 := HC0.out W4 HR4.out.below; clear ho1 hg1)
              | (at_builtin; refine wpList_append_nds rfl (.tmp 64) (.tmp 72) rfl w.heap.size (.slice ax nx cx) _ (rpAcc k v (L.take i) ++ [(k, v)]) rfl rfl (HR4.out.later (below_new W4 _)).own (.slice (some ⟨W4.heap.size, 0, none⟩) 1 1) [(xk, xv)] rfl (nd_one W4 (xk, xv)) (by have := HLb.out; simp; omega) ((HR4.out.later (below_new W4 (.cells #[.string xk, .string xv, .bool false] 54))).below.size) ?_; intro x5 W5 ho5 hg5; have HR5 : Hid (RP w (rpAcc k v (L.take (i + 1))) x5 W5) := HF.out _ _ ((HR4.out.later (below_new W4 _)).push ho5 hg5); obtain ⟨ay, ny, cy, ey⟩ := HR5.out.slice; subst ey; clear ho5 hg5))
            go_roundg (N - (i + 1))
            case measure => omega
            case rel => exact ⟨i + 1, ay, ny, cy, true, by omega, rfl, rfl, by go_num, HD.out, HR5.out⟩
          | false =>
            rw [hkx] at kL
            have HF : Hid (∀ v' W', RP w (rpAcc k v (L.take i) ++ [(xk, xv)]) v' W' → RP w (rpAcc k v (L.take (i + 1))) v' W') := fun v' W' hR => by
              rw [HT.out, (rp_low (v := v) (x := (xk, xv)) HNe.out D.out.symm hkx).1]; exact hR
            have HD : Hid (false = rpDone k (L.take (i + 1))) := by show false = _; rw [HT.out, (rp_low (v := v) (x := (xk, xv)) HNe.out D.out.symm hkx).2]
            go_wp2_with (first
              | (go_at_call 43; refine (kL wr).mono ?_; rintro e W1 ⟨rfl, q, rfl⟩; have HI1 : Hid (RP w (rpAcc k v (L.take i)) (.slice a7 n7 c7) (wr.drewN q)) := I.out.later (below_drawn wr q))
              | (at_builtin; refine wpList_append_nds rfl (.tmp 64) (.tmp 72) rfl w.heap.size (.slice a7 n7 c7) _ (rpAcc k v (L.take i)) rfl rfl (HI1.out.later (below_new (wr.drewN q) _)).own (.slice (some ⟨(wr.drewN q).heap.size, 0, none⟩) 1 1) [(xk, xv)] rfl (nd_one (wr.drewN q) (xk, xv)) (by have := HLb.out; simp; omega) ((HI1.out.later (below_new (wr.drewN q) (.cells #[.string xk, .string xv, .bool false] 54))).below.size) ?_; intro x1 W4 ho1 hg1; have HR4 : Hid (RP w (rpAcc k v (L.take (i + 1))) x1 W4) := HF.out _ _ ((HI1.out.later (below_new (wr.drewN q) _)).push ho1 hg1); obtain ⟨ax, nx, cx, ex⟩ := HR4.out.slice; subst ex; clear ho1 hg1))
            go_roundg (N - (i + 1))
            case measure => omega
            case rel => exact ⟨i + 1, ax, nx, cx, false, by omega, rfl, rfl, by go_num, HD.out, HR4.out⟩
    · have hin : i = N := by omega
      subst hin
      have hfull : L.take i = L := List.take_of_length_le (by have := HN.out; omega)
      have hI := I.out
      have hD := D.out
      rw [hfull] at hI hD
      have HLb : Hid ((rpAcc k v L).length ≤ 1000000002) := by have := HLen.out i (Nat.le_refl _); rwa [hfull] at this
      have HI2 : Hid (RP w (rpAcc k v L) (.slice a7 n7 c7) wr) := hI
      have hi1 : ¬ (i : Int) < (i : Int) := by omega
      have hfz := HFr.out wr I.out.below
      have HD2 : Hid (dn = rpDone k L) := hD
      clear hfull I D hD hI
      cases dn with
      | true =>
        have HF : Hid (RAt (wr.setCell ⟨r, 0, none⟩ (.slice a7 n7 c7)) r (ins k v L) ∧ Kept (fun b => b = r) w (wr.setCell ⟨r, 0, none⟩ (.slice a7 n7 c7))) := by
          have := HSt.out _ _ _ HI2.out
          have e := HFin.out
          rw [← HD2.out, if_pos rfl] at e
          rwa [e] at this
        go_wp2
        go_ret
        exact ⟨rfl, HF.out⟩
      | false =>
        have HF : Hid (∀ vo W, RP w (rpAcc k v L ++ [(k, v)]) vo W → RAt (W.setCell ⟨r, 0, none⟩ vo) r (ins k v L) ∧ Kept (fun b => b = r) w (W.setCell ⟨r, 0, none⟩ vo)) := fun vo W hR => by
          have := HSt.out _ _ _ hR
          have e := HFin.out
          rw [← HD2.out, if_neg (by decide)] at e
          rwa [e] at this
        go_wp2_with (at_builtin; refine wpList_append_nds rfl (.tmp 76) (.tmp 80) rfl w.heap.size (.slice a7 n7 c7) _ (rpAcc k v L) rfl rfl (HI2.out.later (below_new wr _)).own (.slice (some ⟨wr.heap.size, 0, none⟩) 1 1) [(k, v)] rfl (nd_one wr (k, v)) (by have := HLb.out; simp; omega) ((HI2.out.later (below_new wr (.cells #[.string k, .string v, .bool false] 54))).below.size) ?_; intro x1 W4 ho1 hg1; have HR4 : Hid (RP w (rpAcc k v L ++ [(k, v)]) x1 W4) := ((HI2.out.later (below_new wr _)).push ho1 hg1); obtain ⟨ax, nx, cx, ex⟩ := HR4.out.slice; subst ex; have c4 := HC0.out W4 HR4.out.below; have f4 := HFr.out W4 HR4.out.below; clear ho1 hg1)
        go_ret
        exact ⟨rfl, HF.out _ _ HR4.out⟩
end Go.Proofs.Ytlfgeanafidopaa.Bt
