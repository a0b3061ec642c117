/-
  The document's tree: Put that refuses, Delete, Range, Next, Len.
-/
import Derived.Test.YtlfgeanafidopaaRQ
namespace Go.Proofs.Ytlfgeanafidopaa.Bt
open Go.RowKit
set_option maxRecDepth 10000

set_option maxHeartbeats 2000000 in
theorem rput_bad (r : Nat) (k v : K) (w : World) (hbad : putE k v ≠ 0) :
    Calls Try.prog 31 #[.pointer (some ⟨r, 0, none⟩), .string k, .string v] w fun e w' => e = .returned (.int .i64 22) ∧ w = w' := by
  have hb : ¬ (k.size ≠ 0 ∧ k.size ≤ 64 ∧ v.size ≤ 256) := fun ⟨a, b, c⟩ => hbad (by
    unfold putE okKey okVal
    rw [if_pos]
    rw [Bool.and_eq_true, Bool.and_eq_true, bne_iff_ne, decide_eq_true_eq, decide_eq_true_eq]
    exact ⟨⟨a, b⟩, c⟩)
  clear hbad
  by_cases h1 : (k.size : Int) = 0
  · have h2 : ((k.size : Int) == 0) = true := by simpa using h1
    go_enter Try.func31, Try.ntmps31
    go_wp2
    go_ret
    exact ⟨rfl, rfl⟩
  · have h2 : ((k.size : Int) == 0) = false := by simpa using h1
    by_cases h3 : (64 : Int) < (k.size : Int)
    · go_enter Try.func31, Try.ntmps31
      go_wp2
      go_ret
      exact ⟨rfl, rfl⟩
    · have h4 : (256 : Int) < (v.size : Int) := by omega
      go_enter Try.func31, Try.ntmps31
      go_wp2
      go_ret
      exact ⟨rfl, rfl⟩
set_option maxHeartbeats 8000000 in
theorem rdel_any {w : World} {r : Nat} {L : List KV} (h : RAt w r L) (k : K) (hl : L.length ≤ 1000000000) :
    Calls Try.prog 30 #[.pointer (some ⟨r, 0, none⟩), .string k] w fun e w' => e = .returned (.bool (look k L).isSome) ∧ RAt w' r (if (look k L).isSome then del k L else L) ∧ Kept (fun b => b = r) w w' := by
  obtain ⟨a, cap, c0, hc⟩ := h.reads
  have c00 := c0 w (Below.refl _ _)
  have kG := rget_any h k hl
  have HC0 : Hid (∀ X, Below w.heap.size w X → X.cell? ⟨r, 0, none⟩ = some (.slice a L.length cap)) := c0
  have HC : Hid (∀ (i : Nat) (x : KV), L[i]? = some x → ∃ g, a = some ⟨g, 0, none⟩ ∧ ∀ X, Below w.heap.size w X → X.cell? ⟨g, i * 3, none⟩ = some (.string x.1) ∧ X.cell? ⟨g, i * 3 + 1, none⟩ = some (.string x.2) ∧ X.cell? ⟨g, i * 3 + 2, none⟩ = some (.bool false)) := hc
  have HL : Hid (∀ i, i < L.length → ∃ x, L[i]? = some x) := fun i hi => ⟨_, List.getElem?_eq_getElem hi⟩
  have HFr : Hid (∀ X : World, Below w.heap.size w X → X.frozen? ⟨r, 0, none⟩ = false) := fun X hX => by
    obtain ⟨u, h1, _⟩ := h
    exact (h1.later hX).frozen 0
  have HSt : Hid (∀ acc vo W, RP w acc vo W → RAt (W.setCell ⟨r, 0, none⟩ vo) r acc ∧ Kept (fun b => b = r) w (W.setCell ⟨r, 0, none⟩ vo)) := fun acc vo W hR => hR.store h
  have HTk : Hid (∀ (i : Nat) (x : KV), L[i]? = some x → L.take (i + 1) = L.take i ++ [x]) := fun i x hx => by rw [List.take_add_one, hx]; rfl
  have HRA : Hid (RAt w r L) := h
  obtain ⟨N, hN⟩ : ∃ N, N = L.length := ⟨_, rfl⟩
  have HN : Hid (N = L.length) := hN
  have HLen : Hid (∀ i, i ≤ N → (del k (L.take i)).length ≤ 1000000002) := fun i hi => by
    have : (del k (L.take i)).length ≤ (L.take i).length := List.length_filter_le _ _
    rw [List.length_take] at this; omega
  rw [← hN] at c00 hl HL HC0
  cases hlk : look k L with
  | none =>
    rw [hlk] at kG
    have kG2 : Calls Try.prog 33 #[.pointer (some ⟨r, 0, none⟩), .string k] w fun e w' => e = .returned (.tuple #[.string ⟨#[]⟩, .bool false]) ∧ w = w' := kG
    clear hc hN h c0 kG hlk
    go_enter Try.func30, Try.ntmps30
    go_wp2_with (go_at_call 33; refine kG2.mono ?_; rintro e w' ⟨rfl, rfl⟩)
    go_ret
    exact ⟨rfl, HRA.out, Kept.refl _ _⟩
  | some v0 =>
    rw [hlk] at kG
    have kG2 : Calls Try.prog 33 #[.pointer (some ⟨r, 0, none⟩), .string k] w fun e w' => e = .returned (.tuple #[.string v0, .bool true]) ∧ w = w' := kG
    clear hc hN h c0 kG hlk
    go_enter Try.func30, Try.ntmps30
    go_wp2_with (go_at_call 33; refine kG2.mono ?_; rintro e w' ⟨rfl, rfl⟩)
    go_loopg [7, 8] N (fun kx s7 s9 wr => ∃ (i : Nat) (a7 : Option Addr) (n7 c7 : Nat), i + kx = N ∧ s7 = .slice a7 n7 c7 ∧ s9 = .int .i64 (i : Nat) ∧ Hid (RP w (del k (L.take i)) (.slice a7 n7 c7) wr))
    case atStart => exact ⟨0, none, 0, 0, by omega, rfl, rfl, RP.zero w⟩
    case round =>
      obtain ⟨i, a7, n7, c7, hi, rfl, rfl, I⟩ := hrel
      have c0 := HC0.out wr I.out.below
      by_cases hlt : i < N
      · obtain ⟨x, hx⟩ := HL.out i hlt
        obtain ⟨g, rfl, hcs⟩ := HC.out i x hx
        obtain ⟨q0, q1, q2⟩ := hcs wr I.out.below
        have HT : Hid (L.take (i + 1) = L.take i ++ [x]) := HTk.out i x hx
        have HLb : Hid ((del k (L.take i)).length ≤ 1000000002) := HLen.out i (by omega)
        have hi1 : (i : Int) < (N : Int) := by omega
        obtain ⟨xk, xv⟩ := x
        clear hx hcs
        by_cases he : xk.toList = k.toList
        · have he2 : (xk.toList == k.toList) = true := by simpa using he
          have he3 : (xk.toList != k.toList) = false := by simpa using he
          have HF : Hid (RP w (del k (L.take (i + 1))) (.slice a7 n7 c7) wr) := by
            show RP w (del k (L.take (i + 1))) (.slice a7 n7 c7) wr
            rw [HT.out, del_snoc, if_pos (show (xk, xv).1 = k from list_inj he)]; exact I.out
          go_wp2
          go_roundg (N - (i + 1))
          case measure => omega
          case rel => exact ⟨i + 1, a7, n7, c7, by omega, rfl, by go_num, HF.out⟩
        · have he2 : (xk.toList == k.toList) = false := by simpa using he
          have he3 : (xk.toList != k.toList) = true := by simpa using he
          have HF : Hid (∀ v' W', RP w (del k (L.take i) ++ [(xk, xv)]) v' W' → RP w (del k (L.take (i + 1))) v' W') := fun v' W' hR => by
            rw [HT.out, del_snoc, if_neg (show (xk, xv).1 ≠ k from fun e => he (by rw [← e]))]; exact hR
          go_wp2_with (at_builtin; refine wpList_append_nds rfl (.tmp 36) (.tmp 44) rfl w.heap.size (.slice a7 n7 c7) _ (del k (L.take i)) rfl rfl (I.out.later (below_new wr _)).own (.slice (some ⟨wr.heap.size, 0, none⟩) 1 1) [(xk, xv)] rfl (nd_one wr (xk, xv)) (by have := HLb.out; simp; omega) ((I.out.later (below_new wr (.cells #[.string xk, .string xv, .bool false] 54))).below.size) ?_; intro x1 W4 ho1 hg1; have HR4 : Hid (RP w (del k (L.take (i + 1))) x1 W4) := HF.out _ _ ((I.out.later (below_new wr _)).push ho1 hg1); obtain ⟨ax, nx, cx, ex⟩ := HR4.out.slice; subst ex; clear ho1 hg1)
          go_roundg (N - (i + 1))
          case measure => omega
          case rel => exact ⟨i + 1, ax, nx, cx, by omega, rfl, by go_num, HR4.out⟩
      · have hin : i = N := by omega
        subst hin
        have hfull : L.take i = L := List.take_of_length_le (by have := HN.out; omega)
        have hI := I.out
        rw [hfull] at hI
        have HF : Hid (RAt (wr.setCell ⟨r, 0, none⟩ (.slice a7 n7 c7)) r (del k L) ∧ Kept (fun b => b = r) w (wr.setCell ⟨r, 0, none⟩ (.slice a7 n7 c7))) := HSt.out _ _ _ hI
        have hi1 : ¬ (i : Int) < (i : Int) := by omega
        have hfz := HFr.out wr I.out.below
        clear hfull I hI
        go_wp2
        go_ret
        exact ⟨rfl, HF.out⟩
end Go.Proofs.Ytlfgeanafidopaa.Bt
