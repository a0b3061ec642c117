/-
  symMerge, as it runs: one of a side alone.
-/
import Derived.Test.YtmaekpfkkpkgpaaGreatDoorSSwap
import Derived.Deep.RegionHeld3
namespace Go.Proofs.YtmaekpfkkpkgpaaGreatDoor
open Go.RowKit
set_option maxRecDepth 10000

/-- What a comparison of two of the numbers answers, while the row is worked on. -/
def Cmp (w : World) (g : Nat) (U : List Int) (lt : Int → Int → Prop) (f : Nat) (lb : Array Value) : Prop :=
  ∀ (d : List Int) (W : World), Dt w g d W → ∀ x ∈ U, ∀ y ∈ U, Calls Tryz.prog f (#[.int .i64 x, .int .i64 y] ++ lb) W fun e w' => ∃ c : Int, e = .returned (.int .i64 c) ∧ (c < 0 ↔ lt x y) ∧ Below W.heap.size W w'
abbrev cmpF : Nat := 51
abbrev cmpV (bb : Nat) : Value := .func (.func 51) #[] #[.pointer (some ⟨bb, 0, none⟩)]
/-- Where a search among the right ones stands. -/
structure Sl (T : Int → Int → Prop) (x : Int) (Y : List Int) (i j : Nat) : Prop where
  ij : i ≤ j
  jl : j ≤ Y.length
  lo : ∀ k y, k < i → Y[k]? = some y → T y x
  hi : ∀ k y, j ≤ k → Y[k]? = some y → T x y
theorem sd_get {T : Int → Int → Prop} {Y : List Int} (h : Sd T Y) {i j : Nat} {x y : Int} (hij : i < j) (hx : Y[i]? = some x) (hy : Y[j]? = some y) : T x y := by
  obtain ⟨h1, rfl⟩ := List.getElem?_eq_some_iff.1 hx
  obtain ⟨h2, rfl⟩ := List.getElem?_eq_some_iff.1 hy
  exact List.pairwise_iff_getElem.1 h i j h1 h2 hij
theorem Sl.up {T : Int → Int → Prop} (hT : Ord T) {x : Int} {Y : List Int} {i j : Nat} (h : Sl T x Y i j) (hs : Sd T Y) {k : Nat} {y : Int} (hk : k < j) (hy : Y[k]? = some y) (ht : T y x) : Sl T x Y (k + 1) j := by
  refine ⟨by omega, h.jl, fun q z hq hz => ?_, h.hi⟩
  by_cases e : q = k
  · subst e
    rw [hy] at hz
    cases hz
    exact ht
  · exact hT.tr (sd_get hs (by omega) hz hy) ht
theorem Sl.down {T : Int → Int → Prop} (hT : Ord T) {x : Int} {Y : List Int} {i j : Nat} (h : Sl T x Y i j) (hs : Sd T Y) {k : Nat} {y : Int} (hk : i ≤ k) (hy : Y[k]? = some y) (ht : T x y) : Sl T x Y i k := by
  have hkl := (List.getElem?_eq_some_iff.1 hy).1
  refine ⟨hk, by omega, h.lo, fun q z hq hz => ?_⟩
  by_cases e : q = k
  · subst e
    rw [hy] at hz
    cases hz
    exact ht
  · exact hT.tr ht (sd_get hs (by omega) hy hz)
theorem Dt.two {w W : World} {g : Nat} {d : List Int} (h : Dt w g d W) {i j : Nat} {x y : Int} (hx : d[i]? = some x) (hy : d[j]? = some y) : Dt w g d W ∧ W.cell? ⟨g, i, none⟩ = some (.int .i64 x) ∧ W.cell? ⟨g, j, none⟩ = some (.int .i64 y) := ⟨h, h.cell hx, h.cell hy⟩
/-- A comparison while a region is drawn. -/
theorem Cmp.at {w W : World} {g : Nat} {U : List Int} {lt : Int → Int → Prop} {d : List Int} {bb : Nat} (hc : Cmp w g U lt cmpF #[.pointer (some ⟨bb, 0, none⟩)]) (h : Dt w g d W) {x y : Int} (hx : x ∈ U) (hy : y ∈ U) : Calls Tryz.prog cmpF #[.int .i64 x, .int .i64 y, .pointer (some ⟨bb, 0, none⟩)] W fun e w' => ∃ c : Int, e = .returned (.int .i64 c) ∧ (c < 0 ↔ lt x y) ∧ Dt w g d w' :=
  (hc d W h x hx y hy).mono fun _ _ ⟨c, e, q, hb⟩ => ⟨c, e, q, h.later hb⟩
/-- x has gone behind q of the right ones. -/
def mv (P Y S : List Int) (x : Int) (q : Nat) : List Int := P ++ Y.take q ++ [x] ++ Y.drop q ++ S
theorem mv_at {P Y S : List Int} {x : Int} {q : Nat} (hq : q ≤ Y.length) : (mv P Y S x q)[P.length + q]? = some x := by
  have := get_mid (P ++ Y.take q) x (Y.drop q ++ S)
  unfold mv
  simp [Nat.min_eq_left hq]
theorem mv_next {P Y S : List Int} {x y : Int} {q : Nat} (hy : Y[q]? = some y) : (mv P Y S x q)[P.length + q + 1]? = some y := by
  have hq := (List.getElem?_eq_some_iff.1 hy).1
  have h2 : Y.drop q = y :: Y.drop (q + 1) := by rw [List.drop_eq_getElem_cons hq]; congr 1; exact (List.getElem?_eq_some_iff.1 hy).2
  have := get_mid (P ++ Y.take q ++ [x]) y (Y.drop (q + 1) ++ S)
  unfold mv
  rw [h2]
  have hm : min q Y.length = q := by omega
  simpa [hm, Nat.add_assoc] using this
theorem mv_step {P Y S : List Int} {x y : Int} {q : Nat} (hy : Y[q]? = some y) : swp (mv P Y S x q) (P.length + q) (P.length + q + 1) = mv P Y S x (q + 1) := by
  have hq := (List.getElem?_eq_some_iff.1 hy).1
  have h2 : Y.drop q = y :: Y.drop (q + 1) := by rw [List.drop_eq_getElem_cons hq]; congr 1; exact (List.getElem?_eq_some_iff.1 hy).2
  have h3 : Y.take (q + 1) = Y.take q ++ [y] := by rw [List.take_add_one, hy]; rfl
  have := swp_mid (P ++ Y.take q) x [] y (Y.drop (q + 1) ++ S)
  unfold mv
  rw [h2, h3]
  have hm : min q Y.length = q := by omega
  simpa [hm, Nat.add_assoc] using this
theorem mv_len {P Y S : List Int} {x : Int} {q : Nat} : (mv P Y S x q).length = P.length + 1 + Y.length + S.length := by
  unfold mv
  simp
  omega
theorem Sl.mg {T : Int → Int → Prop} {x : Int} {Y : List Int} {i : Nat} (h : Sl T x Y i i) (hs : Sd T Y) : Mg T [x] Y (Y.take i ++ [x] ++ Y.drop i) := by
  refine ⟨?_, ?_⟩
  · have h1 : (Y.take i ++ [x] ++ Y.drop i).Perm ([x] ++ Y.take i ++ Y.drop i) := List.Perm.append_right _ List.perm_append_comm
    refine h1.trans ?_
    rw [List.append_assoc, List.take_append_drop]
  · have h0 : Sd T (Y.take i ++ Y.drop i) := by rw [List.take_append_drop]; exact hs
    obtain ⟨s1, s2, s3⟩ := sd_app.1 h0
    have g1 : ∀ y ∈ Y.take i, T y x := fun y hy => by
      obtain ⟨k, hk, rfl⟩ := List.getElem_of_mem hy
      rw [List.length_take] at hk
      exact h.lo k _ (by omega) (by rw [List.getElem_take]; exact List.getElem?_eq_getElem (by omega))
    have g2 : ∀ y ∈ Y.drop i, T x y := fun y hy => by
      obtain ⟨k, hk, rfl⟩ := List.getElem_of_mem hy
      simp at hk
      exact h.hi (i + k) _ (by omega) (by rw [List.getElem_drop]; exact List.getElem?_eq_getElem (by omega))
    rw [List.append_assoc]
    refine sd_app.2 ⟨s1, ?_, ?_⟩
    · exact List.pairwise_cons.2 ⟨g2, s2⟩
    · intro u hu v hv
      rcases List.mem_append.1 hv with hv | hv
      · rw [List.mem_singleton.1 hv]
        exact g1 u hu
      · exact s3 u hu v hv
set_option maxHeartbeats 8000000 in
theorem sym_left {w W : World} {g cap bb : Nat} {P Y S : List Int} {x : Int} {T lt : Int → Int → Prop} {U : List Int} (hT : Ord T) (h : Dt w g (P ++ [x] ++ Y ++ S) W) (hc : Cmp w g U lt cmpF #[.pointer (some ⟨bb, 0, none⟩)]) (hU : ∀ y ∈ [x] ++ Y, y ∈ U) (hY : Sd T Y) (hcr : ∀ y ∈ Y, (lt y x ↔ T y x) ∧ y ≠ x) (hd : (P ++ [x] ++ Y ++ S).length ≤ 256) (n a m b : Nat) (hn : n = (P ++ [x] ++ Y ++ S).length) (ha : a = P.length) (hm : m = P.length + 1) (hb : b = P.length + 1 + Y.length) :
    Calls Tryz.prog 75 #[.slice (some ⟨g, 0, none⟩) n cap, .int .i64 (a : Nat), .int .i64 (m : Nat), .int .i64 (b : Nat), cmpV bb] W fun e w' => e = .returned (.tuple #[]) ∧ ∃ Z, Mg T [x] Y Z ∧ Dt w g (P ++ Z ++ S) w' := by
  have hlen : (P ++ [x] ++ Y ++ S).length = P.length + 1 + Y.length + S.length := by simp; omega
  obtain ⟨d, hdd⟩ : ∃ d, d = P ++ [x] ++ Y ++ S := ⟨_, rfl⟩
  rw [← hdd] at h hd hn hlen
  have hxa : d[a]? = some x := by rw [hdd, ha]; simp
  have hyk : ∀ k y, Y[k]? = some y → d[m + k]? = some y := by
    intro k y hy
    have hk := (List.getElem?_eq_some_iff.1 hy).1
    rw [hdd, hm, List.getElem?_append_left (by simp; omega), List.getElem?_append_right (by simp)]
    simpa using hy
  have e1 : ((m : Int) - (a : Int) == 1) = true := by simp; omega
  have hma : (m : Int) - (a : Int) = 1 := by omega
  have hn2 : n ≤ 256 := by omega
  have hbn : b ≤ n := by omega
  have HD := hidW h
  have HX := hidW hxa
  have HYK := hidW hyk
  have HC := hidW hc
  have HU := hidW hU
  have HT := hidW hT
  have HY := hidW hY
  have HCR := hidW hcr
  have HP := hidW (And.intro hdd (And.intro ha (And.intro hm hb)))
  have HSl := hidW (show Sl T x Y 0 Y.length from ⟨by omega, Nat.le_refl _, fun k y hk => by omega, fun k y hk hy => by have := (List.getElem?_eq_some_iff.1 hy).1; omega⟩)
  have HL := hidW (show Y.length = b - m by omega)
  have hmb : m ≤ b := by omega
  have han : a < n := by omega
  clear h hd hn hlen hdd hxa hyk hc hU hT hY hcr ha hm hb
  go_enter Tryz.func75, Tryz.ntmps75
  go_wp2_with fail
  go_loopw [10, 11] (fun s10 s11 wr => ∃ i j : Nat, s10 = .int .i64 ((m + i : Nat) : Int) ∧ s11 = .int .i64 ((m + j : Nat) : Int) ∧ i ≤ j ∧ m + j ≤ b ∧ Hid (Sl T x Y i j) ∧ Hid (Dt w g d wr)) (fun s10 s11 _ => (intOf s11).toNat - (intOf s10).toNat)
  case atStart => exact ⟨0, Y.length, by first | rfl | simp, by have := HL.out; congr 2; omega, by omega, by have := HL.out; omega, HSl, HD⟩
  case round =>
    obtain ⟨i, j, rfl, rfl, q1, q2, HS1, HK⟩ := hrel
    by_cases hij : i < j
    · have hlt : ((m + i : Nat) : Int) < ((m + j : Nat) : Int) := by omega
      obtain ⟨k, hk⟩ : ∃ k, k = (m + i + (m + j)) / 2 - m := ⟨_, rfl⟩
      have hk1 : i ≤ k := by omega
      have hk2 : k < j := by omega
      obtain ⟨y, hy⟩ : ∃ y, Y[k]? = some y := ⟨_, List.getElem?_eq_getElem (by have := HL.out; omega)⟩
      have hkm : (m + i + (m + j)) / 2 = m + k := by omega
      obtain ⟨z, hz⟩ : ∃ z, z = m + k := ⟨_, rfl⟩
      have hyz : d[z]? = some y := by rw [hz]; exact HYK.out k y hy
      have hS := HK.out.two hyz HX.out
      have HY1 := hidW hyz
      have HU1 := hidW (And.intro (HU.out y (by simp; right; exact List.mem_of_getElem? hy)) (HU.out x (by simp)))
      have hh : ((m : Int) + (i : Int) + ((m : Int) + (j : Int))) / 2 = (z : Int) := by omega
      have n1 : (z : Int) < (n : Int) := by omega
      have n2 : (a : Int) < (n : Int) := by omega
      have HQ := hidW (And.intro hk1 (And.intro hk2 (And.intro hy hz)))
      clear hij hk hk1 hk2 hy hkm hz hyz
      go_wp2_with fail
      go_region_held3 (fun w' => Dt w g d w' ∧ w'.cell? ⟨g, z, none⟩ = some (.int .i64 y) ∧ w'.cell? ⟨g, a, none⟩ = some (.int .i64 x)) (first | assumption | exact Dt.two (Dt.later (And.left ‹Dt _ _ _ _ ∧ _›) (Below.refl _ _).drew) HY1.out HX.out | exact Dt.two ‹Dt _ _ _ _› HY1.out HX.out)
        (first
        | (go_at_call 51; refine (HC.out.at (And.left ‹Dt _ _ _ _ ∧ _›) HU1.out.1 HU1.out.2).mono ?_; rintro e w' ⟨c, rfl, hcl, hdt⟩))
      by_cases hc0 : c < 0
      · have HN := hidW (show Sl T x Y (k + 1) j from HS1.out.up HT.out HY.out HQ.out.2.1 HQ.out.2.2.1 ((HCR.out y (List.mem_of_getElem? HQ.out.2.2.1)).1.1 (hcl.1 hc0)))
        go_wp2
        go_roundw
        case rel => exact ⟨k + 1, j, by have := HQ.out.2.2.2; congr 2; omega, by first | rfl | go_num, HQ.out.2.1, q2, HN, hdt⟩
        case measure => have := HQ.out; simp [intOf]; omega
      · have HN := hidW (show Sl T x Y i k from HS1.out.down HT.out HY.out HQ.out.1 HQ.out.2.2.1 (by
          have h1 := HCR.out y (List.mem_of_getElem? HQ.out.2.2.1)
          rcases HT.out.tt y x h1.2 with h2 | h2
          · exact absurd (hcl.2 (h1.1.2 h2)) hc0
          · exact h2))
        go_wp2
        go_roundw
        case rel => exact ⟨i, k, by first | rfl | go_num, by have := HQ.out.2.2.2; congr 2, HQ.out.1, by have := HQ.out; omega, HN, hdt⟩
        case measure => have := HQ.out; simp [intOf]; omega
    · have hlt : ¬ ((m + i : Nat) : Int) < ((m + j : Nat) : Int) := by omega
      have hji : j = i := by omega
      subst hji
      have HD0 := hidW (show Dt w g (mv P Y S x 0) wr by
        have := HK.out
        rw [HP.out.1] at this
        unfold mv
        simpa using this)
      have hmj : (m : Int) + (j : Int) - 1 = ((a + j : Nat) : Int) := by omega
      clear hij
      go_wp2_with fail
      go_loopw [13] (fun s13 wr => ∃ q : Nat, s13 = .int .i64 ((a + q : Nat) : Int) ∧ q ≤ j ∧ Hid (Dt w g (mv P Y S x q) wr)) (fun s13 _ => a + j - (intOf s13).toNat)
      case atStart => exact ⟨0, by first | rfl | simp, by omega, HD0⟩
      case round =>
        obtain ⟨q, rfl, hq, HE⟩ := hrel
        by_cases hqj : q < j
        · obtain ⟨y, hy⟩ : ∃ y, Y[q]? = some y := ⟨_, List.getElem?_eq_getElem (by have := HL.out; omega)⟩
          obtain ⟨t, ht⟩ : ∃ t, t = a + q := ⟨_, rfl⟩
          obtain ⟨t1, ht1⟩ : ∃ t1, t1 = t + 1 := ⟨_, rfl⟩
          have hxt : (mv P Y S x q)[t]? = some x := by rw [ht, HP.out.2.1]; exact mv_at (by have := HL.out; omega)
          have hyt : (mv P Y S x q)[t1]? = some y := by rw [ht1, ht, HP.out.2.1]; exact mv_next hy
          have c1 := HE.out.cell hxt
          have c2 := HE.out.cell hyt
          have f1 := HE.out.row.frozen t
          have f2 := HE.out.row.frozen t1
          have hst : swp (mv P Y S x q) t t1 = mv P Y S x (q + 1) := by rw [ht1, ht, HP.out.2.1]; exact mv_step hy
          have HN := hidW (show Dt w g (mv P Y S x (q + 1)) ((wr.setCell ⟨g, t, none⟩ (.int .i64 y)).setCell ⟨g, t1, none⟩ (.int .i64 x)) by rw [← hst]; exact HE.out.swp hxt hyt)
          have hl1 := (List.getElem?_eq_some_iff.1 hxt).1
          have c2' : ∀ z, (wr.setCell ⟨g, t, none⟩ (.int .i64 z)).cell? ⟨g, t1, none⟩ = some (.int .i64 y) := fun z => (HE.out.set (i := t) hl1 z).cell (by rw [List.getElem?_set_ne (by omega)]; exact hyt)
          rw [← ht]
          have hlt : (t : Int) < ((a + j : Nat) : Int) := by omega
          have w1 : IntKind.i64.wrap ((t : Int) + 1) = (t1 : Int) := by rw [IntKind.wrap_i64]; omega
          have w2 : (t : Int) + 1 = (t1 : Int) := by omega
          have n1 : (t : Int) < (n : Int) := by omega
          have n2 : (t1 : Int) < (n : Int) := by omega
          have HKL := hidW (And.intro hqj (And.intro ht ht1))
          clear hxt hyt hqj hst hl1 ht ht1 hy
          go_wp2_with fail
          go_region
          go_wp2
          go_roundw
          case rel => exact ⟨q + 1, by have := HKL.out; congr 2; omega, HKL.out.1, HN.out.later (Below.refl _ _).drew⟩
          case measure => have := HKL.out; simp [intOf]; omega
        · have hqq : q = j := by omega
          subst hqq
          have hlt : ¬ ((a + q : Nat) : Int) < ((a + q : Nat) : Int) := by omega
          go_wp2
          refine bodyPost_ret (results_none rfl _ _ _) rfl ?_
          refine ⟨rfl, Y.take q ++ [x] ++ Y.drop q, HS1.out.mg HY.out, ?_⟩
          have := HE.out
          unfold mv at this
          simpa only [List.append_assoc] using this
end Go.Proofs.YtmaekpfkkpkgpaaGreatDoor
