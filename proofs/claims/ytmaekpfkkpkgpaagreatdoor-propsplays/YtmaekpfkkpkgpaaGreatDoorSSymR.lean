/-
  symMerge, as it runs: one of the right side alone.
-/
import Derived.Test.YtmaekpfkkpkgpaaGreatDoorSSym
namespace Go.Proofs.YtmaekpfkkpkgpaaGreatDoor
open Go.RowKit
set_option maxRecDepth 10000

theorem swp_comm (d : List Int) {i j : Nat} (h : i ≠ j) : swp d i j = swp d j i := by
  unfold swp
  rw [List.set_comm _ _ h]
theorem mv_prev {P Y S : List Int} {x y : Int} {q : Nat} (hy : Y[q]? = some y) : (mv P Y S x (q + 1))[P.length + q]? = some y := by
  have hq := (List.getElem?_eq_some_iff.1 hy).1
  have h3 : Y.take (q + 1) = Y.take q ++ [y] := by rw [List.take_add_one, hy]; rfl
  have := get_mid (P ++ Y.take q) y ([x] ++ Y.drop (q + 1) ++ S)
  unfold mv
  rw [h3]
  have hm : min q Y.length = q := by omega
  simpa [hm, Nat.add_assoc] using this
theorem mv_back {P Y S : List Int} {x y : Int} {q : Nat} (hy : Y[q]? = some y) : swp (mv P Y S x (q + 1)) (P.length + (q + 1)) (P.length + q) = mv P Y S x q := by
  have hq := (List.getElem?_eq_some_iff.1 hy).1
  have h2 : Y.drop q = y :: Y.drop (q + 1) := by rw [List.drop_eq_getElem_cons hq]; congr 1; exact (List.getElem?_eq_some_iff.1 hy).2
  have h3 : Y.take (q + 1) = Y.take q ++ [y] := by rw [List.take_add_one, hy]; rfl
  rw [swp_comm _ (by omega)]
  have := swp_mid (P ++ Y.take q) y [] x (Y.drop (q + 1) ++ S)
  unfold mv
  rw [h2, h3]
  have hm : min q Y.length = q := by omega
  simpa [hm, Nat.add_assoc] using this
theorem Mg.comm {T : Int → Int → Prop} {X Y Z : List Int} (h : Mg T X Y Z) : Mg T Y X Z := ⟨h.pm.trans List.perm_append_comm, h.sd⟩
set_option maxHeartbeats 8000000 in
theorem sym_right {w W : World} {g cap bb : Nat} {P X S : List Int} {y : Int} {T lt : Int → Int → Prop} {U : List Int} (hT : Ord T) (h : Dt w g (P ++ X ++ [y] ++ S) W) (hc : Cmp w g U lt cmpF #[.pointer (some ⟨bb, 0, none⟩)]) (hU : ∀ x ∈ X ++ [y], x ∈ U) (hX : Sd T X) (hX1 : X.length ≠ 1) (hcr : ∀ x ∈ X, (lt y x ↔ T y x) ∧ y ≠ x) (hd : (P ++ X ++ [y] ++ S).length ≤ 256) (n a m b : Nat) (hn : n = (P ++ X ++ [y] ++ S).length) (ha : a = P.length) (hm : m = P.length + X.length) (hb : b = P.length + X.length + 1) :
    Calls Tryz.prog 75 #[.slice (some ⟨g, 0, none⟩) n cap, .int .i64 (a : Nat), .int .i64 (m : Nat), .int .i64 (b : Nat), cmpV bb] W fun e w' => e = .returned (.tuple #[]) ∧ ∃ Z, Mg T X [y] Z ∧ Dt w g (P ++ Z ++ S) w' := by
  have hlen : (P ++ X ++ [y] ++ S).length = P.length + X.length + 1 + S.length := by simp; omega
  obtain ⟨d, hdd⟩ : ∃ d, d = P ++ X ++ [y] ++ S := ⟨_, rfl⟩
  rw [← hdd] at h hd hn hlen
  have hym : d[m]? = some y := by
    rw [hdd, hm]
    simp
  have hxk : ∀ k x, X[k]? = some x → d[a + k]? = some x := by
    intro k x hx
    have hk := (List.getElem?_eq_some_iff.1 hx).1
    rw [hdd, ha, List.getElem?_append_left (by simp; omega), List.getElem?_append_left (by simp; omega), List.getElem?_append_right (by simp)]
    simpa using hx
  have e0 : ((m : Int) - (a : Int) == 1) = false := by simp; omega
  have e1 : ((b : Int) - (m : Int) == 1) = true := by simp; omega
  have hn2 : n ≤ 256 := by omega
  have hbn : b ≤ n := by omega
  have HD := hidW h
  have HM := hidW hym
  have HXK := hidW hxk
  have HC := hidW hc
  have HU := hidW hU
  have HT := hidW hT
  have HX := hidW hX
  have HCR := hidW hcr
  have HP := hidW (And.intro hdd (And.intro ha (And.intro hm hb)))
  have HSl := hidW (show Sl T y X 0 X.length from ⟨by omega, Nat.le_refl _, fun k y hk => by omega, fun k y hk hy => by have := (List.getElem?_eq_some_iff.1 hy).1; omega⟩)
  have HL := hidW (show a + X.length = m by omega)
  have ham : a ≤ m := by omega
  have hmn : m < n := by omega
  clear h hd hn hlen hdd hym hxk hc hU hT hX hcr ha hm hb hX1
  go_enter Tryz.func75, Tryz.ntmps75
  go_wp2_with fail
  go_loopw [14, 15] (fun s14 s15 wr => ∃ i j : Nat, s14 = .int .i64 ((a + i : Nat) : Int) ∧ s15 = .int .i64 ((a + j : Nat) : Int) ∧ i ≤ j ∧ a + j ≤ m ∧ Hid (Sl T y X i j) ∧ Hid (Dt w g d wr)) (fun s14 s15 _ => (intOf s15).toNat - (intOf s14).toNat)
  case atStart => exact ⟨0, X.length, by first | rfl | simp, by have := HL.out; congr 2; omega, by omega, by have := HL.out; omega, HSl, HD⟩
  case round =>
    obtain ⟨i, j, rfl, rfl, q1, q2, HS1, HK⟩ := hrel
    by_cases hij : i < j
    · have hlt : ((a + i : Nat) : Int) < ((a + j : Nat) : Int) := by omega
      obtain ⟨k, hk⟩ : ∃ k, k = (a + i + (a + j)) / 2 - a := ⟨_, rfl⟩
      have hk1 : i ≤ k := by omega
      have hk2 : k < j := by omega
      obtain ⟨x, hx⟩ : ∃ x, X[k]? = some x := ⟨_, List.getElem?_eq_getElem (by have := HL.out; omega)⟩
      have hkm : (a + i + (a + j)) / 2 = a + k := by omega
      obtain ⟨z, hz⟩ : ∃ z, z = a + k := ⟨_, rfl⟩
      have hxz : d[z]? = some x := by rw [hz]; exact HXK.out k x hx
      have hS := HK.out.two hxz HM.out
      have HY1 := hidW hxz
      have HU1 := hidW (And.intro (HU.out y (by simp)) (HU.out x (by simp; left; exact List.mem_of_getElem? hx)))
      have hh : ((a : Int) + (i : Int) + ((a : Int) + (j : Int))) / 2 = (z : Int) := by omega
      have n1 : (z : Int) < (n : Int) := by omega
      have n2 : (m : Int) < (n : Int) := by omega
      have HQ := hidW (And.intro hk1 (And.intro hk2 (And.intro hx hz)))
      clear hij hk hk1 hk2 hx hkm hz hxz
      go_wp2_with fail
      go_region_held3 (fun w' => Dt w g d w' ∧ w'.cell? ⟨g, z, none⟩ = some (.int .i64 x) ∧ w'.cell? ⟨g, m, none⟩ = some (.int .i64 y)) (first | assumption | exact Dt.two (Dt.later (And.left ‹Dt _ _ _ _ ∧ _›) (Below.refl _ _).drew) HY1.out HM.out | exact Dt.two ‹Dt _ _ _ _› HY1.out HM.out)
        (first
        | (go_at_call 51; refine (HC.out.at (And.left ‹Dt _ _ _ _ ∧ _›) HU1.out.1 HU1.out.2).mono ?_; rintro e w' ⟨c, rfl, hcl, hdt⟩))
      by_cases hc0 : c < 0
      · have HN := hidW (show Sl T y X i k from HS1.out.down HT.out HX.out HQ.out.1 HQ.out.2.2.1 ((HCR.out x (List.mem_of_getElem? HQ.out.2.2.1)).1.1 (hcl.1 hc0)))
        go_wp2
        all_goals (try (exfalso; first | (have hq := ‹(!decide (c < 0)) = true›; simp [hc0] at hq; done) | (have hq := ‹(!decide (c < 0)) = false›; simp [hc0] at hq; done) | (have hq := ‹¬ (!decide (c < 0)) = true›; simp [hc0] at hq; done)))
        go_roundw
        case rel => exact ⟨i, k, by first | rfl | go_num, by have := HQ.out.2.2.2; congr 2, HQ.out.1, by have := HQ.out; omega, HN, hdt⟩
        case measure => have := HQ.out; simp [intOf]; omega
      · have HN := hidW (show Sl T y X (k + 1) j from HS1.out.up HT.out HX.out HQ.out.2.1 HQ.out.2.2.1 (by
          have h1 := HCR.out x (List.mem_of_getElem? HQ.out.2.2.1)
          rcases HT.out.tt y x h1.2 with h2 | h2
          · exact absurd (hcl.2 (h1.1.2 h2)) hc0
          · exact h2))
        go_wp2
        all_goals (try (exfalso; first | (have hq := ‹(!decide (c < 0)) = true›; simp [hc0] at hq; done) | (have hq := ‹(!decide (c < 0)) = false›; simp [hc0] at hq; done) | (have hq := ‹¬ (!decide (c < 0)) = true›; simp [hc0] at hq; done)))
        go_roundw
        case rel => exact ⟨k + 1, j, by have := HQ.out.2.2.2; congr 2; omega, by first | rfl | go_num, HQ.out.2.1, q2, HN, hdt⟩
        case measure => have := HQ.out; simp [intOf]; omega
    · have hlt : ¬ ((a + i : Nat) : Int) < ((a + j : Nat) : Int) := by omega
      have hji : j = i := by omega
      subst hji
      have HD0 := hidW (show Dt w g (mv P X S y X.length) wr by
        have := HK.out
        rw [HP.out.1] at this
        unfold mv
        simpa using this)
      clear hij
      go_wp2_with fail
      go_loopw [17] (fun s17 wr => ∃ q : Nat, s17 = .int .i64 ((a + q : Nat) : Int) ∧ j ≤ q ∧ a + q ≤ m ∧ Hid (Dt w g (mv P X S y q) wr)) (fun s17 _ => (intOf s17).toNat)
      case atStart => exact ⟨X.length, by have := HL.out; congr 2; omega, by have := HL.out; omega, by have := HL.out; omega, HD0⟩
      case round =>
        obtain ⟨q, rfl, hq, hq2, HE⟩ := hrel
        by_cases hqj : j < q
        · obtain ⟨q0, rfl⟩ : ∃ q0, q = q0 + 1 := ⟨q - 1, by omega⟩
          obtain ⟨x, hx⟩ : ∃ x, X[q0]? = some x := ⟨_, List.getElem?_eq_getElem (by have := HL.out; omega)⟩
          obtain ⟨t, ht⟩ : ∃ t, t = a + (q0 + 1) := ⟨_, rfl⟩
          obtain ⟨t1, ht1⟩ : ∃ t1, t1 = a + q0 := ⟨_, rfl⟩
          have hxt : (mv P X S y (q0 + 1))[t]? = some y := by rw [ht, HP.out.2.1]; exact mv_at (by have := HL.out; omega)
          have hyt : (mv P X S y (q0 + 1))[t1]? = some x := by rw [ht1, HP.out.2.1]; exact mv_prev hx
          have c1 := HE.out.cell hxt
          have c2 := HE.out.cell hyt
          have f1 := HE.out.row.frozen t
          have f2 := HE.out.row.frozen t1
          have hst : swp (mv P X S y (q0 + 1)) t t1 = mv P X S y q0 := by rw [ht1, ht, HP.out.2.1]; exact mv_back hx
          have HN := hidW (show Dt w g (mv P X S y q0) ((wr.setCell ⟨g, t, none⟩ (.int .i64 x)).setCell ⟨g, t1, none⟩ (.int .i64 y)) by rw [← hst]; exact HE.out.swp hxt hyt)
          have hl1 := (List.getElem?_eq_some_iff.1 hxt).1
          have c2' : ∀ z, (wr.setCell ⟨g, t, none⟩ (.int .i64 z)).cell? ⟨g, t1, none⟩ = some (.int .i64 x) := fun z => (HE.out.set (i := t) hl1 z).cell (by rw [List.getElem?_set_ne (by omega)]; exact hyt)
          rw [← ht]
          have hlt : ((a + j : Nat) : Int) < (t : Int) := by omega
          have w2 : (t : Int) - 1 = (t1 : Int) := by omega
          have w1 : IntKind.i64.wrap ((t : Int) - 1) = (t1 : Int) := by rw [w2]; rw [IntKind.wrap_i64]; omega
          have n1 : (t : Int) < (n : Int) := by omega
          have n2 : (t1 : Int) < (n : Int) := by omega
          have HKL := hidW (And.intro hqj (And.intro ht ht1))
          clear hxt hyt hqj hst hl1 ht ht1 hx
          go_wp2_with fail
          go_region
          go_wp2
          go_roundw
          case rel => exact ⟨q0, by have := HKL.out; congr 2; omega, by have := HKL.out; omega, by omega, HN.out.later (Below.refl _ _).drew⟩
          case measure => have := HKL.out; simp [intOf]; omega
        · have hqq : q = j := by omega
          subst hqq
          have hlt : ¬ ((a + q : Nat) : Int) < ((a + q : Nat) : Int) := by omega
          go_wp2
          refine bodyPost_ret (results_none rfl _ _ _) rfl ?_
          refine ⟨rfl, X.take q ++ [y] ++ X.drop q, (HS1.out.mg HX.out).comm, ?_⟩
          have := HE.out
          unfold mv at this
          simpa only [List.append_assoc] using this
end Go.Proofs.YtmaekpfkkpkgpaaGreatDoor
