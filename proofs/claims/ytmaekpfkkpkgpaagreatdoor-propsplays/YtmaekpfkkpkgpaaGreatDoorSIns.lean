/-
  insertionSort, as it runs.
-/
import Derived.Test.YtmaekpfkkpkgpaaGreatDoorSAny
namespace Go.Proofs.YtmaekpfkkpkgpaaGreatDoor
open Go.RowKit
set_option maxRecDepth 10000

/-- A row whose earlier ones are told from the later ones by the comparison. -/
def Row0 (T lt : Int → Int → Prop) (V : List Int) : Prop := V.Pairwise fun x y => (lt y x ↔ T y x) ∧ y ≠ x
theorem Row0.at {T lt : Int → Int → Prop} {V : List Int} (h : Row0 T lt V) {k : Nat} {y : Int} (hy : V[k]? = some y) {Z : List Int} (hz : Z.Perm (V.take k)) : ∀ x ∈ Z, (lt y x ↔ T y x) ∧ y ≠ x := by
  intro x hx
  have h1 := hz.mem_iff.1 hx
  obtain ⟨q, hq, rfl⟩ := List.getElem_of_mem h1
  rw [List.length_take] at hq
  obtain ⟨h2, rfl⟩ := List.getElem?_eq_some_iff.1 hy
  rw [List.getElem_take]
  exact List.pairwise_iff_getElem.1 h q k (by omega) h2 (by omega)
set_option maxHeartbeats 8000000 in
theorem ins_any {w W : World} {g cap bb n : Nat} {P V S : List Int} {T lt : Int → Int → Prop} {U : List Int} (hT : Ord T) (h : Dt w g (P ++ V ++ S) W) (hc : Cmp w g U lt cmpF #[.pointer (some ⟨bb, 0, none⟩)]) (hU : ∀ y ∈ V, y ∈ U) (hV : Row0 T lt V) (hn2 : n ≤ 256) (hn : n = (P ++ V ++ S).length) (a b : Nat) (ha : a = P.length) (hb : b = P.length + V.length) :
    Calls Tryz.prog 74 #[.slice (some ⟨g, 0, none⟩) n cap, .int .i64 (a : Nat), .int .i64 (b : Nat), cmpV bb] W fun e w' => e = .returned (.tuple #[]) ∧ ∃ Z, Z.Perm V ∧ Sd T Z ∧ Dt w g (P ++ Z ++ S) w' := by
  have hlen : (P ++ V ++ S).length = P.length + V.length + S.length := by simp; omega
  have HI := hidW (show ∃ Z, Z.Perm (V.take 1) ∧ Sd T Z ∧ Dt w g (P ++ Z ++ V.drop 1 ++ S) W from ⟨V.take 1, List.Perm.refl _, by rcases V with _ | ⟨v, V⟩ <;> simp [Sd], by rw [show P ++ V.take 1 ++ V.drop 1 ++ S = P ++ V ++ S by rw [List.append_assoc P, List.take_append_drop]]; exact h⟩)
  have hbn : b ≤ n := by omega
  have hab : a ≤ b := by omega
  have HC := hidW hc
  have HU := hidW hU
  have HT := hidW hT
  have HV := hidW hV
  have HP := hidW (And.intro ha (And.intro hb (And.intro hn hlen)))
  clear h hc hU hT hV ha hb hn hlen
  go_enter Tryz.func74, Tryz.ntmps74
  go_wp2_with fail
  go_loopw [8] (fun s8 wr => ∃ k : Nat, s8 = .int .i64 ((a + 1 + k : Nat) : Int) ∧ k ≤ n ∧ Hid (∃ Z, Z.Perm (V.take (k + 1)) ∧ Sd T Z ∧ Dt w g (P ++ Z ++ V.drop (k + 1) ++ S) wr)) (fun s8 _ => b - (intOf s8).toNat)
  case atStart => exact ⟨0, by first | rfl | simp, by omega, HI⟩
  case round =>
    obtain ⟨k, rfl, hk, HK⟩ := hrel
    obtain ⟨i, hi⟩ : ∃ i, i = a + 1 + k := ⟨_, rfl⟩
    rw [← hi]
    by_cases hkb : i < b
    · obtain ⟨Z, hz1, hz2, hz3⟩ := HK.out
      have hP := HP.out
      obtain ⟨y, hy⟩ : ∃ y, V[k + 1]? = some y := ⟨_, List.getElem?_eq_getElem (by omega)⟩
      have hzl : Z.length = k + 1 := by rw [hz1.length_eq, List.length_take]; omega
      obtain ⟨R, hR⟩ : ∃ R, R = V.drop (k + 2) ++ S := ⟨_, rfl⟩
      have hdr : V.drop (k + 1) = y :: V.drop (k + 2) := by
        have hq := (List.getElem?_eq_some_iff.1 hy).1
        rw [List.drop_eq_getElem_cons hq]
        congr 1
        exact (List.getElem?_eq_some_iff.1 hy).2
      have HM0 := hidW (show Dt w g (mv P Z R y Z.length) wr by
        unfold mv
        rw [hdr] at hz3
        rw [hR]
        simpa using hz3)
      have HCR := hidW (HV.out.at hy hz1)
      have HZU := hidW (show (∀ x ∈ Z, x ∈ U) ∧ y ∈ U from ⟨fun x hx => HU.out x (List.mem_of_mem_take (hz1.mem_iff.1 hx)), HU.out y (List.mem_of_getElem? hy)⟩)
      have HFIN := hidW (fun q v (h1 : Sl T y Z q q) (h2 : Dt w g (mv P Z R y q) v) => show ∃ Z, Z.Perm (V.take (k + 1 + 1)) ∧ Sd T Z ∧ Dt w g (P ++ Z ++ V.drop (k + 1 + 1) ++ S) v from by
        have hm := h1.mg hz2
        refine ⟨_, hm.pm.trans ?_, hm.sd, ?_⟩
        · rw [List.take_add_one, hy]
          exact List.perm_append_comm.trans (List.Perm.append_right _ hz1)
        · unfold mv at h2
          rw [hR] at h2
          simpa only [List.append_assoc] using h2)
      have HZS := hidW hz2
      have HQ := hidW (And.intro hi (And.intro hP.1 (And.intro hzl (show P.length + 1 + Z.length + R.length = n by rw [hR]; simp only [List.length_append, List.length_drop] at hP ⊢; omega))))
      have hlt : (i : Int) < (b : Int) := by omega
      have hin : i < n := by omega
      have hai : a ≤ i := by omega
      clear hz1 hz2 hz3 hP hy hzl hR hdr hkb HI HK hi
      go_wp2_with fail
      go_loopw [9] (fun s9 wr => ∃ q : Nat, s9 = .int .i64 ((a + q : Nat) : Int) ∧ a + q ≤ i ∧ Hid (∀ c x, q ≤ c → Z[c]? = some x → T y x) ∧ Hid (Dt w g (mv P Z R y q) wr)) (fun s9 _ => (intOf s9).toNat)
      case atStart => exact ⟨Z.length, by have := HQ.out; congr 2; omega, by have := HQ.out; omega, fun c x h1 h2 => by have := (List.getElem?_eq_some_iff.1 h2).1; omega, HM0⟩
      case round =>
        obtain ⟨q, rfl, hq, HTL, HE⟩ := hrel
        by_cases hq0 : 0 < q
        · obtain ⟨q0, rfl⟩ : ∃ q0, q = q0 + 1 := ⟨q - 1, by omega⟩
          obtain ⟨x, hx⟩ : ∃ x, Z[q0]? = some x := ⟨_, List.getElem?_eq_getElem (by have := HQ.out; omega)⟩
          obtain ⟨t, ht⟩ : ∃ t, t = a + (q0 + 1) := ⟨_, rfl⟩
          obtain ⟨t1, ht1⟩ : ∃ t1, t1 = a + q0 := ⟨_, rfl⟩
          have hxt : (mv P Z R y (q0 + 1))[t]? = some y := by rw [ht, HQ.out.2.1]; exact mv_at (by have := HQ.out; omega)
          have hyt : (mv P Z R y (q0 + 1))[t1]? = some x := by rw [ht1, HQ.out.2.1]; exact mv_prev hx
          have hst : swp (mv P Z R y (q0 + 1)) t t1 = mv P Z R y q0 := by rw [ht1, ht, HQ.out.2.1]; exact mv_back hx
          have hl1 := (List.getElem?_eq_some_iff.1 hxt).1
          have HA := hidW (And.intro hxt (And.intro hyt (And.intro hst hl1)))
          have hS := HE.out.two hxt hyt
          have HU1 := hidW (And.intro HZU.out.2 (HZU.out.1 x (List.mem_of_getElem? hx)))
          rw [← ht]
          have hgt : (a : Int) < (t : Int) := by omega
          have w2 : (t : Int) - 1 = (t1 : Int) := by omega
          have w1 : IntKind.i64.wrap ((t : Int) - 1) = (t1 : Int) := by rw [w2]; rw [IntKind.wrap_i64]; omega
          have w3 : IntKind.i64.wrap (t1 : Int) = (t1 : Int) := by rw [IntKind.wrap_i64]; omega
          have n1 : (t : Int) < (n : Int) := by omega
          have n2 : (t1 : Int) < (n : Int) := by omega
          have hne : t ≠ t1 := by omega
          have HKL := hidW (And.intro ht (And.intro ht1 hx))
          clear hxt hyt hst hl1 ht ht1 hx
          go_wp2_with fail
          go_region_held3 (fun w' => Dt w g (mv P Z R y (q0 + 1)) w' ∧ w'.cell? ⟨g, t, none⟩ = some (.int .i64 y) ∧ w'.cell? ⟨g, t1, none⟩ = some (.int .i64 x)) (first | assumption | exact Dt.two (Dt.later (And.left ‹Dt _ _ _ _ ∧ _›) (Below.refl _ _).drew) HA.out.1 HA.out.2.1 | exact Dt.two ‹Dt _ _ _ _› HA.out.1 HA.out.2.1)
            (first
            | (go_at_call 51; refine (HC.out.at (And.left ‹Dt _ _ _ _ ∧ _›) HU1.out.1 HU1.out.2).mono ?_; rintro e w' ⟨c, rfl, hcl, hdt⟩))
          have HDT := hidW hdt
          clear hdt
          by_cases hc0 : c < 0
          · have HN := hidW (show ∀ c x, q0 ≤ c → Z[c]? = some x → T y x from fun c' x' h1 h2 => by
              by_cases e : c' = q0
              · subst e
                rw [HKL.out.2.2] at h2
                cases h2
                exact (HCR.out x (List.mem_of_getElem? HKL.out.2.2)).1.1 (hcl.1 hc0)
              · exact HTL.out c' x' (by omega) h2)
            have c1 := HDT.out.cell HA.out.1
            have c2 := HDT.out.cell HA.out.2.1
            have f1 := HDT.out.row.frozen t
            have f2 := HDT.out.row.frozen t1
            have HNN := hidW (show Dt w g (mv P Z R y q0) ((w'.setCell ⟨g, t, none⟩ (.int .i64 x)).setCell ⟨g, t1, none⟩ (.int .i64 y)) by rw [← HA.out.2.2.1]; exact HDT.out.swp HA.out.1 HA.out.2.1)
            have c2' : ∀ z, (w'.setCell ⟨g, t, none⟩ (.int .i64 z)).cell? ⟨g, t1, none⟩ = some (.int .i64 x) := fun z => (HDT.out.set (i := t) HA.out.2.2.2 z).cell (by rw [List.getElem?_set_ne hne]; exact HA.out.2.1)
            go_wp2_with fail
            go_region
            go_wp2
            go_roundw
            case rel => exact ⟨q0, by have := HKL.out; congr 2; omega, by omega, HN, HNN.out.later (Below.refl _ _).drew⟩
            case measure => have := HKL.out; simp [intOf]; omega
          · have HSL := hidW (show Sl T y Z (q0 + 1) (q0 + 1) from ⟨Nat.le_refl _, by have := HQ.out; omega, fun c' x' h1 h2 => by
              have hT1 : T x y := by
                have h1 := HCR.out x (List.mem_of_getElem? HKL.out.2.2)
                rcases HT.out.tt y x h1.2 with h2 | h2
                · exact absurd (hcl.2 (h1.1.2 h2)) hc0
                · exact h2
              by_cases e : c' = q0
              · subst e
                rw [HKL.out.2.2] at h2
                cases h2
                exact hT1
              · exact HT.out.tr (sd_get HZS.out (by omega) h2 HKL.out.2.2) hT1, HTL.out⟩)
            go_wp2
            go_roundw
            case rel => exact ⟨k + 1, by have := HQ.out; congr 2; omega, by have := HQ.out; omega, HFIN.out _ _ HSL.out HDT.out⟩
            case measure => have := HQ.out; simp [intOf]; omega
        · have hqz : q = 0 := by omega
          subst hqz
          have HSL := hidW (show Sl T y Z 0 0 from ⟨Nat.le_refl _, by omega, fun c' x' h1 h2 => by omega, HTL.out⟩)
          have hgt : ¬ (a : Int) < ((a + 0 : Nat) : Int) := by omega
          go_wp2_with fail
          go_region
          have HDT := hidW (HE.out.later (Below.refl _ _).drew)
          go_wp2
          go_roundw
          case rel => exact ⟨k + 1, by have := HQ.out; congr 2; omega, by have := HQ.out; omega, HFIN.out _ _ HSL.out HDT.out⟩
          case measure => have := HQ.out; simp [intOf]; omega
    · obtain ⟨Z, hz1, hz2, hz3⟩ := HK.out
      have hP := HP.out
      have hlt : ¬ (i : Int) < (b : Int) := by omega
      have h1 : V.take (k + 1) = V := List.take_of_length_le (by omega)
      have h2 : V.drop (k + 1) = [] := List.drop_of_length_le (by omega)
      rw [h1] at hz1
      rw [h2, List.append_nil] at hz3
      have HZ := hidW (And.intro hz1 (And.intro hz2 hz3))
      clear hz1 hz2 hz3 hP h1 h2 hi HK hkb
      go_wp2
      go_end0
      exact ⟨rfl, Z, HZ.out.1, HZ.out.2.1, by have := HZ.out.2.2; simpa only [List.append_assoc] using this⟩
end Go.Proofs.YtmaekpfkkpkgpaaGreatDoor
