/-
  stableCmpFunc, as it runs: the walk.
-/
import Derived.Test.YtmaekpfkkpkgpaaGreatDoorSStab
namespace Go.Proofs.YtmaekpfkkpkgpaaGreatDoor
open Go.RowKit
set_option maxRecDepth 10000

theorem st1_next {w W : World} {g n a : Nat} {T : Int → Int → Prop} {V d : List Int} (ha : 20 ∣ a) (h1 : Dt w g d W) (h2 : d.length = n) (h3 : d.drop (a + 20) = V.drop (a + 20)) (h4 : Ch T V d a (a + 20 - a)) (h5 : To T V d 20 a) : St1 w g T V n (a + 20) W d := by
  refine ⟨h1, h2, h3, fun s q1 q2 => ?_, Nat.dvd_add ha (Nat.dvd_refl _)⟩
  by_cases e : s = a
  · subst e
    rw [show s + 20 - s = 20 by omega] at h4
    exact h4
  · exact h5 s q1 (dv ha q1 (by omega))
theorem st1_end {n a : Nat} {T : Int → Int → Prop} {V d : List Int} (ha : 20 ∣ a) (han : n < a + 20) (h4 : Ch T V d a (n - a)) (h5 : To T V d 20 a) (hn : a ≤ n) : Fr T V d n 20 0 := by
  intro s _ q1 q2
  by_cases e : s = a
  · subst e
    rw [show min 20 (n - s) = n - s by omega]
    exact h4
  · by_cases e2 : s < a
    · have := dv ha q1 e2
      rw [show min 20 (n - s) = 20 by omega]
      exact h5 s q1 this
    · have := dv q1 ha (by omega)
      omega
theorem st2_next {w W : World} {g n a bs : Nat} {T : Int → Int → Prop} {V d : List Int} (ha : 2 * bs ∣ a) (h1 : Dt w g d W) (h2 : d.length = n) (h4 : Ch T V d a (a + 2 * bs - a)) (h5 : To T V d (2 * bs) a) (h6 : ∀ s, a + 2 * bs ≤ s → bs ∣ s → s < n → Ch T V d s (min bs (n - s))) : St2 w g T V n bs (a + 2 * bs) W d := by
  refine ⟨h1, h2, fun s q1 q2 => ?_, h6, Nat.dvd_add ha (Nat.dvd_refl _)⟩
  by_cases e : s = a
  · subst e
    rw [show s + 2 * bs - s = 2 * bs by omega] at h4
    exact h4
  · exact h5 s q1 (dv ha q1 (by omega))
theorem st2_end {n a bs : Nat} {T : Int → Int → Prop} {V d : List Int} (ha : 2 * bs ∣ a) (han : n < a + 2 * bs) (h4 : a < n → Ch T V d a (n - a)) (h5 : To T V d (2 * bs) a) (hn : a ≤ n) : Fr T V d n (2 * bs) 0 := by
  intro s _ q1 q2
  by_cases e : s = a
  · subst e
    rw [show min (2 * bs) (n - s) = n - s by omega]
    exact h4 q2
  · by_cases e2 : s < a
    · have := dv ha q1 e2
      rw [show min (2 * bs) (n - s) = 2 * bs by omega]
      exact h5 s q1 this
    · have := dv q1 ha (by omega)
      omega
theorem fr_done {n bs : Nat} {T : Int → Int → Prop} {V d : List Int} (h : Fr T V d n bs 0) (hd : d.length = n) (hv : V.length = n) (hb : n ≤ bs) : d.Perm V ∧ Sd T d := by
  by_cases e : n = 0
  · rw [List.eq_nil_of_length_eq_zero (show d.length = 0 by omega), List.eq_nil_of_length_eq_zero (show V.length = 0 by omega)]
    exact ⟨List.Perm.refl _, List.Pairwise.nil⟩
  · have h1 := h 0 (Nat.le_refl _) (Nat.dvd_zero _) (by omega)
    have e1 : ∀ l : List Int, l.length = n → ck l 0 (min bs (n - 0)) = l := fun l hl => by
      unfold ck
      rw [List.drop_zero]
      exact List.take_of_length_le (by omega)
    have p := h1.pm
    have s := h1.sd
    rw [e1 d hd] at p s
    rw [e1 V hv] at p
    exact ⟨p, s⟩
set_option maxHeartbeats 8000000 in
theorem stab_any {w W : World} {g cap bb n : Nat} {V : List Int} {T lt : Int → Int → Prop} {U : List Int} (hT : Ord T) (hc : Cmp w g U lt cmpF #[.pointer (some ⟨bb, 0, none⟩)]) (hU : ∀ y ∈ V, y ∈ U) (hV : Row0 T lt V) (hn2 : n ≤ 256) (hn : V.length = n) (h : Dt w g V W) :
    Calls Tryz.prog 65 #[.slice (some ⟨g, 0, none⟩) n cap, .int .i64 (n : Nat), cmpV bb] W fun e w' => e = .returned (.tuple #[]) ∧ ∃ Z, Z.Perm V ∧ Sd T Z ∧ Dt w g Z w' := by
  have HI := hidW (fun (a b : Nat) (W : World) (d : List Int) (q : St1 w g T V n a W d) (q1 : a ≤ b) (q2 : b ≤ n) => ins_st (cap := cap) hT hc hU hV hn2 a b q q1 q2)
  have HS := hidW (fun (bs a m b : Nat) (W : World) (d : List Int) (q0 : 1 ≤ bs) (q : St2 w g T V n bs a W d) (q1 : m = a + bs) (q2 : m < b) (q3 : b ≤ n) q4 => sym_st (cap := cap) hT hc hU hV hn2 bs a m b q0 q q1 q2 q3 q4)
  have H0 := hidW (show ∃ d, St1 w g T V n 0 W d from ⟨V, h, hn, rfl, fun s _ q => by omega, Nat.dvd_zero _⟩)
  have HN := hidW hn
  clear hT hc hU hV hn h
  go_enter Tryz.func65, Tryz.ntmps65
  go_wp2_with fail
  go_loopw [7, 8] (fun s7 s8 wr => ∃ a : Nat, s7 = .int .i64 (a : Int) ∧ s8 = .int .i64 ((a + 20 : Nat) : Int) ∧ a ≤ n ∧ Hid (∃ d, St1 w g T V n a wr d)) (fun s7 _ _ => n - (intOf s7).toNat)
  case atStart => exact ⟨0, rfl, rfl, by omega, H0⟩
  case round =>
    obtain ⟨a, rfl, rfl, ha, HA⟩ := hrel
    obtain ⟨b, hb⟩ : ∃ b, b = a + 20 := ⟨_, rfl⟩
    rw [← hb]
    by_cases hbn : b ≤ n
    · have hlt : (b : Int) ≤ (n : Int) := by omega
      obtain ⟨d, hd⟩ := HA.out
      have kI := HI.out a b wr d hd (by omega) hbn
      have HX := hidW (And.intro hb hd.dva)
      clear hd HA H0 hb
      go_wp2_with (go_at_call 74; refine kI.mono ?_; rintro e v1 ⟨rfl, d1, g1, g2, g3, g4, g5⟩; have HR := hidW (show ∃ d, St1 w g T V n b v1 d by rw [HX.out.1] at g3 g4 ⊢; exact ⟨d1, st1_next HX.out.2 g1 g2 g3 g4 g5⟩); clear g1 g2 g3 g4 g5)
      go_roundw
      case rel => exact ⟨b, rfl, by go_num, hbn, HR⟩
      case measure => have := HX.out.1; simp [intOf]; omega
    · have hlt : ¬ (b : Int) ≤ (n : Int) := by omega
      obtain ⟨d, hd⟩ := HA.out
      have kI := HI.out a n wr d hd ha (Nat.le_refl _)
      have HX := hidW (And.intro hd.dva (show n < a + 20 by omega))
      clear hd HA H0 hb hbn
      go_wp2_with (go_at_call 74; refine kI.mono ?_; rintro e v1 ⟨rfl, d1, g1, g2, g3, g4, g5⟩; have HR := hidW (show ∃ d, Dt w g d v1 ∧ d.length = n ∧ Fr T V d n 20 0 from ⟨d1, g1, g2, st1_end HX.out.1 HX.out.2 g4 g5 ha⟩); clear g1 g2 g3 g4 g5)
      go_loopw [6] (fun s6 wr => ∃ bs : Nat, s6 = .int .i64 (bs : Int) ∧ 1 ≤ bs ∧ bs ≤ 1024 ∧ Hid (∃ d, Dt w g d wr ∧ d.length = n ∧ Fr T V d n bs 0)) (fun s6 _ => n - (intOf s6).toNat)
      case atStart => exact ⟨20, rfl, by omega, by omega, HR⟩
      case round =>
        obtain ⟨bs, rfl, hb1, hb2, HF⟩ := hrel
        by_cases hbn : bs < n
        · have hlt : (bs : Int) < (n : Int) := by omega
          obtain ⟨b2, hb22⟩ : ∃ b2, b2 = 2 * bs := ⟨_, rfl⟩
          have w1 : 2 * (bs : Int) = (b2 : Int) := by omega
          have w1' : (bs : Int) * 2 = (b2 : Int) := by omega
          have HST := hidW (show ∃ d, St2 w g T V n bs 0 wr d by
            obtain ⟨d, g1, g2, g3⟩ := HF.out
            exact ⟨d, g1, g2, fun s _ q => by omega, g3, Nat.dvd_zero _⟩)
          have HB := hidW hb22
          have hb3 : b2 ≤ 512 := by omega
          clear hb22
          go_wp2_with fail
          go_loopw [7, 8] (fun s7 s8 wr => ∃ a : Nat, s7 = .int .i64 (a : Int) ∧ s8 = .int .i64 ((a + b2 : Nat) : Int) ∧ a ≤ n ∧ Hid (∃ d, St2 w g T V n bs a wr d)) (fun s7 _ _ => n - (intOf s7).toNat)
          case atStart => exact ⟨0, rfl, by first | rfl | go_num, by omega, HST⟩
          case round =>
            obtain ⟨a, rfl, rfl, ha, HA⟩ := hrel
            obtain ⟨b, hb⟩ : ∃ b, b = a + b2 := ⟨_, rfl⟩
            obtain ⟨m, hm⟩ : ∃ m, m = a + bs := ⟨_, rfl⟩
            rw [← hb]
            have w2 : (a : Int) + (bs : Int) = (m : Int) := by omega
            have hmn2 : m ≤ 2048 := by omega
            by_cases hbn : b ≤ n
            · have hlt2 : (b : Int) ≤ (n : Int) := by omega
              obtain ⟨d, hd⟩ := HA.out
              have hB := HB.out
              have kS := HS.out bs a m b wr d hb1 hd hm (by omega) hbn (.inl (by omega))
              have HX := hidW (And.intro (show b = a + 2 * bs by omega) (And.intro hd.dva (show a < b by omega)))
              clear hd HA hb hm hB
              go_wp2_with (go_at_call 75; refine kS.mono ?_; rintro e v2 ⟨rfl, d1, g1, g2, g3, g4, g5⟩; have HR2 := hidW (show ∃ d, St2 w g T V n bs b v2 d by rw [HX.out.1] at g3 g5 ⊢; exact ⟨d1, st2_next HX.out.2.1 g1 g2 g3 g4 g5⟩); clear g1 g2 g3 g4 g5)
              go_roundw
              case rel => exact ⟨b, rfl, by go_num, hbn, HR2⟩
              case measure => have := HX.out; simp [intOf]; omega
            · have hlt2 : ¬ (b : Int) ≤ (n : Int) := by omega
              obtain ⟨d, hd⟩ := HA.out
              have hB := HB.out
              by_cases hmn : m < n
              · have hlt3 : (m : Int) < (n : Int) := by omega
                have kS := HS.out bs a m n wr d hb1 hd hm hmn (Nat.le_refl _) (.inr ⟨rfl, by omega⟩)
                have HX := hidW (And.intro hd.dva (show n < a + 2 * bs by omega))
                clear hd HA hb hm hB hbn hmn
                go_wp2_with (go_at_call 75; refine kS.mono ?_; rintro e v2 ⟨rfl, d1, g1, g2, g3, g4, g5⟩; have HR2 := hidW (show ∃ d, Dt w g d v2 ∧ d.length = n ∧ Fr T V d n b2 0 by rw [HB.out]; exact ⟨d1, g1, g2, st2_end HX.out.1 HX.out.2 (fun _ => g3) g4 ha⟩); clear g1 g2 g3 g4 g5)
                go_roundw
                case rel => exact ⟨b2, by first | rfl | go_num, by have := HB.out; omega, by omega, HR2⟩
                case measure => have := HB.out; simp [intOf]; omega
              · have hlt3 : ¬ (m : Int) < (n : Int) := by omega
                have HR2 := hidW (show ∃ d, Dt w g d wr ∧ d.length = n ∧ Fr T V d n b2 0 by
                  rw [hB]
                  exact ⟨d, hd.dt, hd.ln, st2_end hd.dva (by omega) (fun q => by
                    have := hd.fr a (Nat.le_refl _) (Nat.dvd_trans (Nat.dvd_mul_left bs 2) hd.dva) q
                    rw [show min bs (n - a) = n - a by omega] at this
                    exact this) hd.to ha⟩)
                clear hd HA hb hm hB hbn hmn
                go_wp2
                go_roundw
                case rel => exact ⟨b2, by first | rfl | go_num, by have := HB.out; omega, by omega, HR2⟩
                case measure => have := HB.out; simp [intOf]; omega
        · have hlt : ¬ (bs : Int) < (n : Int) := by omega
          obtain ⟨d, g1, g2, g3⟩ := HF.out
          have HZ := hidW (And.intro (fr_done g3 g2 HN.out (by omega)) g1)
          clear g1 g2 g3 HF
          go_wp2
          go_end0
          exact ⟨rfl, d, HZ.out.1.1, HZ.out.1.2, HZ.out.2⟩
end Go.Proofs.YtmaekpfkkpkgpaaGreatDoor
