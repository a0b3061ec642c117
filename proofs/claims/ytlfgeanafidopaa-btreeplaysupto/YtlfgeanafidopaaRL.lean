/-
  The document's keyed: a level's keys stand right.
-/
import Derived.Test.YtlfgeanafidopaaRK
namespace Go.Proofs.Ytlfgeanafidopaa.Bt
open Go.RowKit Go.Shelf
set_option maxRecDepth 10000

theorem first_any {w : World} {G cap : Nat} {RR : List (List Shc)} (h : LvAt w G cap RR) (hK : Kin RR) : ∀ (d k : Nat), k + d + 1 = RR.length →
    Calls Try.prog 41 #[.slice (some ⟨G, 0, none⟩) RR.length cap, .int .i64 (k : Nat)] w fun e w' => FstO w (fstL (RR.drop k)) e w'
  | 0, k, hk => by
    have hlt : k < RR.length := by omega
    have e := List.drop_eq_getElem_cons hlt
    have e2 : RR.drop (k + 1) = [] := List.drop_eq_nil_of_le (by omega)
    rw [e, e2]
    exact first_last h hK (by omega) (List.getElem?_eq_getElem hlt)
  | d + 1, k, hk => by
    have hlt : k < RR.length := by omega
    have hlt2 : k + 1 < RR.length := by omega
    have e := List.drop_eq_getElem_cons hlt
    have e2 := List.drop_eq_getElem_cons hlt2
    have ih := first_any h hK d (k + 1) (by omega)
    rw [e2] at ih
    rw [e, e2]
    exact first_step h hK hlt2 (List.getElem?_eq_getElem hlt) (List.getElem?_eq_getElem hlt2) (fstL_len _ _) (fstL_zero _ _) ih
/-- Less of two keys, in every world. -/
def LessIs (a b : K) (x : Bool) : Prop := ∀ W : World, Calls Try.prog 43 #[.string a, .string b] W fun e w' => e = .returned (.bool x) ∧ ∃ q, w' = W.drewN q
theorem lessIs {a b : K} (ha : a.size ≤ maxLen) (hb : b.size ≤ maxLen) : LessIs a b (klt a b) := fun W => less_any ha hb W
theorem LessIs.q {a b : K} {x : Bool} (h : LessIs a b x) (w : World) (p n : Nat) : Calls Try.prog 43 #[.string a, .string b] (w.drewN (p + n)) fun e w'' => e = .returned (.bool x) ∧ ∃ m, w'' = w.drewN (p + m) :=
  (h _).mono fun _ _ ⟨he, m, hm⟩ => ⟨he, n + m, by rw [hm, World.drewN_drewN, Nat.add_assoc]⟩
/-- What keyed reads at one key. -/
structure KyJ (w : World) (NL b2 N2 Gb bL B at' j : Nat) (dd : Bool) : Prop where
  at_lt : at' < N2
  ex : ∃ (key : K) (lf B1 M1 : Nat) (k0 : K) (d3 : Bool), lf < NL ∧ 0 < M1 ∧ w.cell? ⟨B, j, none⟩ = some (.string key) ∧ w.cell? ⟨Gb, at', none⟩ = some (.int .i64 (lf : Int)) ∧ w.cell? ⟨bL, lf * 3 + 1, none⟩ = some (.slice (some ⟨B1, 0, none⟩) M1 M1) ∧ w.cell? ⟨B1, 0, none⟩ = some (.string k0) ∧ w.cell? ⟨b2, at' * 3 + 2, none⟩ = some (.bool d3) ∧ LessIs k0 key false ∧ (d3 = true → dd = true) ∧
    (lf = 0 ∨ ∃ (lf' B2 M2 : Nat) (kl : K), lf = lf' + 1 ∧ w.cell? ⟨bL, lf' * 3 + 1, none⟩ = some (.slice (some ⟨B2, 0, none⟩) (M2 + 1) (M2 + 1)) ∧ w.cell? ⟨B2, M2, none⟩ = some (.string kl) ∧ M2 ≤ 1000000 ∧ LessIs kl key true)
/-- What keyed reads. -/
structure KyW (w : World) (G L k N c b N2 c2 b2 NL cL bL Gb : Nat) (C : Nat → Nat) : Prop where
  x1 : w.cell? ⟨G, k, none⟩ = some (.slice (some ⟨b, 0, none⟩) N c)
  x2 : w.cell? ⟨G, k + 1, none⟩ = some (.slice (some ⟨b2, 0, none⟩) N2 c2)
  x3 : w.cell? ⟨G, L - 1, none⟩ = some (.slice (some ⟨bL, 0, none⟩) NL cL)
  row : ∀ i, i < N → ∃ (B M : Nat) (dd : Bool), C (i + 1) = C i + M ∧ C (i + 1) ≤ N2 ∧ w.cell? ⟨b, i * 3 + 1, none⟩ = some (.slice (some ⟨B, 0, none⟩) M M) ∧ w.cell? ⟨b, i * 3 + 2, none⟩ = some (.bool dd) ∧ ∀ j, j < M → KyJ w NL b2 N2 Gb bL B (C i + j) j dd
set_option maxHeartbeats 8000000 in
theorem keyed_in {w : World} {G cap L k N c b N2 c2 b2 NL cL bL : Nat} {C : Nat → Nat} (hL : L ≤ 100000000) (hk : k + 1 < L) (hN : N ≤ 100000000) (hN2 : N2 ≤ 100000000) (hNL : NL ≤ 100000000) (hC0 : C 0 = 0)
    (hcall : Calls Try.prog 41 #[.slice (some ⟨G, 0, none⟩) L cap, .int .i64 ((k + 1 : Nat) : Int)] w fun e w' => ∃ Gb cb, e = .returned (.tuple #[.slice (some ⟨Gb, 0, none⟩) (N2 + 1) cb, .bool true]) ∧ Below w.heap.size w w' ∧ KyW w' G L k N c b N2 c2 b2 NL cL bL Gb C) :
    Calls Try.prog 42 #[.slice (some ⟨G, 0, none⟩) L cap, .int .i64 (k : Nat)] w fun e w' => e = .returned (.bool true) ∧ Below w.heap.size w w' := by
  have HCa : Hid (Calls Try.prog 41 #[.slice (some ⟨G, 0, none⟩) L cap, .int .i64 ((k + 1 : Nat) : Int)] w fun e w' => ∃ Gb cb, e = .returned (.tuple #[.slice (some ⟨Gb, 0, none⟩) (N2 + 1) cb, .bool true]) ∧ Below w.heap.size w w' ∧ KyW w' G L k N c b N2 c2 b2 NL cL bL Gb C) := hcall
  have HC0 : Hid (C 0 = 0) := hC0
  clear hcall hC0
  obtain ⟨L1, hL1⟩ : ∃ L1, L = L1 + 1 := ⟨L - 1, by omega⟩
  obtain ⟨k', hk'⟩ : ∃ k', k' = k + 1 := ⟨_, rfl⟩
  have HL1 : Hid (L - 1 = L1) := by show L - 1 = L1; omega
  have HK1 : Hid (k' = k + 1) := hk'
  rw [← hk'] at HCa
  have hj : IntKind.i64.wrap ((L : Int) - 1) = (L1 : Int) := by rw [IntKind.wrap_i64]; omega
  have hj3 : IntKind.i64.wrap ((k : Int) + 1) = (k' : Int) := by rw [IntKind.wrap_i64]; omega
  have k1 : (k : Int) < (L : Int) := by omega
  have k2 : (0 : Int) ≤ (k : Int) := by omega
  have k3 : (k' : Int) < (L : Int) := by omega
  have k4 : (0 : Int) ≤ (k' : Int) := by omega
  have k5 : (L1 : Int) < (L : Int) := by omega
  have k6 : (0 : Int) ≤ (L1 : Int) := by omega
  clear hL1 hk'
  go_enter Try.func42, Try.ntmps42
  go_wp2_with (go_at_call 41; refine HCa.out.mono ?_; rintro e w9 ⟨Gb, cb, rfl, hBw, hW⟩; have HBw : Hid (Below w.heap.size w w9) := hBw; obtain ⟨x1, x2, x3, hr⟩ := hW; rw [HL1.out] at x3; rw [← HK1.out] at x2; have HR : Hid (∀ i, i < N → ∃ (B M : Nat) (dd : Bool), C (i + 1) = C i + M ∧ C (i + 1) ≤ N2 ∧ w9.cell? ⟨b, i * 3 + 1, none⟩ = some (.slice (some ⟨B, 0, none⟩) M M) ∧ w9.cell? ⟨b, i * 3 + 2, none⟩ = some (.bool dd) ∧ ∀ j, j < M → KyJ w9 NL b2 N2 Gb bL B (C i + j) j dd) := hr; clear hr hBw)
  go_loopg [8, 9] N (fun kx s8 s9 wr => ∃ i q : Nat, i + kx = N ∧ s8 = .int .i64 (C i : Nat) ∧ s9 = .int .i64 (i : Nat) ∧ wr = w9.drewN q)
  case atStart => exact ⟨0, 0, by omega, by rw [HC0.out]; rfl, rfl, rfl⟩
  case round =>
    obtain ⟨i, q, hi, rfl, rfl, rfl⟩ := hrel
    by_cases hlt : i < N
    · obtain ⟨B, M, dd, y1, y2, y3, y4, y5⟩ := HR.out i hlt
      have HJ : Hid (∀ j, j < M → KyJ w9 NL b2 N2 Gb bL B (C i + j) j dd) := y5
      have HC1 : Hid (C (i + 1) = C i + M) := y1
      have hi1 : (i : Int) < (N : Int) := by omega
      have hi2 : (0 : Int) ≤ (i : Int) := by omega
      obtain ⟨Ci, hCi⟩ : ∃ Ci, Ci = C i := ⟨_, rfl⟩
      have HCi : Hid (Ci = C i) := hCi
      rw [← hCi] at y1 HJ HC1 ⊢
      have hMb : Ci + M ≤ N2 := by omega
      clear y5 hCi y1 y2
      go_wp2
      go_loopg [8, 10] M (fun kx s8 s10 wr => ∃ j q : Nat, j + kx = M ∧ s8 = .int .i64 ((Ci + j : Nat) : Int) ∧ s10 = .int .i64 (j : Nat) ∧ wr = w9.drewN q)
      case atStart => exact ⟨0, q, by omega, rfl, rfl, rfl⟩
      case round =>
        obtain ⟨j, q5, hj5, rfl, rfl, rfl⟩ := hrel
        by_cases hlt2 : j < M
        · obtain ⟨z0, key, lf, B1, M1, k0, d3, z1, z2, z3, z4, z5, z6, z7, z8, z9, z10⟩ := HJ.out j hlt2
          have HX : Hid (LessIs k0 key false) := z8
          obtain ⟨at', hat⟩ : ∃ at', at' = Ci + j := ⟨_, rfl⟩
          have HAt : Hid (at' = Ci + j) := hat
          rw [← hat] at z0 z4 z7 ⊢
          have j1 : (j : Int) < (M : Int) := by omega
          have j2 : (0 : Int) ≤ (j : Int) := by omega
          have a1 : (at' : Int) < ((N2 + 1 : Nat) : Int) := by omega
          have a2 : (0 : Int) ≤ (at' : Int) := by omega
          have a3 : (at' : Int) < (N2 : Int) := by omega
          have a4 : (lf : Int) < (NL : Int) := by omega
          have a5 : (0 : Int) ≤ (lf : Int) := by omega
          have a6 : (0 : Int) < (M1 : Int) := by omega
          have HD : Hid (d3 = true → dd = true) := z9
          clear z8 z9 hat
          rcases z10 with e0 | ⟨lf', B2, M2, kl, e0, t1, t2, t3, t4⟩
          · subst e0
            go_wp2_with (go_at_call 43; refine (HX.out _).mono ?_; rintro e W1 ⟨rfl, q7, rfl⟩)
            go_quiet (fail)
            cases d3
            · go_wp2
              go_roundg (M - (j + 1))
              case measure => omega
              case rel => exact ⟨j + 1, _, by omega, by rw [HAt.out]; go_num, by go_num, rfl⟩
            · have hdd : dd = true := HD.out rfl
              subst hdd
              go_wp2
              go_roundg (M - (j + 1))
              case measure => omega
              case rel => exact ⟨j + 1, _, by omega, by rw [HAt.out]; go_num, by go_num, rfl⟩
          · have g1 : (0 : Int) < (lf : Int) := by omega
            have g2 : IntKind.i64.wrap ((lf : Int) - 1) = (lf' : Int) := by rw [IntKind.wrap_i64]; omega
            have g3 : (lf' : Int) < (NL : Int) := by omega
            have g4 : (0 : Int) ≤ (lf' : Int) := by omega
            obtain ⟨M3, hM3⟩ : ∃ M3, M3 = M2 + 1 := ⟨_, rfl⟩
            rw [← hM3] at t1
            have g5 : IntKind.i64.wrap ((M3 : Int) - 1) = (M2 : Int) := by rw [IntKind.wrap_i64]; omega
            have g6 : (M2 : Int) < (M3 : Int) := by omega
            have g7 : (0 : Int) ≤ (M2 : Int) := by omega
            have HY : Hid (LessIs kl key true) := t4
            clear e0 t4 hM3
            go_wp2_with (go_at_call 43; refine (HX.out _).mono ?_; rintro e W1 ⟨rfl, q7, rfl⟩)
            have g8 : (0 : Int) < (lf : Int) := by omega
            have g9 : 0 < lf := by omega
            go_quiet (exact HY.out.q _ _ _)
            cases d3
            · go_wp2
              go_roundg (M - (j + 1))
              case measure => omega
              case rel => exact ⟨j + 1, _, by omega, by rw [HAt.out]; go_num, by go_num, rfl⟩
            · have hdd : dd = true := HD.out rfl
              subst hdd
              go_wp2
              go_roundg (M - (j + 1))
              case measure => omega
              case rel => exact ⟨j + 1, _, by omega, by rw [HAt.out]; go_num, by go_num, rfl⟩
        · have hj1 : ¬ (j : Int) < (M : Int) := by omega
          go_wp2
          go_roundg (N - (i + 1))
          case measure => omega
          case rel => exact ⟨i + 1, _, by omega, by rw [HC1.out]; congr 3; omega, by go_num, rfl⟩
    · have hi1 : ¬ (i : Int) < (N : Int) := by omega
      go_wp2
      go_ret
      exact ⟨rfl, bafter HBw.out (below_drawn w9 q)⟩
end Go.Proofs.Ytlfgeanafidopaa.Bt
