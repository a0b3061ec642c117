/-
  What was packed is unpacked.
-/
import Derived.Test.YtfalbbcbgkiejaaIUnp
namespace Go.Proofs.Ytfalbbcbgkiejaa
open Go.RowKit M

theorem tx_app (s rest : List UInt8) (n : Nat) (h : s.length = n) (sh : Bool) : txV n (s ++ rest) = s ∧ txR n (s ++ rest) = rest ∧ txS n (s ++ rest) sh = sh := by
  have hl : ¬ (s ++ rest).length < n := by rw [List.length_append]; omega
  unfold txV txR txS
  rw [if_neg hl, if_neg hl, if_neg hl]
  exact ⟨List.take_left' h, List.drop_left' h, rfl⟩
theorem num_app (m k : Nat) (hm : m ≤ 8) (hk : k < 256 ^ m) (rest : List UInt8) (sh : Bool) : numV m (u8s (putL m k) ++ rest) = k ∧ txR m (u8s (putL m k) ++ rest) = rest ∧ txS m (u8s (putL m k) ++ rest) sh = sh := by
  obtain ⟨h1, h2, h3⟩ := tx_app (u8s (putL m k)) rest m (by rw [u8s_length, putL_length]) sh
  refine ⟨?_, h2, h3⟩
  unfold numV
  rw [h1, nats_u8s (putL_lt _ _), List.take_of_length_le (by rw [putL_length]; exact hm), getL_putL, Nat.mod_eq_of_lt hk]
theorem nat_toNat {z : Int} (h : 0 ≤ z) : ((z.toNat : Nat) : Int) = z := by omega
theorem stL_u8 (s : St) : u8s (stL s) = u8s (putL 1 s.key.size) ++ (kb s.key ++ (u8s (putL 2 s.leb.toNat) ++ (u8s (putL 3 s.pos.toNat) ++ u8s (putL 2 s.size.toNat)))) := by
  unfold stL
  rw [u8s_append, u8s_append, u8s_append, u8s_append, u8s_nats]
  simp only [List.append_assoc]
theorem slot_back {s : St} (h : s.Ok) (rest : List UInt8) (sh : Bool) : slV (u8s (stL s) ++ rest) = s ∧ sl5 (u8s (stL s) ++ rest) = rest ∧ slS (u8s (stL s) ++ rest) sh = sh := by
  obtain ⟨k1, k2, k3, k4, k5⟩ := h
  rw [stL_u8]
  simp only [List.append_assoc]
  obtain ⟨a1, a2, a3⟩ := num_app 1 s.key.size (by decide) (by omega) (kb s.key ++ (u8s (putL 2 s.leb.toNat) ++ (u8s (putL 3 s.pos.toNat) ++ (u8s (putL 2 s.size.toNat) ++ rest)))) sh
  obtain ⟨b1, b2, b3⟩ := tx_app (kb s.key) (u8s (putL 2 s.leb.toNat) ++ (u8s (putL 3 s.pos.toNat) ++ (u8s (putL 2 s.size.toNat) ++ rest))) s.key.size (kb_len _) sh
  obtain ⟨c1, c2, c3⟩ := num_app 2 s.leb.toNat (by decide) (by omega) (u8s (putL 3 s.pos.toNat) ++ (u8s (putL 2 s.size.toNat) ++ rest)) sh
  obtain ⟨d1, d2, d3⟩ := num_app 3 s.pos.toNat (by decide) (by omega) (u8s (putL 2 s.size.toNat) ++ rest) sh
  obtain ⟨e1, e2, e3⟩ := num_app 2 s.size.toNat (by decide) (by omega) rest sh
  obtain ⟨R, hR⟩ : ∃ R, R = u8s (putL 1 s.key.size) ++ (kb s.key ++ (u8s (putL 2 s.leb.toNat) ++ (u8s (putL 3 s.pos.toNat) ++ (u8s (putL 2 s.size.toNat) ++ rest)))) := ⟨_, rfl⟩
  rw [← hR] at a1 a2 a3 ⊢
  have s0 : slK R = s.key.size := a1
  have s1 : sl1 R = _ := a2
  have s2 : sl2 R = u8s (putL 2 s.leb.toNat) ++ (u8s (putL 3 s.pos.toNat) ++ (u8s (putL 2 s.size.toNat) ++ rest)) := by unfold sl2; rw [s0, s1, b2]
  have s3 : sl3 R = u8s (putL 3 s.pos.toNat) ++ (u8s (putL 2 s.size.toNat) ++ rest) := by unfold sl3; rw [s2, c2]
  have s4 : sl4 R = u8s (putL 2 s.size.toNat) ++ rest := by unfold sl4; rw [s3, d2]
  refine ⟨?_, ?_, ?_⟩
  · unfold slV
    rw [s0, s1, s2, s3, s4, b1, c1, d1, e1, nat_toNat k3.1, nat_toNat k4.1, nat_toNat k5.1, show bs (kb s.key) = s.key from bs_of s.key]
  · unfold sl5; rw [s4, e2]
  · unfold slS; rw [s0, s1, s2, s3, s4, a3, b3, c3, d3, e3]
theorem slots_back : ∀ {l : List St}, (∀ s ∈ l, s.Ok) → ∀ (sh : Bool), rdS l.length (u8s (l.flatMap stL)) = l ∧ rdR l.length (u8s (l.flatMap stL)) = [] ∧ rdF l.length (u8s (l.flatMap stL)) sh = sh
  | [], _, _ => ⟨rfl, rfl, rfl⟩
  | s :: l, h, sh => by
    obtain ⟨h1, h2, h3⟩ := slot_back (h s (List.mem_cons_self ..)) (u8s (l.flatMap stL)) sh
    obtain ⟨i1, i2, i3⟩ := slots_back (l := l) (fun x hx => h x (List.mem_cons_of_mem _ hx)) sh
    rw [List.flatMap_cons, u8s_append, List.length_cons, rdS, rdR, rdF, h1, h2, h3, i1, i2, i3]
    exact ⟨rfl, rfl, rfl⟩
theorem imgL_u8 (level : Int) (l : List St) : u8s (imgL level l) = u8s (putL 1 84) ++ (u8s (putL 1 level.toNat) ++ (u8s (putL 1 l.length) ++ u8s (l.flatMap stL))) := by
  unfold imgL
  rw [u8s_append, u8s_append, u8s_append, show u8s [84] = u8s (putL 1 84) from rfl]
  simp only [List.append_assoc]
theorem upk_back {level : Int} {l : List St} (h : imgOk level l = true) : upk (u8s (imgL level l)) = some (level.toNat, l) := by
  obtain ⟨h1, ⟨h2, h3⟩, h4⟩ := imgOk_iff h
  have hok := rises_mem h4
  have hpk := pkN_le hok
  have hlen : (u8s (imgL level l)).length = 3 + pkN l := by rw [u8s_length, imgL_len]
  obtain ⟨a1, a2, a3⟩ := num_app 1 84 (by decide) (by decide) (u8s (putL 1 level.toNat) ++ (u8s (putL 1 l.length) ++ u8s (l.flatMap stL))) false
  obtain ⟨b1, b2, b3⟩ := num_app 1 level.toNat (by decide) (by omega) (u8s (putL 1 l.length) ++ u8s (l.flatMap stL)) false
  obtain ⟨c1, c2, c3⟩ := num_app 1 l.length (by decide) (by omega) (u8s (l.flatMap stL)) false
  obtain ⟨d1, d2, d3⟩ := slots_back hok false
  rw [imgL_u8] at hlen ⊢
  obtain ⟨R, hR⟩ : ∃ R, R = u8s (putL 1 84) ++ (u8s (putL 1 level.toNat) ++ (u8s (putL 1 l.length) ++ u8s (l.flatMap stL))) := ⟨_, rfl⟩
  rw [← hR] at a1 a2 a3 hlen ⊢
  have m0 : upM R = 84 := a1
  have m1 : upL R = level.toNat := by unfold upL; rw [a2, b1]
  have m2 : upC R = l.length := by unfold upC; rw [a2, b2, c1]
  have m3 : upR R = u8s (l.flatMap stL) := by unfold upR; rw [a2, b2, c2]
  have m4 : upF R = false := by unfold upF; rw [a2, a3, b2, b3, c3]
  unfold upk
  rw [if_neg (by omega), m0, m1, m2, m3, m4, d1, d2, d3, nat_toNat h1.1, h]
  rw [if_neg (by simp; omega)]
  rfl
/-- Unlike images have unlike bytes. -/
theorem img_inj {x y : Int} {l k : List St} (h1 : imgOk x l = true) (h2 : imgOk y k = true) : imgL x l = imgL y k ↔ (x = y ∧ l = k) := by
  constructor
  · intro e
    have a := upk_back h1
    rw [e, upk_back h2] at a
    simp only [Option.some.injEq, Prod.mk.injEq] at a
    have b1 := (imgOk_iff h1).1
    have b2 := (imgOk_iff h2).1
    exact ⟨by omega, a.2.symm⟩
  · rintro ⟨rfl, rfl⟩; rfl
end Go.Proofs.Ytfalbbcbgkiejaa
