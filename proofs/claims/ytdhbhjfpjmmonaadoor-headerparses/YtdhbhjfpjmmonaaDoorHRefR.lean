/-
  The document's ParseCount and ParseMapping, walked.
-/
import Derived.Test.YtdhbhjfpjmmonaaDoorHRefQ
namespace Go.Proofs.YtdhbhjfpjmmonaaDoor
open Go.RowKit Go.Extern.Stop Go.Stop Go.Extern M

def PyPost (w : World) (l : List Nat) (size : Nat) (e : Ending) (w' : World) : Prop := ∃ pb poff c, e = .returned (.tuple #[.slice (some ⟨pb, poff, none⟩) size c, .bool true]) ∧ BRow w' (some ⟨pb, poff, none⟩) (bodyL l) ∧ size ≤ c ∧ c ≤ maxLen ∧ Below w.heap.size w w'
theorem pay_at {w : World} {a : Option Addr} {n cap kind size : Nat} {l : List Nat} (h : Lies w a n cap l) (hp : payOk kind size l) :
    Calls Tryd.prog 30 #[.slice a n cap, .int .u8 kind, .int .i64 size] w (PyPost w l size) := by
  refine (payload_yes a n cap kind size l w h hp).mono ?_
  rintro e w' ⟨a', z, c, rfl, hb, hh⟩
  obtain ⟨rfl, hr, g1, g2⟩ := hh rfl
  obtain ⟨pb, poff, rfl⟩ : ∃ pb poff, a' = some ⟨pb, poff, none⟩ := by
    rcases hr with h0 | ⟨pb, poff, h0, _⟩
    · have := body_len hp.1
      have := hp.1.2.1
      rw [h0] at *
      simp at *
      omega
    · exact ⟨pb, poff, h0⟩
  exact ⟨pb, poff, c, rfl, hr, g1, g2, hb⟩
def PnPost (w : World) (e : Ending) (w' : World) : Prop := ∃ a z c, e = .returned (.tuple #[.slice a z c, .bool false]) ∧ Below w.heap.size w w'
theorem pay_no {w : World} {a : Option Addr} {n cap kind size : Nat} {l : List Nat} (h : Lies w a n cap l) (hp : ¬ payOk kind size l) :
    Calls Tryd.prog 30 #[.slice a n cap, .int .u8 kind, .int .i64 size] w (PnPost w) := by
  refine (payload_no a n cap kind size l w h hp).mono ?_
  rintro e w' ⟨a', z, c, rfl, hb, _⟩
  exact ⟨a', z, c, rfl, hb⟩

set_option maxRecDepth 10000 in
set_option maxHeartbeats 4000000 in
theorem rpc_no {w : World} {a : Option Addr} {n cap : Nat} {l : List Nat} (h : Lies w a n cap l) (hp : ¬ payOk 69 5 l) :
    Calls Tryd.prog 14 #[.slice a n cap] w (CPost w (parseC l)) := by
  have cP : Calls Tryd.prog 30 #[.slice a n cap, .int .u8 69, .int .i64 5] w (PnPost w) := pay_no h hp
  rw [parseC_nopay hp]
  clear h hp
  go_enter Tryd.func14, Tryd.ntmps14
  go_wp2_with (go_at_call 30; refine cP.mono ?_; rintro e w1 ⟨a1, z1, c1, rfl, hb1⟩; have HB1 : Hid (Below _ _ _) := hb1; clear hb1)
  go_ret2
  exact ⟨rfl, HB1.out⟩
set_option maxRecDepth 10000 in
set_option maxHeartbeats 4000000 in
theorem rpc_yes {w : World} {a : Option Addr} {n cap : Nat} {l : List Nat} (h : Lies w a n cap l) (hp : payOk 69 5 l) :
    Calls Tryd.prog 14 #[.slice a n cap] w (CPost w (parseC l)) := by
  have cP : Calls Tryd.prog 30 #[.slice a n cap, .int .u8 69, .int .i64 5] w (PyPost w l 5) := pay_at h hp
  have hbl : (bodyL l).length = 5 := by rw [body_len hp.1, hp.2.2.1]
  have hlt : ∀ x ∈ bodyL l, x < 256 := lt_of_sub h.lt 6 _
  obtain ⟨G, hG⟩ : ∃ G, G = getL ((bodyL l).drop 1) := ⟨_, rfl⟩
  have hGl : G < 4294967296 := by
    rw [hG]
    have := getL_lt ((bodyL l).drop 1) (fun x hx => hlt x (List.mem_of_mem_drop hx))
    rw [List.length_drop, hbl] at this
    exact this
  have cG : Hid (∀ (w1 : World) (pb poff c : Nat), BRow w1 (some ⟨pb, poff, none⟩) (bodyL l) → Calls Tryd.prog 31 #[.slice (some ⟨pb, poff + 1, none⟩) 4 c] w1 fun e w' => e = .returned (.int .u64 (G : Int)) ∧ w1 = w') := fun w1 pb poff c hr =>
    rget_at _ c (((bodyL l).drop 1).take 4) w1 4 G (by simp [hbl]) (by rw [hG, List.take_take, List.take_of_length_le (by simp [hbl])]) (by simp [hbl]; decide) (lt_of_sub hlt 1 4) hr.sub
  have hres := parseC_pay hp
  rw [← hG] at hres
  rw [hres]
  clear hres h hp hbl hlt hG
  by_cases hg : G ≤ 2147483647
  · rw [if_pos hg]
    have i1 : ¬ (2147483647 : Int) < (G : Int) := by omega
    go_enter Tryd.func14, Tryd.ntmps14
    go_wp2_with (first
      | (go_at_call 30; refine cP.mono ?_; rintro e w1 ⟨pb, poff, c1, rfl, hr1, g1, g2, hb1⟩; have HB1 : Hid (Below _ _ _) := hb1; have HR1 : Hid (BRow _ _ _) := hr1; unfold maxLen at g2; have g3 : ¬ c1 = 1 := (by omega); clear hb1 hr1)
      | (go_at_call 31; refine (cG.out _ _ _ _ HR1.out).mono ?_; rintro e w' ⟨rfl, rfl⟩))
    go_ret2
    exact ⟨rfl, HB1.out⟩
  · rw [if_neg hg]
    have i1 : (2147483647 : Int) < (G : Int) := by omega
    go_enter Tryd.func14, Tryd.ntmps14
    go_wp2_with (first
      | (go_at_call 30; refine cP.mono ?_; rintro e w1 ⟨pb, poff, c1, rfl, hr1, g1, g2, hb1⟩; have HB1 : Hid (Below _ _ _) := hb1; have HR1 : Hid (BRow _ _ _) := hr1; unfold maxLen at g2; have g3 : ¬ c1 = 1 := (by omega); clear hb1 hr1)
      | (go_at_call 31; refine (cG.out _ _ _ _ HR1.out).mono ?_; rintro e w' ⟨rfl, rfl⟩))
    go_ret2
    exact ⟨rfl, HB1.out⟩
theorem rparseCount {w : World} {a : Option Addr} {n cap : Nat} {l : List Nat} (h : Lies w a n cap l) : Calls Tryd.prog 14 #[.slice a n cap] w (CPost w (parseC l)) := by
  by_cases hp : payOk 69 5 l
  · exact rpc_yes h hp
  · exact rpc_no h hp
end Go.Proofs.YtdhbhjfpjmmonaaDoor
