/-
  What the document's payload answers of any bytes.
-/
import Derived.Test.YtdhbhjfpjmmonaaDoorHRefM
namespace Go.Proofs.YtdhbhjfpjmmonaaDoor
open Go.RowKit Go.Extern.Stop Go.Stop Go.Extern M

/-- The payload, and whether it is one of that kind and size. -/
def PayPost (w : World) (l : List Nat) (size : Nat) (R : Bool) (e : Ending) (w' : World) : Prop :=
  ∃ a z c, e = .returned (.tuple #[.slice a z c, .bool R]) ∧ Below w.heap.size w w' ∧ (R = true → z = size ∧ BRow w' a (bodyL l) ∧ z ≤ c ∧ c ≤ maxLen)
theorem runno_at {w : World} {a : Option Addr} {n cap : Nat} {l : List Nat} (h : Lies w a n cap l) (hf : ¬ isFrame l) :
    Calls Tryd.prog 42 #[.slice a n cap] w fun e w' => e = .returned (.tuple #[.slice none 0 0, .int .i64 0, .bool false]) ∧ Below w.heap.size w w' := by
  have hn := h.len
  subst hn
  exact runframe_not a cap l w h.le (by have := h.max; unfold maxLen at this; omega) h.lt h.row hf
def RuPost (w : World) (l : List Nat) (z : Nat) (e : Ending) (w' : World) : Prop := ∃ a c, e = .returned (.tuple #[.slice a z c, .int .i64 (6 + (z : Int)), .bool true]) ∧ BRow w' a (bodyL l) ∧ z ≤ c ∧ c ≤ maxLen ∧ Below w.heap.size w w'
theorem runis_at {w : World} {a : Option Addr} {n cap z : Nat} {l : List Nat} (h : Lies w a n cap l) (hf : isFrame l) (hz : z = sizeL l) :
    Calls Tryd.prog 42 #[.slice a n cap] w (RuPost w l z) := by
  have hn := h.len
  subst hn
  have hbl : z = (bodyL l).length := by rw [hz]; have := hf.2.2.2.1; simp [bodyL]; omega
  refine (runframe_is a cap l w h.le (by have := h.max; unfold maxLen at this; omega) h.lt h.row hf).mono ?_
  rintro e w' ⟨v, rfl, ho⟩
  obtain ⟨a', c', rfl, hr', _, g1, g2⟩ := own_shape hbl ho.1
  rw [← hz]
  exact ⟨a', c', rfl, hr', g1, g2, ho.2⟩

theorem rblank_at (a : Option Addr) (cap n : Nat) (l : List Nat) (w : World) (R : Bool) (hn : n = l.length) (hR : R = l.all (· == 255)) (hl : l.length ≤ maxLen) (hr : BRow w a l) :
    Calls Tryd.prog 43 #[.slice a n cap] w fun e w' => e = .returned (.bool R) ∧ w = w' := by
  subst hn hR
  exact ref_blank a cap l w hl hr

set_option maxRecDepth 10000 in
set_option maxHeartbeats 4000000 in
theorem payload_not (a : Option Addr) (n cap kind size : Nat) (l : List Nat) (w : World) (h : Lies w a n cap l) (hf : ¬ isFrame l) :
    Calls Tryd.prog 30 #[.slice a n cap, .int .u8 kind, .int .i64 size] w (PayPost w l size false) := by
  have cU := runno_at h hf
  clear h hf
  go_enter Tryd.func30, Tryd.ntmps30
  go_wp2_with (go_at_call 42; refine cU.mono ?_; rintro e w1 ⟨rfl, hb1⟩; have HB1 : Hid (Below _ _ _) := hb1; clear hb1)
  go_ret2
  exact ⟨none, 0, 0, rfl, HB1.out, (fun h => by cases h)⟩

set_option maxRecDepth 10000 in
set_option maxHeartbeats 4000000 in
theorem payload_2 (b off n cap kind z size : Nat) (l : List Nat) (w : World) (h : Lies w (some ⟨b, off, none⟩) n cap l) (hf : isFrame l) (hz : z = sizeL l) (q1 : ¬ (64 : Int) ≤ (n : Int)) :
    Calls Tryd.prog 30 #[.slice (some ⟨b, off, none⟩) n cap, .int .u8 kind, .int .i64 size] w (PayPost w l size false) := by
  have cU := runis_at h hf hz
  clear h hf hz
  go_enter Tryd.func30, Tryd.ntmps30
  go_wp2_with (first
    | (go_at_call 42; refine cU.mono ?_; rintro e w1 ⟨a1, c1, rfl, hr1, g1, g2, hb1⟩; have HB1 : Hid (Below w.heap.size w w1) := hb1; have HR1 : Hid (BRow w1 _ _ ∧ z ≤ c1 ∧ c1 ≤ maxLen) := ⟨hr1, g1, g2⟩; clear hr1; clear hb1 g1 g2 cU))
  go_ret2
  exact ⟨_, _, _, rfl, HB1.out, (fun h => by cases h)⟩

set_option maxRecDepth 10000 in
set_option maxHeartbeats 4000000 in
theorem payload_3 (b off n cap kind z size : Nat) (l : List Nat) (w : World) (h : Lies w (some ⟨b, off, none⟩) n cap l) (hf : isFrame l) (hz : z = sizeL l) (q1 : (64 : Int) ≤ (n : Int)) (q2 : ¬ (n : Int) ≤ 512) :
    Calls Tryd.prog 30 #[.slice (some ⟨b, off, none⟩) n cap, .int .u8 kind, .int .i64 size] w (PayPost w l size false) := by
  have cU := runis_at h hf hz
  clear h hf hz
  go_enter Tryd.func30, Tryd.ntmps30
  go_wp2_with (first
    | (go_at_call 42; refine cU.mono ?_; rintro e w1 ⟨a1, c1, rfl, hr1, g1, g2, hb1⟩; have HB1 : Hid (Below w.heap.size w w1) := hb1; have HR1 : Hid (BRow w1 _ _ ∧ z ≤ c1 ∧ c1 ≤ maxLen) := ⟨hr1, g1, g2⟩; clear hr1; clear hb1 g1 g2 cU))
  go_ret2
  exact ⟨_, _, _, rfl, HB1.out, (fun h => by cases h)⟩

set_option maxRecDepth 10000 in
set_option maxHeartbeats 4000000 in
theorem payload_4 (b off n cap kind z size : Nat) (l : List Nat) (w : World) (h : Lies w (some ⟨b, off, none⟩) n cap l) (hf : isFrame l) (hz : z = sizeL l) (q1 : (64 : Int) ≤ (n : Int)) (q2 : (n : Int) ≤ 512) (q3 : ((z : Int) == (size : Int)) = false) :
    Calls Tryd.prog 30 #[.slice (some ⟨b, off, none⟩) n cap, .int .u8 kind, .int .i64 size] w (PayPost w l size false) := by
  have cU := runis_at h hf hz
  clear h hf hz
  go_enter Tryd.func30, Tryd.ntmps30
  go_wp2_with (first
    | (go_at_call 42; refine cU.mono ?_; rintro e w1 ⟨a1, c1, rfl, hr1, g1, g2, hb1⟩; have HB1 : Hid (Below w.heap.size w w1) := hb1; have HR1 : Hid (BRow w1 _ _ ∧ z ≤ c1 ∧ c1 ≤ maxLen) := ⟨hr1, g1, g2⟩; clear hr1; clear hb1 g1 g2 cU))
  go_ret2
  exact ⟨_, _, _, rfl, HB1.out, (fun h => by cases h)⟩

set_option maxRecDepth 10000 in
set_option maxHeartbeats 4000000 in
theorem payload_5 (b off n cap kind z : Nat) (l : List Nat) (w : World) (h : Lies w (some ⟨b, off, none⟩) n cap l) (hf : isFrame l) (hz : z = sizeL l) (q1 : (64 : Int) ≤ (n : Int)) (q2 : (n : Int) ≤ 512) (q4 : (((bodyL l).getD 0 0 : Nat) : Int) ≠ (kind : Int)) :
    Calls Tryd.prog 30 #[.slice (some ⟨b, off, none⟩) n cap, .int .u8 kind, .int .i64 z] w (PayPost w l z false) := by
  have cU := runis_at h hf hz
  have HZ1 : Hid (0 < (bodyL l).length) := by show _ < _; have := hf.2.1; have := hf.2.2.2.1; simp [bodyL]; omega
  have q3 : ((z : Int) == (z : Int)) = true := by simp
  have hz1 : (0 : Int) < (z : Int) := by have := hf.2.1; omega
  obtain ⟨x, hx⟩ : ∃ x, x = (bodyL l).getD 0 0 := ⟨_, rfl⟩
  rw [← hx] at q4
  have HX : Hid (x = (bodyL l).getD 0 0) := hx
  have q5 : ((x : Int) == (kind : Int)) = false := by simpa using q4
  clear hx q4
  clear h hf hz
  go_enter Tryd.func30, Tryd.ntmps30
  go_wp2_with (first
    | (go_at_call 42; refine cU.mono ?_; rintro e w1 ⟨a1, c1, rfl, hr1, g1, g2, hb1⟩; have HB1 : Hid (Below w.heap.size w w1) := hb1; obtain ⟨pb, poff, rfl, hcs⟩ : ∃ pb poff, a1 = some ⟨pb, poff, none⟩ ∧ ∀ i, i < (bodyL l).length → w1.cell? ⟨pb, poff + i, none⟩ = some (.int .u8 (((bodyL l).getD i 0 : Nat) : Int)) := by { rcases hr1 with h0 | h0; (have := HZ1.out; rw [h0] at this; simp at this); exact h0 }; have hc0 := hcs 0 HZ1.out; rw [← HX.out, Nat.add_zero] at hc0; have HR1 : Hid (BRow w1 (some ⟨pb, poff, none⟩) (bodyL l) ∧ z ≤ c1 ∧ c1 ≤ maxLen) := ⟨.inr ⟨pb, poff, rfl, hcs⟩, g1, g2⟩; clear hcs; clear hb1 g1 g2 cU))
  go_ret2
  exact ⟨_, _, _, rfl, HB1.out, (fun h => by cases h)⟩

set_option maxRecDepth 10000 in
set_option maxHeartbeats 4000000 in
theorem payload_6 (b off n cap kind z : Nat) (l : List Nat) (w : World) (h : Lies w (some ⟨b, off, none⟩) n cap l) (hf : isFrame l) (hz : z = sizeL l) (q1 : (64 : Int) ≤ (n : Int)) (q2 : (n : Int) ≤ 512) (q4 : (bodyL l).getD 0 0 = kind) (R : Bool) (hR : R = (restL l).all (· == 255)) :
    Calls Tryd.prog 30 #[.slice (some ⟨b, off, none⟩) n cap, .int .u8 kind, .int .i64 z] w (PayPost w l z R) := by
  have cU := runis_at h hf hz
  have HZ1 : Hid (0 < (bodyL l).length) := by show _ < _; have := hf.2.1; have := hf.2.2.2.1; simp [bodyL]; omega
  have q3 : ((z : Int) == (z : Int)) = true := by simp
  have hz1 : (0 : Int) < (z : Int) := by have := hf.2.1; omega
  obtain ⟨x, hx⟩ : ∃ x, x = (bodyL l).getD 0 0 := ⟨_, rfl⟩
  rw [← hx] at q4
  have HX : Hid (x = (bodyL l).getD 0 0) := hx
  have q5 : ((x : Int) == (kind : Int)) = true := by rw [q4]; simp
  have hzn : 6 + z ≤ n := by have h6 := hf.1; have h7 := hf.2.2.2.1; have := h.len; omega
  have hm := h.max
  have hc := h.le
  have cB1 : Hid (∀ wr c', Below w.heap.size w wr → Calls Tryd.prog 43 #[.slice (some ⟨b, off + (6 + z), none⟩) (n - (6 + z)) c'] wr fun e w' => e = .returned (.bool R) ∧ wr = w') := fun wr c' hb =>
    rblank_at _ c' _ (restL l) wr R (by simp [restL, hz, h.len]) hR (by have := h.len; simp [restL]; unfold maxLen at hm ⊢; omega) (by have := (h.row.later hb).sub (i := 6 + z) (j := l.length); rw [List.take_of_length_le (by simp)] at this; unfold restL; rw [← hz]; exact this)
  have cB2 : Hid (cap = 6 + z → ∀ wr ao c', Below w.heap.size w wr → Calls Tryd.prog 43 #[.slice ao (n - (6 + z)) c'] wr fun e w' => e = .returned (.bool R) ∧ wr = w') := fun e wr ao c' _ =>
    rblank_at _ c' _ [] wr R (by simp; omega) (by rw [hR]; unfold restL; rw [← hz, List.drop_eq_nil_of_le (by have := h.len; omega)]) (by simp) (.inl rfl)
  unfold maxLen at hm
  clear hx q4 hR
  clear h hf hz
  by_cases hcap : cap = 6 + z
  · subst hcap
    have hn2 : n = 6 + z := by omega
    subst hn2
    have cB := cB2.out rfl
    rw [Nat.sub_self] at cB
    clear cB1 cB2
    go_enter Tryd.func30, Tryd.ntmps30
    go_wp2_with (first
      | (go_at_call 42; refine cU.mono ?_; rintro e w1 ⟨a1, c1, rfl, hr1, g1, g2, hb1⟩; have HB1 : Hid (Below w.heap.size w w1) := hb1; obtain ⟨pb, poff, rfl, hcs⟩ : ∃ pb poff, a1 = some ⟨pb, poff, none⟩ ∧ ∀ i, i < (bodyL l).length → w1.cell? ⟨pb, poff + i, none⟩ = some (.int .u8 (((bodyL l).getD i 0 : Nat) : Int)) := by { rcases hr1 with h0 | h0; (have := HZ1.out; rw [h0] at this; simp at this); exact h0 }; have hc0 := hcs 0 HZ1.out; rw [← HX.out, Nat.add_zero] at hc0; have HR1 : Hid (BRow w1 (some ⟨pb, poff, none⟩) (bodyL l) ∧ z ≤ c1 ∧ c1 ≤ maxLen) := ⟨.inr ⟨pb, poff, rfl, hcs⟩, g1, g2⟩; clear hcs; clear hb1 g1 g2 cU)
      | (go_at_call 43; refine (cB _ _ _ HB1.out).mono ?_; rintro e w' ⟨rfl, rfl⟩))
    go_ret2
    exact ⟨_, _, _, rfl, HB1.out, fun _ => ⟨rfl, HR1.out.1, HR1.out.2.1, HR1.out.2.2⟩⟩
  · have cB := cB1.out
    clear cB1 cB2
    go_enter Tryd.func30, Tryd.ntmps30
    go_wp2_with (first
      | (go_at_call 42; refine cU.mono ?_; rintro e w1 ⟨a1, c1, rfl, hr1, g1, g2, hb1⟩; have HB1 : Hid (Below w.heap.size w w1) := hb1; obtain ⟨pb, poff, rfl, hcs⟩ : ∃ pb poff, a1 = some ⟨pb, poff, none⟩ ∧ ∀ i, i < (bodyL l).length → w1.cell? ⟨pb, poff + i, none⟩ = some (.int .u8 (((bodyL l).getD i 0 : Nat) : Int)) := by { rcases hr1 with h0 | h0; (have := HZ1.out; rw [h0] at this; simp at this); exact h0 }; have hc0 := hcs 0 HZ1.out; rw [← HX.out, Nat.add_zero] at hc0; have HR1 : Hid (BRow w1 (some ⟨pb, poff, none⟩) (bodyL l) ∧ z ≤ c1 ∧ c1 ≤ maxLen) := ⟨.inr ⟨pb, poff, rfl, hcs⟩, g1, g2⟩; clear hcs; clear hb1 g1 g2 cU)
      | (go_at_call 43; refine (cB _ _ HB1.out).mono ?_; rintro e w' ⟨rfl, rfl⟩))
    go_ret2
    exact ⟨_, _, _, rfl, HB1.out, fun _ => ⟨rfl, HR1.out.1, HR1.out.2.1, HR1.out.2.2⟩⟩

/-- Are the bytes l an image with a payload of that kind and size? -/
def payOk (kind size : Nat) (l : List Nat) : Prop := isFrame l ∧ pageOk l.length ∧ sizeL l = size ∧ (bodyL l).getD 0 0 = kind ∧ (restL l).all (· == 255) = true
theorem payload_yes (a : Option Addr) (n cap kind size : Nat) (l : List Nat) (w : World) (h : Lies w a n cap l) (hp : payOk kind size l) :
    Calls Tryd.prog 30 #[.slice a n cap, .int .u8 kind, .int .i64 size] w (PayPost w l size true) := by
  obtain ⟨hf, ⟨p1, p2⟩, hs, hk, hb⟩ := hp
  obtain ⟨b, off, rfl⟩ : ∃ b off, a = some ⟨b, off, none⟩ := by
    rcases h.row with h0 | ⟨b, off, h0, _⟩
    · have := hf.1
      rw [h0] at this
      simp at this
    · exact ⟨b, off, h0⟩
  have hn := h.len
  exact payload_6 b off n cap kind size l w h hf hs.symm (by omega) (by omega) hk true hb.symm
theorem payload_no (a : Option Addr) (n cap kind size : Nat) (l : List Nat) (w : World) (h : Lies w a n cap l) (hp : ¬ payOk kind size l) :
    Calls Tryd.prog 30 #[.slice a n cap, .int .u8 kind, .int .i64 size] w (PayPost w l size false) := by
  by_cases hf : isFrame l
  · obtain ⟨b, off, rfl⟩ : ∃ b off, a = some ⟨b, off, none⟩ := by
      rcases h.row with h0 | ⟨b, off, h0, _⟩
      · have := hf.1
        rw [h0] at this
        simp at this
      · exact ⟨b, off, h0⟩
    have hn := h.len
    by_cases q1 : (64 : Int) ≤ (n : Int)
    · by_cases q2 : (n : Int) ≤ 512
      · by_cases q3 : sizeL l = size
        · by_cases q4 : (bodyL l).getD 0 0 = kind
          · have hb : (restL l).all (· == 255) = false := by
              cases hb : (restL l).all (· == 255) with
              | false => rfl
              | true => exact absurd ⟨hf, ⟨by omega, by omega⟩, q3, q4, hb⟩ hp
            exact payload_6 b off n cap kind size l w h hf q3.symm q1 q2 q4 false hb.symm
          · exact payload_5 b off n cap kind size l w h hf q3.symm q1 q2 (by omega)
        · exact payload_4 b off n cap kind (sizeL l) size l w h hf rfl q1 q2 (by simp; omega)
      · exact payload_3 b off n cap kind (sizeL l) size l w h hf rfl q1 q2
    · exact payload_2 b off n cap kind (sizeL l) size l w h hf rfl q1
  · exact payload_not a n cap kind size l w h hf
end Go.Proofs.YtdhbhjfpjmmonaaDoor
