/-
  What the document's payload answers of any bytes.
  What the document's ParseCount and ParseMapping answer of any bytes: the same as the program's.
  The document's ParseCount and ParseMapping, walked.
  The document's ParseMapping, walked.
-/
import Derived.Test.YteoakhfofnocfaaGreatDoorGG
namespace Go.Proofs.YteoakhfofnocfaaGreatDoor.Hd
open Go.RowKit Go.Extern.Stop Go.Stop Go.Extern M

/-- The payload, and whether it is one of that kind and size. -/
def PayPost (w : World) (l : List Nat) (size : Nat) (R : Bool) (e : Ending) (w' : World) : Prop :=
  ∃ a z c, e = .returned (.tuple #[.slice a z c, .bool R]) ∧ Below w.heap.size w w' ∧ (R = true → z = size ∧ BRow w' a (bodyL l) ∧ z ≤ c ∧ c ≤ maxLen)
theorem runno_at {w : World} {a : Option Addr} {n cap : Nat} {l : List Nat} (h : Lies w a n cap l) (hf : ¬ isFrame l) :
    Calls Tryz.prog 119 #[.slice a n cap] w fun e w' => e = .returned (.tuple #[.slice none 0 0, .int .i64 0, .bool false]) ∧ Below w.heap.size w w' := by
  have hn := h.len
  subst hn
  exact runframe_not a cap l w h.le (by have := h.max; unfold maxLen at this; omega) h.lt h.row hf
def RuPost (w : World) (l : List Nat) (z : Nat) (e : Ending) (w' : World) : Prop := ∃ a c, e = .returned (.tuple #[.slice a z c, .int .i64 (6 + (z : Int)), .bool true]) ∧ BRow w' a (bodyL l) ∧ z ≤ c ∧ c ≤ maxLen ∧ Below w.heap.size w w'
theorem runis_at {w : World} {a : Option Addr} {n cap z : Nat} {l : List Nat} (h : Lies w a n cap l) (hf : isFrame l) (hz : z = sizeL l) :
    Calls Tryz.prog 119 #[.slice a n cap] w (RuPost w l z) := by
  have hn := h.len
  subst hn
  have hbl : z = (bodyL l).length := by rw [hz]; have := hf.2.2.2.1; simp [bodyL]; omega
  refine (runframe_is a cap l w h.le (by have := h.max; unfold maxLen at this; omega) h.lt h.row hf).mono ?_
  rintro e w' ⟨v, rfl, ho⟩
  obtain ⟨a', c', rfl, hr', _, g1, g2⟩ := own_shape hbl ho.1
  rw [← hz]
  exact ⟨a', c', rfl, hr', g1, g2, ho.2⟩

theorem rblank_at (a : Option Addr) (cap n : Nat) (l : List Nat) (w : World) (R : Bool) (hn : n = l.length) (hR : R = l.all (· == 255)) (hl : l.length ≤ maxLen) (hr : BRow w a l) :
    Calls Tryz.prog 120 #[.slice a n cap] w fun e w' => e = .returned (.bool R) ∧ w = w' := by
  subst hn hR
  exact ref_blank a cap l w hl hr

set_option maxRecDepth 10000 in
set_option maxHeartbeats 4000000 in
theorem payload_not (a : Option Addr) (n cap kind size : Nat) (l : List Nat) (w : World) (h : Lies w a n cap l) (hf : ¬ isFrame l) :
    Calls Tryz.prog 106 #[.slice a n cap, .int .u8 kind, .int .i64 size] w (PayPost w l size false) := by
  have cU := runno_at h hf
  clear h hf
  go_enter Tryz.func106, Tryz.ntmps106
  go_wp2_with (go_at_call 119; refine cU.mono ?_; rintro e w1 ⟨rfl, hb1⟩; have HB1 : Hid (Below _ _ _) := hb1; clear hb1)
  go_ret2
  exact ⟨none, 0, 0, rfl, HB1.out, (fun h => by cases h)⟩

set_option maxRecDepth 10000 in
set_option maxHeartbeats 4000000 in
theorem payload_2 (b off n cap kind z size : Nat) (l : List Nat) (w : World) (h : Lies w (some ⟨b, off, none⟩) n cap l) (hf : isFrame l) (hz : z = sizeL l) (q1 : ¬ (64 : Int) ≤ (n : Int)) :
    Calls Tryz.prog 106 #[.slice (some ⟨b, off, none⟩) n cap, .int .u8 kind, .int .i64 size] w (PayPost w l size false) := by
  have cU := runis_at h hf hz
  clear h hf hz
  go_enter Tryz.func106, Tryz.ntmps106
  go_wp2_with (first
    | (go_at_call 119; refine cU.mono ?_; rintro e w1 ⟨a1, c1, rfl, hr1, g1, g2, hb1⟩; have HB1 : Hid (Below w.heap.size w w1) := hb1; have HR1 : Hid (BRow w1 _ _ ∧ z ≤ c1 ∧ c1 ≤ maxLen) := ⟨hr1, g1, g2⟩; clear hr1; clear hb1 g1 g2 cU))
  go_ret2
  exact ⟨_, _, _, rfl, HB1.out, (fun h => by cases h)⟩

set_option maxRecDepth 10000 in
set_option maxHeartbeats 4000000 in
theorem payload_3 (b off n cap kind z size : Nat) (l : List Nat) (w : World) (h : Lies w (some ⟨b, off, none⟩) n cap l) (hf : isFrame l) (hz : z = sizeL l) (q1 : (64 : Int) ≤ (n : Int)) (q2 : ¬ (n : Int) ≤ 512) :
    Calls Tryz.prog 106 #[.slice (some ⟨b, off, none⟩) n cap, .int .u8 kind, .int .i64 size] w (PayPost w l size false) := by
  have cU := runis_at h hf hz
  clear h hf hz
  go_enter Tryz.func106, Tryz.ntmps106
  go_wp2_with (first
    | (go_at_call 119; refine cU.mono ?_; rintro e w1 ⟨a1, c1, rfl, hr1, g1, g2, hb1⟩; have HB1 : Hid (Below w.heap.size w w1) := hb1; have HR1 : Hid (BRow w1 _ _ ∧ z ≤ c1 ∧ c1 ≤ maxLen) := ⟨hr1, g1, g2⟩; clear hr1; clear hb1 g1 g2 cU))
  go_ret2
  exact ⟨_, _, _, rfl, HB1.out, (fun h => by cases h)⟩

set_option maxRecDepth 10000 in
set_option maxHeartbeats 4000000 in
theorem payload_4 (b off n cap kind z size : Nat) (l : List Nat) (w : World) (h : Lies w (some ⟨b, off, none⟩) n cap l) (hf : isFrame l) (hz : z = sizeL l) (q1 : (64 : Int) ≤ (n : Int)) (q2 : (n : Int) ≤ 512) (q3 : ((z : Int) == (size : Int)) = false) :
    Calls Tryz.prog 106 #[.slice (some ⟨b, off, none⟩) n cap, .int .u8 kind, .int .i64 size] w (PayPost w l size false) := by
  have cU := runis_at h hf hz
  clear h hf hz
  go_enter Tryz.func106, Tryz.ntmps106
  go_wp2_with (first
    | (go_at_call 119; refine cU.mono ?_; rintro e w1 ⟨a1, c1, rfl, hr1, g1, g2, hb1⟩; have HB1 : Hid (Below w.heap.size w w1) := hb1; have HR1 : Hid (BRow w1 _ _ ∧ z ≤ c1 ∧ c1 ≤ maxLen) := ⟨hr1, g1, g2⟩; clear hr1; clear hb1 g1 g2 cU))
  go_ret2
  exact ⟨_, _, _, rfl, HB1.out, (fun h => by cases h)⟩

set_option maxRecDepth 10000 in
set_option maxHeartbeats 4000000 in
theorem payload_5 (b off n cap kind z : Nat) (l : List Nat) (w : World) (h : Lies w (some ⟨b, off, none⟩) n cap l) (hf : isFrame l) (hz : z = sizeL l) (q1 : (64 : Int) ≤ (n : Int)) (q2 : (n : Int) ≤ 512) (q4 : (((bodyL l).getD 0 0 : Nat) : Int) ≠ (kind : Int)) :
    Calls Tryz.prog 106 #[.slice (some ⟨b, off, none⟩) n cap, .int .u8 kind, .int .i64 z] w (PayPost w l z false) := by
  have cU := runis_at h hf hz
  have HZ1 : Hid (0 < (bodyL l).length) := by show _ < _; have := hf.2.1; have := hf.2.2.2.1; simp [bodyL]; omega
  have q3 : ((z : Int) == (z : Int)) = true := by simp
  have hz1 : (0 : Int) < (z : Int) := by have := hf.2.1; omega
  obtain ⟨x, hx⟩ : ∃ x, x = (bodyL l).getD 0 0 := ⟨_, rfl⟩
  rw [← hx] at q4
  have HX : Hid (x = (bodyL l).getD 0 0) := hx
  have q5 : ((x : Int) == (kind : Int)) = false := by simpa using q4
  clear hx q4
  clear h hf hz
  go_enter Tryz.func106, Tryz.ntmps106
  go_wp2_with (first
    | (go_at_call 119; refine cU.mono ?_; rintro e w1 ⟨a1, c1, rfl, hr1, g1, g2, hb1⟩; have HB1 : Hid (Below w.heap.size w w1) := hb1; obtain ⟨pb, poff, rfl, hcs⟩ : ∃ pb poff, a1 = some ⟨pb, poff, none⟩ ∧ ∀ i, i < (bodyL l).length → w1.cell? ⟨pb, poff + i, none⟩ = some (.int .u8 (((bodyL l).getD i 0 : Nat) : Int)) := by { rcases hr1 with h0 | h0; (have := HZ1.out; rw [h0] at this; simp at this); exact h0 }; have hc0 := hcs 0 HZ1.out; rw [← HX.out, Nat.add_zero] at hc0; have HR1 : Hid (BRow w1 (some ⟨pb, poff, none⟩) (bodyL l) ∧ z ≤ c1 ∧ c1 ≤ maxLen) := ⟨.inr ⟨pb, poff, rfl, hcs⟩, g1, g2⟩; clear hcs; clear hb1 g1 g2 cU))
  go_ret2
  exact ⟨_, _, _, rfl, HB1.out, (fun h => by cases h)⟩

set_option maxRecDepth 10000 in
set_option maxHeartbeats 4000000 in
theorem payload_6 (b off n cap kind z : Nat) (l : List Nat) (w : World) (h : Lies w (some ⟨b, off, none⟩) n cap l) (hf : isFrame l) (hz : z = sizeL l) (q1 : (64 : Int) ≤ (n : Int)) (q2 : (n : Int) ≤ 512) (q4 : (bodyL l).getD 0 0 = kind) (R : Bool) (hR : R = (restL l).all (· == 255)) :
    Calls Tryz.prog 106 #[.slice (some ⟨b, off, none⟩) n cap, .int .u8 kind, .int .i64 z] w (PayPost w l z R) := by
  have cU := runis_at h hf hz
  have HZ1 : Hid (0 < (bodyL l).length) := by show _ < _; have := hf.2.1; have := hf.2.2.2.1; simp [bodyL]; omega
  have q3 : ((z : Int) == (z : Int)) = true := by simp
  have hz1 : (0 : Int) < (z : Int) := by have := hf.2.1; omega
  obtain ⟨x, hx⟩ : ∃ x, x = (bodyL l).getD 0 0 := ⟨_, rfl⟩
  rw [← hx] at q4
  have HX : Hid (x = (bodyL l).getD 0 0) := hx
  have q5 : ((x : Int) == (kind : Int)) = true := by rw [q4]; simp
  have hzn : 6 + z ≤ n := by have h6 := hf.1; have h7 := hf.2.2.2.1; have := h.len; omega
  have hm := h.max
  have hc := h.le
  have cB1 : Hid (∀ wr c', Below w.heap.size w wr → Calls Tryz.prog 120 #[.slice (some ⟨b, off + (6 + z), none⟩) (n - (6 + z)) c'] wr fun e w' => e = .returned (.bool R) ∧ wr = w') := fun wr c' hb =>
    rblank_at _ c' _ (restL l) wr R (by simp [restL, hz, h.len]) hR (by have := h.len; simp [restL]; unfold maxLen at hm ⊢; omega) (by have := (h.row.later hb).sub (i := 6 + z) (j := l.length); rw [List.take_of_length_le (by simp)] at this; unfold restL; rw [← hz]; exact this)
  have cB2 : Hid (cap = 6 + z → ∀ wr ao c', Below w.heap.size w wr → Calls Tryz.prog 120 #[.slice ao (n - (6 + z)) c'] wr fun e w' => e = .returned (.bool R) ∧ wr = w') := fun e wr ao c' _ =>
    rblank_at _ c' _ [] wr R (by simp; omega) (by rw [hR]; unfold restL; rw [← hz, List.drop_eq_nil_of_le (by have := h.len; omega)]) (by simp) (.inl rfl)
  unfold maxLen at hm
  clear hx q4 hR
  clear h hf hz
  by_cases hcap : cap = 6 + z
  · subst hcap
    have hn2 : n = 6 + z := by omega
    subst hn2
    have cB := cB2.out rfl
    rw [Nat.sub_self] at cB
    clear cB1 cB2
    go_enter Tryz.func106, Tryz.ntmps106
    go_wp2_with (first
      | (go_at_call 119; refine cU.mono ?_; rintro e w1 ⟨a1, c1, rfl, hr1, g1, g2, hb1⟩; have HB1 : Hid (Below w.heap.size w w1) := hb1; obtain ⟨pb, poff, rfl, hcs⟩ : ∃ pb poff, a1 = some ⟨pb, poff, none⟩ ∧ ∀ i, i < (bodyL l).length → w1.cell? ⟨pb, poff + i, none⟩ = some (.int .u8 (((bodyL l).getD i 0 : Nat) : Int)) := by { rcases hr1 with h0 | h0; (have := HZ1.out; rw [h0] at this; simp at this); exact h0 }; have hc0 := hcs 0 HZ1.out; rw [← HX.out, Nat.add_zero] at hc0; have HR1 : Hid (BRow w1 (some ⟨pb, poff, none⟩) (bodyL l) ∧ z ≤ c1 ∧ c1 ≤ maxLen) := ⟨.inr ⟨pb, poff, rfl, hcs⟩, g1, g2⟩; clear hcs; clear hb1 g1 g2 cU)
      | (go_at_call 120; refine (cB _ _ _ HB1.out).mono ?_; rintro e w' ⟨rfl, rfl⟩))
    go_ret2
    exact ⟨_, _, _, rfl, HB1.out, fun _ => ⟨rfl, HR1.out.1, HR1.out.2.1, HR1.out.2.2⟩⟩
  · have cB := cB1.out
    clear cB1 cB2
    go_enter Tryz.func106, Tryz.ntmps106
    go_wp2_with (first
      | (go_at_call 119; refine cU.mono ?_; rintro e w1 ⟨a1, c1, rfl, hr1, g1, g2, hb1⟩; have HB1 : Hid (Below w.heap.size w w1) := hb1; obtain ⟨pb, poff, rfl, hcs⟩ : ∃ pb poff, a1 = some ⟨pb, poff, none⟩ ∧ ∀ i, i < (bodyL l).length → w1.cell? ⟨pb, poff + i, none⟩ = some (.int .u8 (((bodyL l).getD i 0 : Nat) : Int)) := by { rcases hr1 with h0 | h0; (have := HZ1.out; rw [h0] at this; simp at this); exact h0 }; have hc0 := hcs 0 HZ1.out; rw [← HX.out, Nat.add_zero] at hc0; have HR1 : Hid (BRow w1 (some ⟨pb, poff, none⟩) (bodyL l) ∧ z ≤ c1 ∧ c1 ≤ maxLen) := ⟨.inr ⟨pb, poff, rfl, hcs⟩, g1, g2⟩; clear hcs; clear hb1 g1 g2 cU)
      | (go_at_call 120; refine (cB _ _ HB1.out).mono ?_; rintro e w' ⟨rfl, rfl⟩))
    go_ret2
    exact ⟨_, _, _, rfl, HB1.out, fun _ => ⟨rfl, HR1.out.1, HR1.out.2.1, HR1.out.2.2⟩⟩

/-- Are the bytes l an image with a payload of that kind and size? -/
def payOk (kind size : Nat) (l : List Nat) : Prop := isFrame l ∧ pageOk l.length ∧ sizeL l = size ∧ (bodyL l).getD 0 0 = kind ∧ (restL l).all (· == 255) = true
theorem payload_yes (a : Option Addr) (n cap kind size : Nat) (l : List Nat) (w : World) (h : Lies w a n cap l) (hp : payOk kind size l) :
    Calls Tryz.prog 106 #[.slice a n cap, .int .u8 kind, .int .i64 size] w (PayPost w l size true) := by
  obtain ⟨hf, ⟨p1, p2⟩, hs, hk, hb⟩ := hp
  obtain ⟨b, off, rfl⟩ : ∃ b off, a = some ⟨b, off, none⟩ := by
    rcases h.row with h0 | ⟨b, off, h0, _⟩
    · have := hf.1
      rw [h0] at this
      simp at this
    · exact ⟨b, off, h0⟩
  have hn := h.len
  exact payload_6 b off n cap kind size l w h hf hs.symm (by omega) (by omega) hk true hb.symm
theorem payload_no (a : Option Addr) (n cap kind size : Nat) (l : List Nat) (w : World) (h : Lies w a n cap l) (hp : ¬ payOk kind size l) :
    Calls Tryz.prog 106 #[.slice a n cap, .int .u8 kind, .int .i64 size] w (PayPost w l size false) := by
  by_cases hf : isFrame l
  · obtain ⟨b, off, rfl⟩ : ∃ b off, a = some ⟨b, off, none⟩ := by
      rcases h.row with h0 | ⟨b, off, h0, _⟩
      · have := hf.1
        rw [h0] at this
        simp at this
      · exact ⟨b, off, h0⟩
    have hn := h.len
    by_cases q1 : (64 : Int) ≤ (n : Int)
    · by_cases q2 : (n : Int) ≤ 512
      · by_cases q3 : sizeL l = size
        · by_cases q4 : (bodyL l).getD 0 0 = kind
          · have hb : (restL l).all (· == 255) = false := by
              cases hb : (restL l).all (· == 255) with
              | false => rfl
              | true => exact absurd ⟨hf, ⟨by omega, by omega⟩, q3, q4, hb⟩ hp
            exact payload_6 b off n cap kind size l w h hf q3.symm q1 q2 q4 false hb.symm
          · exact payload_5 b off n cap kind size l w h hf q3.symm q1 q2 (by omega)
        · exact payload_4 b off n cap kind (sizeL l) size l w h hf rfl q1 q2 (by simp; omega)
      · exact payload_3 b off n cap kind (sizeL l) size l w h hf rfl q1 q2
    · exact payload_2 b off n cap kind (sizeL l) size l w h hf rfl q1
  · exact payload_not a n cap kind size l w h hf
end Go.Proofs.YteoakhfofnocfaaGreatDoor.Hd
namespace Go.Proofs.YteoakhfofnocfaaGreatDoor.Hd
open Go.RowKit Go.Extern.Stop Go.Stop Go.Extern M

theorem body_len {l : List Nat} (hf : isFrame l) : (bodyL l).length = sizeL l := by have := hf.2.2.2.1; simp [bodyL]; omega
open Classical in
/-- What open makes of such an image, and of none. -/
theorem openL_pay {kind : Nat} {l : List Nat} : openL kind l = if (isFrame l ∧ pageOk l.length ∧ (restL l).all (· == 255) = true) ∧ (bodyL l).getD 0 0 = kind then some ((bodyL l).drop 1) else none := by
  by_cases h : pageOk l.length ∧ isFrame l ∧ (restL l).all (· == 255) = true
  · rw [openL_yes h.1 h.2.1 h.2.2]
    have hl := body_len h.2.1
    have h1 := h.2.1.2.1
    obtain ⟨x, t, hb⟩ : ∃ x t, bodyL l = x :: t := by
      cases hb : bodyL l with
      | nil => rw [hb] at hl; simp at hl; omega
      | cons x t => exact ⟨x, t, rfl⟩
    rw [hb]
    by_cases hk : x = kind
    · subst hk
      rw [mark_yes, if_pos ⟨⟨h.2.1, h.1, h.2.2⟩, rfl⟩]
      rfl
    · rw [mark_no x kind t hk, if_neg (fun hh => hk hh.2)]
  · rw [openL_no h, if_neg (fun hh => h ⟨hh.1.2.1, hh.1.1, hh.1.2.2⟩)]
theorem parseC_pay {l : List Nat} (hp : payOk 69 5 l) : parseC l = if getL ((bodyL l).drop 1) ≤ 2147483647 then some (getL ((bodyL l).drop 1)) else none := by
  have ho : openL 69 l = some ((bodyL l).drop 1) := by rw [openL_pay, if_pos ⟨⟨hp.1, hp.2.1, hp.2.2.2.2⟩, hp.2.2.2.1⟩]
  have hl : ((bodyL l).drop 1).length = 4 := by rw [List.length_drop, body_len hp.1, hp.2.2.1]
  have hv : numV 4 (some ((bodyL l).drop 1)) = getL ((bodyL l).drop 1) := by simp only [numV]; rw [if_neg (by omega), List.take_of_length_le (by omega)]
  have hs : endS (numS 4 (some ((bodyL l).drop 1))) = some [] := by simp only [numS]; rw [if_neg (by omega), List.drop_eq_nil_of_le (by omega)]; rfl
  unfold parseC
  rw [ho, hv, hs]
  by_cases h : getL ((bodyL l).drop 1) ≤ 2147483647
  · rw [if_pos ⟨rfl, h⟩, if_pos h]
  · rw [if_neg (fun hh => h hh.2), if_neg h]
theorem parseC_nopay {l : List Nat} (hp : ¬ payOk 69 5 l) : parseC l = none := by
  refine if_neg ?_
  rintro ⟨h, _⟩
  rw [openL_pay] at h
  split at h
  · rename_i hh
    refine hp ⟨hh.1.1, hh.1.2.1, ?_, hh.2, hh.1.2.2⟩
    have hl := body_len hh.1.1
    have h1 := hh.1.1.2.1
    simp only [numS] at h
    split at h
    · cases h
    · rename_i h4
      have hl2 : ((bodyL l).drop 1).length = sizeL l - 1 := by rw [List.length_drop, hl]
      cases ht : ((bodyL l).drop 1).drop 4 with
      | nil =>
        have := List.drop_eq_nil_iff.1 ht
        omega
      | cons x t => rw [ht] at h; cases h
  · cases h
theorem parseM_pay {l : List Nat} (hp : payOk 77 12 l) : parseM l = if getL (((bodyL l).drop 1).take 2) ≤ 255 ∧ (bodyL l).getD 11 0 ≤ 64 then some (getL (((bodyL l).drop 1).take 2), getL (((bodyL l).drop 3).take 8), (bodyL l).getD 11 0) else none := by
  have ho : openL 77 l = some ((bodyL l).drop 1) := by rw [openL_pay, if_pos ⟨⟨hp.1, hp.2.1, hp.2.2.2.2⟩, hp.2.2.2.1⟩]
  have hbl : (bodyL l).length = 12 := by rw [body_len hp.1, hp.2.2.1]
  have s2 : numS 2 (openL 77 l) = some ((bodyL l).drop 3) := by rw [ho]; simp only [numS, List.length_drop]; rw [if_neg (by omega), List.drop_drop]
  have s8 : numS 8 (numS 2 (openL 77 l)) = some ((bodyL l).drop 11) := by rw [s2]; simp only [numS, List.length_drop]; rw [if_neg (by omega), List.drop_drop]
  have s1 : numS 1 (numS 8 (numS 2 (openL 77 l))) = some [] := by rw [s8]; simp only [numS, List.length_drop]; rw [if_neg (by omega), List.drop_drop, List.drop_eq_nil_of_le (by omega)]
  have v1 : mV1 l = getL (((bodyL l).drop 1).take 2) := by unfold mV1; rw [ho]; simp only [numV, List.length_drop]; rw [if_neg (by omega)]
  have v2 : mV2 l = getL (((bodyL l).drop 3).take 8) := by unfold mV2; rw [s2]; simp only [numV, List.length_drop]; rw [if_neg (by omega)]
  have v3 : mV3 l = (bodyL l).getD 11 0 := by
    unfold mV3
    rw [s8]
    simp only [numV, List.length_drop]
    have h11 : 11 < (bodyL l).length := by omega
    rw [if_neg (by omega), List.drop_eq_getElem_cons h11, List.take_succ_cons, List.take_zero]
    simp only [getL, Nat.mul_zero, Nat.add_zero]
    simp [List.getD, h11]
  have hS : mS l = some [] := by unfold mS; rw [s1]; rfl
  unfold parseM
  rw [v1, v2, v3, hS]
  by_cases h : getL (((bodyL l).drop 1).take 2) ≤ 255 ∧ (bodyL l).getD 11 0 ≤ 64
  · rw [if_pos ⟨rfl, h⟩, if_pos h]
  · rw [if_neg (fun hh => h hh.2), if_neg h]
theorem numS_some {k : Nat} {st : Option (List Nat)} {t : List Nat} (h : numS k st = some t) : ∃ u, st = some u ∧ k ≤ u.length ∧ t = u.drop k := by
  cases st with
  | none => cases h
  | some u =>
    simp only [numS] at h
    split at h
    · cases h
    · cases h
      exact ⟨u, rfl, by omega, rfl⟩
theorem endS_some {st : Option (List Nat)} (h : endS st = some []) : st = some [] := by
  rcases st with _ | l
  · cases h
  · cases l
    · rfl
    · cases h
theorem parseM_nopay {l : List Nat} (hp : ¬ payOk 77 12 l) : parseM l = none := by
  refine if_neg ?_
  rintro ⟨h, _⟩
  unfold mS at h
  obtain ⟨u1, e1, g1, f1⟩ := numS_some (endS_some h)
  obtain ⟨u2, e2, g2, f2⟩ := numS_some e1
  obtain ⟨u3, e3, g3, f3⟩ := numS_some e2
  rw [openL_pay] at e3
  split at e3
  · rename_i hh
    refine hp ⟨hh.1.1, hh.1.2.1, ?_, hh.2, hh.1.2.2⟩
    have hl := body_len hh.1.1
    have h1 := hh.1.1.2.1
    cases e3
    have k1 : u1.length = u2.length - 8 := by rw [f2, List.length_drop]
    have k2 : u2.length = ((bodyL l).drop 1).length - 2 := by rw [f3, List.length_drop]
    have k3 : u1.length ≤ 1 := List.drop_eq_nil_iff.1 f1.symm
    rw [List.length_drop] at k2
    omega
  · cases e3
end Go.Proofs.YteoakhfofnocfaaGreatDoor.Hd
namespace Go.Proofs.YteoakhfofnocfaaGreatDoor.Hd
open Go.RowKit Go.Extern.Stop Go.Stop Go.Extern M

def PyPost (w : World) (l : List Nat) (size : Nat) (e : Ending) (w' : World) : Prop := ∃ pb poff c, e = .returned (.tuple #[.slice (some ⟨pb, poff, none⟩) size c, .bool true]) ∧ BRow w' (some ⟨pb, poff, none⟩) (bodyL l) ∧ size ≤ c ∧ c ≤ maxLen ∧ Below w.heap.size w w'
theorem pay_at {w : World} {a : Option Addr} {n cap kind size : Nat} {l : List Nat} (h : Lies w a n cap l) (hp : payOk kind size l) :
    Calls Tryz.prog 106 #[.slice a n cap, .int .u8 kind, .int .i64 size] w (PyPost w l size) := by
  refine (payload_yes a n cap kind size l w h hp).mono ?_
  rintro e w' ⟨a', z, c, rfl, hb, hh⟩
  obtain ⟨rfl, hr, g1, g2⟩ := hh rfl
  obtain ⟨pb, poff, rfl⟩ : ∃ pb poff, a' = some ⟨pb, poff, none⟩ := by
    rcases hr with h0 | ⟨pb, poff, h0, _⟩
    · have := body_len hp.1
      have := hp.1.2.1
      rw [h0] at *
      simp at *
      omega
    · exact ⟨pb, poff, h0⟩
  exact ⟨pb, poff, c, rfl, hr, g1, g2, hb⟩
def PnPost (w : World) (e : Ending) (w' : World) : Prop := ∃ a z c, e = .returned (.tuple #[.slice a z c, .bool false]) ∧ Below w.heap.size w w'
theorem pay_no {w : World} {a : Option Addr} {n cap kind size : Nat} {l : List Nat} (h : Lies w a n cap l) (hp : ¬ payOk kind size l) :
    Calls Tryz.prog 106 #[.slice a n cap, .int .u8 kind, .int .i64 size] w (PnPost w) := by
  refine (payload_no a n cap kind size l w h hp).mono ?_
  rintro e w' ⟨a', z, c, rfl, hb, _⟩
  exact ⟨a', z, c, rfl, hb⟩

set_option maxRecDepth 10000 in
set_option maxHeartbeats 4000000 in
theorem rpc_no {w : World} {a : Option Addr} {n cap : Nat} {l : List Nat} (h : Lies w a n cap l) (hp : ¬ payOk 69 5 l) :
    Calls Tryz.prog 91 #[.slice a n cap] w (CPost w (parseC l)) := by
  have cP : Calls Tryz.prog 106 #[.slice a n cap, .int .u8 69, .int .i64 5] w (PnPost w) := pay_no h hp
  rw [parseC_nopay hp]
  clear h hp
  go_enter Tryz.func91, Tryz.ntmps91
  go_wp2_with (go_at_call 106; refine cP.mono ?_; rintro e w1 ⟨a1, z1, c1, rfl, hb1⟩; have HB1 : Hid (Below _ _ _) := hb1; clear hb1)
  go_ret2
  exact ⟨rfl, HB1.out⟩
set_option maxRecDepth 10000 in
set_option maxHeartbeats 4000000 in
theorem rpc_yes {w : World} {a : Option Addr} {n cap : Nat} {l : List Nat} (h : Lies w a n cap l) (hp : payOk 69 5 l) :
    Calls Tryz.prog 91 #[.slice a n cap] w (CPost w (parseC l)) := by
  have cP : Calls Tryz.prog 106 #[.slice a n cap, .int .u8 69, .int .i64 5] w (PyPost w l 5) := pay_at h hp
  have hbl : (bodyL l).length = 5 := by rw [body_len hp.1, hp.2.2.1]
  have hlt : ∀ x ∈ bodyL l, x < 256 := lt_of_sub h.lt 6 _
  obtain ⟨G, hG⟩ : ∃ G, G = getL ((bodyL l).drop 1) := ⟨_, rfl⟩
  have hGl : G < 4294967296 := by
    rw [hG]
    have := getL_lt ((bodyL l).drop 1) (fun x hx => hlt x (List.mem_of_mem_drop hx))
    rw [List.length_drop, hbl] at this
    exact this
  have cG : Hid (∀ (w1 : World) (pb poff c : Nat), BRow w1 (some ⟨pb, poff, none⟩) (bodyL l) → Calls Tryz.prog 107 #[.slice (some ⟨pb, poff + 1, none⟩) 4 c] w1 fun e w' => e = .returned (.int .u64 (G : Int)) ∧ w1 = w') := fun w1 pb poff c hr =>
    rget_at _ c (((bodyL l).drop 1).take 4) w1 4 G (by simp [hbl]) (by rw [hG, List.take_take, List.take_of_length_le (by simp [hbl])]) (by simp [hbl]; decide) (lt_of_sub hlt 1 4) hr.sub
  have hres := parseC_pay hp
  rw [← hG] at hres
  rw [hres]
  clear hres h hp hbl hlt hG
  by_cases hg : G ≤ 2147483647
  · rw [if_pos hg]
    have i1 : ¬ (2147483647 : Int) < (G : Int) := by omega
    go_enter Tryz.func91, Tryz.ntmps91
    go_wp2_with (first
      | (go_at_call 106; refine cP.mono ?_; rintro e w1 ⟨pb, poff, c1, rfl, hr1, g1, g2, hb1⟩; have HB1 : Hid (Below _ _ _) := hb1; have HR1 : Hid (BRow _ _ _) := hr1; unfold maxLen at g2; have g3 : ¬ c1 = 1 := (by omega); clear hb1 hr1)
      | (go_at_call 107; refine (cG.out _ _ _ _ HR1.out).mono ?_; rintro e w' ⟨rfl, rfl⟩))
    go_ret2
    exact ⟨rfl, HB1.out⟩
  · rw [if_neg hg]
    have i1 : (2147483647 : Int) < (G : Int) := by omega
    go_enter Tryz.func91, Tryz.ntmps91
    go_wp2_with (first
      | (go_at_call 106; refine cP.mono ?_; rintro e w1 ⟨pb, poff, c1, rfl, hr1, g1, g2, hb1⟩; have HB1 : Hid (Below _ _ _) := hb1; have HR1 : Hid (BRow _ _ _) := hr1; unfold maxLen at g2; have g3 : ¬ c1 = 1 := (by omega); clear hb1 hr1)
      | (go_at_call 107; refine (cG.out _ _ _ _ HR1.out).mono ?_; rintro e w' ⟨rfl, rfl⟩))
    go_ret2
    exact ⟨rfl, HB1.out⟩
theorem rparseCount {w : World} {a : Option Addr} {n cap : Nat} {l : List Nat} (h : Lies w a n cap l) : Calls Tryz.prog 91 #[.slice a n cap] w (CPost w (parseC l)) := by
  by_cases hp : payOk 69 5 l
  · exact rpc_yes h hp
  · exact rpc_no h hp
end Go.Proofs.YteoakhfofnocfaaGreatDoor.Hd
namespace Go.Proofs.YteoakhfofnocfaaGreatDoor.Hd
open Go.RowKit Go.Extern.Stop Go.Stop Go.Extern M

theorem lies_new {w : World} {a : Option Addr} {n cap : Nat} {l : List Nat} (h : Lies w a n cap l) (o : Obj) : Lies (w.alloc o) a n cap l := h.later (below_new _ _)
set_option maxRecDepth 10000 in
set_option maxHeartbeats 4000000 in
theorem rpm_no {w : World} {a : Option Addr} {n cap : Nat} {l : List Nat} (h : Lies w a n cap l) (hp : ¬ payOk 77 12 l) :
    Calls Tryz.prog 92 #[.slice a n cap] w (MPost w (parseM l)) := by
  obtain ⟨W, hW⟩ : ∃ W, W = w.alloc (.cells #[.int .i64 0, .int .u64 0, .int .i64 0] 65) := ⟨_, rfl⟩
  have HB : Hid (Below w.heap.size w W) := by rw [hW]; exact below_new _ _
  have HR : Hid (Row W w.heap.size [.int .i64 0, .int .u64 0, .int .i64 0] 65) := by rw [hW]; exact Row.new w [_, _, _] _
  have cP : Calls Tryz.prog 106 #[.slice a n cap, .int .u8 77, .int .i64 12] W (PnPost W) := pay_no (h.later HB.out) hp
  rw [parseM_nopay hp]
  clear h hp
  go_enter Tryz.func92, Tryz.ntmps92
  go_wp2_with fail
  rw [← hW]
  clear hW
  go_wp2_with (go_at_call 106; refine cP.mono ?_; rintro e w1 ⟨a1, z1, c1, rfl, hb1⟩; have HB1 : Hid (Below w.heap.size w w1) := Below.after HB.out hb1; have hr1 := HR.out.later hb1; have r0 : w1.cell? ⟨w.heap.size, 0, none⟩ = some (.int .i64 0) := hr1.cell (i := 0) rfl; have r1 : w1.cell? ⟨w.heap.size, 1, none⟩ = some (.int .u64 0) := hr1.cell (i := 1) rfl; have r2 : w1.cell? ⟨w.heap.size, 2, none⟩ = some (.int .i64 0) := hr1.cell (i := 2) rfl; have f0 := hr1.frozen 0; have f1 := hr1.frozen 1; have f2 := hr1.frozen 2; clear hb1 hr1)
  (try simp only [Exit.inBlock, Exit.then])
  refine bodyPost_ret (v := .tuple #[.agg #[.int .i64 0, .int .u64 0, .int .i64 0], .bool false]) ?_ rfl ⟨rfl, below_store HB1.out _ _ _⟩
  rw [results_cell_tmp rfl]
  go_simp


set_option maxRecDepth 10000 in
set_option maxHeartbeats 4000000 in
theorem rpm_A (a : Option Addr) (n cap G1 G2 x : Nat) (l : List Nat) (w : World) (hG1 : G1 < 65536) (_hG2 : G2 < 18446744073709551616) (hxl : x < 256) (i1 : ¬ (256 : Int) ≤ (G1 : Int)) (i2 : ¬ (64 : Int) < (x : Int))
    (cP : ∀ w1, Below w.heap.size w w1 → Calls Tryz.prog 106 #[.slice a n cap, .int .u8 77, .int .i64 12] w1 (PyPost w1 l 12))
    (cG1 : Hid (∀ (w1 : World) (pb poff c : Nat), BRow w1 (some ⟨pb, poff, none⟩) (bodyL l) → Calls Tryz.prog 107 #[.slice (some ⟨pb, poff + 1, none⟩) 2 c] w1 fun e w' => e = .returned (.int .u64 (G1 : Int)) ∧ w1 = w'))
    (cG2 : Hid (∀ (w1 : World) (pb poff c : Nat), BRow w1 (some ⟨pb, poff, none⟩) (bodyL l) → Calls Tryz.prog 107 #[.slice (some ⟨pb, poff + 3, none⟩) 8 c] w1 fun e w' => e = .returned (.int .u64 (G2 : Int)) ∧ w1 = w'))
    (HX : Hid (∀ (w1 : World) (pb poff : Nat), BRow w1 (some ⟨pb, poff, none⟩) (bodyL l) → w1.cell? ⟨pb, poff + 11, none⟩ = some (.int .u8 (x : Int)))) :
    Calls Tryz.prog 92 #[.slice a n cap] w (MPost w (some (G1, G2, x))) := by
  obtain ⟨W, hW⟩ : ∃ W, W = w.alloc (.cells #[.int .i64 0, .int .u64 0, .int .i64 0] 65) := ⟨_, rfl⟩
  have HB : Hid (Below w.heap.size w W) := by rw [hW]; exact below_new _ _
  have HR : Hid (Row W w.heap.size [.int .i64 0, .int .u64 0, .int .i64 0] 65) := by rw [hW]; exact Row.new w [_, _, _] _
  have cP1 := cP W HB.out
  clear cP
  have M1 : Hid True := trivial
  go_enter Tryz.func92, Tryz.ntmps92
  go_wp2_with fail
  rw [← hW]
  clear hW
  go_wp2_with (first
    | (go_at_call 106; refine cP1.mono ?_; rintro e w1 ⟨pb, poff, c1, rfl, hp1, g1, g2, hb1⟩; have HB1 : Hid (Below w.heap.size w w1) := Below.after HB.out hb1; have hr1 := HR.out.later hb1; have r0 : w1.cell? ⟨w.heap.size, 0, none⟩ = some (.int .i64 0) := hr1.cell (i := 0) rfl; have r1 : w1.cell? ⟨w.heap.size, 1, none⟩ = some (.int .u64 0) := hr1.cell (i := 1) rfl; have r2 : w1.cell? ⟨w.heap.size, 2, none⟩ = some (.int .i64 0) := hr1.cell (i := 2) rfl; have f0 := hr1.frozen 0; have f1 := hr1.frozen 1; have f2 := hr1.frozen 2; have HP1 : Hid (BRow _ _ _) := hp1; have hx1 := HX.out _ _ _ hp1; have hrl := hr1.lt; unfold maxLen at g2; have g3 : ¬ c1 = 1 := (by omega); have g4 : ¬ c1 = 3 := (by omega); clear hb1 hr1 hp1))
  have hpl : pb < w1.heap.size := World.block_lt_of_cell? w1 _ hx1
  have g5 : (3 : Int) ≤ (c1 : Int) := by omega
  have g6 : (11 : Int) ≤ (c1 : Int) := by omega
  have g7 : (12 : Int) ≤ (c1 : Int) := by omega
  go_region_held3 (fun w' => w'.cell? ⟨pb, poff + 11, none⟩ = some (.int .u8 (x : Int))) (first | assumption | go_keep)
    (first
    | (go_at_call 107; clear M1; refine (cG1.out _ _ _ _ (HP1.out.later (by first | exact below_drew _ | exact Below.after (below_new _ _) (below_drew _)))).mono ?_; rintro e w' ⟨rfl, rfl⟩)
    | (go_at_call 107; refine (cG2.out _ _ _ _ (HP1.out.later (by first | exact below_drew _ | exact Below.after (below_new _ _) (below_drew _)))).mono ?_; rintro e w' ⟨rfl, rfl⟩))
  all_goals go_wp2
  all_goals (try simp only [Exit.inBlock, Exit.then])
  all_goals refine bodyPost_ret (v := .tuple #[.agg #[.int .i64 G1, .int .u64 G2, .int .i64 x], .bool true]) ?_ rfl ⟨rfl, ?_⟩
  all_goals first
    | (rw [results_cell_tmp rfl]; go_simp)
    | (have hs := HB1.out.size; repeat' (first | exact HB1.out | exact below_store HB1.out _ _ _ | refine Below.drew ?_ | refine Below.alloc ?_ (by simp <;> omega) _ | refine Below.setCell ?_ (Nat.le_refl _) _))

set_option maxRecDepth 10000 in
set_option maxHeartbeats 4000000 in
theorem rpm_B (a : Option Addr) (n cap G1 G2 x : Nat) (l : List Nat) (w : World) (hG1 : G1 < 65536) (_hG2 : G2 < 18446744073709551616) (hxl : x < 256) (i1 : (256 : Int) ≤ (G1 : Int))
    (cP : ∀ w1, Below w.heap.size w w1 → Calls Tryz.prog 106 #[.slice a n cap, .int .u8 77, .int .i64 12] w1 (PyPost w1 l 12))
    (cG1 : Hid (∀ (w1 : World) (pb poff c : Nat), BRow w1 (some ⟨pb, poff, none⟩) (bodyL l) → Calls Tryz.prog 107 #[.slice (some ⟨pb, poff + 1, none⟩) 2 c] w1 fun e w' => e = .returned (.int .u64 (G1 : Int)) ∧ w1 = w'))
    (cG2 : Hid (∀ (w1 : World) (pb poff c : Nat), BRow w1 (some ⟨pb, poff, none⟩) (bodyL l) → Calls Tryz.prog 107 #[.slice (some ⟨pb, poff + 3, none⟩) 8 c] w1 fun e w' => e = .returned (.int .u64 (G2 : Int)) ∧ w1 = w'))
    (HX : Hid (∀ (w1 : World) (pb poff : Nat), BRow w1 (some ⟨pb, poff, none⟩) (bodyL l) → w1.cell? ⟨pb, poff + 11, none⟩ = some (.int .u8 (x : Int)))) :
    Calls Tryz.prog 92 #[.slice a n cap] w (MPost w (none)) := by
  obtain ⟨W, hW⟩ : ∃ W, W = w.alloc (.cells #[.int .i64 0, .int .u64 0, .int .i64 0] 65) := ⟨_, rfl⟩
  have HB : Hid (Below w.heap.size w W) := by rw [hW]; exact below_new _ _
  have HR : Hid (Row W w.heap.size [.int .i64 0, .int .u64 0, .int .i64 0] 65) := by rw [hW]; exact Row.new w [_, _, _] _
  have cP1 := cP W HB.out
  clear cP
  have M1 : Hid True := trivial
  go_enter Tryz.func92, Tryz.ntmps92
  go_wp2_with fail
  rw [← hW]
  clear hW
  go_wp2_with (first
    | (go_at_call 106; refine cP1.mono ?_; rintro e w1 ⟨pb, poff, c1, rfl, hp1, g1, g2, hb1⟩; have HB1 : Hid (Below w.heap.size w w1) := Below.after HB.out hb1; have hr1 := HR.out.later hb1; have r0 : w1.cell? ⟨w.heap.size, 0, none⟩ = some (.int .i64 0) := hr1.cell (i := 0) rfl; have r1 : w1.cell? ⟨w.heap.size, 1, none⟩ = some (.int .u64 0) := hr1.cell (i := 1) rfl; have r2 : w1.cell? ⟨w.heap.size, 2, none⟩ = some (.int .i64 0) := hr1.cell (i := 2) rfl; have f0 := hr1.frozen 0; have f1 := hr1.frozen 1; have f2 := hr1.frozen 2; have HP1 : Hid (BRow _ _ _) := hp1; have hx1 := HX.out _ _ _ hp1; have hrl := hr1.lt; unfold maxLen at g2; have g3 : ¬ c1 = 1 := (by omega); have g4 : ¬ c1 = 3 := (by omega); clear hb1 hr1 hp1))
  have hpl : pb < w1.heap.size := World.block_lt_of_cell? w1 _ hx1
  have g5 : (3 : Int) ≤ (c1 : Int) := by omega
  have g6 : (11 : Int) ≤ (c1 : Int) := by omega
  have g7 : (12 : Int) ≤ (c1 : Int) := by omega
  go_region_held3 (fun w' => w'.cell? ⟨pb, poff + 11, none⟩ = some (.int .u8 (x : Int))) (first | assumption | go_keep)
    (first
    | (go_at_call 107; clear M1; refine (cG1.out _ _ _ _ (HP1.out.later (by first | exact below_drew _ | exact Below.after (below_new _ _) (below_drew _)))).mono ?_; rintro e w' ⟨rfl, rfl⟩)
    | (go_at_call 107; refine (cG2.out _ _ _ _ (HP1.out.later (by first | exact below_drew _ | exact Below.after (below_new _ _) (below_drew _)))).mono ?_; rintro e w' ⟨rfl, rfl⟩))
  all_goals go_wp2
  all_goals (try simp only [Exit.inBlock, Exit.then])
  all_goals refine bodyPost_ret (v := .tuple #[.agg #[.int .i64 0, .int .u64 0, .int .i64 0], .bool false]) ?_ rfl ⟨rfl, ?_⟩
  all_goals first
    | (rw [results_cell_tmp rfl]; go_simp)
    | (have hs := HB1.out.size; repeat' (first | exact HB1.out | exact below_store HB1.out _ _ _ | refine Below.drew ?_ | refine Below.alloc ?_ (by simp <;> omega) _ | refine Below.setCell ?_ (Nat.le_refl _) _))

set_option maxRecDepth 10000 in
set_option maxHeartbeats 4000000 in
theorem rpm_C (a : Option Addr) (n cap G1 G2 x : Nat) (l : List Nat) (w : World) (hG1 : G1 < 65536) (_hG2 : G2 < 18446744073709551616) (hxl : x < 256) (i1 : ¬ (256 : Int) ≤ (G1 : Int)) (i2 : (64 : Int) < (x : Int))
    (cP : ∀ w1, Below w.heap.size w w1 → Calls Tryz.prog 106 #[.slice a n cap, .int .u8 77, .int .i64 12] w1 (PyPost w1 l 12))
    (cG1 : Hid (∀ (w1 : World) (pb poff c : Nat), BRow w1 (some ⟨pb, poff, none⟩) (bodyL l) → Calls Tryz.prog 107 #[.slice (some ⟨pb, poff + 1, none⟩) 2 c] w1 fun e w' => e = .returned (.int .u64 (G1 : Int)) ∧ w1 = w'))
    (cG2 : Hid (∀ (w1 : World) (pb poff c : Nat), BRow w1 (some ⟨pb, poff, none⟩) (bodyL l) → Calls Tryz.prog 107 #[.slice (some ⟨pb, poff + 3, none⟩) 8 c] w1 fun e w' => e = .returned (.int .u64 (G2 : Int)) ∧ w1 = w'))
    (HX : Hid (∀ (w1 : World) (pb poff : Nat), BRow w1 (some ⟨pb, poff, none⟩) (bodyL l) → w1.cell? ⟨pb, poff + 11, none⟩ = some (.int .u8 (x : Int)))) :
    Calls Tryz.prog 92 #[.slice a n cap] w (MPost w (none)) := by
  obtain ⟨W, hW⟩ : ∃ W, W = w.alloc (.cells #[.int .i64 0, .int .u64 0, .int .i64 0] 65) := ⟨_, rfl⟩
  have HB : Hid (Below w.heap.size w W) := by rw [hW]; exact below_new _ _
  have HR : Hid (Row W w.heap.size [.int .i64 0, .int .u64 0, .int .i64 0] 65) := by rw [hW]; exact Row.new w [_, _, _] _
  have cP1 := cP W HB.out
  clear cP
  have M1 : Hid True := trivial
  go_enter Tryz.func92, Tryz.ntmps92
  go_wp2_with fail
  rw [← hW]
  clear hW
  go_wp2_with (first
    | (go_at_call 106; refine cP1.mono ?_; rintro e w1 ⟨pb, poff, c1, rfl, hp1, g1, g2, hb1⟩; have HB1 : Hid (Below w.heap.size w w1) := Below.after HB.out hb1; have hr1 := HR.out.later hb1; have r0 : w1.cell? ⟨w.heap.size, 0, none⟩ = some (.int .i64 0) := hr1.cell (i := 0) rfl; have r1 : w1.cell? ⟨w.heap.size, 1, none⟩ = some (.int .u64 0) := hr1.cell (i := 1) rfl; have r2 : w1.cell? ⟨w.heap.size, 2, none⟩ = some (.int .i64 0) := hr1.cell (i := 2) rfl; have f0 := hr1.frozen 0; have f1 := hr1.frozen 1; have f2 := hr1.frozen 2; have HP1 : Hid (BRow _ _ _) := hp1; have hx1 := HX.out _ _ _ hp1; have hrl := hr1.lt; unfold maxLen at g2; have g3 : ¬ c1 = 1 := (by omega); have g4 : ¬ c1 = 3 := (by omega); clear hb1 hr1 hp1))
  have hpl : pb < w1.heap.size := World.block_lt_of_cell? w1 _ hx1
  have g5 : (3 : Int) ≤ (c1 : Int) := by omega
  have g6 : (11 : Int) ≤ (c1 : Int) := by omega
  have g7 : (12 : Int) ≤ (c1 : Int) := by omega
  go_region_held3 (fun w' => w'.cell? ⟨pb, poff + 11, none⟩ = some (.int .u8 (x : Int))) (first | assumption | go_keep)
    (first
    | (go_at_call 107; clear M1; refine (cG1.out _ _ _ _ (HP1.out.later (by first | exact below_drew _ | exact Below.after (below_new _ _) (below_drew _)))).mono ?_; rintro e w' ⟨rfl, rfl⟩)
    | (go_at_call 107; refine (cG2.out _ _ _ _ (HP1.out.later (by first | exact below_drew _ | exact Below.after (below_new _ _) (below_drew _)))).mono ?_; rintro e w' ⟨rfl, rfl⟩))
  all_goals go_wp2
  all_goals (try simp only [Exit.inBlock, Exit.then])
  all_goals refine bodyPost_ret (v := .tuple #[.agg #[.int .i64 0, .int .u64 0, .int .i64 0], .bool false]) ?_ rfl ⟨rfl, ?_⟩
  all_goals first
    | (rw [results_cell_tmp rfl]; go_simp)
    | (have hs := HB1.out.size; repeat' (first | exact HB1.out | exact below_store HB1.out _ _ _ | refine Below.drew ?_ | refine Below.alloc ?_ (by simp <;> omega) _ | refine Below.setCell ?_ (Nat.le_refl _) _))

theorem rparseMapping {w : World} {a : Option Addr} {n cap : Nat} {l : List Nat} (h : Lies w a n cap l) : Calls Tryz.prog 92 #[.slice a n cap] w (MPost w (parseM l)) := by
  by_cases hp : payOk 77 12 l
  · have cP : ∀ w1, Below w.heap.size w w1 → Calls Tryz.prog 106 #[.slice a n cap, .int .u8 77, .int .i64 12] w1 (PyPost w1 l 12) := fun w1 hb => pay_at (h.later hb) hp
    have hbl : (bodyL l).length = 12 := by rw [body_len hp.1, hp.2.2.1]
    have hlt : ∀ x ∈ bodyL l, x < 256 := lt_of_sub h.lt 6 _
    have hres := parseM_pay hp
    obtain ⟨G1, hG1⟩ : ∃ G, G = getL (((bodyL l).drop 1).take 2) := ⟨_, rfl⟩
    obtain ⟨G2, hG2⟩ : ∃ G, G = getL (((bodyL l).drop 3).take 8) := ⟨_, rfl⟩
    obtain ⟨x, hx⟩ : ∃ x, x = (bodyL l).getD 11 0 := ⟨_, rfl⟩
    rw [← hG1, ← hG2, ← hx] at hres
    have hG1l : G1 < 65536 := by
      rw [hG1]
      have := getL_lt (((bodyL l).drop 1).take 2) (lt_of_sub hlt 1 2)
      rw [List.length_take, List.length_drop, hbl] at this
      exact this
    have hG2l : G2 < 18446744073709551616 := by
      rw [hG2]
      have := getL_lt (((bodyL l).drop 3).take 8) (lt_of_sub hlt 3 8)
      rw [List.length_take, List.length_drop, hbl] at this
      exact this
    have hxl : x < 256 := by rw [hx]; exact hlt _ (by simp [List.getD, hbl])
    have cG1 : Hid (∀ (w1 : World) (pb poff c : Nat), BRow w1 (some ⟨pb, poff, none⟩) (bodyL l) → Calls Tryz.prog 107 #[.slice (some ⟨pb, poff + 1, none⟩) 2 c] w1 fun e w' => e = .returned (.int .u64 (G1 : Int)) ∧ w1 = w') := fun w1 pb poff c hr =>
      rget_at _ c (((bodyL l).drop 1).take 2) w1 2 G1 (by simp [hbl]) (by rw [hG1, List.take_take]; rfl) (by simp [hbl]; decide) (lt_of_sub hlt 1 2) hr.sub
    have cG2 : Hid (∀ (w1 : World) (pb poff c : Nat), BRow w1 (some ⟨pb, poff, none⟩) (bodyL l) → Calls Tryz.prog 107 #[.slice (some ⟨pb, poff + 3, none⟩) 8 c] w1 fun e w' => e = .returned (.int .u64 (G2 : Int)) ∧ w1 = w') := fun w1 pb poff c hr =>
      rget_at _ c (((bodyL l).drop 3).take 8) w1 8 G2 (by simp [hbl]) (by rw [hG2, List.take_take]; rfl) (by simp [hbl]; decide) (lt_of_sub hlt 3 8) hr.sub
    have HX : Hid (∀ (w1 : World) (pb poff : Nat), BRow w1 (some ⟨pb, poff, none⟩) (bodyL l) → w1.cell? ⟨pb, poff + 11, none⟩ = some (.int .u8 (x : Int))) := fun w1 pb poff hr => by
      obtain ⟨b', off', e, _, hc⟩ := row_at hr (k := 11) (by omega)
      cases e
      rw [hc, hx]
    rw [hres]
    by_cases h1 : G1 ≤ 255
    · by_cases h2 : x ≤ 64
      · rw [if_pos ⟨h1, h2⟩]
        exact rpm_A a n cap G1 G2 x l w hG1l hG2l hxl (by omega) (by omega) cP cG1 cG2 HX
      · rw [if_neg (fun hh => h2 hh.2)]
        exact rpm_C a n cap G1 G2 x l w hG1l hG2l hxl (by omega) (by omega) cP cG1 cG2 HX
    · rw [if_neg (fun hh => h1 hh.1)]
      exact rpm_B a n cap G1 G2 x l w hG1l hG2l hxl (by omega) cP cG1 cG2 HX
  · exact rpm_no h hp
end Go.Proofs.YteoakhfofnocfaaGreatDoor.Hd

