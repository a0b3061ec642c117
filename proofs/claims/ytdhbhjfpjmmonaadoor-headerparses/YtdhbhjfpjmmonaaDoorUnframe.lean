/-
  What Unframe of package bits answers: the payload of the frame that the bytes begin with, or nothing.
-/
import Derived.Test.YtdhbhjfpjmmonaaDoorFrame
import Derived.Test.YtdhbhjfpjmmonaaDoorGet
import Derived.Test.YtdhbhjfpjmmonaaDoorFill
import Derived.Deep.QuietTactic
import Derived.BigQuiet
import Derived.WalkSmall
namespace Go.Proofs.YtdhbhjfpjmmonaaDoor
open Go.RowKit M

/-- The payload's size that a frame's first two bytes tell. -/
def sizeL (l : List Nat) : Nat := getL (l.take 2)
/-- The bytes that would be the payload. -/
def bodyL (l : List Nat) : List Nat := (l.drop 6).take (sizeL l)
/-- The sum that is told. -/
def toldL (l : List Nat) : Nat := getL ((l.drop 2).take 4)
/-- Does l begin with a frame? -/
def isFrame (l : List Nat) : Prop := 6 ≤ l.length ∧ 1 ≤ sizeL l ∧ sizeL l ≤ 1024 ∧ sizeL l ≤ l.length - 6 ∧ sumL (bodyL l) = toldL l

theorem BRow.sub {w : World} {b off i j : Nat} {l : List Nat} (h : BRow w (some ⟨b, off, none⟩) l) : BRow w (some ⟨b, off + i, none⟩) ((l.drop i).take j) := by
  rcases h with rfl | ⟨b', off', ha, hc⟩
  · exact .inl (by simp)
  · cases ha
    refine .inr ⟨b, off + i, rfl, fun k hk => ?_⟩
    simp only [List.length_take, List.length_drop] at hk
    have := hc (i + k) (by omega)
    rw [show off + i + k = off + (i + k) by omega, this]
    simp only [List.getD, List.getElem?_take, List.getElem?_drop]
    rw [if_pos (by omega)]
theorem BRow.drewN {w : World} {a : Option Addr} {l : List Nat} (h : BRow w a l) (n : Nat) : BRow (w.drewN n) a l := by
  rcases h with h | ⟨b, off, ha, hc⟩
  · exact .inl h
  · exact .inr ⟨b, off, ha, fun i hi => by simpa using hc i hi⟩
theorem lt_of_sub {l : List Nat} (h : ∀ x ∈ l, x < 256) (i j : Nat) : ∀ x ∈ (l.drop i).take j, x < 256 :=
  fun x hx => h x (List.mem_of_mem_drop (List.mem_of_mem_take hx))
theorem quietR {P : Program} {f : FuncId} {args : Array Value} {w : World} {n : Nat} {v : Value}
    (h : Calls P f args (w.drewN n) fun e w' => e = .returned v ∧ w.drewN n = w') : Calls P f args (w.drewN n) fun e w'' => e = .returned v ∧ ∃ m, w'' = w.drewN m :=
  h.mono fun _ _ ⟨he, hm⟩ => ⟨he, n, hm.symm⟩
theorem get_at (a : Option Addr) (cap : Nat) (l : List Nat) (w : World) (n z : Nat) (hn : n = l.length) (hz : z = getL (l.take 8)) (hl : l.length ≤ maxLen) (hb : ∀ x ∈ l, x < 256) (hr : BRow w a l) :
    Calls Tryd.prog 41 #[.slice a n cap] w fun e w' => e = .returned (.int .u64 (z : Int)) ∧ w = w' := by
  subst hn
  subst hz
  exact get_any a cap l w hl hb hr
theorem sizeL_lt {l : List Nat} (h : ∀ x ∈ l, x < 256) : sizeL l < 65536 := by
  have := getL_lt (l.take 2) (fun x hx => h x (List.mem_of_mem_take hx))
  have h2 : (l.take 2).length ≤ 2 := List.length_take_le _ _
  have h3 : 256 ^ (l.take 2).length ≤ 256 ^ 2 := Nat.pow_le_pow_right (by decide) h2
  unfold sizeL
  omega
theorem toldL_lt {l : List Nat} (h : ∀ x ∈ l, x < 256) : toldL l < 4294967296 := by
  have := getL_lt ((l.drop 2).take 4) (lt_of_sub h 2 4)
  have h2 : ((l.drop 2).take 4).length ≤ 4 := List.length_take_le _ _
  have h3 : 256 ^ ((l.drop 2).take 4).length ≤ 256 ^ 4 := Nat.pow_le_pow_right (by decide) h2
  unfold toldL
  omega
theorem below_drawn (w : World) (n : Nat) : Below w.heap.size w (w.drewN n) := by
  induction n with
  | zero => exact Below.refl _ _
  | succ n ih => exact (ih.drew)

theorem fill_at (a : Option Addr) (cap : Nat) (p : List Nat) (len z : Nat) (hz : z ≤ 2147483647) (w : World) (h1 : len = p.length) (h2 : p.length = z) (hr : BRow w a p) :
    Calls Tryd.prog 35 #[.slice a len cap, .int .i64 z] w fun e w' => e = .returned (.slice (some ⟨w.heap.size, 0, none⟩) z z) ∧ Own w w' (.slice (some ⟨w.heap.size, 0, none⟩) z z) p := by
  subst h1
  have := fill_any a cap p z hz w hr
  have e : fillL p z = p := by simp [fillL, ← h2]
  rw [e] at this
  exact this

set_option maxRecDepth 10000 in
set_option maxHeartbeats 400000 in
theorem unframe_short (a : Option Addr) (cap n : Nat) (w : World) (h : n < 6) :
    Calls Tryd.prog 38 #[.slice a n cap] w fun e w' => e = .returned (.tuple #[.slice none 0 0, .int .i64 0, .bool false]) ∧ w = w' := by
  go_enter Tryd.func38, Tryd.ntmps38
  go_wp2
  go_ret3
  exact ⟨rfl, rfl⟩

set_option maxRecDepth 10000 in
set_option maxHeartbeats 1000000 in
theorem unframe_size (b off cap : Nat) (l : List Nat) (w : World) (h : 6 ≤ l.length) (hc : l.length ≤ cap) (hm : cap ≤ 9223372036854775807) (hb : ∀ x ∈ l, x < 256)
    (hr : BRow w (some ⟨b, off, none⟩) l) (hbad : ¬ (1 ≤ sizeL l ∧ sizeL l ≤ 1024) ∨ l.length - 6 < sizeL l) :
    Calls Tryd.prog 38 #[.slice (some ⟨b, off, none⟩) l.length cap] w fun e w' => e = .returned (.tuple #[.slice none 0 0, .int .i64 0, .bool false]) ∧ w = w' := by
  have hget : Calls Tryd.prog 41 #[.slice (some ⟨b, off, none⟩) 2 cap] w fun e w' => e = .returned (.int .u64 (sizeL l : Nat)) ∧ w = w' :=
    get_at _ _ (l.take 2) w 2 (sizeL l) (by simp; omega) (by simp [sizeL, List.take_take]) (by simp [maxLen]; omega) (fun x hx => hb x (List.mem_of_mem_take hx)) (by have := hr.sub (i := 0) (j := 2); simpa using this)
  have hz := sizeL_lt hb
  obtain ⟨z, hz0⟩ : ∃ z, z = sizeL l := ⟨_, rfl⟩
  obtain ⟨n, hn0⟩ : ∃ n, n = l.length := ⟨_, rfl⟩
  rw [← hz0] at hget hbad hz
  rw [← hn0] at hbad h hc ⊢
  clear hz0 hn0 hr hb
  by_cases hf : 1 ≤ (z : Int) ∧ (z : Int) ≤ 1024
  · have HF : Hid (1 ≤ (z : Int) ∧ (z : Int) ≤ 1024) := hf
    have h2 : (n : Int) - 6 < z := by omega
    clear hf hbad
    go_enter Tryd.func38, Tryd.ntmps38
    go_wp2_with (first
      | (go_at_call 41; refine hget.mono ?_; rintro e w' ⟨rfl, rfl⟩)
      | (go_at_call 46; refine (framed_yes _ HF.out _).mono ?_; rintro e w' ⟨rfl, rfl⟩))
    go_ret3
    exact ⟨rfl, rfl⟩
  · have HF : Hid (¬ (1 ≤ (z : Int) ∧ (z : Int) ≤ 1024)) := hf
    clear hf hbad
    go_enter Tryd.func38, Tryd.ntmps38
    go_wp2_with (first
      | (go_at_call 41; refine hget.mono ?_; rintro e w' ⟨rfl, rfl⟩)
      | (go_at_call 46; refine (framed_no _ HF.out _).mono ?_; rintro e w' ⟨rfl, rfl⟩))
    go_ret3
    exact ⟨rfl, rfl⟩

set_option maxRecDepth 10000 in
set_option maxHeartbeats 2000000 in
theorem unframe_go (b off cap : Nat) (l : List Nat) (w : World) (h : 6 ≤ l.length) (hc : l.length ≤ cap) (hm : cap ≤ 9223372036854775807) (hb : ∀ x ∈ l, x < 256)
    (hr : BRow w (some ⟨b, off, none⟩) l) (h1 : 1 ≤ sizeL l) (h2 : sizeL l ≤ 1024) (h3 : sizeL l ≤ l.length - 6) :
    Calls Tryd.prog 38 #[.slice (some ⟨b, off, none⟩) l.length cap] w fun e w' =>
      (sumL (bodyL l) = toldL l → e = .returned (.tuple #[.slice (some ⟨w.heap.size, 0, none⟩) (sizeL l) (sizeL l), .int .i64 (6 + (sizeL l : Int)), .bool true]) ∧ Own w w' (.slice (some ⟨w.heap.size, 0, none⟩) (sizeL l) (sizeL l)) (bodyL l)) ∧
      (sumL (bodyL l) ≠ toldL l → e = .returned (.tuple #[.slice none 0 0, .int .i64 0, .bool false]) ∧ Below w.heap.size w w') := by
  have hget : Calls Tryd.prog 41 #[.slice (some ⟨b, off, none⟩) 2 cap] w fun e w' => e = .returned (.int .u64 (sizeL l : Nat)) ∧ w = w' :=
    get_at _ _ (l.take 2) w 2 (sizeL l) (by simp; omega) (by simp [sizeL, List.take_take]) (by simp [maxLen]; omega) (fun x hx => hb x (List.mem_of_mem_take hx)) (by have := hr.sub (i := 0) (j := 2); simpa using this)
  have hbl : (bodyL l).length = sizeL l := by simp [bodyL]; omega
  have hbb : ∀ x ∈ bodyL l, x < 256 := lt_of_sub hb 6 _
  have hbr : BRow w (some ⟨b, off + 6, none⟩) (bodyL l) := hr.sub
  have hgett : ∀ m, Calls Tryd.prog 41 #[.slice (some ⟨b, off + 2, none⟩) 4 (cap - 2)] (w.drewN m) fun e w' => e = .returned (.int .u64 (toldL l : Nat)) ∧ w.drewN m = w' := fun m =>
    get_at _ _ ((l.drop 2).take 4) _ 4 (toldL l) (by simp; omega) (by simp [toldL, List.take_take]) (by simp [maxLen]; omega) (lt_of_sub hb 2 4) (hr.sub.drewN m)
  have hsum : ∀ m, Calls Tryd.prog 47 #[.slice (some ⟨b, off + 6, none⟩) (sizeL l) (cap - 6)] (w.drewN m) fun e w' => e = .returned (.int .u32 (sumL (bodyL l) : Nat)) ∧ w.drewN m = w' := fun m =>
    sum_at _ _ (bodyL l) _ (sizeL l) _ hbl.symm rfl (by rw [hbl]; unfold maxLen; omega) hbb (hbr.drewN m)
  have ht := toldL_lt hb
  have hs := sumL_lt (bodyL l)
  obtain ⟨t, ht0⟩ : ∃ t, t = toldL l := ⟨_, rfl⟩
  obtain ⟨s, hs0⟩ : ∃ s, s = sumL (bodyL l) := ⟨_, rfl⟩
  obtain ⟨p, hp0⟩ : ∃ p, p = bodyL l := ⟨_, rfl⟩
  obtain ⟨z, hz0⟩ : ∃ z, z = sizeL l := ⟨_, rfl⟩
  obtain ⟨n, hn0⟩ : ∃ n, n = l.length := ⟨_, rfl⟩
  rw [← hs0] at hsum hs ⊢
  rw [← hz0] at hget hsum h1 h2 h3 hbl ⊢
  rw [← ht0] at hgett ht ⊢
  rw [← hp0] at hbl hbb hbr ⊢
  rw [← hn0] at h hc h3 ⊢
  have HBR : Hid (BRow w (some ⟨b, off + 6, none⟩) p) := hbr
  have HBL : Hid (p.length = z) := hbl
  have HF : Hid (1 ≤ (z : Int) ∧ (z : Int) ≤ 1024) := by show _ ∧ _; omega
  clear hz0 hn0 hr hb ht0 hs0 hp0 hbr hbb hbl
  have h6 : 6 + z - 6 = z := by omega
  by_cases hst : s = t
  · subst hst
    have hne : ((s : Int) != (s : Int)) = false := by simp
    go_enter Tryd.func38, Tryd.ntmps38
    go_wp2_with (first
      | (go_at_call 41; refine hget.mono ?_; rintro e w' ⟨rfl, rfl⟩)
      | (go_at_call 46; refine (framed_yes _ HF.out _).mono ?_; rintro e w' ⟨rfl, rfl⟩))
    go_quiet (first | (go_at_call 41; exact quietR (hgett _)) | (go_at_call 47; exact quietR (hsum _)))
    go_wp2_with (go_at_call 35; go_must (refine (fill_at _ _ p z z (by omega) (w.drewN nq) HBL.out.symm HBL.out (HBR.out.drewN nq)).mono ?_); rintro e w1 ⟨rfl, ho⟩)
    go_ret3
    refine ⟨fun _ => ⟨rfl, ho.1, ?_⟩, fun hn => absurd rfl hn⟩
    exact Below.after (below_drawn w nq) ho.2
  · have hne : ((s : Int) != (t : Int)) = true := by simp; omega
    have HST : Hid (s ≠ t) := hst
    clear hst
    go_enter Tryd.func38, Tryd.ntmps38
    go_wp2_with (first
      | (go_at_call 41; refine hget.mono ?_; rintro e w' ⟨rfl, rfl⟩)
      | (go_at_call 46; refine (framed_yes _ HF.out _).mono ?_; rintro e w' ⟨rfl, rfl⟩))
    go_quiet (first | (go_at_call 41; exact quietR (hgett _)) | (go_at_call 47; exact quietR (hsum _)))
    go_wp2
    go_ret3
    exact ⟨fun he => absurd he HST.out, fun _ => ⟨rfl, below_drawn w nq⟩⟩

/-- What Unframe answers of any bytes: a frame's payload in new memory, or nothing. -/
theorem unframe_is (a : Option Addr) (cap : Nat) (l : List Nat) (w : World) (hc : l.length ≤ cap) (hm : cap ≤ 9223372036854775807) (hb : ∀ x ∈ l, x < 256) (hr : BRow w a l) (hf : isFrame l) :
    Calls Tryd.prog 38 #[.slice a l.length cap] w fun e w' =>
      e = .returned (.tuple #[.slice (some ⟨w.heap.size, 0, none⟩) (sizeL l) (sizeL l), .int .i64 (6 + (sizeL l : Int)), .bool true]) ∧ Own w w' (.slice (some ⟨w.heap.size, 0, none⟩) (sizeL l) (sizeL l)) (bodyL l) := by
  obtain ⟨h6, h1, h2, h3, h4⟩ := hf
  rcases hr with h | ⟨b, off, rfl, hcs⟩
  · rw [h] at h6; simp at h6
  · exact (unframe_go b off cap l w h6 hc hm hb (.inr ⟨b, off, rfl, hcs⟩) h1 h2 h3).mono fun e w' h => h.1 h4
theorem unframe_not (a : Option Addr) (cap : Nat) (l : List Nat) (w : World) (hc : l.length ≤ cap) (hm : cap ≤ 9223372036854775807) (hb : ∀ x ∈ l, x < 256) (hr : BRow w a l) (hf : ¬ isFrame l) :
    Calls Tryd.prog 38 #[.slice a l.length cap] w fun e w' =>
      e = .returned (.tuple #[.slice none 0 0, .int .i64 0, .bool false]) ∧ Below w.heap.size w w' := by
  by_cases h6 : 6 ≤ l.length
  · rcases hr with h | ⟨b, off, rfl, hcs⟩
    · rw [h] at h6; simp at h6
    · by_cases hs : 1 ≤ sizeL l ∧ sizeL l ≤ 1024 ∧ sizeL l ≤ l.length - 6
      · exact (unframe_go b off cap l w h6 hc hm hb (.inr ⟨b, off, rfl, hcs⟩) hs.1 hs.2.1 hs.2.2).mono fun e w' h => h.2 fun he => hf ⟨h6, hs.1, hs.2.1, hs.2.2, he⟩
      · refine (unframe_size b off cap l w h6 hc hm hb (.inr ⟨b, off, rfl, hcs⟩) (by omega)).mono ?_
        rintro e w' ⟨he, rfl⟩
        exact ⟨he, Below.refl _ _⟩
  · refine (unframe_short a cap l.length w (by omega)).mono ?_
    rintro e w' ⟨he, rfl⟩
    exact ⟨he, Below.refl _ _⟩
end Go.Proofs.YtdhbhjfpjmmonaaDoor
