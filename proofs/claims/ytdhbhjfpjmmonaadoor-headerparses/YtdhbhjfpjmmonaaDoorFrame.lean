/-
  What Frame of package bits answers: the payload's size, its sum, the payload, in new memory; or EINVAL.
-/
import Derived.Test.YtdhbhjfpjmmonaaDoorPut
import Derived.Test.YtdhbhjfpjmmonaaDoorSame
namespace Go.Proofs.YtdhbhjfpjmmonaaDoor
open Go.RowKit M

def frameL (l : List Nat) : List Nat := putL 2 l.length ++ (putL 4 (sumL l) ++ l)
theorem frameL_length (l : List Nat) : (frameL l).length = l.length + 6 := by simp [frameL, putL_length]; omega

theorem framed_yes (n : Int) (h : 1 ≤ n ∧ n ≤ 1024) (w : World) :
    Calls Tryd.prog 46 #[.int .i64 n] w fun e w' => e = .returned (.bool true) ∧ w = w' := by
  refine (framed_any n w).mono ?_
  rintro e w' ⟨rfl, h2⟩
  exact ⟨by simp [h], h2⟩
theorem framed_no (n : Int) (h : ¬ (1 ≤ n ∧ n ≤ 1024)) (w : World) :
    Calls Tryd.prog 46 #[.int .i64 n] w fun e w' => e = .returned (.bool false) ∧ w = w' := by
  refine (framed_any n w).mono ?_
  rintro e w' ⟨rfl, h2⟩
  exact ⟨by simp [h], h2⟩

set_option maxRecDepth 10000 in
set_option maxHeartbeats 400000 in
theorem frame_no (a : Option Addr) (cap n : Nat) (w : World) (h : n = 0 ∨ 1024 < n) :
    Calls Tryd.prog 34 #[.slice a n cap] w fun e w' => e = .returned (.tuple #[.slice none 0 0, .int .i64 22]) ∧ w = w' := by
  have h1 : ¬ (1 ≤ (n : Int) ∧ (n : Int) ≤ 1024) := by omega
  have H1 : Hid (¬ (1 ≤ (n : Int) ∧ (n : Int) ≤ 1024)) := h1
  clear h1
  go_enter Tryd.func34, Tryd.ntmps34
  go_wp2_with (go_at_call 46; refine (framed_no _ H1.out _).mono ?_; rintro e w' ⟨rfl, rfl⟩)
  go_ret2
  exact ⟨rfl, rfl⟩

theorem grown_below {B : Nat} {w w1 w2 : World} {g : Nat} (h : Below B w w1) (hg : w1.grownBy w2 (some g)) (hB : B ≤ w1.heap.size) (hgB : B ≤ g) : Below B w w2 :=
  h.grown hg hB (fun k hk => by cases hk; exact hgB)
theorem putL_cells {w1 w2 : World} {g m n : Nat} (h : Own w1 w2 (.slice (some ⟨g, 0, none⟩) m m) (putL m n)) :
    ∀ j u, ((putL m n).map u8v)[j]? = some u → w2.cell? ((⟨g, 0, none⟩ : Addr).add j) = some u := by
  have := h.1.cells (g := g) rfl
  exact this

theorem row_cells {w : World} {b off : Nat} {l : List Nat} (h : BRow w (some ⟨b, off, none⟩) l) :
    ∀ j u, (l.map u8v)[j]? = some u → w.cell? ((⟨b, off, none⟩ : Addr).add j) = some u := by
  rcases h with rfl | ⟨b', off', ha, hc⟩
  · intro j u hj; simp at hj
  · cases ha
    exact BRow.cells hc
theorem sum_at (a : Option Addr) (cap : Nat) (l : List Nat) (w : World) (n s : Nat) (hn : n = l.length) (hs : s = sumL l) (hl : l.length ≤ maxLen) (hb : ∀ x ∈ l, x < 256) (hr : BRow w a l) :
    Calls Tryd.prog 47 #[.slice a n cap] w fun e w' => e = .returned (.int .u32 (s : Int)) ∧ w = w' := by
  subst hn
  subst hs
  exact sum_any a cap l w hl hb hr

theorem frame_end {w : World} {base g n s : Nat} {l : List Nat} (hn : n = l.length) (hf : frameL l = putL 2 n ++ (putL 4 s ++ l))
    (h : w.ownsRow base 5 1 (.slice (some ⟨g, 0, none⟩) (6 + n) (6 + n)) (6 + n) ((putL 2 n).map u8v ++ (putL 4 s).map u8v ++ l.map u8v)) :
    w.ownsRow base 5 1 (.slice (some ⟨g, 0, none⟩) (6 + n) (6 + n)) (frameL l).length ((frameL l).map u8v) := by
  have e : (frameL l).length = 6 + n := by rw [frameL_length, hn]; omega
  rw [e, hf]
  simpa [List.append_assoc] using h

set_option maxRecDepth 10000 in
set_option maxHeartbeats 2000000 in
theorem frame_yes (a : Option Addr) (cap : Nat) (l : List Nat) (w : World) (h1 : 1 ≤ l.length) (h2 : l.length ≤ 1024) (hb : ∀ x ∈ l, x < 256) (hr : BRow w a l) :
    Calls Tryd.prog 34 #[.slice a l.length cap] w fun e w' => e = .returned (.tuple #[.slice (some ⟨w.heap.size, 0, none⟩) (6 + l.length) (6 + l.length), .int .i64 0]) ∧ Own w w' (.slice (some ⟨w.heap.size, 0, none⟩) (6 + l.length) (6 + l.length)) (frameL l) := by
  obtain ⟨b, off, rfl, hc⟩ : ∃ b off, a = some ⟨b, off, none⟩ ∧ ∀ i, i < l.length → w.cell? ⟨b, off + i, none⟩ = some (.int .u8 ((l.getD i 0 : Nat) : Int)) := by
    rcases hr with h | h
    · rw [h] at h1; simp at h1
    · exact h
  obtain ⟨i0, hi, hz0, hz1, hz2⟩ := info_parts info8
  have HR : Hid (BRow w (some ⟨b, off, none⟩) l) := .inr ⟨b, off, rfl, hc⟩
  have HB : Hid (∀ x ∈ l, x < 256) := hb
  obtain ⟨n, hn⟩ : ∃ n, n = l.length := ⟨_, rfl⟩
  have HN : Hid (n = l.length) := hn
  obtain ⟨s, hs⟩ : ∃ s, s = sumL l := ⟨_, rfl⟩
  have hs1 : s < 4294967296 := by rw [hs]; exact sumL_lt l
  have HS : Hid (s = sumL l) := hs
  have HML : Hid (l.length ≤ maxLen) := by show _ ≤ _; unfold maxLen; omega
  have HLM : Hid ((l.map u8v).length = n * 1) := by show _ = _; simp [hn]
  have HL2 : Hid (((putL 2 n).map u8v).length = 2 * 1) := by show _ = _; simp [putL_length]
  have HL4 : Hid (((putL 4 s).map u8v).length = 4 * 1) := by show _ = _; simp [putL_length]
  rw [← hn] at h1 h2 ⊢
  have hmL : 6 + n ≤ maxLen := by unfold maxLen; omega
  have HM : Hid (i0.bytes * (6 + n) ≤ 281474976710656) := by show _ ≤ _; rw [hz2]; omega
  have HF : Hid (1 ≤ (n : Int) ∧ (n : Int) ≤ 1024) := by show _ ∧ _; omega
  have HT : Hid (frameL l = putL 2 n ++ (putL 4 s ++ l)) := by rw [hn, hs]; exact rfl
  clear hn hs hb hr hc
  have M1 : Hid True := trivial
  have M2 : Hid True := trivial
  have M3 : Hid True := trivial
  have M4 : Hid True := trivial
  go_enter Tryd.func34, Tryd.ntmps34
  go_wp2_with (first
    | (go_at_call 46; refine (framed_yes _ HF.out _).mono ?_; rintro e w' ⟨rfl, rfl⟩)
    | (at_make; refine wpList_make_own _ rfl _ _ 25 rfl w.heap.size 5 i0 (.int .u8 0) 1 Tryd.underlying25 hi hz0 hz1 _ _ _ (6 + n) rfl rfl (by omega) HM.out hmL (Nat.le_refl _) ?_; intro w1 hown1 hgrow1; have hb1 : Below w.heap.size w w1 := (Below.refl _ _).grown hgrow1 (Nat.le_refl _) (fun k hk => by cases hk); clear hgrow1)
    | (go_at_call 21; clear M1; refine (put_any n (by omega) 2 2 rfl w1).mono ?_; rintro e w2 ⟨rfl, ho2⟩; have hown2 := owns_later hown1 ho2.2; have hb2 := Below.after hb1 ho2.2)
    | (at_builtin; clear M2; refine wpList_append_fits _ rfl (.tmp 13) (.tmp 17) 25 rfl w.heap.size 5 i0 1 Tryd.underlying25 hi hz1 w.heap.size 0 (6 + n) [] rfl hown2 ⟨w1.heap.size, 0, none⟩ 2 2 ((putL 2 n).map u8v) rfl HL2.out (putL_cells ho2) (u8v_one _) (by omega) ?_; intro w3 hown3 hgrow3; have hb3 := grown_below hb2 hgrow3 hb2.size (Nat.le_refl _); simp only [Nat.zero_add, List.nil_append] at hown3; clear hown2 hown1 ho2 hgrow3)
    | (go_at_call 47; refine (sum_at _ cap l w3 n s HN.out HS.out HML.out HB.out (HR.out.later hb3)).mono ?_; rintro e w' ⟨rfl, rfl⟩)
    | (go_at_call 21; clear M3; refine (put_any s (by omega) 4 4 rfl w3).mono ?_; rintro e w4 ⟨rfl, ho4⟩; have hown4 := owns_later hown3 ho4.2; have hb4 := Below.after hb3 ho4.2)
    | (at_builtin; clear M4; refine wpList_append_fits _ rfl (.tmp 19) (.tmp 23) 25 rfl w.heap.size 5 i0 1 Tryd.underlying25 hi hz1 w.heap.size 2 (6 + n) _ rfl hown4 ⟨w3.heap.size, 0, none⟩ 4 4 ((putL 4 s).map u8v) rfl HL4.out (putL_cells ho4) (u8v_one _) (by omega) ?_; intro w5 hown5 hgrow5; have hb5 := grown_below hb4 hgrow5 hb4.size (Nat.le_refl _); clear hown4 hown3 ho4 hgrow5)
    | (at_builtin; refine wpList_append_fits _ rfl (.tmp 25) (.tmp 26) 25 rfl w.heap.size 5 i0 1 Tryd.underlying25 hi hz1 w.heap.size 6 (6 + n) _ rfl hown5 ⟨b, off, none⟩ n cap (l.map u8v) rfl HLM.out (row_cells (HR.out.later hb5)) (u8v_one _) (by omega) ?_; intro w7 hown7 hgrow7; have hb7 := grown_below hb5 hgrow7 hb5.size (Nat.le_refl _); clear hown5 hgrow7))
  go_ret2
  exact ⟨rfl, frame_end HN.out HT.out hown7, hb7⟩
end Go.Proofs.YtdhbhjfpjmmonaaDoor
