/-
  What Frame of package bits answers: the payload's size, its sum, the payload, in new memory; or EINVAL.
  What Fill of package bits answers: the first n bytes, filled up with 255, in new memory.
  What Unframe of package bits answers: the payload of the frame that the bytes begin with, or nothing.
  Frames as lists: what was framed is a frame, whatever stands behind it; with a byte of its sum or its payload turned it is none.
  Bytes in new memory, and the law's own Same: small facts for the walks.
  Memory: rows of cells, what stays while others are written.
-/
import Derived.Test.YtkfecngkdlajgaaGreatDoorGA
import Derived.Laws.CopyOwn
import Derived.Deep.QuietTactic
import Derived.BigQuiet
import Derived.WalkSmall
namespace Go.Proofs.YtkfecngkdlajgaaGreatDoor.Hd
open Go.RowKit M

def frameL (l : List Nat) : List Nat := putL 2 l.length ++ (putL 4 (sumL l) ++ l)
theorem frameL_length (l : List Nat) : (frameL l).length = l.length + 6 := by simp [frameL, putL_length]; omega

theorem framed_yes (n : Int) (h : 1 ≤ n ∧ n ≤ 1024) (w : World) :
    Calls Tryz.prog 144 #[.int .i64 n] w fun e w' => e = .returned (.bool true) ∧ w = w' := by
  refine (framed_any n w).mono ?_
  rintro e w' ⟨rfl, h2⟩
  exact ⟨by simp [h], h2⟩
theorem framed_no (n : Int) (h : ¬ (1 ≤ n ∧ n ≤ 1024)) (w : World) :
    Calls Tryz.prog 144 #[.int .i64 n] w fun e w' => e = .returned (.bool false) ∧ w = w' := by
  refine (framed_any n w).mono ?_
  rintro e w' ⟨rfl, h2⟩
  exact ⟨by simp [h], h2⟩

theorem grown_below {B : Nat} {w w1 w2 : World} {g : Nat} (h : Below B w w1) (hg : w1.grownBy w2 (some g)) (hB : B ≤ w1.heap.size) (hgB : B ≤ g) : Below B w w2 :=
  h.grown hg hB (fun k hk => by cases hk; exact hgB)
theorem putL_cells {w1 w2 : World} {g m n : Nat} (h : Own w1 w2 (.slice (some ⟨g, 0, none⟩) m m) (putL m n)) :
    ∀ j u, ((putL m n).map u8v)[j]? = some u → w2.cell? ((⟨g, 0, none⟩ : Addr).add j) = some u := by
  have := h.1.cells (g := g) rfl
  exact this

theorem row_cells {w : World} {b off : Nat} {l : List Nat} (h : BRow w (some ⟨b, off, none⟩) l) :
    ∀ j u, (l.map u8v)[j]? = some u → w.cell? ((⟨b, off, none⟩ : Addr).add j) = some u := by
  rcases h with rfl | ⟨b', off', ha, hc⟩
  · intro j u hj; simp at hj
  · cases ha
    exact BRow.cells hc
theorem sum_at (a : Option Addr) (cap : Nat) (l : List Nat) (w : World) (n s : Nat) (hn : n = l.length) (hs : s = sumL l) (hl : l.length ≤ maxLen) (hb : ∀ x ∈ l, x < 256) (hr : BRow w a l) :
    Calls Tryz.prog 145 #[.slice a n cap] w fun e w' => e = .returned (.int .u32 (s : Int)) ∧ w = w' := by
  subst hn
  subst hs
  exact sum_any a cap l w hl hb hr

theorem frame_end {w : World} {base g n s : Nat} {l : List Nat} (hn : n = l.length) (hf : frameL l = putL 2 n ++ (putL 4 s ++ l))
    (h : w.ownsRow base 5 1 (.slice (some ⟨g, 0, none⟩) (6 + n) (6 + n)) (6 + n) ((putL 2 n).map u8v ++ (putL 4 s).map u8v ++ l.map u8v)) :
    w.ownsRow base 5 1 (.slice (some ⟨g, 0, none⟩) (6 + n) (6 + n)) (frameL l).length ((frameL l).map u8v) := by
  have e : (frameL l).length = 6 + n := by rw [frameL_length, hn]; omega
  rw [e, hf]
  simpa [List.append_assoc] using h

set_option maxRecDepth 10000 in
set_option maxHeartbeats 2000000 in
theorem frame_yes (a : Option Addr) (cap : Nat) (l : List Nat) (w : World) (h1 : 1 ≤ l.length) (h2 : l.length ≤ 1024) (hb : ∀ x ∈ l, x < 256) (hr : BRow w a l) :
    Calls Tryz.prog 104 #[.slice a l.length cap] w fun e w' => e = .returned (.tuple #[.slice (some ⟨w.heap.size, 0, none⟩) (6 + l.length) (6 + l.length), .int .i64 0]) ∧ Own w w' (.slice (some ⟨w.heap.size, 0, none⟩) (6 + l.length) (6 + l.length)) (frameL l) := by
  obtain ⟨b, off, rfl, hc⟩ : ∃ b off, a = some ⟨b, off, none⟩ ∧ ∀ i, i < l.length → w.cell? ⟨b, off + i, none⟩ = some (.int .u8 ((l.getD i 0 : Nat) : Int)) := by
    rcases hr with h | h
    · rw [h] at h1; simp at h1
    · exact h
  obtain ⟨i0, hi, hz0, hz1, hz2⟩ := info_parts info8
  have HR : Hid (BRow w (some ⟨b, off, none⟩) l) := .inr ⟨b, off, rfl, hc⟩
  have HB : Hid (∀ x ∈ l, x < 256) := hb
  obtain ⟨n, hn⟩ : ∃ n, n = l.length := ⟨_, rfl⟩
  have HN : Hid (n = l.length) := hn
  obtain ⟨s, hs⟩ : ∃ s, s = sumL l := ⟨_, rfl⟩
  have hs1 : s < 4294967296 := by rw [hs]; exact sumL_lt l
  have HS : Hid (s = sumL l) := hs
  have HML : Hid (l.length ≤ maxLen) := by show _ ≤ _; unfold maxLen; omega
  have HLM : Hid ((l.map u8v).length = n * 1) := by show _ = _; simp [hn]
  have HL2 : Hid (((putL 2 n).map u8v).length = 2 * 1) := by show _ = _; simp [putL_length]
  have HL4 : Hid (((putL 4 s).map u8v).length = 4 * 1) := by show _ = _; simp [putL_length]
  rw [← hn] at h1 h2 ⊢
  have hmL : 6 + n ≤ maxLen := by unfold maxLen; omega
  have HM : Hid (i0.bytes * (6 + n) ≤ 281474976710656) := by show _ ≤ _; rw [hz2]; omega
  have HF : Hid (1 ≤ (n : Int) ∧ (n : Int) ≤ 1024) := by show _ ∧ _; omega
  have HT : Hid (frameL l = putL 2 n ++ (putL 4 s ++ l)) := by rw [hn, hs]; exact rfl
  clear hn hs hb hr hc
  have M1 : Hid True := trivial
  have M2 : Hid True := trivial
  have M3 : Hid True := trivial
  have M4 : Hid True := trivial
  go_enter Tryz.func104, Tryz.ntmps104
  go_wp2_with (first
    | (go_at_call 144; refine (framed_yes _ HF.out _).mono ?_; rintro e w' ⟨rfl, rfl⟩)
    | (at_make; refine wpList_make_own _ rfl _ _ 56 rfl w.heap.size 5 i0 (.int .u8 0) 1 Tryz.underlying56 hi hz0 hz1 _ _ _ (6 + n) rfl rfl (by omega) HM.out hmL (Nat.le_refl _) ?_; intro w1 hown1 hgrow1; have hb1 : Below w.heap.size w w1 := (Below.refl _ _).grown hgrow1 (Nat.le_refl _) (fun k hk => by cases hk); clear hgrow1)
    | (go_at_call 37; clear M1; refine (put_any n (by omega) 2 2 rfl w1).mono ?_; rintro e w2 ⟨rfl, ho2⟩; have hown2 := owns_later hown1 ho2.2; have hb2 := Below.after hb1 ho2.2)
    | (at_builtin; clear M2; refine wpList_append_fits _ rfl (.tmp 13) (.tmp 17) 56 rfl w.heap.size 5 i0 1 Tryz.underlying56 hi hz1 w.heap.size 0 (6 + n) [] rfl hown2 ⟨w1.heap.size, 0, none⟩ 2 2 ((putL 2 n).map u8v) rfl HL2.out (putL_cells ho2) (u8v_one _) (by omega) ?_; intro w3 hown3 hgrow3; have hb3 := grown_below hb2 hgrow3 hb2.size (Nat.le_refl _); simp only [Nat.zero_add, List.nil_append] at hown3; clear hown2 hown1 ho2 hgrow3)
    | (go_at_call 145; refine (sum_at _ cap l w3 n s HN.out HS.out HML.out HB.out (HR.out.later hb3)).mono ?_; rintro e w' ⟨rfl, rfl⟩)
    | (go_at_call 37; clear M3; refine (put_any s (by omega) 4 4 rfl w3).mono ?_; rintro e w4 ⟨rfl, ho4⟩; have hown4 := owns_later hown3 ho4.2; have hb4 := Below.after hb3 ho4.2)
    | (at_builtin; clear M4; refine wpList_append_fits _ rfl (.tmp 19) (.tmp 23) 56 rfl w.heap.size 5 i0 1 Tryz.underlying56 hi hz1 w.heap.size 2 (6 + n) _ rfl hown4 ⟨w3.heap.size, 0, none⟩ 4 4 ((putL 4 s).map u8v) rfl HL4.out (putL_cells ho4) (u8v_one _) (by omega) ?_; intro w5 hown5 hgrow5; have hb5 := grown_below hb4 hgrow5 hb4.size (Nat.le_refl _); clear hown4 hown3 ho4 hgrow5)
    | (at_builtin; refine wpList_append_fits _ rfl (.tmp 25) (.tmp 26) 56 rfl w.heap.size 5 i0 1 Tryz.underlying56 hi hz1 w.heap.size 6 (6 + n) _ rfl hown5 ⟨b, off, none⟩ n cap (l.map u8v) rfl HLM.out (row_cells (HR.out.later hb5)) (u8v_one _) (by omega) ?_; intro w7 hown7 hgrow7; have hb7 := grown_below hb5 hgrow7 hb5.size (Nat.le_refl _); clear hown5 hgrow7))
  go_ret2
  exact ⟨rfl, frame_end HN.out HT.out hown7, hb7⟩
end Go.Proofs.YtkfecngkdlajgaaGreatDoor.Hd
namespace Go.Proofs.YtkfecngkdlajgaaGreatDoor.Hd
open Go.RowKit M

/-- What Fill answers. -/
def fillL (l : List Nat) (n : Nat) : List Nat := l.take n ++ List.replicate (n - l.length) 255
theorem fillL_length (l : List Nat) (n : Nat) : (fillL l n).length = n := by simp [fillL]; omega
/-- Fill's row with k bytes done. -/
def fillRow (l : List Nat) (n k : Nat) : List Nat := l.take n ++ (List.replicate (k - min l.length n) 255 ++ List.replicate (n - k) 0)
theorem fillRow_length (l : List Nat) (n k : Nat) (h1 : min l.length n ≤ k) (h2 : k ≤ n) : (fillRow l n k).length = n := by simp [fillRow]; omega
theorem fillRow_set (l : List Nat) (n k : Nat) (h1 : min l.length n ≤ k) (h2 : k < n) : ((fillRow l n k).map u8v).set k (u8v 255) = (fillRow l n (k + 1)).map u8v := by
  obtain ⟨j, hj⟩ : ∃ j, n - k = j + 1 := ⟨n - k - 1, by omega⟩
  have hj2 : n - (k + 1) = j := by omega
  have hj3 : k + 1 - min l.length n = (k - min l.length n) + 1 := by omega
  unfold fillRow
  rw [hj, hj2, hj3, List.map_append, List.set_append_right _ _ (by simp; omega), List.map_append, List.set_append_right _ _ (by simp; omega)]
  have e : k - (List.map u8v (List.take n l)).length - (List.map u8v (List.replicate (k - min l.length n) 255)).length = 0 := by simp; omega
  rw [e, List.replicate_succ, List.replicate_succ' (n := k - min l.length n)]
  simp
theorem fillRow_end (l : List Nat) (n : Nat) : fillRow l n n = fillL l n := by
  simp only [fillRow, fillL, Nat.sub_self, List.replicate_zero, List.append_nil]
  congr 2
  omega
theorem fillRow_start (l : List Nat) (n : Nat) : splice (madeCells #[Value.int IntKind.u8 0] n).toList 0 ((l.take n).map u8v) = (fillRow l n (min l.length n)).map u8v := by
  rw [toList_madeCells_one]
  simp only [splice, fillRow, List.take_zero, List.nil_append, Nat.zero_add, List.length_map, List.length_take, Nat.sub_self, List.replicate_zero, List.map_append, List.map_replicate]
  rw [List.drop_replicate]
  congr 2
  omega

theorem owns_block {w : World} {base e g n : Nat} {xs : List Value} (h : w.ownsRow base e 1 (.slice (some ⟨g, 0, none⟩) n n) n xs) : w.heap[g]? = some (.cells xs.toArray e (0, 0)) := by
  rcases h.2 with ⟨h', _⟩ | ⟨g', cap', cur, h', _, hg, _, _, hcs, htake⟩
  · simp at h'
  · simp only [Value.slice.injEq, Option.some.injEq, Addr.mk.injEq, and_true, true_and] at h'
    obtain ⟨rfl, rfl⟩ := h'
    rw [List.take_of_length_le (by simp [hcs])] at htake
    rw [hg, ← htake]
theorem owns_of_block {w : World} {base e g n : Nat} {xs : List Value} (hb : base ≤ g) (hl : xs.length = n) (hm : n ≤ maxLen) (h : w.heap[g]? = some (.cells xs.toArray e (0, 0))) :
    w.ownsRow base e 1 (.slice (some ⟨g, 0, none⟩) n n) n xs :=
  ⟨by simpa using hl, .inr ⟨g, n, xs.toArray, rfl, hb, h, Nat.le_refl _, hm, by simpa using hl, by simp [← hl]⟩⟩

theorem size8 : (Tryz.prog.info? 5).map (·.size) = some 1 := by kernel_rfl

theorem copy_pos {w w1 : World} {a : Option Addr} {l : List Nat} {cs : List Value} {n : Nat} {p : Addr} (hr : BRow w a l) (hcs : cs = (l.take n).map u8v) (hb : Below w.heap.size w w1) (h0 : 0 < cs.length) :
    some p = some p ∧ ∃ ad, a = some ad ∧ ∀ j v, cs[j]? = some v → w1.cell? (ad.add j) = some v := by
  refine ⟨rfl, ?_⟩
  rcases hr.later hb with h | ⟨b, off, ha, hc⟩
  · subst h
    simp [hcs] at h0
  · refine ⟨_, ha, fun j v hj => ?_⟩
    refine BRow.cells hc j v ?_
    rw [hcs, List.map_take] at hj
    rw [List.getElem?_take] at hj
    split at hj
    · exact hj
    · cases hj

theorem fill_start {w : World} {base n mn : Nat} {l : List Nat} {cs : List Value}
    (hg : w.heap[base]? = some (.cells (splice (madeCells (Value.int IntKind.u8 0).cells (n * 1)).toList 0 cs).toArray 5 (0, 0)))
    (hc : cs = (l.take n).map u8v) (hmn : mn = min l.length n) (hm : n ≤ maxLen) :
    w.ownsRow base 5 1 (.slice (some ⟨base, 0, none⟩) n n) n ((fillRow l n mn).map u8v) := by
  subst hc
  subst hmn
  simp only [Value.cells, Nat.mul_one] at hg
  rw [fillRow_start] at hg
  exact owns_of_block (Nat.le_refl _) (by simp [fillRow_length l n _ (Nat.le_refl _) (Nat.min_le_right _ _)]) hm hg
theorem fill_stored {w : World} {base g n k : Nat} {l : List Nat} (h1 : min l.length n ≤ k) (hk : k < n)
    (ho : w.ownsRow base 5 1 (.slice (some ⟨g, 0, none⟩) n n) n ((fillRow l n k).map u8v)) :
    (w.setCell ⟨g, k, none⟩ (Value.int IntKind.u8 255)).ownsRow base 5 1 (.slice (some ⟨g, 0, none⟩) n n) n ((fillRow l n (k + 1)).map u8v) := by
  have := (ho.stored k (u8v 255)).1
  rw [fillRow_set l n k h1 hk] at this
  exact this
theorem fill_end {w : World} {base g n : Nat} {l : List Nat}
    (ho : w.ownsRow base 5 1 (.slice (some ⟨g, 0, none⟩) n n) n ((fillRow l n n).map u8v)) :
    w.ownsRow base 5 1 (.slice (some ⟨g, 0, none⟩) n n) (fillL l n).length ((fillL l n).map u8v) := by
  rw [fillRow_end] at ho
  rw [fillL_length]
  exact ho

set_option maxRecDepth 10000 in
set_option maxHeartbeats 1000000 in
theorem fill_any (a : Option Addr) (cap : Nat) (l : List Nat) (n : Nat) (hn : n ≤ 2147483647) (w : World) (hr : BRow w a l) :
    Calls Tryz.prog 189 #[.slice a l.length cap, .int .i64 n] w fun e w' => e = .returned (.slice (some ⟨w.heap.size, 0, none⟩) n n) ∧ Own w w' (.slice (some ⟨w.heap.size, 0, none⟩) n n) (fillL l n) := by
  obtain ⟨i0, hi, hz0, hz1, hz2⟩ := info_parts info8
  have hmL : n ≤ maxLen := by unfold maxLen; omega
  have HM : Hid (i0.bytes * n ≤ 281474976710656) := by show _ ≤ _; rw [hz2]; omega
  have HR : Hid (BRow w a l) := hr
  obtain ⟨len, hlen⟩ : ∃ len, len = l.length := ⟨_, rfl⟩
  have HL : Hid (len = l.length) := hlen
  rw [← hlen]
  clear hr hlen
  obtain ⟨mn, hmn⟩ : ∃ mn, mn = min len n := ⟨_, rfl⟩
  have hmn1 : mn ≤ n := by omega
  have HMN : Hid (mn = min len n) := hmn
  obtain ⟨cs, hcs⟩ : ∃ cs, cs = (l.take n).map u8v := ⟨_, rfl⟩
  have hcl : cs.length = mn := by rw [hcs, hmn, HL.out]; simp; omega
  have HCM : Hid (cs.length = Nat.min len n) := by rw [hcl, hmn]; rfl
  have HF : Hid (0 + cs.length ≤ (madeCells (Value.int IntKind.u8 0).cells (n * 1)).toList.length) := by
    show _ ≤ _
    simp only [Value.cells, Nat.mul_one]
    rw [toList_madeCells_one]
    simp; omega
  have HC1 : Hid (∀ v ∈ cs, v.oneCell' = true) := by rw [hcs]; exact u8v_one _
  have HC : Hid (cs = (l.take n).map u8v) := hcs
  clear hmn hcs
  have hnn : (0 : Int) ≤ (n : Int) := by omega
  go_enter Tryz.func189, Tryz.ntmps189
  go_wp2_with (first
    | (at_make; refine wpList_make_full _ rfl _ _ 56 rfl w.heap.size 5 i0 (.int .u8 0) 1 Tryz.underlying56 hi hz0 hz1 _ _ _ _ n rfl rfl rfl rfl HM.out hmL (Nat.le_refl _) ?_; intro w1 hown hgrow; have hbel : Below w.heap.size w w1 := (Below.refl _ _).grown hgrow (Nat.le_refl _) (fun k hk => by cases hk); have HOW : Hid (w1.heap[w.heap.size]? = some (.cells (madeCells (Value.int IntKind.u8 0).cells (n * 1)).toList.toArray 5 (0, 0))) := owns_block hown; clear hown hgrow)
    | (refine wpList_copy_splice rfl (.tmp 15) (.tmp 16) 56 56 rfl 5 Tryz.underlying56 size8 _ _ _ _ _ _ rfl rfl w.heap.size 0 _ 5 HOW.out cs HCM.out (copy_pos HR.out HC.out hbel) HF.out HC1.out w.heap.size w hbel (Nat.le_refl _) ?_; intro w2 hg2 hb2))
  have HO : Hid (w2.ownsRow w.heap.size 5 1 (.slice (some ⟨w.heap.size, 0, none⟩) n n) n ((fillRow l n mn).map u8v)) := fill_start hg2.out HC.out (by rw [HMN.out, HL.out]) hmL
  clear HOW hg2 hbel hcl HCM HF HC1 HM
  go_loopw [6] (fun i wr => ∃ k : Nat, mn ≤ k ∧ k ≤ n ∧ i = .int .i64 k ∧ Hid (wr.ownsRow w.heap.size 5 1 (.slice (some ⟨w.heap.size, 0, none⟩) n n) n ((fillRow l n k).map u8v)) ∧ Below w.heap.size w wr) (fun i _ => n - (intOf i).toNat)
  case atStart => exact ⟨mn, by omega, by omega, rfl, HO, hb2⟩
  case round =>
    obtain ⟨k, hk1, hk, rfl, hown, hb⟩ := hrel
    have HK : Hid (min l.length n ≤ k) := by show _ ≤ _; have := HMN.out; have := HL.out; omega
    by_cases hlt : k < n
    · have hcell : ∃ v0, wr.cell? ⟨w.heap.size, k, none⟩ = some v0 := by
        rw [hown.out.cellAt k (by omega)]
        exact ⟨_, List.getElem?_eq_getElem (by simp [fillRow_length l n k HK.out hk]; omega)⟩
      obtain ⟨v0, hcell⟩ := hcell
      have hfr := hown.out.frozenAt k
      go_wp2
      go_roundw
      case rel => exact ⟨k + 1, by omega, by omega, by go_num, fill_stored HK.out hlt hown.out, hb.setCell (Nat.le_refl _) _⟩
      case measure => simp [intOf]; omega
    · go_wp2
      go_ret
      have hkm : k = n := by omega
      subst hkm
      exact ⟨rfl, fill_end hown.out, hb⟩
end Go.Proofs.YtkfecngkdlajgaaGreatDoor.Hd
namespace Go.Proofs.YtkfecngkdlajgaaGreatDoor.Hd
open Go.RowKit M

/-- The payload's size that a frame's first two bytes tell. -/
def sizeL (l : List Nat) : Nat := getL (l.take 2)
/-- The bytes that would be the payload. -/
def bodyL (l : List Nat) : List Nat := (l.drop 6).take (sizeL l)
/-- The sum that is told. -/
def toldL (l : List Nat) : Nat := getL ((l.drop 2).take 4)
/-- Does l begin with a frame? -/
def isFrame (l : List Nat) : Prop := 6 ≤ l.length ∧ 1 ≤ sizeL l ∧ sizeL l ≤ 1024 ∧ sizeL l ≤ l.length - 6 ∧ sumL (bodyL l) = toldL l

theorem BRow.sub {w : World} {b off i j : Nat} {l : List Nat} (h : BRow w (some ⟨b, off, none⟩) l) : BRow w (some ⟨b, off + i, none⟩) ((l.drop i).take j) := by
  rcases h with rfl | ⟨b', off', ha, hc⟩
  · exact .inl (by simp)
  · cases ha
    refine .inr ⟨b, off + i, rfl, fun k hk => ?_⟩
    simp only [List.length_take, List.length_drop] at hk
    have := hc (i + k) (by omega)
    rw [show off + i + k = off + (i + k) by omega, this]
    simp only [List.getD, List.getElem?_take, List.getElem?_drop]
    rw [if_pos (by omega)]
theorem BRow.drewN {w : World} {a : Option Addr} {l : List Nat} (h : BRow w a l) (n : Nat) : BRow (w.drewN n) a l := by
  rcases h with h | ⟨b, off, ha, hc⟩
  · exact .inl h
  · exact .inr ⟨b, off, ha, fun i hi => by simpa using hc i hi⟩
theorem lt_of_sub {l : List Nat} (h : ∀ x ∈ l, x < 256) (i j : Nat) : ∀ x ∈ (l.drop i).take j, x < 256 :=
  fun x hx => h x (List.mem_of_mem_drop (List.mem_of_mem_take hx))
theorem quietR {P : Program} {f : FuncId} {args : Array Value} {w : World} {n : Nat} {v : Value}
    (h : Calls P f args (w.drewN n) fun e w' => e = .returned v ∧ w.drewN n = w') : Calls P f args (w.drewN n) fun e w'' => e = .returned v ∧ ∃ m, w'' = w.drewN m :=
  h.mono fun _ _ ⟨he, hm⟩ => ⟨he, n, hm.symm⟩
theorem get_at (a : Option Addr) (cap : Nat) (l : List Nat) (w : World) (n z : Nat) (hn : n = l.length) (hz : z = getL (l.take 8)) (hl : l.length ≤ maxLen) (hb : ∀ x ∈ l, x < 256) (hr : BRow w a l) :
    Calls Tryz.prog 101 #[.slice a n cap] w fun e w' => e = .returned (.int .u64 (z : Int)) ∧ w = w' := by
  subst hn
  subst hz
  exact get_any a cap l w hl hb hr
theorem sizeL_lt {l : List Nat} (h : ∀ x ∈ l, x < 256) : sizeL l < 65536 := by
  have := getL_lt (l.take 2) (fun x hx => h x (List.mem_of_mem_take hx))
  have h2 : (l.take 2).length ≤ 2 := List.length_take_le _ _
  have h3 : 256 ^ (l.take 2).length ≤ 256 ^ 2 := Nat.pow_le_pow_right (by decide) h2
  unfold sizeL
  omega
theorem toldL_lt {l : List Nat} (h : ∀ x ∈ l, x < 256) : toldL l < 4294967296 := by
  have := getL_lt ((l.drop 2).take 4) (lt_of_sub h 2 4)
  have h2 : ((l.drop 2).take 4).length ≤ 4 := List.length_take_le _ _
  have h3 : 256 ^ ((l.drop 2).take 4).length ≤ 256 ^ 4 := Nat.pow_le_pow_right (by decide) h2
  unfold toldL
  omega
theorem below_drawn (w : World) (n : Nat) : Below w.heap.size w (w.drewN n) := by
  induction n with
  | zero => exact Below.refl _ _
  | succ n ih => exact (ih.drew)

theorem fill_at (a : Option Addr) (cap : Nat) (p : List Nat) (len z : Nat) (hz : z ≤ 2147483647) (w : World) (h1 : len = p.length) (h2 : p.length = z) (hr : BRow w a p) :
    Calls Tryz.prog 189 #[.slice a len cap, .int .i64 z] w fun e w' => e = .returned (.slice (some ⟨w.heap.size, 0, none⟩) z z) ∧ Own w w' (.slice (some ⟨w.heap.size, 0, none⟩) z z) p := by
  subst h1
  have := fill_any a cap p z hz w hr
  have e : fillL p z = p := by simp [fillL, ← h2]
  rw [e] at this
  exact this

set_option maxRecDepth 10000 in
set_option maxHeartbeats 400000 in
theorem unframe_short (a : Option Addr) (cap n : Nat) (w : World) (h : n < 6) :
    Calls Tryz.prog 165 #[.slice a n cap] w fun e w' => e = .returned (.tuple #[.slice none 0 0, .int .i64 0, .bool false]) ∧ w = w' := by
  go_enter Tryz.func165, Tryz.ntmps165
  go_wp2
  go_ret3
  exact ⟨rfl, rfl⟩

set_option maxRecDepth 10000 in
set_option maxHeartbeats 1000000 in
theorem unframe_size (b off cap : Nat) (l : List Nat) (w : World) (h : 6 ≤ l.length) (hc : l.length ≤ cap) (hm : cap ≤ 9223372036854775807) (hb : ∀ x ∈ l, x < 256)
    (hr : BRow w (some ⟨b, off, none⟩) l) (hbad : ¬ (1 ≤ sizeL l ∧ sizeL l ≤ 1024) ∨ l.length - 6 < sizeL l) :
    Calls Tryz.prog 165 #[.slice (some ⟨b, off, none⟩) l.length cap] w fun e w' => e = .returned (.tuple #[.slice none 0 0, .int .i64 0, .bool false]) ∧ w = w' := by
  have hget : Calls Tryz.prog 101 #[.slice (some ⟨b, off, none⟩) 2 cap] w fun e w' => e = .returned (.int .u64 (sizeL l : Nat)) ∧ w = w' :=
    get_at _ _ (l.take 2) w 2 (sizeL l) (by simp; omega) (by simp [sizeL, List.take_take]) (by simp [maxLen]; omega) (fun x hx => hb x (List.mem_of_mem_take hx)) (by have := hr.sub (i := 0) (j := 2); simpa using this)
  have hz := sizeL_lt hb
  obtain ⟨z, hz0⟩ : ∃ z, z = sizeL l := ⟨_, rfl⟩
  obtain ⟨n, hn0⟩ : ∃ n, n = l.length := ⟨_, rfl⟩
  rw [← hz0] at hget hbad hz
  rw [← hn0] at hbad h hc ⊢
  clear hz0 hn0 hr hb
  by_cases hf : 1 ≤ (z : Int) ∧ (z : Int) ≤ 1024
  · have HF : Hid (1 ≤ (z : Int) ∧ (z : Int) ≤ 1024) := hf
    have h2 : (n : Int) - 6 < z := by omega
    clear hf hbad
    go_enter Tryz.func165, Tryz.ntmps165
    go_wp2_with (first
      | (go_at_call 101; refine hget.mono ?_; rintro e w' ⟨rfl, rfl⟩)
      | (go_at_call 144; refine (framed_yes _ HF.out _).mono ?_; rintro e w' ⟨rfl, rfl⟩))
    go_ret3
    exact ⟨rfl, rfl⟩
  · have HF : Hid (¬ (1 ≤ (z : Int) ∧ (z : Int) ≤ 1024)) := hf
    clear hf hbad
    go_enter Tryz.func165, Tryz.ntmps165
    go_wp2_with (first
      | (go_at_call 101; refine hget.mono ?_; rintro e w' ⟨rfl, rfl⟩)
      | (go_at_call 144; refine (framed_no _ HF.out _).mono ?_; rintro e w' ⟨rfl, rfl⟩))
    go_ret3
    exact ⟨rfl, rfl⟩

set_option maxRecDepth 10000 in
set_option maxHeartbeats 2000000 in
theorem unframe_go (b off cap : Nat) (l : List Nat) (w : World) (h : 6 ≤ l.length) (hc : l.length ≤ cap) (hm : cap ≤ 9223372036854775807) (hb : ∀ x ∈ l, x < 256)
    (hr : BRow w (some ⟨b, off, none⟩) l) (h1 : 1 ≤ sizeL l) (h2 : sizeL l ≤ 1024) (h3 : sizeL l ≤ l.length - 6) :
    Calls Tryz.prog 165 #[.slice (some ⟨b, off, none⟩) l.length cap] w fun e w' =>
      (sumL (bodyL l) = toldL l → e = .returned (.tuple #[.slice (some ⟨w.heap.size, 0, none⟩) (sizeL l) (sizeL l), .int .i64 (6 + (sizeL l : Int)), .bool true]) ∧ Own w w' (.slice (some ⟨w.heap.size, 0, none⟩) (sizeL l) (sizeL l)) (bodyL l)) ∧
      (sumL (bodyL l) ≠ toldL l → e = .returned (.tuple #[.slice none 0 0, .int .i64 0, .bool false]) ∧ Below w.heap.size w w') := by
  have hget : Calls Tryz.prog 101 #[.slice (some ⟨b, off, none⟩) 2 cap] w fun e w' => e = .returned (.int .u64 (sizeL l : Nat)) ∧ w = w' :=
    get_at _ _ (l.take 2) w 2 (sizeL l) (by simp; omega) (by simp [sizeL, List.take_take]) (by simp [maxLen]; omega) (fun x hx => hb x (List.mem_of_mem_take hx)) (by have := hr.sub (i := 0) (j := 2); simpa using this)
  have hbl : (bodyL l).length = sizeL l := by simp [bodyL]; omega
  have hbb : ∀ x ∈ bodyL l, x < 256 := lt_of_sub hb 6 _
  have hbr : BRow w (some ⟨b, off + 6, none⟩) (bodyL l) := hr.sub
  have hgett : ∀ m, Calls Tryz.prog 101 #[.slice (some ⟨b, off + 2, none⟩) 4 (cap - 2)] (w.drewN m) fun e w' => e = .returned (.int .u64 (toldL l : Nat)) ∧ w.drewN m = w' := fun m =>
    get_at _ _ ((l.drop 2).take 4) _ 4 (toldL l) (by simp; omega) (by simp [toldL, List.take_take]) (by simp [maxLen]; omega) (lt_of_sub hb 2 4) (hr.sub.drewN m)
  have hsum : ∀ m, Calls Tryz.prog 145 #[.slice (some ⟨b, off + 6, none⟩) (sizeL l) (cap - 6)] (w.drewN m) fun e w' => e = .returned (.int .u32 (sumL (bodyL l) : Nat)) ∧ w.drewN m = w' := fun m =>
    sum_at _ _ (bodyL l) _ (sizeL l) _ hbl.symm rfl (by rw [hbl]; unfold maxLen; omega) hbb (hbr.drewN m)
  have ht := toldL_lt hb
  have hs := sumL_lt (bodyL l)
  obtain ⟨t, ht0⟩ : ∃ t, t = toldL l := ⟨_, rfl⟩
  obtain ⟨s, hs0⟩ : ∃ s, s = sumL (bodyL l) := ⟨_, rfl⟩
  obtain ⟨p, hp0⟩ : ∃ p, p = bodyL l := ⟨_, rfl⟩
  obtain ⟨z, hz0⟩ : ∃ z, z = sizeL l := ⟨_, rfl⟩
  obtain ⟨n, hn0⟩ : ∃ n, n = l.length := ⟨_, rfl⟩
  rw [← hs0] at hsum hs ⊢
  rw [← hz0] at hget hsum h1 h2 h3 hbl ⊢
  rw [← ht0] at hgett ht ⊢
  rw [← hp0] at hbl hbb hbr ⊢
  rw [← hn0] at h hc h3 ⊢
  have HBR : Hid (BRow w (some ⟨b, off + 6, none⟩) p) := hbr
  have HBL : Hid (p.length = z) := hbl
  have HF : Hid (1 ≤ (z : Int) ∧ (z : Int) ≤ 1024) := by show _ ∧ _; omega
  clear hz0 hn0 hr hb ht0 hs0 hp0 hbr hbb hbl
  have h6 : 6 + z - 6 = z := by omega
  by_cases hst : s = t
  · subst hst
    have hne : ((s : Int) != (s : Int)) = false := by simp
    go_enter Tryz.func165, Tryz.ntmps165
    go_wp2_with (first
      | (go_at_call 101; refine hget.mono ?_; rintro e w' ⟨rfl, rfl⟩)
      | (go_at_call 144; refine (framed_yes _ HF.out _).mono ?_; rintro e w' ⟨rfl, rfl⟩))
    go_quiet (first | (go_at_call 101; exact quietR (hgett _)) | (go_at_call 145; exact quietR (hsum _)))
    go_wp2_with (go_at_call 189; go_must (refine (fill_at _ _ p z z (by omega) (w.drewN nq) HBL.out.symm HBL.out (HBR.out.drewN nq)).mono ?_); rintro e w1 ⟨rfl, ho⟩)
    go_ret3
    refine ⟨fun _ => ⟨rfl, ho.1, ?_⟩, fun hn => absurd rfl hn⟩
    exact Below.after (below_drawn w nq) ho.2
  · have hne : ((s : Int) != (t : Int)) = true := by simp; omega
    have HST : Hid (s ≠ t) := hst
    clear hst
    go_enter Tryz.func165, Tryz.ntmps165
    go_wp2_with (first
      | (go_at_call 101; refine hget.mono ?_; rintro e w' ⟨rfl, rfl⟩)
      | (go_at_call 144; refine (framed_yes _ HF.out _).mono ?_; rintro e w' ⟨rfl, rfl⟩))
    go_quiet (first | (go_at_call 101; exact quietR (hgett _)) | (go_at_call 145; exact quietR (hsum _)))
    go_wp2
    go_ret3
    exact ⟨fun he => absurd he HST.out, fun _ => ⟨rfl, below_drawn w nq⟩⟩

/-- What Unframe answers of any bytes: a frame's payload in new memory, or nothing. -/
theorem unframe_is (a : Option Addr) (cap : Nat) (l : List Nat) (w : World) (hc : l.length ≤ cap) (hm : cap ≤ 9223372036854775807) (hb : ∀ x ∈ l, x < 256) (hr : BRow w a l) (hf : isFrame l) :
    Calls Tryz.prog 165 #[.slice a l.length cap] w fun e w' =>
      e = .returned (.tuple #[.slice (some ⟨w.heap.size, 0, none⟩) (sizeL l) (sizeL l), .int .i64 (6 + (sizeL l : Int)), .bool true]) ∧ Own w w' (.slice (some ⟨w.heap.size, 0, none⟩) (sizeL l) (sizeL l)) (bodyL l) := by
  obtain ⟨h6, h1, h2, h3, h4⟩ := hf
  rcases hr with h | ⟨b, off, rfl, hcs⟩
  · rw [h] at h6; simp at h6
  · exact (unframe_go b off cap l w h6 hc hm hb (.inr ⟨b, off, rfl, hcs⟩) h1 h2 h3).mono fun e w' h => h.1 h4
theorem unframe_not (a : Option Addr) (cap : Nat) (l : List Nat) (w : World) (hc : l.length ≤ cap) (hm : cap ≤ 9223372036854775807) (hb : ∀ x ∈ l, x < 256) (hr : BRow w a l) (hf : ¬ isFrame l) :
    Calls Tryz.prog 165 #[.slice a l.length cap] w fun e w' =>
      e = .returned (.tuple #[.slice none 0 0, .int .i64 0, .bool false]) ∧ Below w.heap.size w w' := by
  by_cases h6 : 6 ≤ l.length
  · rcases hr with h | ⟨b, off, rfl, hcs⟩
    · rw [h] at h6; simp at h6
    · by_cases hs : 1 ≤ sizeL l ∧ sizeL l ≤ 1024 ∧ sizeL l ≤ l.length - 6
      · exact (unframe_go b off cap l w h6 hc hm hb (.inr ⟨b, off, rfl, hcs⟩) hs.1 hs.2.1 hs.2.2).mono fun e w' h => h.2 fun he => hf ⟨h6, hs.1, hs.2.1, hs.2.2, he⟩
      · refine (unframe_size b off cap l w h6 hc hm hb (.inr ⟨b, off, rfl, hcs⟩) (by omega)).mono ?_
        rintro e w' ⟨he, rfl⟩
        exact ⟨he, Below.refl _ _⟩
  · refine (unframe_short a cap l.length w (by omega)).mono ?_
    rintro e w' ⟨he, rfl⟩
    exact ⟨he, Below.refl _ _⟩
end Go.Proofs.YtkfecngkdlajgaaGreatDoor.Hd
namespace Go.Proofs.YtkfecngkdlajgaaGreatDoor.Hd
open M

theorem frameL_lt {l : List Nat} (h : ∀ x ∈ l, x < 256) : ∀ x ∈ frameL l, x < 256 := by
  intro x hx
  simp only [frameL, List.mem_append] at hx
  rcases hx with hx | hx | hx
  · exact putL_lt _ _ x hx
  · exact putL_lt _ _ x hx
  · exact h x hx
theorem take2 (l m : List Nat) : (frameL l ++ m).take 2 = putL 2 l.length := by
  simp only [frameL, List.append_assoc]
  rw [List.take_append_of_le_length (by simp [putL_length])]
  exact List.take_of_length_le (by simp [putL_length])
theorem size_frame (l m : List Nat) (h : l.length ≤ 1024) : sizeL (frameL l ++ m) = l.length := by
  unfold sizeL
  rw [take2, getL_putL]
  exact Nat.mod_eq_of_lt (by omega)
theorem drop2 (l m : List Nat) : (frameL l ++ m).drop 2 = putL 4 (sumL l) ++ (l ++ m) := by
  simp only [frameL, List.append_assoc]
  rw [List.drop_append, List.drop_eq_nil_of_le (by simp [putL_length])]
  simp [putL_length]
theorem told_frame (l m : List Nat) : toldL (frameL l ++ m) = sumL l := by
  unfold toldL
  rw [drop2, List.take_append_of_le_length (by simp [putL_length]), List.take_of_length_le (by simp [putL_length]), getL_putL]
  exact Nat.mod_eq_of_lt (sumL_lt l)
theorem drop6 (l m : List Nat) : (frameL l ++ m).drop 6 = l ++ m := by
  have : (frameL l ++ m).drop 6 = ((frameL l ++ m).drop 2).drop 4 := by rw [List.drop_drop]
  rw [this, drop2, List.drop_append, List.drop_eq_nil_of_le (by simp [putL_length])]
  simp [putL_length]
theorem body_frame (l m : List Nat) (h : l.length ≤ 1024) : bodyL (frameL l ++ m) = l := by
  unfold bodyL
  rw [size_frame l m h, drop6, List.take_append_of_le_length (Nat.le_refl _), List.take_length]
theorem frame_is (l m : List Nat) (h1 : 1 ≤ l.length) (h2 : l.length ≤ 1024) : isFrame (frameL l ++ m) := by
  refine ⟨by simp [frameL_length]; omega, ?_, ?_, ?_, ?_⟩
  · rw [size_frame l m h2]; exact h1
  · rw [size_frame l m h2]; exact h2
  · rw [size_frame l m h2]; simp [frameL_length]; omega
  · rw [body_frame l m h2, told_frame]

end Go.Proofs.YtkfecngkdlajgaaGreatDoor.Hd
namespace Go.Proofs.YtkfecngkdlajgaaGreatDoor.Hd
open Go.RowKit M

theorem below_new (w : World) (o : Obj) : Below w.heap.size w (w.alloc o) := (Below.refl _ _).alloc (Nat.le_refl _) _
theorem size_new (w : World) (o : Obj) : (w.alloc o).heap.size = w.heap.size + 1 := by simp
theorem own_at {w w' : World} {g n cap : Nat} {l : List Nat} (h : Own w w' (.slice (some ⟨g, 0, none⟩) n cap) l) : BRow w' (some ⟨g, 0, none⟩) l := by
  obtain ⟨a, c, hv, hr, _⟩ := h.row
  simp only [Value.slice.injEq] at hv
  rw [hv.1]
  exact hr
end Go.Proofs.YtkfecngkdlajgaaGreatDoor.Hd
namespace Go.Proofs.YtkfecngkdlajgaaGreatDoor.Hd
open Go.RowKit


/-- A block whose cells begin with cs. -/
def Row (W : World) (B : Nat) (cs : List Value) (t : TypeId) : Prop := ∃ rest : List Value, W.heap[B]? = some (.cells (cs ++ rest).toArray t (0, 0))
theorem Row.lt {W : World} {B : Nat} {cs : List Value} {t : TypeId} (h : Row W B cs t) : B < W.heap.size := by
  obtain ⟨r, h⟩ := h; exact (Array.getElem?_eq_some_iff.1 h).1
theorem Row.cell {W : World} {B i : Nat} {cs : List Value} {t : TypeId} {v : Value} (h : Row W B cs t) (hi : cs[i]? = some v) : W.cell? ⟨B, i, none⟩ = some v := by
  obtain ⟨r, h⟩ := h
  have hlt := (List.getElem?_eq_some_iff.1 hi).1
  simp only [World.cell?, h]
  simp [List.getElem?_append_left hlt, hi]
theorem Row.frozen {W : World} {B : Nat} {cs : List Value} {t : TypeId} (h : Row W B cs t) (i : Nat) : W.frozen? ⟨B, i, none⟩ = false := by
  obtain ⟨r, h⟩ := h
  simp [World.frozen?, h]
theorem Row.set {W : World} {B i : Nat} {cs : List Value} {t : TypeId} (v : Value) (h : Row W B cs t) (hi : i < cs.length) : Row (W.setCell ⟨B, i, none⟩ v) B (cs.set i v) t := by
  obtain ⟨r, h⟩ := h
  obtain ⟨hlt, hk⟩ := Array.getElem?_eq_some_iff.1 h
  refine ⟨r, ?_⟩
  show (W.heap.modify B _)[B]? = _
  rw [Array.getElem?_eq_getElem (by rw [Array.size_modify]; exact hlt), Array.getElem_modify_self, hk]
  simp [List.set_append_left _ _ hi]
theorem Row.same {W W' : World} {B : Nat} {cs : List Value} {t : TypeId} (h : Row W B cs t) (e : W'.heap[B]? = W.heap[B]?) : Row W' B cs t := by
  obtain ⟨r, h⟩ := h; exact ⟨r, e.trans h⟩
theorem Row.other {W : World} {B : Nat} {cs : List Value} {t : TypeId} (p : Addr) (v : Value) (h : Row W B cs t) (hne : B ≠ p.block) : Row (W.setCell p v) B cs t := h.same (Below.heap_setCell _ _ _ B hne)
theorem Row.setNew {w W : World} {B : Nat} {cs : List Value} {t : TypeId} (p : Addr) (v : Value) (h : Row W B cs t) (hB : B < w.heap.size) (hp : w.heap.size ≤ p.block) : Row (W.setCell p v) B cs t := h.other p v (by omega)
theorem Row.alloc {W : World} {B : Nat} {cs : List Value} {t : TypeId} (h : Row W B cs t) (o : Obj) : Row (W.alloc o) B cs t := h.same (Below.heap_alloc _ _ _ h.lt)
theorem Row.drew {W : World} {B : Nat} {cs : List Value} {t : TypeId} (h : Row W B cs t) : Row W.drew B cs t := h
theorem Row.drewN {W : World} {B : Nat} {cs : List Value} {t : TypeId} (h : Row W B cs t) (n : Nat) : Row (W.drewN n) B cs t := h
theorem Row.later {W W' : World} {B : Nat} {cs : List Value} {t : TypeId} (h : Row W B cs t) (hb : Below W.heap.size W W') : Row W' B cs t := h.same (hb.block B h.lt)
theorem Row.ne {W : World} {B C : Nat} {cs ds : List Value} {t u : TypeId} (h : Row W B cs t) (g : Row W C ds u) (hn : t ≠ u) : B ≠ C := by
  rintro rfl
  obtain ⟨r, h⟩ := h
  obtain ⟨s, g⟩ := g
  have := h.symm.trans g
  simp at this
  exact hn this.2
theorem Row.new (W : World) (cs : List Value) (t : TypeId) : Row (W.alloc (.cells cs.toArray t)) W.heap.size cs t := ⟨[], by show (W.heap.push _)[W.heap.size]? = _; simp⟩
theorem Row.of_owns {W : World} {base size n : Nat} {t : TypeId} {v : Value} {xs : List Value} (h : W.ownsRow base t size v n xs) (hn : 0 < n) : ∃ g cap, v = .slice (some ⟨g, 0, none⟩) n cap ∧ n ≤ cap ∧ cap ≤ maxLen ∧ base ≤ g ∧ Row W g xs t := by
  rcases h.2 with ⟨rfl, hn'⟩ | ⟨g, cap, cur, rfl, hbg, hgg, hnc, hcm, hcs, htake⟩
  · omega
  · refine ⟨g, cap, rfl, hnc, hcm, hbg, cur.toList.drop (n * size), ?_⟩
    rw [hgg, ← htake, List.take_append_drop]

/-- But for the blocks S all that there was is as it was. -/
structure Kept (S : Nat → Prop) (w w' : World) : Prop where
  os : w'.os = w.os
  tape : w'.tape = w.tape
  output : w'.output = w.output
  size : w.heap.size ≤ w'.heap.size
  block : ∀ k, k < w.heap.size → ¬ S k → w'.heap[k]? = w.heap[k]?
theorem Kept.refl (S : Nat → Prop) (w : World) : Kept S w w := ⟨rfl, rfl, rfl, Nat.le_refl _, fun _ _ _ => rfl⟩
theorem Kept.trans {S : Nat → Prop} {a b c : World} (h : Kept S a b) (k : Kept S b c) : Kept S a c :=
  ⟨k.os.trans h.os, k.tape.trans h.tape, k.output.trans h.output, Nat.le_trans h.size k.size, fun i hi hs => (k.block i (Nat.lt_of_lt_of_le hi h.size) hs).trans (h.block i hi hs)⟩
theorem Kept.mono {S T : Nat → Prop} {a b : World} (h : Kept S a b) (hs : ∀ k, S k → T k) : Kept T a b := ⟨h.os, h.tape, h.output, h.size, fun k hk hn => h.block k hk (fun x => hn (hs k x))⟩
theorem Kept.of_below {S : Nat → Prop} {a b : World} (h : Below a.heap.size a b) : Kept S a b := ⟨h.os, h.tape, h.output, h.size, fun k hk _ => h.block k hk⟩
theorem Kept.later {S : Nat → Prop} {a b c : World} (h : Kept S a b) (k : Below b.heap.size b c) : Kept S a c := h.trans (.of_below k)
theorem Kept.setCell {S : Nat → Prop} {a w : World} (h : Kept S a w) {p : Addr} (hp : S p.block) (u : Value) : Kept S a (w.setCell p u) :=
  h.trans ⟨rfl, rfl, rfl, by simp [World.setCell], fun k _ hn => Below.heap_setCell _ _ _ _ (fun e => hn (e ▸ hp))⟩
theorem Kept.setNew {S : Nat → Prop} {a w : World} (h : Kept S a w) {p : Addr} (hp : a.heap.size ≤ p.block) (u : Value) : Kept S a (w.setCell p u) :=
  ⟨h.os, h.tape, h.output, by have := h.size; simpa [World.setCell] using this, fun k hk hn => (Below.heap_setCell _ _ _ _ (by omega)).trans (h.block k hk hn)⟩
theorem Kept.alloc {S : Nat → Prop} {a w : World} (h : Kept S a w) (o : Obj) : Kept S a (w.alloc o) := h.trans ⟨rfl, rfl, rfl, by simp, fun k hk _ => Below.heap_alloc _ _ _ hk⟩
theorem Kept.drew {S : Nat → Prop} {a w : World} (h : Kept S a w) : Kept S a w.drew := ⟨h.os, h.tape, h.output, h.size, h.block⟩
theorem Kept.drewN {S : Nat → Prop} {a w : World} (h : Kept S a w) (n : Nat) : Kept S a (w.drewN n) := ⟨h.os, h.tape, h.output, h.size, h.block⟩
theorem Kept.below {S : Nat → Prop} {B : Nat} {a b : World} (h : Kept S a b) (hB : B ≤ a.heap.size) (hs : ∀ k, S k → B ≤ k) : Below B a b :=
  ⟨h.os, h.tape, h.output, h.size, fun k hk => h.block k (by omega) (fun x => by have := hs k x; omega)⟩
theorem Row.kept {S : Nat → Prop} {W W' : World} {B : Nat} {cs : List Value} {t : TypeId} (h : Row W B cs t) (hk : Kept S W W') (hn : ¬ S B) : Row W' B cs t := h.same (hk.block B h.lt hn)
end Go.Proofs.YtkfecngkdlajgaaGreatDoor.Hd
