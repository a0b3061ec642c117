/-
  What Fill of package bits answers: the first n bytes, filled up with 255, in new memory.
-/
import Derived.Test.YtdhbhjfpjmmonaaDoorMem
import Derived.Laws.CopyOwn
namespace Go.Proofs.YtdhbhjfpjmmonaaDoor
open Go.RowKit M

/-- What Fill answers. -/
def fillL (l : List Nat) (n : Nat) : List Nat := l.take n ++ List.replicate (n - l.length) 255
theorem fillL_length (l : List Nat) (n : Nat) : (fillL l n).length = n := by simp [fillL]; omega
/-- Fill's row with k bytes done. -/
def fillRow (l : List Nat) (n k : Nat) : List Nat := l.take n ++ (List.replicate (k - min l.length n) 255 ++ List.replicate (n - k) 0)
theorem fillRow_length (l : List Nat) (n k : Nat) (h1 : min l.length n ≤ k) (h2 : k ≤ n) : (fillRow l n k).length = n := by simp [fillRow]; omega
theorem fillRow_set (l : List Nat) (n k : Nat) (h1 : min l.length n ≤ k) (h2 : k < n) : ((fillRow l n k).map u8v).set k (u8v 255) = (fillRow l n (k + 1)).map u8v := by
  obtain ⟨j, hj⟩ : ∃ j, n - k = j + 1 := ⟨n - k - 1, by omega⟩
  have hj2 : n - (k + 1) = j := by omega
  have hj3 : k + 1 - min l.length n = (k - min l.length n) + 1 := by omega
  unfold fillRow
  rw [hj, hj2, hj3, List.map_append, List.set_append_right _ _ (by simp; omega), List.map_append, List.set_append_right _ _ (by simp; omega)]
  have e : k - (List.map u8v (List.take n l)).length - (List.map u8v (List.replicate (k - min l.length n) 255)).length = 0 := by simp; omega
  rw [e, List.replicate_succ, List.replicate_succ' (n := k - min l.length n)]
  simp
theorem fillRow_end (l : List Nat) (n : Nat) : fillRow l n n = fillL l n := by
  simp only [fillRow, fillL, Nat.sub_self, List.replicate_zero, List.append_nil]
  congr 2
  omega
theorem fillRow_start (l : List Nat) (n : Nat) : splice (madeCells #[Value.int IntKind.u8 0] n).toList 0 ((l.take n).map u8v) = (fillRow l n (min l.length n)).map u8v := by
  rw [toList_madeCells_one]
  simp only [splice, fillRow, List.take_zero, List.nil_append, Nat.zero_add, List.length_map, List.length_take, Nat.sub_self, List.replicate_zero, List.map_append, List.map_replicate]
  rw [List.drop_replicate]
  congr 2
  omega

theorem owns_block {w : World} {base e g n : Nat} {xs : List Value} (h : w.ownsRow base e 1 (.slice (some ⟨g, 0, none⟩) n n) n xs) : w.heap[g]? = some (.cells xs.toArray e (0, 0)) := by
  rcases h.2 with ⟨h', _⟩ | ⟨g', cap', cur, h', _, hg, _, _, hcs, htake⟩
  · simp at h'
  · simp only [Value.slice.injEq, Option.some.injEq, Addr.mk.injEq, and_true, true_and] at h'
    obtain ⟨rfl, rfl⟩ := h'
    rw [List.take_of_length_le (by simp [hcs])] at htake
    rw [hg, ← htake]
theorem owns_of_block {w : World} {base e g n : Nat} {xs : List Value} (hb : base ≤ g) (hl : xs.length = n) (hm : n ≤ maxLen) (h : w.heap[g]? = some (.cells xs.toArray e (0, 0))) :
    w.ownsRow base e 1 (.slice (some ⟨g, 0, none⟩) n n) n xs :=
  ⟨by simpa using hl, .inr ⟨g, n, xs.toArray, rfl, hb, h, Nat.le_refl _, hm, by simpa using hl, by simp [← hl]⟩⟩

theorem fill_no (a : Option Addr) (len cap : Nat) (n : Int) (hn : n < 0 ∨ 2147483647 < n) (w : World) :
    Calls Tryd.prog 35 #[.slice a len cap, .int .i64 n] w fun e w' => e = .returned (.slice none 0 0) ∧ w = w' := by
  rcases hn with h | h
  · go_enter Tryd.func35, Tryd.ntmps35
    go_wp2
    go_ret
    exact ⟨rfl, rfl⟩
  · have h2 : ¬ n < 0 := by omega
    go_enter Tryd.func35, Tryd.ntmps35
    go_wp2
    go_ret
    exact ⟨rfl, rfl⟩

theorem size8 : (Tryd.prog.info? 5).map (·.size) = some 1 := by kernel_rfl

theorem copy_pos {w w1 : World} {a : Option Addr} {l : List Nat} {cs : List Value} {n : Nat} {p : Addr} (hr : BRow w a l) (hcs : cs = (l.take n).map u8v) (hb : Below w.heap.size w w1) (h0 : 0 < cs.length) :
    some p = some p ∧ ∃ ad, a = some ad ∧ ∀ j v, cs[j]? = some v → w1.cell? (ad.add j) = some v := by
  refine ⟨rfl, ?_⟩
  rcases hr.later hb with h | ⟨b, off, ha, hc⟩
  · subst h
    simp [hcs] at h0
  · refine ⟨_, ha, fun j v hj => ?_⟩
    refine BRow.cells hc j v ?_
    rw [hcs, List.map_take] at hj
    rw [List.getElem?_take] at hj
    split at hj
    · exact hj
    · cases hj

theorem fill_start {w : World} {base n mn : Nat} {l : List Nat} {cs : List Value}
    (hg : w.heap[base]? = some (.cells (splice (madeCells (Value.int IntKind.u8 0).cells (n * 1)).toList 0 cs).toArray 5 (0, 0)))
    (hc : cs = (l.take n).map u8v) (hmn : mn = min l.length n) (hm : n ≤ maxLen) :
    w.ownsRow base 5 1 (.slice (some ⟨base, 0, none⟩) n n) n ((fillRow l n mn).map u8v) := by
  subst hc
  subst hmn
  simp only [Value.cells, Nat.mul_one] at hg
  rw [fillRow_start] at hg
  exact owns_of_block (Nat.le_refl _) (by simp [fillRow_length l n _ (Nat.le_refl _) (Nat.min_le_right _ _)]) hm hg
theorem fill_stored {w : World} {base g n k : Nat} {l : List Nat} (h1 : min l.length n ≤ k) (hk : k < n)
    (ho : w.ownsRow base 5 1 (.slice (some ⟨g, 0, none⟩) n n) n ((fillRow l n k).map u8v)) :
    (w.setCell ⟨g, k, none⟩ (Value.int IntKind.u8 255)).ownsRow base 5 1 (.slice (some ⟨g, 0, none⟩) n n) n ((fillRow l n (k + 1)).map u8v) := by
  have := (ho.stored k (u8v 255)).1
  rw [fillRow_set l n k h1 hk] at this
  exact this
theorem fill_end {w : World} {base g n : Nat} {l : List Nat}
    (ho : w.ownsRow base 5 1 (.slice (some ⟨g, 0, none⟩) n n) n ((fillRow l n n).map u8v)) :
    w.ownsRow base 5 1 (.slice (some ⟨g, 0, none⟩) n n) (fillL l n).length ((fillL l n).map u8v) := by
  rw [fillRow_end] at ho
  rw [fillL_length]
  exact ho

set_option maxRecDepth 10000 in
set_option maxHeartbeats 1000000 in
theorem fill_any (a : Option Addr) (cap : Nat) (l : List Nat) (n : Nat) (hn : n ≤ 2147483647) (w : World) (hr : BRow w a l) :
    Calls Tryd.prog 35 #[.slice a l.length cap, .int .i64 n] w fun e w' => e = .returned (.slice (some ⟨w.heap.size, 0, none⟩) n n) ∧ Own w w' (.slice (some ⟨w.heap.size, 0, none⟩) n n) (fillL l n) := by
  obtain ⟨i0, hi, hz0, hz1, hz2⟩ := info_parts info8
  have hmL : n ≤ maxLen := by unfold maxLen; omega
  have HM : Hid (i0.bytes * n ≤ 281474976710656) := by show _ ≤ _; rw [hz2]; omega
  have HR : Hid (BRow w a l) := hr
  obtain ⟨len, hlen⟩ : ∃ len, len = l.length := ⟨_, rfl⟩
  have HL : Hid (len = l.length) := hlen
  rw [← hlen]
  clear hr hlen
  obtain ⟨mn, hmn⟩ : ∃ mn, mn = min len n := ⟨_, rfl⟩
  have hmn1 : mn ≤ n := by omega
  have HMN : Hid (mn = min len n) := hmn
  obtain ⟨cs, hcs⟩ : ∃ cs, cs = (l.take n).map u8v := ⟨_, rfl⟩
  have hcl : cs.length = mn := by rw [hcs, hmn, HL.out]; simp; omega
  have HCM : Hid (cs.length = Nat.min len n) := by rw [hcl, hmn]; rfl
  have HF : Hid (0 + cs.length ≤ (madeCells (Value.int IntKind.u8 0).cells (n * 1)).toList.length) := by
    show _ ≤ _
    simp only [Value.cells, Nat.mul_one]
    rw [toList_madeCells_one]
    simp; omega
  have HC1 : Hid (∀ v ∈ cs, v.oneCell' = true) := by rw [hcs]; exact u8v_one _
  have HC : Hid (cs = (l.take n).map u8v) := hcs
  clear hmn hcs
  have hnn : (0 : Int) ≤ (n : Int) := by omega
  go_enter Tryd.func35, Tryd.ntmps35
  go_wp2_with (first
    | (at_make; refine wpList_make_full _ rfl _ _ 25 rfl w.heap.size 5 i0 (.int .u8 0) 1 Tryd.underlying25 hi hz0 hz1 _ _ _ _ n rfl rfl rfl rfl HM.out hmL (Nat.le_refl _) ?_; intro w1 hown hgrow; have hbel : Below w.heap.size w w1 := (Below.refl _ _).grown hgrow (Nat.le_refl _) (fun k hk => by cases hk); have HOW : Hid (w1.heap[w.heap.size]? = some (.cells (madeCells (Value.int IntKind.u8 0).cells (n * 1)).toList.toArray 5 (0, 0))) := owns_block hown; clear hown hgrow)
    | (refine wpList_copy_splice rfl (.tmp 15) (.tmp 16) 25 25 rfl 5 Tryd.underlying25 size8 _ _ _ _ _ _ rfl rfl w.heap.size 0 _ 5 HOW.out cs HCM.out (copy_pos HR.out HC.out hbel) HF.out HC1.out w.heap.size w hbel (Nat.le_refl _) ?_; intro w2 hg2 hb2))
  have HO : Hid (w2.ownsRow w.heap.size 5 1 (.slice (some ⟨w.heap.size, 0, none⟩) n n) n ((fillRow l n mn).map u8v)) := fill_start hg2.out HC.out (by rw [HMN.out, HL.out]) hmL
  clear HOW hg2 hbel hcl HCM HF HC1 HM
  go_loopw [6] (fun i wr => ∃ k : Nat, mn ≤ k ∧ k ≤ n ∧ i = .int .i64 k ∧ Hid (wr.ownsRow w.heap.size 5 1 (.slice (some ⟨w.heap.size, 0, none⟩) n n) n ((fillRow l n k).map u8v)) ∧ Below w.heap.size w wr) (fun i _ => n - (intOf i).toNat)
  case atStart => exact ⟨mn, by omega, by omega, rfl, HO, hb2⟩
  case round =>
    obtain ⟨k, hk1, hk, rfl, hown, hb⟩ := hrel
    have HK : Hid (min l.length n ≤ k) := by show _ ≤ _; have := HMN.out; have := HL.out; omega
    by_cases hlt : k < n
    · have hcell : ∃ v0, wr.cell? ⟨w.heap.size, k, none⟩ = some v0 := by
        rw [hown.out.cellAt k (by omega)]
        exact ⟨_, List.getElem?_eq_getElem (by simp [fillRow_length l n k HK.out hk]; omega)⟩
      obtain ⟨v0, hcell⟩ := hcell
      have hfr := hown.out.frozenAt k
      go_wp2
      go_roundw
      case rel => exact ⟨k + 1, by omega, by omega, by go_num, fill_stored HK.out hlt hown.out, hb.setCell (Nat.le_refl _) _⟩
      case measure => simp [intOf]; omega
    · go_wp2
      go_ret
      have hkm : k = n := by omega
      subst hkm
      exact ⟨rfl, fill_end hown.out, hb⟩
end Go.Proofs.YtdhbhjfpjmmonaaDoor
