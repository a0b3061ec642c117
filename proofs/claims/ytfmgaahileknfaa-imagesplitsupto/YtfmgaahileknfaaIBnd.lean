/-
  What rise, bare, firsts and together of package image answer.
-/
import Derived.Test.YtfmgaahileknfaaIStr
import Derived.Test.YtfmgaahileknfaaISplM
namespace Go.Proofs.Ytfmgaahileknfaa
open Go.RowKit M
set_option maxRecDepth 10000

/-- Do these keys rise behind a key? -/
def riseK : K → List K → Bool
  | _, [] => true
  | x, k :: l => fol x k && riseK k l
set_option maxHeartbeats 2000000 in
theorem rise_any (a : Option Addr) (len cap : Nat) (l : List K) (w : World) (h : SArg w a len cap l) :
    Calls Try.prog 16 #[.slice a len cap] w fun e w' => e = .returned (.bool (riseK ⟨#[]⟩ l)) ∧ w = w' := by
  have HZ : Hid (SRow w a l) := h.row
  have HK : Hid (∀ s ∈ l, s.size ≤ maxLen) := h.lt
  have hcm := h.max
  have hlc := h.le
  unfold maxLen at hcm
  obtain ⟨R, hR⟩ : ∃ R, R = riseK ⟨#[]⟩ l := ⟨_, rfl⟩
  have HR : Hid (R = riseK ⟨#[]⟩ l) := hR
  rw [← hR]
  have HL : Hid (len = l.length) := h.len_eq
  clear h hR
  go_enter Try.func16, Try.ntmps16
  go_wp2
  go_loopg [3, 8] len (fun kx s3 s8 wr => ∃ (k : Nat) (x : K), k + kx = len ∧ s8 = .int .i64 (k : Nat) ∧ s3 = .string x ∧ wr = w ∧ Hid (riseK x (l.drop k) = R))
  case atStart => exact ⟨0, ⟨#[]⟩, by omega, rfl, rfl, rfl, by rw [List.drop_zero]; exact HR.out.symm⟩
  case round =>
    obtain ⟨k, x, hk, rfl, rfl, rfl, I⟩ := hrel
    by_cases hlt : k < len
    · obtain ⟨b, off, y, rfl, hy, hd, _, q0⟩ := srow_at HZ.out (k := k) (by have := HL.out; omega)
      have hi1 : (k : Int) < (len : Int) := by omega
      have HS : Hid ((fol x y && riseK y (l.drop (k + 1))) = R) := by have := I.out; rw [hd] at this; exact this
      have kf := fun W => follows_any x y (HK.out y (List.mem_of_getElem? hy)) W
      clear hd hy I
      cases hf : fol x y with
      | false =>
        rw [hf] at kf
        have HF : Hid (R = false) := by have := HS.out; rw [hf] at this; exact this.symm
        go_wp2_with (go_at_call 24; refine (kf _).mono ?_; rintro e w1 ⟨rfl, rfl⟩)
        go_ret
        exact ⟨by rw [HF.out]; rfl, rfl⟩
      | true =>
        rw [hf] at kf
        have HF : Hid (riseK y (l.drop (k + 1)) = R) := by have := HS.out; rw [hf] at this; exact this
        go_wp2_with (go_at_call 24; refine (kf _).mono ?_; rintro e w1 ⟨rfl, rfl⟩)
        go_roundg (len - (k + 1))
        case measure => omega
        case rel => exact ⟨k + 1, y, by omega, by go_num, rfl, rfl, HF.out⟩
    · have hkl : k = len := by omega
      subst hkl
      have hR2 := I.out
      rw [HL.out, List.drop_eq_nil_of_le (Nat.le_refl _), riseK] at hR2
      have HR2 : Hid (true = R) := hR2
      clear hR2 I
      go_wp2
      go_ret
      exact ⟨by rw [← HR2.out]; rfl, rfl⟩

/-- A slot with a key alone. -/
def bst (k : K) : St := ⟨k, 0, 0, 0⟩
theorem box_one (w : World) (s : St) : ZRow (w.alloc (.cells (stv s).toArray 41)) (some ⟨w.heap.size, 0, none⟩) [s] :=
  zrow_of fun j u hj => by
    have := World.news_of_block (heap_new w (.cells (stv s).toArray 41)) j u (by simpa using hj)
    simpa [add_plain] using this
set_option maxHeartbeats 2000000 in
theorem bare_any (a : Option Addr) (len cap : Nat) (l : List K) (w : World) (h : SArg w a len cap l) (hl : len * 40 ≤ 140737488351232) :
    Calls Try.prog 17 #[.slice a len cap] w fun e w' => ZPost w (l.map bst) e w' := by
  obtain ⟨i0, hi, hz0, hz1, hz2⟩ := info_parts infoZ
  have HZ : Hid (SRow w a l) := h.row
  have HL : Hid (len = l.length) := h.len_eq
  have hcm := h.max
  have hlc := h.le
  unfold maxLen at hcm
  have HM : Hid (i0.bytes * len ≤ 281474976710656 ∧ len ≤ maxLen) := ⟨by rw [hz2]; omega, by unfold maxLen; omega⟩
  clear h
  go_enter Try.func17, Try.ntmps17
  go_wp2_with (at_make; refine wpList_make_own _ rfl _ _ 26 rfl w.heap.size 41 i0 _ 4 Try.underlying26 hi hz0 hz1 _ _ _ len rfl rfl rfl HM.out.1 HM.out.2 (Nat.le_refl _) ?_; intro w1 hown hgrow; have HB1 : Hid (Below w.heap.size w w1) := (Below.refl _ _).grown hgrow (Nat.le_refl _) (fun k hk => by cases hk); have HO1 : Hid (w1.ownsRow w.heap.size 41 4 (.slice (some ⟨w.heap.size, 0, none⟩) 0 len) 0 []) := hown; clear hown hgrow)
  clear HM hi hz0 hz1 hz2
  go_loopg [3, 11] len (fun kx s3 s11 wr => ∃ (i : Nat) (v : Value), i + kx = len ∧ v = s3 ∧ s11 = .int .i64 (i : Nat) ∧ Hid (wr.ownsRow w.heap.size 41 4 v i (((l.take i).map bst).flatMap stv) ∧ Below w.heap.size w wr))
  case atStart => exact ⟨0, _, by omega, rfl, rfl, (⟨HO1.out, HB1.out⟩ : _ ∧ _)⟩
  case round =>
    obtain ⟨i, v, hi, rfl, rfl, I⟩ := hrel
    by_cases hlt : i < len
    · obtain ⟨b, off, y, rfl, hy, _, ht, q0⟩ := srow_at (HZ.out.later I.out.2) (k := i) (by have := HL.out; omega)
      have hi1 : (i : Int) < (len : Int) := by omega
      have HO : Hid (wr.ownsRow w.heap.size 41 4 v i (((l.take i).map bst).flatMap stv)) := I.out.1
      have HB : Hid (Below w.heap.size w wr) := I.out.2
      have HT : Hid ((l.take (i + 1)).map bst = (l.take i).map bst ++ [bst y]) := by show _ = _; rw [ht]; simp
      have HQ : Hid (i + 1 ≤ maxLen ∧ (i + 1) * 40 ≤ 140737488355328) := ⟨by unfold maxLen; omega, by omega⟩
      have HX : Hid (ZRow (wr.alloc (.cells (stv (bst y)).toArray 41)) (some ⟨wr.heap.size, 0, none⟩) [bst y]) := box_one wr (bst y)
      have hbw : b < wr.heap.size := World.block_lt_of_cell? wr _ q0
      clear ht hy I
      go_wp2_with (at_builtin; refine wpList_append_sts rfl (.tmp 15) (.tmp 18) rfl w.heap.size v i _ rfl (owns_later HO.out (below_new wr _)) (some ⟨wr.heap.size, 0, none⟩) 1 1 [bst y] rfl rfl HX.out (fun e => by cases e) HQ.out.1 HQ.out.2 (bafter HB.out (below_new wr _)).size ?_; intro v5 w5 ho5 hg5; have H5 : Hid (w5.ownsRow w.heap.size 41 4 v5 (i + 1) (((l.take (i + 1)).map bst).flatMap stv) ∧ Below w.heap.size w w5) := (⟨by rw [HT.out]; exact ho5, grown_own (bafter HB.out (below_new wr _)) hg5 (bafter HB.out (below_new wr _)).size (owns_later HO.out (below_new wr _))⟩ : _ ∧ _); clear ho5 hg5)
      go_roundg (len - (i + 1))
      case measure => omega
      case rel => exact ⟨i + 1, v5, by omega, rfl, by go_num, H5.out⟩
    · have hkl : i = len := by omega
      subst hkl
      have HF : Hid (wr.ownsRow w.heap.size 41 4 v (l.map bst).length ((l.map bst).flatMap stv) ∧ Below w.heap.size w wr) := by
        have := I.out
        rw [HL.out, List.take_length] at this
        show _ ∧ _
        rw [List.length_map]
        exact this
      clear I
      go_wp2
      go_ret
      obtain ⟨fa, fc, e, _⟩ := zown_row rfl HF.out.1
      exact ⟨fa, _, fc, by rw [e]; rfl, rfl, by rw [← e]; exact HF.out⟩

/-- The first key of a list of slots. -/
def hk (y : List St) : K := match y with | [] => ⟨#[]⟩ | s :: _ => s.key
theorem lrow_at {w : World} {a : Option Addr} {ls : List (List St)} (h : LRow w a ls) {i : Nat} (hi : i < ls.length) :
    ∃ b off y ya yc, a = some ⟨b, off, none⟩ ∧ ls[i]? = some y ∧ ls.take (i + 1) = ls.take i ++ [y] ∧ w.cell? ⟨b, off + i, none⟩ = some (.slice ya y.length yc) ∧ ZRow w ya y ∧ y.length ≤ yc ∧ yc ≤ maxLen := by
  rcases h with e | ⟨b, off, e, hc⟩
  · rw [e] at hi; simp at hi
  · have hy : ls[i]? = some (ls[i]'hi) := List.getElem?_eq_getElem hi
    obtain ⟨ya, yc, q⟩ := hc i _ hy
    exact ⟨b, off, _, ya, yc, e, hy, List.take_succ_eq_append_getElem hi, q⟩
/-- What firsts answers. -/
def FPost (w : World) (l : List K) (e : Ending) (w' : World) : Prop := ∃ a c, e = .returned (.slice a l.length c) ∧ SRow w' a l ∧ l.length ≤ c ∧ c ≤ maxLen ∧ Below w.heap.size w w'
set_option maxHeartbeats 2000000 in
theorem firsts_any (a : Option Addr) (len cap : Nat) (ls : List (List St)) (w : World) (h : LArg w a len cap ls) (hl : len * 40 ≤ 140737488351232) (h1 : ∀ y ∈ ls, 1 ≤ y.length) :
    Calls Try.prog 19 #[.slice a len cap] w fun e w' => FPost w (ls.map hk) e w' := by
  obtain ⟨i0, hi, hz0, hz1, hz2⟩ := info_parts infoS
  have HZ : Hid (LRow w a ls) := h.row
  have HL : Hid (len = ls.length) := h.len_eq
  have HN : Hid (∀ y ∈ ls, 1 ≤ y.length) := h1
  have hcm := h.max
  have hlc := h.le
  unfold maxLen at hcm
  have HM : Hid (i0.bytes * len ≤ 281474976710656 ∧ len ≤ maxLen) := ⟨by rw [hz2]; omega, by unfold maxLen; omega⟩
  clear h h1
  go_enter Try.func19, Try.ntmps19
  go_wp2_with (at_make; refine wpList_make_own _ rfl _ _ 23 rfl w.heap.size 9 i0 _ 1 Try.underlying23 hi hz0 hz1 _ _ _ len rfl rfl rfl HM.out.1 HM.out.2 (Nat.le_refl _) ?_; intro w1 hown hgrow; have HB1 : Hid (Below w.heap.size w w1) := (Below.refl _ _).grown hgrow (Nat.le_refl _) (fun k hk => by cases hk); have HO1 : Hid (w1.ownsRow w.heap.size 9 1 (.slice (some ⟨w.heap.size, 0, none⟩) 0 len) 0 []) := hown; clear hown hgrow)
  clear HM hi hz0 hz1 hz2
  go_loopg [3, 11] len (fun kx s3 s11 wr => ∃ (i : Nat) (v : Value), i + kx = len ∧ v = s3 ∧ s11 = .int .i64 (i : Nat) ∧ Hid (wr.ownsRow w.heap.size 9 1 v i (((ls.take i).map hk).map Value.string) ∧ Below w.heap.size w wr))
  case atStart => exact ⟨0, _, by omega, rfl, rfl, (⟨HO1.out, HB1.out⟩ : _ ∧ _)⟩
  case round =>
    obtain ⟨i, v, hi, rfl, rfl, I⟩ := hrel
    by_cases hlt : i < len
    · obtain ⟨b, off, y, ya, yc, rfl, hy, ht, q0, q1, q2, q3⟩ := lrow_at (HZ.out.later I.out.2) (i := i) (by have := HL.out; omega)
      have hn1 := HN.out y (List.mem_of_getElem? hy)
      obtain ⟨b2, off2, s, rfl, hs, _, c0, _⟩ := zrow_at q1 (k := 0) (by omega)
      rw [Nat.zero_mul, Nat.add_zero] at c0
      have hkey : hk y = s.key := by
        cases y with
        | nil => simp at hs
        | cons s' y => simp at hs; rw [hs]; rfl
      have hi1 : (i : Int) < (len : Int) := by omega
      have HO : Hid (wr.ownsRow w.heap.size 9 1 v i (((ls.take i).map hk).map Value.string)) := I.out.1
      have HB : Hid (Below w.heap.size w wr) := I.out.2
      have HT : Hid ((ls.take (i + 1)).map hk = (ls.take i).map hk ++ [s.key]) := by show _ = _; rw [ht]; simp [hkey]
      have HQ : Hid (i + 1 ≤ maxLen ∧ (i + 1) * 16 ≤ 140737488355328) := ⟨by unfold maxLen; omega, by omega⟩
      have hbw : b < wr.heap.size := World.block_lt_of_cell? wr _ q0
      have hbw2 : b2 < wr.heap.size := World.block_lt_of_cell? wr _ c0
      obtain ⟨X, hX⟩ : ∃ X, X = y.length := ⟨_, rfl⟩
      rw [← hX] at q0 q2 hn1
      obtain ⟨kk, hkk⟩ : ∃ kk, kk = s.key := ⟨_, rfl⟩
      rw [← hkk] at c0 HT
      unfold maxLen at q3
      have hx0 : (0 : Int) < (X : Int) := by omega
      clear ht hy I hs hkey q1 hX hkk
      go_wp2_with (at_builtin; refine wpList_append_str rfl (.tmp 15) (.tmp 20) rfl w.heap.size v i _ rfl (owns_later HO.out (below_new wr _)) ⟨wr.heap.size, 0, none⟩ 1 kk rfl (new_cell wr _ _) HQ.out.1 HQ.out.2 (bafter HB.out (below_new wr _)).size ?_; intro v5 w5 ho5 hg5; have H5 : Hid (w5.ownsRow w.heap.size 9 1 v5 (i + 1) (((ls.take (i + 1)).map hk).map Value.string) ∧ Below w.heap.size w w5) := (⟨by rw [HT.out]; exact ho5, grown_own (bafter HB.out (below_new wr _)) hg5 (bafter HB.out (below_new wr _)).size (owns_later HO.out (below_new wr _))⟩ : _ ∧ _); clear ho5 hg5)
      go_roundg (len - (i + 1))
      case measure => omega
      case rel => exact ⟨i + 1, v5, by omega, rfl, by go_num, H5.out⟩
    · have hkl : i = len := by omega
      subst hkl
      have HF : Hid (wr.ownsRow w.heap.size 9 1 v (ls.map hk).length ((ls.map hk).map Value.string) ∧ Below w.heap.size w wr) := by
        have := I.out
        rw [HL.out, List.take_length] at this
        show _ ∧ _
        rw [List.length_map]
        exact this
      clear I
      go_wp2
      go_ret
      obtain ⟨fa, fc, e, r1, _, r2, r3⟩ := sown_row rfl HF.out.1
      exact ⟨fa, fc, by rw [e]; rfl, r1, r2, r3, HF.out.2⟩

/-- How many bytes the frames of a level's nodes have. -/
def tog : List (List St) → Nat
  | [] => 0
  | y :: ls => 9 + pkN y + tog ls
theorem tog_app (a b : List (List St)) : tog (a ++ b) = tog a + tog b := by
  induction a with
  | nil => simp [tog]
  | cons s a ih => simp only [List.cons_append, tog, ih]; omega
theorem tog_take_le (l : List (List St)) (k : Nat) : tog (l.take k) ≤ tog l := by
  conv => rhs; rw [← List.take_append_drop k l, tog_app]
  omega
theorem tog_eq (ls : List (List St)) : tog ls = 9 * ls.length + pkN ls.flatten := by
  induction ls with
  | nil => rfl
  | cons y ls ih => simp only [tog, List.length_cons, List.flatten_cons, pkN_app, ih]; omega
set_option maxHeartbeats 2000000 in
theorem together_any (a : Option Addr) (len cap : Nat) (ls : List (List St)) (w : World) (h : LArg w a len cap ls) (hk : ∀ y ∈ ls, ∀ s ∈ y, s.key.size ≤ maxLen) (ht : tog ls < 9223372036854775808) :
    Calls Try.prog 18 #[.slice a len cap] w fun e w' => e = .returned (.int .i64 (tog ls : Nat)) ∧ Below w.heap.size w w' := by
  have HZ : Hid (LRow w a ls) := h.row
  have HL : Hid (len = ls.length) := h.len_eq
  have HK : Hid (∀ y ∈ ls, ∀ s ∈ y, s.key.size ≤ maxLen) := hk
  have HP : Hid (tog ls < 9223372036854775808) := ht
  have hcm := h.max
  have hlc := h.le
  unfold maxLen at hcm
  clear h hk ht
  go_enter Try.func18, Try.ntmps18
  go_wp2
  go_loopg [3, 8] len (fun kx s3 s8 wr => ∃ (i : Nat), i + kx = len ∧ s8 = .int .i64 (i : Nat) ∧ s3 = .int .i64 (tog (ls.take i) : Nat) ∧ Hid (Below w.heap.size w wr))
  case atStart => exact ⟨0, by omega, rfl, rfl, Below.refl _ _⟩
  case round =>
    obtain ⟨i, hi, rfl, rfl, I⟩ := hrel
    by_cases hlt : i < len
    · obtain ⟨b, off, y, ya, yc, rfl, hy, hta, q0, q1, q2, q3⟩ := lrow_at (HZ.out.later I.out) (i := i) (by have := HL.out; omega)
      have hi1 : (i : Int) < (len : Int) := by omega
      have HS : Hid (tog (ls.take (i + 1)) = tog (ls.take i) + (9 + pkN y)) := by show _ = _; rw [hta, tog_app]; rfl
      have hle : tog (ls.take i) + (9 + pkN y) < 9223372036854775808 := by have := HS.out; have := tog_take_le ls (i + 1); have := HP.out; omega
      have kf : Calls Try.prog 25 #[.slice ya y.length yc] wr fun e w' => e = .returned (.int .i64 ((9 + pkN y : Nat) : Int)) ∧ Below wr.heap.size wr w' := framed_any ya y.length yc y wr ⟨rfl, q2, q3, HK.out y (List.mem_of_getElem? hy), q1⟩ (by omega)
      obtain ⟨P, hP⟩ : ∃ P, P = tog (ls.take i) := ⟨_, rfl⟩
      obtain ⟨Q, hQ⟩ : ∃ Q, Q = 9 + pkN y := ⟨_, rfl⟩
      rw [← hP, ← hQ] at hle HS
      rw [← hP]
      rw [← hQ] at kf
      obtain ⟨X, hX⟩ : ∃ X, X = y.length := ⟨_, rfl⟩
      rw [← hX] at q0 q2 kf
      unfold maxLen at q3
      clear hta hy hP hQ hX q1
      go_wp2_with (go_at_call 25; refine kf.mono ?_; rintro e w1 ⟨rfl, hb1⟩; have HB1 : Hid (Below w.heap.size w w1) := bafter I.out hb1; clear hb1)
      go_roundg (len - (i + 1))
      case measure => omega
      case rel => exact ⟨i + 1, by omega, by go_num, by rw [HS.out]; go_num, HB1.out⟩
    · have hkl : i = len := by omega
      subst hkl
      have HR2 : Hid (ls.take i = ls) := by show _ = _; rw [HL.out, List.take_length]
      go_wp2
      go_ret
      exact ⟨ret_int (by rw [HR2.out]), I.out⟩
end Go.Proofs.Ytfmgaahileknfaa
