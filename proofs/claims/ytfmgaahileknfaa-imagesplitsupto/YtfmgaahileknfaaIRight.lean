/-
  What within, follows, rightPlace, Right, packed, framed and Size of package image answer.
-/
import Derived.Test.YtfmgaahileknfaaIMem
namespace Go.Proofs.Ytfmgaahileknfaa
open Go.RowKit M
set_option maxRecDepth 10000

def inB (n a b : Int) : Bool := decide (a ≤ n ∧ n ≤ b)
theorem within_any (n a b : Int) (w : World) :
    Calls Try.prog 32 #[.int .i64 n, .int .i64 a, .int .i64 b] w fun e w' => e = .returned (.bool (inB n a b)) ∧ w = w' := by
  unfold inB
  by_cases h1 : a ≤ n
  · go_enter Try.func32, Try.ntmps32
    go_wp2
    go_ret
    exact ⟨by simp [h1], rfl⟩
  · go_enter Try.func32, Try.ntmps32
    go_wp2
    go_ret
    exact ⟨by simp; omega, rfl⟩

/-- Is it a key that stands behind another? -/
def fol (x k : K) : Bool := klt x k && decide (k.size ≤ 64)
theorem follows_any (x k : K) (hk : k.size ≤ maxLen) (w : World) :
    Calls Try.prog 24 #[.string x, .string k] w fun e w' => e = .returned (.bool (fol x k)) ∧ w = w' := by
  unfold maxLen at hk
  unfold fol
  rw [← kgt]
  cases h : Op.bytesLess k.toList x.toList
  · cases h2 : (k.toList == x.toList)
    · have h3 : ¬ k.toList = x.toList := by simpa using h2
      go_enter Try.func24, Try.ntmps24
      go_wp2
      go_ret
      exact ⟨by simp; omega, rfl⟩
    · have h3 : k.toList = x.toList := by simpa using h2
      go_enter Try.func24, Try.ntmps24
      go_wp2
      go_ret
      exact ⟨rfl, rfl⟩
  · go_enter Try.func24, Try.ntmps24
    go_wp2
    go_ret
    exact ⟨rfl, rfl⟩

/-- May a place be? -/
def St.at (s : St) : Bool := inB s.leb 0 255 && inB s.pos 0 16777215 && inB s.size 0 65535
theorem rightPlace_any (s : St) (w : World) :
    Calls Try.prog 33 #[.agg #[.int .i64 s.leb, .int .i64 s.pos, .int .i64 s.size]] w fun e w' => e = .returned (.bool s.at) ∧ Below w.heap.size w w' := by
  unfold St.at
  have h1 := fun W => within_any s.leb 0 255 W
  have h2 := fun W => within_any s.pos 0 16777215 W
  have h3 := fun W => within_any s.size 0 65535 W
  cases e1 : inB s.leb 0 255
  · rw [e1] at h1
    go_enter Try.func33, Try.ntmps33
    go_wp2_with (go_at_call 32; refine (h1 _).mono ?_; rintro e w1 ⟨rfl, rfl⟩)
    go_ret
    exact ⟨rfl, below_new _ _⟩
  cases e2 : inB s.pos 0 16777215
  all_goals
    rw [e1] at h1
    rw [e2] at h2
    have M1 : Hid True := trivial
    have M2 : Hid True := trivial
    go_enter Try.func33, Try.ntmps33
    go_wp2_with (first
      | (clear M1; go_at_call 32; refine (h1 _).mono ?_; rintro e w1 ⟨rfl, rfl⟩)
      | (clear M2; go_at_call 32; refine (h2 _).mono ?_; rintro e w1 ⟨rfl, rfl⟩)
      | (go_at_call 32; refine (h3 _).mono ?_; rintro e w1 ⟨rfl, rfl⟩))
    go_ret
    exact ⟨by simp, below_new _ _⟩

/-- Do these slots rise behind a key, with places that may be? -/
def rises : K → List St → Bool
  | _, [] => true
  | x, s :: l => fol x s.key && s.at && rises s.key l
/-- Is it an image? -/
def imgOk (level : Int) (l : List St) : Bool := inB level 0 15 && inB (l.length : Nat) 1 8 && rises ⟨#[]⟩ l

theorem zrow_at {w : World} {a : Option Addr} {l : List St} (h : ZRow w a l) {k : Nat} (hk : k < l.length) :
    ∃ b off y, a = some ⟨b, off, none⟩ ∧ l[k]? = some y ∧ l.drop k = y :: l.drop (k + 1) ∧ w.cell? ⟨b, off + k * 4, none⟩ = some (.string y.key) ∧ w.cell? ⟨b, off + k * 4 + 1, none⟩ = some (.int .i64 y.leb) ∧ w.cell? ⟨b, off + k * 4 + 2, none⟩ = some (.int .i64 y.pos) ∧ w.cell? ⟨b, off + k * 4 + 3, none⟩ = some (.int .i64 y.size) := by
  rcases h with rfl | ⟨b, off, ha, hc⟩
  · simp at hk
  · have hy : l[k]? = some (l[k]'hk) := List.getElem?_eq_getElem hk
    obtain ⟨q0, q1, q2, q3⟩ := hc k _ hy
    exact ⟨b, off, _, ha, hy, List.drop_eq_getElem_cons hk, q0, q1, q2, q3⟩

/-- A slice of slots that came in, or was made. -/
structure ZArg (w : World) (a : Option Addr) (len cap : Nat) (l : List St) : Prop where
  len_eq : len = l.length
  le : len ≤ cap
  max : cap ≤ maxLen
  keys : ∀ s ∈ l, s.key.size ≤ maxLen
  row : ZRow w a l
theorem ZArg.later {w w' : World} {a : Option Addr} {len cap : Nat} {l : List St} (h : ZArg w a len cap l) (hb : Below w.heap.size w w') : ZArg w' a len cap l :=
  ⟨h.len_eq, h.le, h.max, h.keys, h.row.later hb⟩

set_option maxHeartbeats 4000000 in
theorem right_in (level : Int) (a : Option Addr) (len cap : Nat) (l : List St) (w : World) (h : ZArg w a len cap l) (h1 : inB level 0 15 = true) (h2 : inB (len : Nat) 1 8 = true) :
    Calls Try.prog 27 #[.agg #[.int .i64 level, .slice a len cap]] w fun e w' => e = .returned (.bool (rises ⟨#[]⟩ l)) ∧ Below w.heap.size w w' := by
  have hln := h.len_eq
  have HZ : Hid (ZRow w a l) := h.row
  have HK : Hid (∀ s ∈ l, s.key.size ≤ maxLen) := h.keys
  have hcm := h.max
  have hlc := h.le
  unfold maxLen at hcm
  obtain ⟨R, hR⟩ : ∃ R, R = rises ⟨#[]⟩ l := ⟨_, rfl⟩
  have HR : Hid (R = rises ⟨#[]⟩ l) := hR
  rw [← hR]
  have HL : Hid (len = l.length) := hln
  clear h hln hR
  have M1 : Hid True := trivial
  have k1 := fun W => within_any level 0 15 W
  have k2 := fun W => within_any (len : Nat) 1 8 W
  rw [h1] at k1
  rw [h2] at k2
  clear h1 h2
  go_enter Try.func27, Try.ntmps27
  go_wp2_with (first
    | (clear M1; go_at_call 32; refine (k1 _).mono ?_; rintro e w1 ⟨rfl, rfl⟩)
    | (go_at_call 32; refine (k2 _).mono ?_; rintro e w1 ⟨rfl, rfl⟩))
  clear k1 k2
  go_loopg [3, 20] len (fun kx s3 s20 wr => ∃ (k : Nat) (x : K), k + kx = len ∧ s20 = .int .i64 (k : Nat) ∧ s3 = .string x ∧ Hid (Below w.heap.size w wr ∧ rises x (l.drop k) = R))
  case atStart => exact ⟨0, ⟨#[]⟩, by omega, rfl, rfl, (⟨below_new _ _, by rw [List.drop_zero]; exact HR.out.symm⟩ : Below w.heap.size w _ ∧ _)⟩
  case round =>
    obtain ⟨k, x, hk, rfl, rfl, I⟩ := hrel
    by_cases hlt : k < len
    · obtain ⟨b, off, y, rfl, hy, hd, q0, q1, q2, q3⟩ := zrow_at (HZ.out.later I.out.1) (k := k) (by have := HL.out; omega)
      have hi1 : (k : Int) < (len : Int) := by omega
      have hbw : b < wr.heap.size := World.block_lt_of_cell? wr _ q0
      have HB : Hid (Below w.heap.size w wr) := I.out.1
      have HS : Hid ((fol x y.key && y.at && rises y.key (l.drop (k + 1))) = R) := by have := I.out.2; rw [hd] at this; exact this
      have kf := fun W => follows_any x y.key (HK.out y (List.mem_of_getElem? hy)) W
      have kp := fun W => rightPlace_any y W
      clear hd hy I
      cases hf : fol x y.key with
      | false =>
        rw [hf] at kf
        have HF : Hid (R = false) := by have := HS.out; rw [hf] at this; exact this.symm
        go_wp2_with (go_at_call 24; refine (kf _).mono ?_; rintro e w1 ⟨rfl, rfl⟩)
        go_ret
        exact ⟨by rw [HF.out]; rfl, bafter HB.out (below_new _ _)⟩
      | true =>
        rw [hf] at kf
        cases ha : y.at with
        | false =>
          rw [ha] at kp
          have HF : Hid (R = false) := by have := HS.out; rw [hf, ha] at this; exact this.symm
          go_wp2_with (first
            | (go_at_call 24; refine (kf _).mono ?_; rintro e w1 ⟨rfl, rfl⟩)
            | (go_at_call 33; refine (kp _).mono ?_; rintro e w1 ⟨rfl, hb1⟩))
          go_ret
          exact ⟨by rw [HF.out]; rfl, bafter (bafter HB.out (below_new _ _)) hb1⟩
        | true =>
          rw [ha] at kp
          have HF : Hid (rises y.key (l.drop (k + 1)) = R) := by have := HS.out; rw [hf, ha] at this; exact this
          go_wp2_with (first
            | (go_at_call 24; refine (kf _).mono ?_; rintro e w1 ⟨rfl, rfl⟩)
            | (go_at_call 33; refine (kp _).mono ?_; rintro e w1 ⟨rfl, hb1⟩; obtain ⟨x0⟩ : Nonempty (w1.cell? ⟨wr.heap.size, 0, none⟩ = some (.string y.key)) := ⟨((Row.new wr (stv y) 41).later hb1).cell (i := 0) rfl⟩; have HB1 : Hid (Below w.heap.size w w1) := bafter (bafter HB.out (below_new _ _)) hb1; clear hb1))
          go_roundg (len - (k + 1))
          case measure => omega
          case rel => exact ⟨k + 1, y.key, by omega, by go_num, rfl, (⟨HB1.out, HF.out⟩ : Below w.heap.size w w1 ∧ _)⟩
    · have hkl : k = len := by omega
      subst hkl
      have hR2 := I.out.2
      rw [HL.out, List.drop_eq_nil_of_le (Nat.le_refl _), rises] at hR2
      have HR2 : Hid (true = R) := hR2
      have HB : Hid (Below w.heap.size w wr) := I.out.1
      clear hR2 I
      go_wp2
      go_ret
      exact ⟨by rw [← HR2.out]; rfl, HB.out⟩

theorem imgOk_of (level : Int) (l : List St) : imgOk level l = (inB level 0 15 && inB (l.length : Nat) 1 8 && rises ⟨#[]⟩ l) := rfl
set_option maxHeartbeats 1000000 in
theorem right_any (level : Int) (a : Option Addr) (len cap : Nat) (l : List St) (w : World) (h : ZArg w a len cap l) :
    Calls Try.prog 27 #[.agg #[.int .i64 level, .slice a len cap]] w fun e w' => e = .returned (.bool (imgOk level l)) ∧ Below w.heap.size w w' := by
  rw [imgOk_of, ← h.len_eq]
  cases h1 : inB level 0 15 with
  | false =>
    have k1 := fun W => within_any level 0 15 W
    rw [h1] at k1
    clear h
    go_enter Try.func27, Try.ntmps27
    go_wp2_with (go_at_call 32; refine (k1 _).mono ?_; rintro e w1 ⟨rfl, rfl⟩)
    go_ret
    exact ⟨rfl, below_new _ _⟩
  | true =>
    cases h2 : inB (len : Nat) 1 8 with
    | false =>
      have k1 := fun W => within_any level 0 15 W
      rw [h1] at k1
      have k2 := fun W => within_any (len : Nat) 1 8 W
      rw [h2] at k2
      have hcm := h.max
      have hlc := h.le
      unfold maxLen at hcm
      clear h
      have M1 : Hid True := trivial
      go_enter Try.func27, Try.ntmps27
      go_wp2_with (first
        | (clear M1; go_at_call 32; refine (k1 _).mono ?_; rintro e w1 ⟨rfl, rfl⟩)
        | (go_at_call 32; refine (k2 _).mono ?_; rintro e w1 ⟨rfl, rfl⟩))
      go_ret
      exact ⟨rfl, below_new _ _⟩
    | true =>
      simpa using right_in level a len cap l w h h1 h2

/-- How many bytes slots have as bytes. -/
def bare1 (s : St) : Nat := 8 + s.key.size
def pkN : List St → Nat
  | [] => 0
  | s :: l => bare1 s + pkN l
theorem pkN_app (a b : List St) : pkN (a ++ b) = pkN a + pkN b := by
  induction a with
  | nil => simp [pkN]
  | cons s a ih => simp only [List.cons_append, pkN, ih]; omega
theorem pkN_take_succ {l : List St} {k : Nat} {y : St} (h : l[k]? = some y) : pkN (l.take (k + 1)) = pkN (l.take k) + (8 + y.key.size) := by
  obtain ⟨hk, he⟩ := List.getElem?_eq_some_iff.1 h
  rw [List.take_succ_eq_append_getElem hk, pkN_app, he]
  rfl
theorem pkN_take_le (l : List St) (k : Nat) : pkN (l.take k) ≤ pkN l := by
  conv => rhs; rw [← List.take_append_drop k l, pkN_app]
  omega
set_option maxHeartbeats 2000000 in
theorem packed_any (a : Option Addr) (len cap : Nat) (l : List St) (w : World) (h : ZArg w a len cap l) (hp : 3 + pkN l < 9223372036854775808) :
    Calls Try.prog 28 #[.slice a len cap] w fun e w' => e = .returned (.int .i64 ((3 + pkN l : Nat) : Int)) ∧ Below w.heap.size w w' := by
  have hln := h.len_eq
  have HZ : Hid (ZRow w a l) := h.row
  have hcm := h.max
  have hlc := h.le
  unfold maxLen at hcm
  have HL : Hid (len = l.length) := hln
  have HP : Hid (3 + pkN l < 9223372036854775808) := hp
  clear h hln hp
  go_enter Try.func28, Try.ntmps28
  go_wp2
  go_loopg [3, 8] len (fun kx s3 s8 wr => ∃ (k : Nat), k + kx = len ∧ s8 = .int .i64 (k : Nat) ∧ s3 = .int .i64 ((3 + pkN (l.take k) : Nat) : Int) ∧ Hid (Below w.heap.size w wr))
  case atStart => exact ⟨0, by omega, rfl, rfl, Below.refl _ _⟩
  case round =>
    obtain ⟨k, hk, rfl, rfl, I⟩ := hrel
    by_cases hlt : k < len
    · obtain ⟨b, off, y, rfl, hy, hd, q0, q1, q2, q3⟩ := zrow_at (HZ.out.later I.out) (k := k) (by have := HL.out; omega)
      have hi1 : (k : Int) < (len : Int) := by omega
      have hbw : b < wr.heap.size := World.block_lt_of_cell? wr _ q0
      have HS : Hid (pkN (l.take (k + 1)) = pkN (l.take k) + (8 + y.key.size)) := pkN_take_succ hy
      have hle : 3 + (pkN (l.take k) + (8 + y.key.size)) < 9223372036854775808 := by have := HS.out; have := pkN_take_le l (k + 1); have := HP.out; omega
      obtain ⟨P, hP⟩ : ∃ P, P = pkN (l.take k) := ⟨_, rfl⟩
      rw [← hP] at hle HS ⊢
      clear hd hy hP
      go_wp2
      go_roundg (len - (k + 1))
      case measure => omega
      case rel => exact ⟨k + 1, by omega, by go_num, by rw [HS.out]; go_num, bafter I.out (below_new _ _)⟩
    · have hkl : k = len := by omega
      subst hkl
      have HR2 : Hid (l.take k = l) := by show _ = _; rw [HL.out, List.take_length]
      go_wp2
      go_ret
      exact ⟨ret_int (by rw [HR2.out]), I.out⟩
theorem framed_any (a : Option Addr) (len cap : Nat) (l : List St) (w : World) (h : ZArg w a len cap l) (hp : 9 + pkN l < 9223372036854775808) :
    Calls Try.prog 25 #[.slice a len cap] w fun e w' => e = .returned (.int .i64 ((9 + pkN l : Nat) : Int)) ∧ Below w.heap.size w w' := by
  have k1 := packed_any a len cap l w h (by omega)
  obtain ⟨P, hP⟩ : ∃ P, P = pkN l := ⟨_, rfl⟩
  rw [← hP] at k1 hp ⊢
  clear hP h
  go_enter Try.func25, Try.ntmps25
  go_wp2_with (go_at_call 28; refine k1.mono ?_; rintro e w1 ⟨rfl, hb⟩)
  go_ret
  exact ⟨ret_int (by omega), hb⟩
end Go.Proofs.Ytfmgaahileknfaa
