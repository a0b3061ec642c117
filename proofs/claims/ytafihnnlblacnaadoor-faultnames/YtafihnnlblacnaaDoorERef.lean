/-
  The document's Decimal, Name and Find.
-/
import Derived.Test.YtafihnnlblacnaaDoorENam
import Derived.Test.YtafihnnlblacnaaDoorETxt
namespace Go.Proofs.YtafihnnlblacnaaDoor
open Go.RowKit Go.Shelf

theorem digit_small {u : Nat} (h : u < 10) : Lib.decDigits u = [UInt8.ofNat (48 + u)] := by rw [Lib.decDigits, dif_pos h]
theorem digit_big {u : Nat} (h : ¬ u < 10) : Lib.decDigits u = Lib.decDigits (u / 10) ++ [UInt8.ofNat (48 + u % 10)] := by rw [Lib.decDigits, dif_neg h]
/-- One more digit. -/
def push (s : ByteArray) (x : Nat) : ByteArray := s ++ ⟨#[UInt8.ofNat x]⟩
theorem push_text (l : List UInt8) (x : Nat) : push ⟨l.toArray⟩ x = ⟨(l ++ [UInt8.ofNat x]).toArray⟩ := by
  unfold push
  apply ByteArray.ext
  rw [ByteArray.data_append]
  simp
/-- The numeral of n. -/
def num (n : Int) : ByteArray := ⟨(Lib.itoa n).toArray⟩
theorem num_small {n : Int} (h0 : 0 ≤ n) (h : n < 10) : num n = push ⟨#[]⟩ (48 + n.toNat) := by
  have := push_text [] (48 + n.toNat)
  rw [show (⟨#[]⟩ : ByteArray) = ⟨([] : List UInt8).toArray⟩ from rfl, this]
  unfold num Lib.itoa
  rw [if_neg (by omega), digit_small (by omega)]
  rfl
theorem num_big {n : Int} (h : 10 ≤ n) : num n = push (num (n / 10)) (48 + (n % 10).toNat) := by
  unfold num
  rw [push_text]
  unfold Lib.itoa
  rw [if_neg (by omega), if_neg (by omega), digit_big (by omega)]
  have e1 : (n / 10).toNat = n.toNat / 10 := by omega
  have e2 : (n % 10).toNat = n.toNat % 10 := by omega
  rw [e1, e2]
theorem num_neg_small {n : Int} (h0 : n < 0) (h : -10 < n) : num n = push ⟨#[45]⟩ (48 + (-n).toNat) := by
  have := push_text [45] (48 + (-n).toNat)
  rw [show (⟨#[45]⟩ : ByteArray) = ⟨([45] : List UInt8).toArray⟩ from rfl, this]
  unfold num Lib.itoa
  rw [if_pos h0, digit_small (by omega)]
  have e : n.natAbs = (-n).toNat := by omega
  rw [e]
  rfl
theorem num_neg_big {n : Int} (h : n ≤ -10) : num n = push (num (-((-n) / 10))) (48 + ((-n) % 10).toNat) := by
  unfold num
  rw [push_text]
  unfold Lib.itoa
  rw [if_pos (by omega), if_pos (by omega), digit_big (u := n.natAbs) (by omega)]
  have e1 : (-((-n) / 10)).natAbs = n.natAbs / 10 := by omega
  have e2 : ((-n) % 10).toNat = n.natAbs % 10 := by omega
  rw [e1, e2]
  rfl
theorem num_len {n : Int} (h0 : -9223372036854775808 ≤ n) (h1 : n ≤ 9223372036854775807) : (num n).size ≤ 21 := itoa_size h0 h1

theorem conv_dig (r : Int) (h0 : 0 ≤ r) (h1 : r < 10) (w : World) : (convert 77 9 (.slice (some ⟨w.heap.size, 0, none⟩) 1 1)).run Tryd.prog (w.alloc (.cells #[.int .u8 (48 + r)] 5)) = .ok (.string ⟨#[UInt8.ofNat (48 + r.toNat)]⟩) (w.alloc (.cells #[.int .u8 (48 + r)] 5)) := by
  have h := conv_one (48 + r.toNat) w
  have e : ((48 + r.toNat : Nat) : Int) = 48 + r := by omega
  rw [e] at h
  exact h
theorem one_size (x : UInt8) : (⟨#[x]⟩ : ByteArray).size = 1 := rfl
theorem num_ne (n : Int) : ((num n).toList == ([] : List UInt8)) = false := by
  rw [ByteArray.toList_eq, beq_eq_false_iff_ne]
  show (Lib.itoa n).toArray.toList ≠ []
  unfold Lib.itoa
  split
  · simp
  · intro h
    have h2 := Lib.decDigits_length n.toNat
    have h3 := Lib.nDigits_pos n.toNat
    simp at h
    rw [h] at h2
    simp at h2
    omega

set_option maxHeartbeats 2000000 in
theorem decimal_any : ∀ (k : Nat) (n : Int), n.natAbs ≤ k → -9223372036854775808 ≤ n → n ≤ 9223372036854775807 → ∀ w : World,
    Calls Tryd.prog 30 #[.int .i64 n] w fun ev w' => ev = .returned (.string (num n)) ∧ Hid (Below w.heap.size w w') := by
  intro k
  induction k using Nat.strongRecOn with
  | _ k ih =>
    intro n hk h0 h1 w
    obtain ⟨r, hr⟩ : ∃ r, n.tmod 10 = r := ⟨_, rfl⟩
    obtain ⟨q, hq⟩ : ∃ q, n.tdiv 10 = q := ⟨_, rfl⟩
    by_cases hneg : n < 0
    · have t1 : (-n).tmod 10 = -r := by rw [Int.neg_tmod, hr]
      have t2 : (-n).tdiv 10 = -q := by rw [Int.neg_tdiv, hq]
      have t3 := Int.tmod_eq_emod_of_nonneg (a := -n) (b := 10) (by omega)
      have t4 := Int.tdiv_eq_ediv_of_nonneg (a := -n) (b := 10) (by omega)
      rw [t1] at t3
      rw [t2] at t4
      by_cases hs : -10 < n
      · have hr0 : 0 ≤ -r := by omega
        have hr1 : -r < 10 := by omega
        have hq0 : q = 0 := by omega
        subst hq0
        have hE : num n = (⟨#[45]⟩ : ByteArray) ++ ⟨#[UInt8.ofNat (48 + (-r).toNat)]⟩ := by
          have e : -r = -n := by omega
          rw [num_neg_small hneg hs, e]; rfl
        have hc := conv_dig (-r) hr0 hr1
        have hl := one_size (UInt8.ofNat (48 + (-r).toNat))
        generalize (⟨#[UInt8.ofNat (48 + (-r).toNat)]⟩ : ByteArray) = D at hE hc hl
        have hl2 : D.size ≤ 1 := by omega
        have HE : Hid (num n = (⟨#[45]⟩ : ByteArray) ++ D) := hE
        have hr2 : -10 < r := by omega
        have hr3 : r ≤ 0 := by omega
        clear t1 t2 t3 t4 hs ih hE hl
        go_enter Tryd.func30, Tryd.ntmps30
        go_wp2
        go_ret
        exact ⟨by rw [HE.out]; rfl, below_new _ _⟩
      · have hr0 : 0 ≤ -r := by omega
        have hr1 : -r < 10 := by omega
        have hr2 : -10 < r := by omega
        have hr3 : r ≤ 0 := by omega
        have hqn : (q != 0) = true := by rw [bne_iff_ne]; omega
        have hqlo : -9223372036854775808 ≤ q := by omega
        have hqhi : q ≤ 9223372036854775807 := by omega
        have hqw : wrap64 q = q := by unfold wrap64; omega
        have hE : num n = num q ++ ⟨#[UInt8.ofNat (48 + (-r).toNat)]⟩ := by
          have e : -r = (-n) % 10 := by omega
          have e2 : q = -((-n) / 10) := by omega
          rw [num_neg_big (by omega), ← e, ← e2, push]
        have hc := conv_dig (-r) hr0 hr1
        have hl := one_size (UInt8.ofNat (48 + (-r).toNat))
        generalize (⟨#[UInt8.ofNat (48 + (-r).toNat)]⟩ : ByteArray) = D at hE hc hl
        have hl2 : D.size ≤ 1 := by omega
        have hI := ih (k - 1) (by omega) q (by omega) (by omega) (by omega)
        have hls := num_len (n := q) (by omega) (by omega)
        have hne := num_ne q
        generalize num q = R at hE hI hls hne
        have HE : Hid (num n = R ++ D) := hE
        clear t1 t2 t3 t4 hs ih hE hl
        go_enter Tryd.func30, Tryd.ntmps30
        go_wp2_with (go_at_call 30; refine (hI _).mono ?_; rintro e w1 ⟨rfl, HB⟩)
        go_ret
        exact ⟨by rw [HE.out]; rfl, Below.after HB.out (below_new _ _)⟩
    · have t1 := Int.tmod_eq_emod_of_nonneg (a := n) (b := 10) (by omega)
      have t2 := Int.tdiv_eq_ediv_of_nonneg (a := n) (b := 10) (by omega)
      rw [hr] at t1
      rw [hq] at t2
      by_cases hs : n < 10
      · have hr0 : 0 ≤ r := by omega
        have hr1 : r < 10 := by omega
        have hq0 : q = 0 := by omega
        subst hq0
        have hE : num n = (⟨#[]⟩ : ByteArray) ++ ⟨#[UInt8.ofNat (48 + r.toNat)]⟩ := by
          have e : r = n := by omega
          rw [num_small (by omega) hs, e]; rfl
        have hc := conv_dig r hr0 hr1
        have hl := one_size (UInt8.ofNat (48 + r.toNat))
        generalize (⟨#[UInt8.ofNat (48 + r.toNat)]⟩ : ByteArray) = D at hE hc hl
        have hl2 : D.size ≤ 1 := by omega
        have HE : Hid (num n = (⟨#[]⟩ : ByteArray) ++ D) := hE
        clear t1 t2 hs ih hE hl
        go_enter Tryd.func30, Tryd.ntmps30
        go_wp2
        go_ret
        exact ⟨by rw [HE.out]; rfl, below_new _ _⟩
      · have hr0 : 0 ≤ r := by omega
        have hr1 : r < 10 := by omega
        have hqn : (q != 0) = true := by rw [bne_iff_ne]; omega
        have hqlo : -9223372036854775808 ≤ q := by omega
        have hqhi : q ≤ 9223372036854775807 := by omega
        have hqw : wrap64 q = q := by unfold wrap64; omega
        have hE : num n = num q ++ ⟨#[UInt8.ofNat (48 + r.toNat)]⟩ := by
          have e : r = n % 10 := by omega
          have e2 : q = n / 10 := by omega
          rw [num_big (by omega), ← e, ← e2, push]
        have hc := conv_dig r hr0 hr1
        have hl := one_size (UInt8.ofNat (48 + r.toNat))
        generalize (⟨#[UInt8.ofNat (48 + r.toNat)]⟩ : ByteArray) = D at hE hc hl
        have hl2 : D.size ≤ 1 := by omega
        have hI := ih (k - 1) (by omega) q (by omega) (by omega) (by omega)
        have hls := num_len (n := q) (by omega) (by omega)
        generalize num q = R at hE hI hls
        have HE : Hid (num n = R ++ D) := hE
        clear t1 t2 hs ih hE hl
        go_enter Tryd.func30, Tryd.ntmps30
        go_wp2_with (go_at_call 30; refine (hI _).mono ?_; rintro e w1 ⟨rfl, HB⟩)
        go_ret
        exact ⟨by rw [HE.out]; rfl, Below.after HB.out (below_new _ _)⟩

theorem nameOf_num {e : Int} (h : NoneTo e 23) : nameOf e = ⟨#[69]⟩ ++ num e := h.missed
set_option maxHeartbeats 2000000 in
theorem rname_any (e : Int) (h0 : -9223372036854775808 ≤ e) (h1 : e ≤ 9223372036854775807) (w : World) :
    Calls Tryd.prog 14 #[.int .i64 e] w fun ev w' => ev = .returned (.string (nameOf e)) ∧ Below w.heap.size w w' := by
  have hD := decimal_any e.natAbs e (Nat.le_refl _) h0 h1
  have hls := num_len h0 h1
  have HN0 : Hid (NoneTo e 23 → nameOf e = ⟨#[69]⟩ ++ num e) := nameOf_num
  generalize num e = R at hD hls HN0
  go_enter Tryd.func14, Tryd.ntmps14
  go_wp2_with (go_at_call 28; refine (rows_any _).mono ?_; rintro ev w1 ⟨rfl, HT, HB⟩)
  go_loopg [4] 23 (fun gm i wr => ∃ k : Nat, k ≤ 23 ∧ gm = 23 - k ∧ i = .int .i64 k ∧ Hid (Tab wr w.heap.size 61) ∧ Hid (Below w.heap.size w wr) ∧ Hid (NoneTo e k))
  case atStart => exact ⟨0, by omega, rfl, rfl, HT, HB, fun j r hj => by omega⟩
  case round =>
    obtain ⟨k, hk, hg, rfl, HT', HB', HN⟩ := hrel
    clear HT HB
    have hsz := HB'.out.size
    by_cases hlt : k < 23
    · obtain ⟨n, s, hr, c0, c1⟩ := HT'.out.at k hlt
      have HR : Hid (tab[k]? = some (n, s)) := hr
      have hI : (k : Int) < 23 := by omega
      have hN := HT'.out.lt
      clear hr
      by_cases hne : n = e
      · have hb : (n == e) = true := by simpa using hne
        have HE : Hid (n = e) := hne
        clear hne
        go_wp2
        go_ret
        have hr := HR.out
        rw [HE.out] at hr
        exact ⟨congrArg (fun x => Ending.returned (.string x)) (HN.out.found hr).symm, HB'.out⟩
      · have hb : (n == e) = false := by simpa using hne
        have HE : Hid (n ≠ e) := hne
        clear hne
        go_wp2
        go_roundg (23 - (k + 1))
        case measure => omega
        case rel => exact ⟨k + 1, by omega, rfl, by go_num, HT', HB', HN.out.next HR.out HE.out⟩
    · have hI : ¬ (k : Int) < 23 := by omega
      have HN23 : Hid (NoneTo e 23) := by have e : k = 23 := by omega
                                          have := HN.out; rw [e] at this; exact this
      go_wp2_with (go_at_call 30; refine (hD _).mono ?_; rintro ev w2 ⟨rfl, HB2⟩)
      go_ret
      exact ⟨congrArg (fun x => Ending.returned (.string x)) (HN0.out HN23.out).symm, Below.after HB'.out HB2.out⟩
set_option maxHeartbeats 2000000 in
theorem rfind_any (x : ByteArray) (w : World) :
    Calls Tryd.prog 10 #[.string x] w fun ev w' => ev = .returned (finds x) ∧ Below w.heap.size w w' := by
  go_enter Tryd.func10, Tryd.ntmps10
  go_wp2_with (go_at_call 28; refine (rows_any _).mono ?_; rintro ev w1 ⟨rfl, HT, HB⟩)
  go_loopg [5] 23 (fun gm i wr => ∃ k : Nat, k ≤ 23 ∧ gm = 23 - k ∧ i = .int .i64 k ∧ Hid (Tab wr w.heap.size 61) ∧ Hid (Below w.heap.size w wr) ∧ Hid (NoneOf x k))
  case atStart => exact ⟨0, by omega, rfl, rfl, HT, HB, fun j r hj => by omega⟩
  case round =>
    obtain ⟨k, hk, hg, rfl, HT', HB', HN⟩ := hrel
    clear HT HB
    have hsz := HB'.out.size
    by_cases hlt : k < 23
    · obtain ⟨n, s, hr, c0, c1⟩ := HT'.out.at k hlt
      have HR : Hid (tab[k]? = some (n, s)) := hr
      have hI : (k : Int) < 23 := by omega
      have hN := HT'.out.lt
      clear hr
      cases hb : (s.toList == x.toList) with
      | true =>
        have HE : Hid ((s.toList == x.toList) = true) := hb
        go_wp2
        go_ret2
        exact ⟨by rw [finds, HN.out.found HR.out HE.out]; rfl, HB'.out⟩
      | false =>
        have HE : Hid ((s.toList == x.toList) = false) := hb
        go_wp2
        go_roundg (23 - (k + 1))
        case measure => omega
        case rel => exact ⟨k + 1, by omega, rfl, by go_num, HT', HB', HN.out.next HR.out HE.out⟩
    · have hI : ¬ (k : Int) < 23 := by omega
      have HN23 : Hid (NoneOf x 23) := by have e : k = 23 := by omega
                                          have := HN.out; rw [e] at this; exact this
      go_wp2
      go_ret2
      exact ⟨by rw [finds, HN23.out.missed]; rfl, HB'.out⟩
end Go.Proofs.YtafihnnlblacnaaDoor
