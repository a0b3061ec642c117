/-
  Name and Find, the program's.
-/
import Derived.Test.YtafihnnlblacnaaDoorETab
import Derived.WalkSmall
import Derived.Lib.LaidTab
namespace Go.Proofs.YtafihnnlblacnaaDoor
open Go.RowKit Go.Shelf

/-- The library's table of powers of ten. -/
def Pows (w : World) : Prop := Lib.TabIs Tryd.prog w "internal/strconv.uint64pow10" .u64 Lib.pow10Tab
theorem pows_named : Tryd.prog.globalNamed "internal/strconv.uint64pow10" = some 1 := by kernel_rfl
theorem Pows.lt {w : World} (h : Pows w) : 1 < w.heap.size :=
  World.block_lt_of_cell? w _ (Lib.TabIs.cell h pows_named 0 (by rw [Lib.pow10Tab_length]; omega))
theorem Pows.later {w w' : World} (h : Pows w) (hb : Below w.heap.size w w') : Pows w' := var?_below hb pows_named h.lt h
theorem itoa_any (n : Int) (h0 : -9223372036854775808 ≤ n) (h1 : n ≤ 9223372036854775807) (w : World) (hp : Pows w) :
    Calls Tryd.prog 29 #[.int .i64 n] w fun e w' => e = .returned (.string ⟨(Lib.itoa n).toArray⟩) ∧ Hid (Below w.heap.size w w') := by
  refine (Tryd.strconv_Itoa n h0 h1 w hp).mono ?_
  rintro e w' ⟨rfl, k, os, rfl⟩
  refine ⟨rfl, rfl, rfl, rfl, by simp [Sort.grow], fun i hi => ?_⟩
  show (w.heap ++ os)[i]? = _
  rw [Array.getElem?_append_left hi]

theorem digits_len : ∀ (k u : Nat), 1 ≤ k → u < 10 ^ k → (Lib.decDigits u).length ≤ k := by
  intro k
  induction k with
  | zero => intro u h; omega
  | succ k ih =>
    intro u _ hu
    rw [Lib.decDigits]
    split
    · simp
    · rename_i h
      have hk : 1 ≤ k := by
        rcases k with _ | k
        · simp at hu; omega
        · omega
      have := ih (u / 10) hk (by rw [Nat.pow_succ] at hu; omega)
      simp; omega
theorem itoa_size {n : Int} (h0 : -9223372036854775808 ≤ n) (h1 : n ≤ 9223372036854775807) : ByteArray.size ⟨(Lib.itoa n).toArray⟩ ≤ 21 := by
  show (Lib.itoa n).toArray.size ≤ 21
  rw [List.size_toArray]
  unfold Lib.itoa
  split
  · have := digits_len 20 n.natAbs (by omega) (by omega)
    simp; omega
  · have := digits_len 20 n.toNat (by omega) (by omega)
    omega

/-- The name of an errno. -/
def nameOf (e : Int) : ByteArray := match tab.find? (fun r => r.1 == e) with
  | some r => r.2
  | none => ⟨#[69]⟩ ++ ⟨(Lib.itoa e).toArray⟩
/-- Of the first k rows none is of e. -/
def NoneTo (e : Int) (k : Nat) : Prop := ∀ j r, j < k → tab[j]? = some r → r.1 ≠ e
theorem NoneTo.next {e : Int} {k : Nat} {n : Int} {s : ByteArray} (h : NoneTo e k) (hk : tab[k]? = some (n, s)) (hn : n ≠ e) : NoneTo e (k + 1) := by
  intro j r hj hr
  rcases Nat.lt_or_ge j k with h1 | h1
  · exact h j r h1 hr
  · have : j = k := by omega
    subst this
    rw [hk] at hr
    cases hr
    exact hn
theorem find_at {α : Type} (p : α → Bool) : ∀ (l : List α) (k : Nat) (r : α), l[k]? = some r → p r = true → (∀ j x, j < k → l[j]? = some x → p x = false) → l.find? p = some r := by
  intro l
  induction l with
  | nil => intro k r h; simp at h
  | cons x l ih =>
    intro k r h hp hb
    cases k with
    | zero => simp at h; subst h; simp [hp]
    | succ k =>
      have hx : p x = false := hb 0 x (by omega) (by simp)
      rw [List.find?_cons, hx]
      exact ih k r (by simpa using h) hp (fun j y hj hy => hb (j + 1) y (by omega) (by simpa using hy))
theorem find_none {α : Type} (p : α → Bool) (l : List α) (h : ∀ (j : Nat) (x : α), l[j]? = some x → p x = false) : l.find? p = none := by
  rw [List.find?_eq_none]
  intro x hx
  obtain ⟨j, hj, e⟩ := List.mem_iff_getElem.1 hx
  rw [h j x (by rw [List.getElem?_eq_getElem hj, e])]
  simp
theorem NoneTo.found {e : Int} {k : Nat} {s : ByteArray} (h : NoneTo e k) (hk : tab[k]? = some (e, s)) : nameOf e = s := by
  unfold nameOf
  rw [find_at _ tab k (e, s) hk (by simp) (fun j x hj hx => by simpa using h j x hj hx)]
theorem NoneTo.missed {e : Int} (h : NoneTo e 23) : nameOf e = ⟨#[69]⟩ ++ ⟨(Lib.itoa e).toArray⟩ := by
  unfold nameOf
  rw [find_none _ tab (fun j x hx => by
    have hj : j < 23 := by have := (List.getElem?_eq_some_iff.1 hx).1; rw [tab_length] at this; exact this
    simpa using h j x hj hx)]

set_option maxHeartbeats 2000000 in
theorem name_any (e : Int) (h0 : -9223372036854775808 ≤ e) (h1 : e ≤ 9223372036854775807) (w : World) (hp : Pows w) :
    Calls Tryd.prog 13 #[.int .i64 e] w fun ev w' => ev = .returned (.string (nameOf e)) ∧ Below w.heap.size w w' := by
  have HP : Hid (Pows w) := hp
  clear hp
  go_enter Tryd.func13, Tryd.ntmps13
  go_wp2_with (go_at_call 27; refine (known_any _).mono ?_; rintro ev w1 ⟨rfl, HT, HB⟩)
  go_loopg [7] 23 (fun gm i wr => ∃ k : Nat, k ≤ 23 ∧ gm = 23 - k ∧ i = .int .i64 k ∧ Hid (Tab wr w.heap.size 57) ∧ Hid (Below w.heap.size w wr) ∧ Hid (NoneTo e k))
  case atStart => exact ⟨0, by omega, rfl, rfl, HT, HB, fun j r hj => by omega⟩
  case round =>
    obtain ⟨k, hk, hg, rfl, HT', HB', HN⟩ := hrel
    clear HT HB
    have hsz := HB'.out.size
    by_cases hlt : k < 23
    · obtain ⟨n, s, hr, c0, c1⟩ := HT'.out.at k hlt
      have HR : Hid (tab[k]? = some (n, s)) := hr
      have hI : (k : Int) < 23 := by omega
      have hN := HT'.out.lt
      clear hr
      by_cases hne : n = e
      · have hb : (n == e) = true := by simpa using hne
        have HE : Hid (n = e) := hne
        clear hne
        go_wp2
        go_ret
        have hr := HR.out
        rw [HE.out] at hr
        exact ⟨congrArg (fun x => Ending.returned (.string x)) (HN.out.found hr).symm, HB'.out.alloc hsz _⟩
      · have hb : (n == e) = false := by simpa using hne
        have HE : Hid (n ≠ e) := hne
        clear hne
        go_wp2
        go_roundg (23 - (k + 1))
        case measure => omega
        case rel => exact ⟨k + 1, by omega, rfl, by go_num, HT'.out.alloc _, HB'.out.alloc hsz _, HN.out.next HR.out HE.out⟩
    · have hI : ¬ (k : Int) < 23 := by omega
      have HN23 : Hid (NoneTo e 23) := by have e : k = 23 := by omega
                                          have := HN.out; rw [e] at this; exact this
      have HP' : Hid (Pows wr) := HP.out.later HB'.out
      go_wp2_with (go_at_call 29; refine (itoa_any e h0 h1 _ HP'.out).mono ?_; rintro ev w2 ⟨rfl, HB2⟩; have hlen : ByteArray.size ⟨(Lib.itoa e).toArray⟩ ≤ 21 := itoa_size h0 h1; generalize hS : (⟨(Lib.itoa e).toArray⟩ : ByteArray) = S at hlen ⊢; have HS : Hid (_ = S) := hS; clear hS)
      go_ret
      refine ⟨?_, Below.after HB'.out HB2.out⟩
      have hm := HN23.out.missed
      rw [HS.out] at hm
      rw [hm]
      rfl

/-- The errno of a name. -/
def findOf (s : ByteArray) : Option Int := (tab.find? (fun r => r.2.toList == s.toList)).map (·.1)
def NoneOf (x : ByteArray) (k : Nat) : Prop := ∀ j r, j < k → tab[j]? = some r → (r.2.toList == x.toList) = false
theorem NoneOf.next {x : ByteArray} {k : Nat} {n : Int} {s : ByteArray} (h : NoneOf x k) (hk : tab[k]? = some (n, s)) (hn : (s.toList == x.toList) = false) : NoneOf x (k + 1) := by
  intro j r hj hr
  rcases Nat.lt_or_ge j k with h1 | h1
  · exact h j r h1 hr
  · have : j = k := by omega
    subst this
    rw [hk] at hr
    cases hr
    exact hn
theorem NoneOf.found {x : ByteArray} {k : Nat} {n : Int} {s : ByteArray} (h : NoneOf x k) (hk : tab[k]? = some (n, s)) (hs : (s.toList == x.toList) = true) : findOf x = some n := by
  unfold findOf
  rw [find_at _ tab k (n, s) hk hs (fun j y hj hy => h j y hj hy)]
  rfl
theorem NoneOf.missed {x : ByteArray} (h : NoneOf x 23) : findOf x = none := by
  unfold findOf
  rw [find_none _ tab (fun j y hy => by
    have hj : j < 23 := by have := (List.getElem?_eq_some_iff.1 hy).1; rw [tab_length] at this; exact this
    exact h j y hj hy)]
  rfl
/-- What Find answers. -/
def finds (x : ByteArray) : Value := match findOf x with
  | some n => .tuple #[.int .i64 n, .bool true]
  | none => .tuple #[.int .i64 0, .bool false]

set_option maxHeartbeats 2000000 in
theorem find_any (x : ByteArray) (w : World) :
    Calls Tryd.prog 9 #[.string x] w fun ev w' => ev = .returned (finds x) ∧ Below w.heap.size w w' := by
  go_enter Tryd.func9, Tryd.ntmps9
  go_wp2_with (go_at_call 27; refine (known_any _).mono ?_; rintro ev w1 ⟨rfl, HT, HB⟩)
  go_loopg [8] 23 (fun gm i wr => ∃ k : Nat, k ≤ 23 ∧ gm = 23 - k ∧ i = .int .i64 k ∧ Hid (Tab wr w.heap.size 57) ∧ Hid (Below w.heap.size w wr) ∧ Hid (NoneOf x k))
  case atStart => exact ⟨0, by omega, rfl, rfl, HT, HB, fun j r hj => by omega⟩
  case round =>
    obtain ⟨k, hk, hg, rfl, HT', HB', HN⟩ := hrel
    clear HT HB
    have hsz := HB'.out.size
    by_cases hlt : k < 23
    · obtain ⟨n, s, hr, c0, c1⟩ := HT'.out.at k hlt
      have HR : Hid (tab[k]? = some (n, s)) := hr
      have hI : (k : Int) < 23 := by omega
      have hN := HT'.out.lt
      clear hr
      cases hb : (s.toList == x.toList) with
      | true =>
        have HE : Hid ((s.toList == x.toList) = true) := hb
        go_wp2
        go_ret2
        exact ⟨by rw [finds, HN.out.found HR.out HE.out]; rfl, HB'.out.alloc hsz _⟩
      | false =>
        have HE : Hid ((s.toList == x.toList) = false) := hb
        go_wp2
        go_roundg (23 - (k + 1))
        case measure => omega
        case rel => exact ⟨k + 1, by omega, rfl, by go_num, HT'.out.alloc _, HB'.out.alloc hsz _, HN.out.next HR.out HE.out⟩
    · have hI : ¬ (k : Int) < 23 := by omega
      have HN23 : Hid (NoneOf x 23) := by have e : k = 23 := by omega
                                          have := HN.out; rw [e] at this; exact this
      go_wp2
      go_ret2
      exact ⟨by rw [finds, HN23.out.missed]; rfl, HB'.out⟩
end Go.Proofs.YtafihnnlblacnaaDoor
