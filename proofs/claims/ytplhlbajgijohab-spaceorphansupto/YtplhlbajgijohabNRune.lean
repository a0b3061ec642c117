/-
  What the library's IndexRune answers at the text of a slash and a byte 0, at whatever rune of a text.
-/
import Derived.Test.YtplhlbajgijohabNDec
import Derived.Laws.RangeAny
import Derived.BigQuiet
import Derived.Laws.RangeString
import Derived.Laws.Runes
namespace Go.Proofs.Ytplhlbajgijohab
open Go.RowKit Go.Shelf M

/-- The iterator over a text goes on, wherever its block lies. -/
theorem next_any {P : Program} (W : World) (B : Nat) (s : ByteArray) (pos : Nat) (ty : TypeId) (hB : W.heap[B]? = some (.stringIter s pos)) (h : pos < s.size) :
    (Instr.next (.pointer (some ⟨B, 0, none⟩)) true ty).run P W = .ok (.tuple #[.bool true, .int .i64 pos, .int .i32 (Utf8.decode s pos).1]) (W.putObj B (.stringIter s (pos + (Utf8.decode s pos).2))) := by
  simp only [Instr.next, getObj, setObj, Sem.run_bind, Sem.run, hB, Result.andThen, h, if_true]
  simp [goInt, World.putObj]
theorem next_end {P : Program} (W : World) (B : Nat) (s : ByteArray) (pos : Nat) (ty : TypeId) (hB : W.heap[B]? = some (.stringIter s pos)) (h : ¬ pos < s.size) :
    (Instr.next (.pointer (some ⟨B, 0, none⟩)) true ty).run P W = .ok (.tuple #[.bool false]) W := by
  simp [Instr.next, getObj, Sem.run, hB, h]

theorem validrune_any (r : Int) (w : World) : Calls Try.prog 48 #[.int .i32 r] w fun e w' => e = .returned (.bool (validRune r)) ∧ w' = w := by
  have hv : ∀ b : Bool, (b = true ↔ ((0 ≤ r ∧ r < 55296) ∨ (57343 < r ∧ r ≤ 1114111))) → b = validRune r := by
    intro b hb; unfold validRune; cases b with
    | true => exact (decide_eq_true (hb.1 rfl)).symm
    | false => exact (decide_eq_false (fun h => by have := hb.2 h; cases this)).symm
  by_cases h1 : 0 ≤ r
  · by_cases h2 : r < 55296
    · rw [← hv true (by constructor <;> intro <;> first | rfl | (left; omega))]
      clear hv
      go_enter Try.func48, Try.ntmps48
      go_wp2
      go_ret
      exact ⟨rfl, rfl⟩
    · by_cases h3 : 57343 < r
      · by_cases h4 : r ≤ 1114111
        · rw [← hv true (by constructor <;> intro <;> first | rfl | (right; omega))]
          clear hv
          go_enter Try.func48, Try.ntmps48
          go_wp2
          go_ret
          exact ⟨rfl, rfl⟩
        · rw [← hv false (by constructor <;> intro h <;> first | (cases h; done) | omega)]
          clear hv
          go_enter Try.func48, Try.ntmps48
          go_wp2
          go_ret
          exact ⟨rfl, rfl⟩
      · rw [← hv false (by constructor <;> intro h <;> first | (cases h; done) | omega)]
        clear hv
        go_enter Try.func48, Try.ntmps48
        go_wp2
        go_ret
        exact ⟨rfl, rfl⟩
  · rw [← hv false (by constructor <;> intro h <;> first | (cases h; done) | omega)]
    clear hv
    have h3 : ¬ 57343 < r := by omega
    go_enter Try.func48, Try.ntmps48
    go_wp2
    go_ret
    exact ⟨rfl, rfl⟩

set_option maxRecDepth 100000 in
set_option maxHeartbeats 1000000 in
theorem rune_err (w : World) : Calls Try.prog 43 #[.string ⟨#[47, 0]⟩, .int .i32 65533] w fun e w' => e = .returned (.int .i64 (-1)) ∧ Below w.heap.size w w' := by
  have n0 := fun (w : World) ty => run_next_any (P := Try.prog) w ⟨#[47, 0]⟩ 0 ty (by decide)
  have n1 := fun (w : World) ty => run_next_any (P := Try.prog) w ⟨#[47, 0]⟩ 1 ty (by decide)
  have n2 := fun (w : World) ty => run_next_end (P := Try.prog) w ⟨#[47, 0]⟩ 2 ty (by decide)
  rw [show Utf8.decode ⟨#[47, 0]⟩ 0 = (47, 1) by decide] at n0
  rw [show Utf8.decode ⟨#[47, 0]⟩ 1 = (0, 1) by decide] at n1
  simp only [Nat.zero_add, Nat.reduceAdd] at n0 n1
  go_enter Try.func43, Try.ntmps43
  go_wp2
  go_loopw [5, 6] (fun _ _ wr => ∃ k : Nat, k ≤ 2 ∧ wr = w.iter ⟨#[47, 0]⟩ k) (fun _ _ wr => 2 - wr.iterPos w.heap.size)
  case atStart => exact ⟨0, by omega, rfl⟩
  case round =>
    obtain ⟨k, hk, rfl⟩ := hrel
    rcases k with _ | _ | k
    · have m0 := n0 w
      go_wp2
      go_roundw
      case rel => exact ⟨1, by omega, rfl⟩
      case measure => simp
    · have m1 := n1 w
      go_wp2
      go_roundw
      case rel => exact ⟨2, by omega, rfl⟩
      case measure => simp
    · obtain rfl : k = 0 := by omega
      have m2 := n2 w
      go_wp2
      go_ret
      exact ⟨rfl, below_new _ _⟩

theorem last_high (r : Int) (hv : Utf8.valid r = true) (h : 128 ≤ r) : ∃ (n : Nat) (x : UInt8), (Utf8.encode r).size = n + 1 ∧ 1 ≤ n ∧ n ≤ 3 ∧ 128 ≤ x.toNat ∧ ∀ h : n < (Utf8.encode r).size, (Utf8.encode r)[n]'h = x := by
  obtain ⟨h1, h2, h3⟩ := encode_facts r hv h
  refine ⟨(Utf8.encode r).size - 1, (Utf8.encode r)[(Utf8.encode r).size - 1]'(by omega), by omega, by omega, by omega, h3 _, fun _ => rfl⟩

set_option maxRecDepth 100000 in
set_option maxHeartbeats 2000000 in
theorem rune_high (r : Int) (h : 128 ≤ r) (hne : r ≠ 65533) (w : World) : Calls Try.prog 43 #[.string ⟨#[47, 0]⟩, .int .i32 r] w fun e w' => e = .returned (.int .i64 (-1)) ∧ Below w.heap.size w w' := by
  have e1 : ¬ r < 128 := by omega
  have e0 : 0 ≤ r := by omega
  have e2 : (r == 65533) = false := by simpa using hne
  have hvr := fun w => validrune_any r w
  cases hv : validRune r with
  | false =>
    rw [hv] at hvr
    go_enter Try.func43, Try.ntmps43
    go_wp2_with (go_at_call 48; refine (hvr _).mono ?_; rintro e w' ⟨rfl, hw⟩; rw [hw])
    go_ret
    exact ⟨rfl, Below.refl _ _⟩
  | true =>
    rw [hv] at hvr
    obtain ⟨n, x, hsz, hn1, hn3, hx, hget⟩ := last_high r (by rw [validRune_eq]; exact hv) h
    obtain ⟨E, hE⟩ : ∃ E, E = Utf8.encode r := ⟨_, rfl⟩
    rw [← hE] at hsz
    have hcv : ∀ w : World, (convert 21 9 (.int .i32 r)).run Try.prog w = .ok (.string E) w := by
      intro w; rw [hE]; exact run_convert_int_string w _ _ _ _ (by kernel_rfl) Try.underlying9
    have hget' : ∀ h : n < E.size, E[n]'h = x := by rw [hE]; exact hget
    clear hE hget hv
    by_cases h2 : n = 1
    · subst h2
      go_enter Try.func43, Try.ntmps43
      go_wp2_with (go_at_call 48; refine (hvr _).mono ?_; rintro e w' ⟨rfl, hw⟩; rw [hw])
      go_step3
      go_wp2
      go_loopw [9, 10] (fun i f wr => i = .int .i64 1 ∧ f = .int .i64 0 ∧ wr = w) (fun _ _ _ => 0)
      case atStart => exact ⟨rfl, rfl, rfl⟩
      case round =>
        obtain ⟨rfl, rfl, rfl⟩ := hrel
        have hsz1 : (1 : Nat) < E.size := by omega
        have hg1 := hget' hsz1
        have hib : ∀ W : World, Calls Try.prog 47 #[.string ByteArray.empty, .int .u8 (x.toNat : Int)] W fun e w' => e = .returned (.int .i64 (-1)) ∧ w' = W := fun W => Try.strings_IndexByte ByteArray.empty (x.toNat : Int) W
        have hk1 : ((⟨#[47, 0]⟩ : ByteArray)[1]'(by decide)).toNat = 0 := rfl
        have hxx : ¬ (0 : Int) = (x.toNat : Int) := by omega
        have hxx2 : ((0 : Int) != (x.toNat : Int)) = true := by simp; omega
        go_wp2
        go_step3
        go_wp2
        go_quiet (fail)
        go_wp2
        go_quiet (first | (go_at_call 47; exact (hib _).mono (fun _ _ h => ⟨h.1, _, h.2⟩)))
        go_wp2
        rw [Exit.noGoto_ret]
        go_wp2
        rw [Exit.noGoto_ret]
        go_wp2
        go_ret
        exact ⟨rfl, below_drawn _ _⟩
    · have h3 : 2 ≤ n := by omega
      go_enter Try.func43, Try.ntmps43
      go_wp2_with (go_at_call 48; refine (hvr _).mono ?_; rintro e w' ⟨rfl, hw⟩; rw [hw])
      go_step3
      go_wp2
      go_loopw [9, 10] (fun i f wr => i = .int .i64 n ∧ f = .int .i64 0 ∧ wr = w) (fun _ _ _ => 0)
      case atStart => exact ⟨rfl, rfl, rfl⟩
      case round =>
        obtain ⟨rfl, rfl, rfl⟩ := hrel
        have hlt : ¬ (n : Int) < 2 := by omega
        go_wp2
        go_ret
        exact ⟨rfl, Below.refl _ _⟩

/-- A rune that is neither the slash nor 0. -/
theorem rune_miss (r : Int) (h0 : 0 ≤ r) (h1 : r ≠ 47) (h2 : r ≠ 0) (w : World) : Calls Try.prog 43 #[.string ⟨#[47, 0]⟩, .int .i32 r] w fun e w' => e = .returned (.int .i64 (-1)) ∧ Below w.heap.size w w' := by
  by_cases h : r < 128
  · refine (Try.strings_IndexRune_ascii ⟨#[47, 0]⟩ r w h0 h).mono ?_
    rintro e w' ⟨rfl, rfl⟩
    refine ⟨?_, Below.refl _ _⟩
    have hn : r.toNat.toUInt8.toNat = r.toNat := by simp; omega
    have e1 : ((47 : UInt8) == r.toNat.toUInt8) = false := by
      rw [beq_eq_false_iff_ne]; intro e; have := congrArg UInt8.toNat e; rw [hn] at this; simp at this; omega
    have e2 : ((0 : UInt8) == r.toNat.toUInt8) = false := by
      rw [beq_eq_false_iff_ne]; intro e; have := congrArg UInt8.toNat e; rw [hn] at this; simp at this; omega
    show Ending.returned (.int .i64 (Lib.indexByte [47, 0] r.toNat.toUInt8)) = _
    simp [Lib.indexByte, e1, e2]
  · by_cases h3 : r = 65533
    · subst h3; exact rune_err w
    · exact rune_high r (by omega) h3 w
theorem rune_hit (r : Int) (h : r = 47 ∨ r = 0) (w : World) : Calls Try.prog 43 #[.string ⟨#[47, 0]⟩, .int .i32 r] w fun e w' => (∃ k : Int, 0 ≤ k ∧ e = .returned (.int .i64 k)) ∧ Below w.heap.size w w' := by
  rcases h with rfl | rfl
  · refine (Try.strings_IndexRune_ascii ⟨#[47, 0]⟩ 47 w (by decide) (by decide)).mono ?_
    rintro e w' ⟨rfl, rfl⟩
    exact ⟨⟨0, by decide, rfl⟩, Below.refl _ _⟩
  · refine (Try.strings_IndexRune_ascii ⟨#[47, 0]⟩ 0 w (by decide) (by decide)).mono ?_
    rintro e w' ⟨rfl, rfl⟩
    exact ⟨⟨1, by decide, rfl⟩, Below.refl _ _⟩
end Go.Proofs.Ytplhlbajgijohab
