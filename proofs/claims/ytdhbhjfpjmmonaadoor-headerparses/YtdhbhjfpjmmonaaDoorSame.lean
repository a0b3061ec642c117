/-
  What Same answers: whether two lists of bytes are the same.
-/
import Derived.Test.YtdhbhjfpjmmonaaDoorMem
namespace Go.Proofs.YtdhbhjfpjmmonaaDoor
open Go.RowKit M

/-- The string of bytes. -/
def bstr (l : List Nat) : ByteArray := strOfNums (l.map fun x : Nat => (x : Int))
theorem bstr_inj {l m : List Nat} (hl : ∀ x ∈ l, x < 256) (hm : ∀ x ∈ m, x < 256) : (bstr l).data.toList = (bstr m).data.toList ↔ l = m := by
  constructor
  · intro h
    unfold bstr at h
    rw [strOfNums_data, strOfNums_data, List.map_map, List.map_map] at h
    have key : ∀ (a b : List Nat), (∀ x ∈ a, x < 256) → (∀ x ∈ b, x < 256) → a.map ((fun n : Int => UInt8.ofNat n.toNat) ∘ fun x : Nat => (x : Int)) = b.map ((fun n : Int => UInt8.ofNat n.toNat) ∘ fun x : Nat => (x : Int)) → a = b := by
      intro a
      induction a with
      | nil => intro b _ _ h; cases b with
        | nil => rfl
        | cons y b => simp at h
      | cons x a ih =>
        intro b ha hb h
        cases b with
        | nil => simp at h
        | cons y b =>
          simp only [List.map_cons, List.cons.injEq, Function.comp_apply, Int.toNat_natCast] at h
          have hx := ha x (by simp)
          have hy := hb y (by simp)
          have e : x = y := by
            have := congrArg UInt8.toNat h.1
            simpa [Nat.mod_eq_of_lt hx, Nat.mod_eq_of_lt hy] using this
          rw [e, ih b (fun z hz => ha z (by simp [hz])) (fun z hz => hb z (by simp [hz])) h.2]
    exact key l m hl hm h
  · rintro rfl; rfl

theorem bstr_eq {l m : List Nat} (hl : ∀ x ∈ l, x < 256) (hm : ∀ x ∈ m, x < 256) : ((bstr l).toList == (bstr m).toList) = decide (l = m) := by
  rw [Bool.eq_iff_iff, beq_iff_eq, decide_eq_true_iff, ByteArray.toList_eq, ByteArray.toList_eq]
  exact bstr_inj hl hm

theorem conv_row {w : World} {a : Option Addr} {l : List Nat} (cap : Nat) (hr : BRow w a l) :
    (convert 25 9 (.slice a l.length cap)).run Tryd.prog w = .ok (.string (bstr l)) w := by
  rcases hr with rfl | ⟨b, off, rfl, hc⟩
  · rw [run_convert_bytes_string w 25 9 5 a _ cap Tryd.underlying25 Tryd.underlying5 Tryd.underlying9]
    cases a with
    | none => simp [Conv.bytesToString, bstr, strOfNums]; rfl
    | some a => 
      rw [List.length_nil, run_bytesToString w a 0 cap [] (by simp [loadCells, loadCellsFrom])]
      rfl
  · refine run_convert_bytes_arg w 25 5 Tryd.underlying25 Tryd.underlying5 b off l.length cap (l.map fun x : Nat => (x : Int)) (by simp) (fun i hi => ?_) 9 Tryd.underlying9
    rw [hc i hi]
    simp [List.getD, hi]

set_option maxHeartbeats 400000 in
theorem same_any (a : Option Addr) (cap : Nat) (l : List Nat) (b : Option Addr) (cap2 : Nat) (m : List Nat) (w : World) (hl : ∀ x ∈ l, x < 256) (hm : ∀ x ∈ m, x < 256) (ha : BRow w a l) (hb : BRow w b m) :
    Calls Tryd.prog 11 #[.slice a l.length cap, .slice b m.length cap2] w fun e w' => e = .returned (.bool (decide (l = m))) ∧ w = w' := by
  have h1 := conv_row cap ha
  have h2 := conv_row cap2 hb
  have HI : Hid (((bstr l).toList == (bstr m).toList) = decide (l = m)) := bstr_eq hl hm
  clear ha hb hl hm
  go_enter Tryd.func11, Tryd.ntmps11
  go_wp2
  go_ret
  exact ⟨ret_bool HI.out, rfl⟩
end Go.Proofs.YtdhbhjfpjmmonaaDoor
