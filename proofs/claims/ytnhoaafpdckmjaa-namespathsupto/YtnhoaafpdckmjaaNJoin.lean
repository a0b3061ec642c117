/-
  What Join answers: a slash, and the parts with slashes between them.
-/
import Derived.Test.YtnhoaafpdckmjaaNSplit
import Derived.Lib.Join
namespace Go.Proofs.Ytnhoaafpdckmjaa
open Go.RowKit Go.Shelf M

theorem tail_slashed (r : List (List UInt8)) : Lib.joinTail [47] r = slashed r := by
  unfold Lib.joinTail slashed
  rw [List.flatMap_def]
  rfl
theorem joined_eq (ps : List (List UInt8)) : 47 :: Lib.join ps [47] = joined ps := by
  unfold joined
  cases ps with
  | nil => rfl
  | cons p r =>
    rw [Lib.join_cons, tail_slashed, if_neg (by simp)]
    simp [slashed]
theorem add_slash (l : List UInt8) : (⟨#[47]⟩ : ByteArray) ++ bs l = bs (47 :: l) := by
  apply ByteArray.ext
  simp [bs]

/-- The bytes of the texts. -/
def datas (l : List ByteArray) : List (List UInt8) := l.map (fun x => x.data.toList)
theorem datas_bs (ps : List (List UInt8)) : datas (ps.map bs) = ps := by
  unfold datas; rw [List.map_map]; exact (List.map_congr_left (fun x _ => bs_data x)).trans (List.map_id _)
theorem bs_datas (l : List ByteArray) : (datas l).map bs = l := by
  unfold datas; rw [List.map_map]; exact (List.map_congr_left (fun x _ => bs_of x)).trans (List.map_id _)

theorem libjoin_any (a : Option Addr) (n c : Nat) (l : List ByteArray) (w : World) (hn : n = l.length) (hc : n ≤ c) (hr : SRow w a l) (h1 : l.length ≤ 140737488355328) (h2 : (joined (datas l)).length ≤ 140737488355328) :
    Calls Try.prog 35 #[.slice a n c, .string ⟨#[47]⟩] w fun e w' => e = .returned (.string (bs (Lib.join (datas l) [47]))) ∧ Below w.heap.size w w' := by
  subst hn
  rcases hr with rfl | ⟨b, off, rfl, hcs⟩
  · refine (Try.strings_Join_none a c ⟨#[47]⟩ w).mono ?_
    rintro e w' ⟨rfl, rfl⟩
    exact ⟨rfl, Below.refl _ _⟩
  · by_cases h0 : l = []
    · subst h0
      refine (Try.strings_Join_none _ c ⟨#[47]⟩ w).mono ?_
      rintro e w' ⟨rfl, rfl⟩
      exact ⟨rfl, Below.refl _ _⟩
    · have hl : 0 < l.length := List.length_pos_iff.2 h0
      refine (Try.strings_Join b off c l ⟨#[47]⟩ w (fun j x hj => ?_) (World.block_lt_of_cell? w _ (hcs 0 hl)) h1 hc ?_).mono ?_
      · have hjl := (List.getElem?_eq_some_iff.1 hj).1
        have := hcs j hjl
        rw [getD_lt hjl] at hj
        cases hj
        exact this
      · rw [← joined_eq] at h2
        have : (Lib.join (datas l) [47]).length ≤ 140737488355328 := by simp at h2; omega
        exact this
      · rintro e w' ⟨rfl, hb⟩
        exact ⟨rfl, hb⟩

theorem join_any (a : Option Addr) (n c : Nat) (l : List ByteArray) (w : World) (hn : n = l.length) (hc : n ≤ c) (hr : SRow w a l) (h1 : l.length ≤ 140737488355328) (h2 : (joined (datas l)).length ≤ 140737488355328) :
    Calls Try.prog 19 #[.slice a n c] w fun e w' => e = .returned (.string (bs (joined (datas l)))) ∧ Below w.heap.size w w' := by
  have hj := libjoin_any a n c l w hn hc hr h1 h2
  have hlen : (bs (Lib.join (datas l) [47])).size ≤ 140737488355328 := by
    rw [← joined_eq] at h2
    rw [bs_size]; simp at h2; omega
  rw [← joined_eq, ← add_slash]
  obtain ⟨J, hJ⟩ : ∃ J, J = bs (Lib.join (datas l) [47]) := ⟨_, rfl⟩
  rw [← hJ] at hj hlen ⊢
  clear hn hc hr h1 h2 hJ
  have hsum : (1 : Nat) + J.size ≤ 9223372036854775807 := by omega
  go_enter Try.func19, Try.ntmps19
  go_wp2_with (go_at_call 35; refine hj.mono ?_; rintro e w1 ⟨rfl, hb⟩)
  go_ret
  exact ⟨rfl, hb⟩
end Go.Proofs.Ytnhoaafpdckmjaa
