/-
  The names of the errnos: the table, Name and Find, the program's and the document's.
-/
import Derived.Test.YtafihnnlblacnaaDoorECls
import Derived.Test.YtafihnnlblacnaaDoorEShelf
import Derived.Lib.ItoaNum
namespace Go.Proofs.YtafihnnlblacnaaDoor
open Go.RowKit Go.Shelf

/-- All that api names. -/
def tab : List (Int × ByteArray) := [(0, ⟨#[79, 75]⟩), (1, ⟨#[69, 80, 69, 82, 77]⟩), (2, ⟨#[69, 78, 79, 69, 78, 84]⟩), (5, ⟨#[69, 73, 79]⟩), (6, ⟨#[69, 78, 88, 73, 79]⟩), (9, ⟨#[69, 66, 65, 68, 70]⟩), (13, ⟨#[69, 65, 67, 67, 69, 83]⟩), (14, ⟨#[69, 70, 65, 85, 76, 84]⟩), (16, ⟨#[69, 66, 85, 83, 89]⟩), (17, ⟨#[69, 69, 88, 73, 83, 84]⟩), (19, ⟨#[69, 78, 79, 68, 69, 86]⟩), (20, ⟨#[69, 78, 79, 84, 68, 73, 82]⟩), (21, ⟨#[69, 73, 83, 68, 73, 82]⟩), (22, ⟨#[69, 73, 78, 86, 65, 76]⟩), (24, ⟨#[69, 77, 70, 73, 76, 69]⟩), (27, ⟨#[69, 70, 66, 73, 71]⟩), (28, ⟨#[69, 78, 79, 83, 80, 67]⟩), (30, ⟨#[69, 82, 79, 70, 83]⟩), (31, ⟨#[69, 77, 76, 73, 78, 75]⟩), (36, ⟨#[69, 78, 65, 77, 69, 84, 79, 79, 76, 79, 78, 71]⟩), (39, ⟨#[69, 78, 79, 84, 69, 77, 80, 84, 89]⟩), (40, ⟨#[69, 76, 79, 79, 80]⟩), (117, ⟨#[69, 85, 67, 76, 69, 65, 78]⟩)]
def tabCells : List Value := tab.flatMap fun r => [.int .i64 r.1, .string r.2]
theorem tab_length : tab.length = 23 := rfl
theorem cells_at (k : Nat) (r : Int × ByteArray) (h : tab[k]? = some r) : tabCells[k * 2]? = some (.int .i64 r.1) ∧ tabCells[k * 2 + 1]? = some (.string r.2) := by
  have key : ∀ (l : List (Int × ByteArray)) (k : Nat) (r : Int × ByteArray), l[k]? = some r → (l.flatMap fun r => [Value.int .i64 r.1, .string r.2])[k * 2]? = some (.int .i64 r.1) ∧ (l.flatMap fun r => [Value.int .i64 r.1, .string r.2])[k * 2 + 1]? = some (.string r.2) := by
    intro l
    induction l with
    | nil => intro k r h; simp at h
    | cons x l ih =>
      intro k r h
      cases k with
      | zero => simp at h; subst h; simp
      | succ k =>
        have h' : l[k]? = some r := by simpa using h
        obtain ⟨a, b⟩ := ih k r h'
        have e1 : (k + 1) * 2 = k * 2 + 2 := by omega
        rw [e1]
        simp only [List.flatMap_cons, List.cons_append, List.nil_append, List.getElem?_cons_succ]
        exact ⟨a, b⟩
  exact key tab k r h
/-- The table, as it lies. -/
def Tab (w : World) (N : Nat) (t : TypeId) : Prop := Row w N tabCells t
theorem Tab.at {w : World} {N : Nat} {t : TypeId} (h : Tab w N t) (k : Nat) (hk : k < 23) : ∃ n s, tab[k]? = some (n, s) ∧ w.cell? ⟨N, k * 2, none⟩ = some (.int .i64 n) ∧ w.cell? ⟨N, k * 2 + 1, none⟩ = some (.string s) := by
  obtain ⟨r, hr⟩ : ∃ r, tab[k]? = some r := ⟨_, List.getElem?_eq_getElem (by rw [tab_length]; exact hk)⟩
  obtain ⟨n, s⟩ := r
  obtain ⟨a, b⟩ := cells_at k (n, s) hr
  exact ⟨n, s, hr, Row.cell h a, Row.cell h b⟩

set_option maxHeartbeats 2000000 in
theorem known_any (w : World) : Calls Tryd.prog 27 #[] w fun e w' => e = .returned (.slice (some ⟨w.heap.size, 0, none⟩) 23 23) ∧ Hid (Tab w' w.heap.size 57) ∧ Hid (Below w.heap.size w w') := by
  go_enter Tryd.func27, Tryd.ntmps27
  go_wp2
  go_ret
  exact ⟨rfl, Row.new w tabCells _, below_new _ _⟩
set_option maxHeartbeats 2000000 in
theorem rows_any (w : World) : Calls Tryd.prog 28 #[] w fun e w' => e = .returned (.slice (some ⟨w.heap.size, 0, none⟩) 23 23) ∧ Hid (Tab w' w.heap.size 61) ∧ Hid (Below w.heap.size w w') := by
  go_enter Tryd.func28, Tryd.ntmps28
  go_wp2
  go_ret
  exact ⟨rfl, Row.new w tabCells _, below_new _ _⟩
end Go.Proofs.YtafihnnlblacnaaDoor
