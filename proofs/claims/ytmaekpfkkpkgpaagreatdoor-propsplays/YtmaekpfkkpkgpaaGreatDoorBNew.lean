/-
  New: a book in which all are free.
-/
import Derived.Test.YtmaekpfkkpkgpaaGreatDoorBDo
import Derived.Laws.MakeOwn
namespace Go.Proofs.YtmaekpfkkpkgpaaGreatDoor
open Go.RowKit
set_option maxRecDepth 10000

theorem made_flat (z : List Value) (hz : 0 < z.length) (n : Nat) : (madeCells z.toArray (n * z.length)).toList = (List.replicate n z).flatten := by
  apply List.ext_getElem?
  intro i
  have hl : (List.replicate n z).flatten.length = n * z.length := by simp
  by_cases hi : i < n * z.length
  · have e1 : (madeCells z.toArray (n * z.length)).toList[i]? = some (z[i % z.length]'(Nat.mod_lt _ hz)) := by
      simp [madeCells, hi, Nat.mod_lt _ hz]
    rw [e1]
    have := flat_get (fun _ : Unit => z) z.length (fun _ => rfl) (i % z.length) (Nat.mod_lt _ hz) (List.replicate n ()) (i / z.length) () (by rw [List.getElem?_replicate, if_pos (Nat.div_lt_of_lt_mul (by rw [Nat.mul_comm]; exact hi))])
    rw [show i / z.length * z.length + i % z.length = i by rw [Nat.mul_comm]; exact Nat.div_add_mod i z.length] at this
    have e2 : (List.replicate n ()).flatMap (fun _ => z) = (List.replicate n z).flatten := by
      rw [List.flatMap_def, List.map_replicate]
    rw [e2] at this
    rw [this, List.getElem?_eq_getElem (Nat.mod_lt _ hz)]
  · rw [List.getElem?_eq_none (by rw [Array.length_toList, size_madeCells]; omega), List.getElem?_eq_none (by omega)]
theorem infoP : (Tryz.prog.info? 54).map (fun i => (i.zero, i.size, i.bytes)) = some (some (.agg #[.int .i64 0, .int .i64 0, .int .i64 0, .bool false]), 4, 32) := by kernel_rfl
theorem makeP (n : Nat) (h : n ≤ 256) : ∃ R : Array Value, R.toList = (List.replicate n PB.none).flatMap pbCells ∧ ∀ W, (Instr.makeSlice 40 (.int .i64 (n : Int)) (.int .i64 (n : Int))).run Tryz.prog W = .ok (.slice (some ⟨W.heap.size, 0, none⟩) n n) (W.alloc (.cells R 54)) := by
  obtain ⟨i0, hi, hz0, hz1, hz2⟩ := info_parts infoP
  refine ⟨madeCells #[.int .i64 0, .int .i64 0, .int .i64 0, .bool false] (n * 4), ?_, fun W => ?_⟩
  · have := made_flat [Value.int .i64 0, .int .i64 0, .int .i64 0, .bool false] (by decide) n
    rw [show (madeCells #[Value.int .i64 0, .int .i64 0, .int .i64 0, .bool false] (n * 4)) = madeCells [Value.int .i64 0, .int .i64 0, .int .i64 0, .bool false].toArray (n * [Value.int .i64 0, .int .i64 0, .int .i64 0, .bool false].length) from rfl, this, List.flatMap_def, List.map_replicate]
    rfl
  · have := run_make (P := Tryz.prog) W 40 54 i0 _ Tryz.underlying40 hi hz0 .i64 .i64 n n (by omega) (Int.le_refl _) (by rw [hz2]; omega) (by omega)
    rw [hz1] at this
    exact this
def newOk (n size : Int) : Prop := 1 ≤ n ∧ n ≤ 256 ∧ 1 ≤ size ∧ size ≤ 16777216
instance (n size : Int) : Decidable (newOk n size) := by unfold newOk; infer_instance
set_option maxHeartbeats 1000000 in
theorem new_no (n size : Int) (h : ¬ newOk n size) (w : World) :
    Calls Tryz.prog 5 #[.int .i64 n, .int .i64 size] w fun e w' => e = .returned (.tuple #[.pointer none, .int .i64 22]) ∧ w = w' := by
  by_cases h1 : n < 1
  · go_enter Tryz.func5, Tryz.ntmps5
    go_wp2
    go_ret2
    exact ⟨rfl, rfl⟩
  · by_cases h2 : 256 < n
    · go_enter Tryz.func5, Tryz.ntmps5
      go_wp2
      go_ret2
      exact ⟨rfl, rfl⟩
    · by_cases h3 : size < 1
      · go_enter Tryz.func5, Tryz.ntmps5
        go_wp2
        go_ret2
        exact ⟨rfl, rfl⟩
      · have h4 : 16777216 < size := by unfold newOk at h; omega
        clear h
        go_enter Tryz.func5, Tryz.ntmps5
        go_wp2
        go_ret2
        exact ⟨rfl, rfl⟩
set_option maxHeartbeats 1000000 in
theorem new_go (n : Nat) (size : Int) (h : newOk n size) (w : World) :
    Calls Tryz.prog 5 #[.int .i64 (n : Nat), .int .i64 size] w fun e w' => e = .returned (.tuple #[.pointer (some ⟨w.heap.size + 1, 0, none⟩), .int .i64 0]) ∧ BLies w' (w.heap.size + 1) w.heap.size n size (List.replicate n PB.none) ∧ Below w.heap.size w w' := by
  obtain ⟨h1, h2, h3, h4⟩ := h
  obtain ⟨R, hR, hmk⟩ := makeP n (by omega)
  have q1 : ¬ (n : Int) < 1 := by omega
  have q2 : ¬ 256 < (n : Int) := by omega
  have q3 : ¬ size < 1 := by omega
  have q4 : ¬ 16777216 < size := by omega
  have fin : ∀ W, W = (w.alloc (.cells R 54)).alloc (.cells #[.int .i64 size, .slice (some ⟨w.heap.size, 0, none⟩) n n] 42) → BLies W (w.heap.size + 1) w.heap.size n size (List.replicate n PB.none) ∧ Below w.heap.size w W := by
    rintro W rfl
    have hb := below_new w (.cells R 54)
    refine ⟨⟨?_, ?_, by simp, by unfold maxLen; omega⟩, Below.after hb (below_new _ _)⟩
    · have := Row.new (w.alloc (.cells R 54)) [.int .i64 size, .slice (some ⟨w.heap.size, 0, none⟩) n n] 42
      rw [World.size_alloc] at this
      rw [List.length_replicate]
      exact this
    · have := Row.new w R.toList 54
      rw [Array.toArray_toList, hR] at this
      exact this.alloc _
  have HF := hidW fin
  clear fin h1 h2 h3 h4 hR
  go_enter Tryz.func5, Tryz.ntmps5
  go_wp2
  go_ret2
  exact ⟨rfl, HF.out _ rfl⟩
end Go.Proofs.YtmaekpfkkpkgpaaGreatDoor
