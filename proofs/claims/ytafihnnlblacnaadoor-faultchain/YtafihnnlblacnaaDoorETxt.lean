/-
  The text of the example: an errno wrapped once.
-/
import Derived.Test.YtafihnnlblacnaaDoorEBld
import Derived.Test.YtafihnnlblacnaaDoorEShelf
import Derived.Test.YtafihnnlblacnaaDoorEErr
import Derived.Laws.BytesArg
import Derived.Defers
import Derived.Recover
import Derived.Laws.Pointers
import Derived.Orders
namespace Go.Proofs.YtafihnnlblacnaaDoor
open Go.RowKit Go.Shelf

/-- A text of one byte. -/
theorem conv_one (x : Nat) (w : World) : (convert 77 9 (.slice (some ⟨w.heap.size, 0, none⟩) 1 1)).run Tryd.prog (w.alloc (.cells #[.int .u8 x] 5)) = .ok (.string ⟨#[UInt8.ofNat x]⟩) (w.alloc (.cells #[.int .u8 x] 5)) := by
  have h := run_convert_bytes_arg (w.alloc (.cells #[.int .u8 x] 5)) 77 5 Tryd.underlying77 Tryd.underlying5 w.heap.size 0 1 1 [(x : Int)] rfl (fun i hi => by
    have : i = 0 := by simp at hi; exact hi
    subst this
    exact (Row.new w [.int .u8 x] 5).cell (i := 0) rfl) 9 Tryd.underlying9
  rw [h]
  congr 1

theorem number_two (w : World) : Calls Tryd.prog 86 #[.int .i64 2] w fun e w' => e = .returned (.string ⟨#[50]⟩) ∧ Below w.heap.size w w' := by
  have c : (convert 77 9 (.slice (some ⟨w.heap.size, 0, none⟩) 1 1)).run Tryd.prog (w.alloc (.cells #[.int .u8 50] 5)) = .ok (.string ⟨#[50]⟩) (w.alloc (.cells #[.int .u8 50] 5)) := conv_one 50 w
  go_enter Tryd.func86, Tryd.ntmps86
  go_wp2
  go_ret
  exact ⟨rfl, below_new _ _⟩
theorem errno_two (w : World) : Calls Tryd.prog 85 #[.int .i64 2] w fun e w' => e = .returned (.string ⟨#[112, 117, 109, 105, 99, 101, 32, 101, 114, 114, 111, 114, 32, 50]⟩) ∧ Below w.heap.size w w' := by
  go_enter Tryd.func85, Tryd.ntmps85
  go_wp2_with (go_at_call 86; refine (number_two _).mono ?_; rintro e w' ⟨rfl, hb⟩)
  go_ret
  exact ⟨rfl, hb⟩
theorem catch_text (p : Addr) (w : World) : CallsD Tryd.prog 52 #[.pointer (some p)] .returning w fun e u' w' => e = .returned (.tuple #[]) ∧ u' = .returning ∧ w' = w := by
  refine callsD_of_wpS Tryd.func52 rfl fun c₀ cs hu => ?_
  apply wpS_seq
  apply wpS_region
  simp [wpOpsS, go_sem, recoverD, hu, Tryd.ntmps52, Exit.thenS]
  refine wpS_cond (t := false) (by simp [Act.eval, Array.replicate]) ?_
  simp only [Bool.false_eq_true, if_false]
  refine wpS_of_wp (wp_skip ?_)
  cases c₀
  simp_all [bodyPostS, results, Tryd.results52]
theorem error_E (h : Value) (w : World) : (Go.method 259 22 h "Error").run Tryd.prog w = .ok (85, h) w := by kernel_rfl
theorem text_two (w : World) : Calls Tryd.prog 42 #[.iface 22 (.int .i64 2)] w fun e w' => e = .returned (.string ⟨#[112, 117, 109, 105, 99, 101, 32, 101, 114, 114, 111, 114, 32, 50]⟩) ∧ Below w.heap.size w w' := by
  have hmf : ∀ (fn : Fn) (first cap : Array Value) (w : World), (Instr.makeFunc fn first cap).run Tryd.prog w = .ok (.func fn first cap) w := fun _ _ _ _ => rfl
  have mE := error_E
  go_enter_defers Tryd.func42, Tryd.ntmps42
  go_wp2_with (go_at_call 85; refine (errno_two _).mono ?_; rintro e w3 ⟨rfl, hb⟩; have hr := (Row.new w [.string ⟨#[]⟩] 9).later hb; have c0 := hr.cell (i := 0) rfl; have f0 := hr.frozen 0; have HR : Hid (Row _ _ _ _) := hr; have HB : Hid (Below _ _ _) := hb; clear hr hb)
  refine leaves_cons (f := 52) (args := #[.pointer (some ⟨w.heap.size, 0, none⟩)]) (by simp) (by simp [go_sem]) ?_
  refine (catch_text ⟨w.heap.size, 0, none⟩ _).mono ?_
  rintro e u' w'' ⟨rfl, rfl, rfl⟩
  have c1 := (HR.out.set (i := 0) (.string ⟨#[112, 117, 109, 105, 99, 101, 32, 101, 114, 114, 111, 114, 32, 50]⟩) (by simp)).cell (i := 0) rfl
  have HB2 := (Below.after (below_new w (Obj.cells #[Value.string ⟨#[]⟩] 9)) HB.out).setCell (p := ⟨w.heap.size, 0, none⟩) (Nat.le_refl _) (.string ⟨#[112, 117, 109, 105, 99, 101, 32, 101, 114, 114, 111, 114, 32, 50]⟩)
  simp [Leaves, settle, results, Tryd.results42, go_sem, c1]
  exact HB2
theorem itself_two (w : World) : Calls Tryd.prog 41 #[.iface 22 (.int .i64 2)] w fun e w' => e = .returned (.pointer none) ∧ w = w' := by
  have hT : ∀ w, (Instr.typeAssert (.iface 22 (.int .i64 2)) 36 46 true).run Tryd.prog w = .ok (.tuple #[.pointer none, .bool false]) w := fun w => by kernel_rfl
  go_enter Tryd.func41, Tryd.ntmps41
  go_wp2
  go_ret
  exact ⟨rfl, rfl⟩
theorem head_open (b : Nat) (v : Value) (w : World) (h : Row w b [.string ⟨#[111, 112, 101, 110]⟩, .string ⟨#[47, 97]⟩, v] 48) :
    Calls Tryd.prog 40 #[.pointer (some ⟨b, 0, none⟩)] w fun e w' => e = .returned (.string ⟨#[111, 112, 101, 110, 32, 47, 97, 32, 58, 32]⟩) ∧ ∃ q, w' = w.drewN q := by
  have c0 : w.cell? ⟨b, 0, none⟩ = some (.string ⟨#[111, 112, 101, 110]⟩) := h.cell (i := 0) rfl
  have c1 : w.cell? ⟨b, 1, none⟩ = some (.string ⟨#[47, 97]⟩) := h.cell (i := 1) rfl
  clear h
  go_enter Tryd.func40, Tryd.ntmps40
  go_wp2
  go_region
  go_wp2
  go_ret
  exact ⟨rfl, 1, rfl⟩
theorem _root_.Go.Lib.BuilderAt.later' {T e : TypeId} {B b : Nat} {p : Value} {bs : List Value} {w w' : World} (h : Lib.BuilderAt T e B b p bs w) (hb : Below w.heap.size w w') : Lib.BuilderAt T e B b p bs w' := by
  obtain ⟨h1, v, h2, h3, h4⟩ := h
  refine ⟨h1, v, ?_, ?_, h4⟩
  · rw [hb.block b (Array.getElem?_eq_some_iff.1 h2).1]; exact h2
  · refine ⟨h3.1, ?_⟩
    rcases h3.2 with hn | ⟨g, cap, cur, rfl, hbg, hgg, rest⟩
    · exact .inl hn
    · refine .inr ⟨g, cap, cur, rfl, hbg, ?_, rest⟩
      rw [hb.block g (Array.getElem?_eq_some_iff.1 hgg).1]
      exact hgg
def openA : ByteArray := ⟨#[111, 112, 101, 110, 32, 47, 97, 32, 58, 32]⟩
def pumice2 : ByteArray := ⟨#[112, 117, 109, 105, 99, 101, 32, 101, 114, 114, 111, 114, 32, 50]⟩
theorem sizes (w : World) (o : Obj) (q : Nat) : w.heap.size ≤ ((w.alloc o).drewN q).heap.size := by show _ ≤ (w.alloc o).heap.size; simp
theorem len1 : ([] : List Value).length + openA.size ≤ 140737488355328 := by show 10 ≤ _; omega
theorem len2 : ([] ++ Lib.strCells openA).length + pumice2.size ≤ 140737488355328 := by
  rw [List.nil_append, Lib.strCells_length]
  show 10 + 14 ≤ _; omega
set_option maxHeartbeats 2000000 in
theorem error_open (b : Nat) (w : World) (h : Row w b [.string ⟨#[111, 112, 101, 110]⟩, .string ⟨#[47, 97]⟩, .iface 22 (.int .i64 2)] 48) :
    Calls Tryd.prog 25 #[.pointer (some ⟨b, 0, none⟩)] w fun e w' => e = .returned (.string ⟨#[111, 112, 101, 110, 32, 47, 97, 32, 58, 32, 112, 117, 109, 105, 99, 101, 32, 101, 114, 114, 111, 114, 32, 50]⟩) ∧ Below w.heap.size w w' := by
  have hlt := h.lt
  have HR : Hid (Row _ _ _ _) := h
  have M1 : Hid True := trivial
  clear h
  go_enter Tryd.func25, Tryd.ntmps25
  go_wp2_with (first
    | (go_at_call 40; refine (head_open b _ _ (HR.out.alloc _)).mono ?_; rintro e w1 ⟨rfl, q, rfl⟩)
    | (go_at_call 39; clear M1; refine (write_any w.heap.size w.heap.size [] openA ((w.alloc (Obj.cells #[.pointer none, .slice none 0 0] 79)).drewN q) (Lib.fresh_isBuilder 79 5 w) len1 (sizes w _ q)).mono ?_; rintro e w2 ⟨rfl, hB2, hb2⟩; have r2 := ((HR.out.alloc (Obj.cells #[.pointer none, .slice none 0 0] 79)).drewN q).same (hb2.block b hlt); have c2 := r2.cell (i := 2) rfl; have HA : Hid (Lib.BuilderAt _ _ _ _ _ _ _) := hB2; have HB2 : Hid (Below _ _ _) := hb2; clear hB2 hb2 r2)
    | (go_at_call 41; refine (itself_two _).mono ?_; rintro e w3 ⟨rfl, rfl⟩))
  refine wp_loop_rounds 1 ?_
  rw [rounds_succ]
  have hz2 : w.heap.size ≤ w2.heap.size := by have := HB2.out.size; simp at this; omega
  have M2 : Hid True := trivial
  go_wp2_with (first
    | (go_at_call 42; refine (text_two _).mono ?_; rintro e w4 ⟨rfl, hb4⟩; have HB4 : Hid (Below _ _ _) := hb4; clear hb4)
    | (go_at_call 39; clear M2; refine (write_any w.heap.size w.heap.size ([] ++ Lib.strCells openA) pumice2 _ (.inr (HA.out.later' HB4.out)) len2 (Nat.le_trans hz2 HB4.out.size)).mono ?_; rintro e w5 ⟨rfl, hB5, hb5⟩; have HA5 : Hid (Lib.BuilderAt _ _ _ _ _ _ _) := hB5; have HB5 : Hid (Below _ _ _) := hb5; clear hB5 hb5)
    | (go_at_call 43; refine (Tryd.Builder_String w.heap.size w.heap.size [111, 112, 101, 110, 32, 47, 97, 32, 58, 32, 112, 117, 109, 105, 99, 101, 32, 101, 114, 114, 111, 114, 32, 50] _ (.inr HA5.out) (by decide)).mono ?_; rintro e w6 ⟨rfl, hb6⟩))
  go_ret
  refine ⟨rfl, ?_⟩
  have b1 : Below w.heap.size w ((w.alloc (Obj.cells #[.pointer none, .slice none 0 0] 79)).drewN q) := Below.after (below_new _ _) (below_drawn _ _)
  exact ((b1.trans HB2.out).trans ((HB4.out.mono hz2).trans HB5.out)).trans hb6
end Go.Proofs.YtafihnnlblacnaaDoor
