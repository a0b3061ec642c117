/-
  Of, Wrap: the errno of a chain of errors.
-/
import Derived.Test.YtafihnnlblacnaaDoorEAsW
import Derived.Defers
import Derived.Recover
import Derived.Laws.Pointers
namespace Go.Proofs.YtafihnnlblacnaaDoor
open Go.RowKit Go.Extern.Stop Go.Stop Go.Extern

/-- The deferred closure, where nothing panicked. -/
theorem catch_of (p : Addr) (w : World) : CallsD Tryd.prog 35 #[.pointer (some p)] .returning w fun e u' w' => e = .returned (.tuple #[]) ∧ u' = .returning ∧ w' = w := by
  refine callsD_of_wpS Tryd.func35 rfl fun c₀ cs hu => ?_
  apply wpS_seq
  apply wpS_region
  simp [wpOpsS, go_sem, recoverD, hu, Tryd.ntmps35, Exit.thenS]
  refine wpS_cond (t := false) (by simp [Act.eval, Array.replicate]) ?_
  simp only [Bool.false_eq_true, if_false]
  refine wpS_of_wp (wp_skip ?_)
  cases c₀
  simp_all [bodyPostS, results, Tryd.results35]

theorem of_nil (w : World) : Calls Tryd.prog 21 #[.nilIface] w fun e w' => e = .returned (.int .i64 0) ∧ Below w.heap.size w w' := by
  have hmf : ∀ (fn : Fn) (first cap : Array Value) (w : World), (Instr.makeFunc fn first cap).run Tryd.prog w = .ok (.func fn first cap) w := fun _ _ _ _ => rfl
  go_enter_defers Tryd.func21, Tryd.ntmps21
  go_wp2
  simp [bodyPostD, Leaves, results, Tryd.results21, go_sem]
  exact below_new _ _

set_option maxHeartbeats 1000000 in
theorem of_some (t : TypeId) (x : Value) (l : List ByteArray) (e : Option Int) (n : Nat) (w : World) (hg : Typed w) (hc : Ch w (.iface t x) l e n) :
    Calls Tryd.prog 21 #[.iface t x] w fun ev w' => ev = .returned (.int .i64 (e.getD 5)) ∧ Below w.heap.size w w' := by
  have hmf : ∀ (fn : Fn) (first cap : Array Value) (w : World), (Instr.makeFunc fn first cap).run Tryd.prog w = .ok (.func fn first cap) w := fun _ _ _ _ => rfl
  have b1 : Below w.heap.size w (w.alloc (.cells #[.int .i64 0] 22)) := below_new _ _
  have cA := As_E t x l e n w.heap.size 0 _ (hg.later b1) (hc.later b1) (Row.new w [_] _)
  have HG : Hid (Typed w) := hg
  have HB : Hid (Below _ _ _) := b1
  clear hg hc b1
  cases e with
  | none =>
    go_enter_defers Tryd.func21, Tryd.ntmps21
    go_wp2_with (go_at_call 31; refine cA.mono ?_; rintro ev w3 ⟨rfl, hk, hr⟩; have c0 := hr.cell (i := 0) rfl; have f0 := hr.frozen 0; have HK : Hid (Kept _ _ _) := hk; have HR : Hid (Row _ _ _ _) := hr; clear hk hr)
    refine leaves_cons (f := 35) (args := #[.pointer (some ⟨w.heap.size, 0, none⟩)]) (by simp) (by simp [go_sem]) ?_
    refine (catch_of ⟨w.heap.size, 0, none⟩ _).mono ?_
    rintro e u' w'' ⟨rfl, rfl, rfl⟩
    have c1 : (w3.setCell ⟨w.heap.size, 0, none⟩ (.int .i64 5)).cell? ⟨w.heap.size, 0, none⟩ = some (.int .i64 5) := (HR.out.set (i := 0) (.int .i64 5) (by simp)).cell (i := 0) rfl
    have HB2 : Below w.heap.size w (w3.setCell ⟨w.heap.size, 0, none⟩ (.int .i64 5)) := HB.out.trans ((HK.out.setCell (p := ⟨w.heap.size, 0, none⟩) rfl _).below (by simp) (fun k h => by rw [h]; exact Nat.le_refl _))
    simp [Leaves, settle, results, Tryd.results21, go_sem, c1]
    exact HB2
  | some y =>
    go_enter_defers Tryd.func21, Tryd.ntmps21
    go_wp2_with (go_at_call 31; refine cA.mono ?_; rintro ev w3 ⟨rfl, hk, hr⟩; have c0 : w3.cell? ⟨w.heap.size, 0, none⟩ = some (.int .i64 y) := hr.cell (i := 0) rfl; have f0 := hr.frozen 0; have HK : Hid (Kept _ _ _) := hk; have HR : Hid (Row _ _ _ _) := hr; clear hk hr)
    refine leaves_cons (f := 35) (args := #[.pointer (some ⟨w.heap.size, 0, none⟩)]) (by simp) (by simp [go_sem]) ?_
    refine (catch_of ⟨w.heap.size, 0, none⟩ _).mono ?_
    rintro e u' w'' ⟨rfl, rfl, rfl⟩
    have c1 : (w3.setCell ⟨w.heap.size, 0, none⟩ (.int .i64 y)).cell? ⟨w.heap.size, 0, none⟩ = some (.int .i64 y) := (HR.out.set (i := 0) (.int .i64 y) (by simp)).cell (i := 0) rfl
    have HB2 : Below w.heap.size w (w3.setCell ⟨w.heap.size, 0, none⟩ (.int .i64 y)) := HB.out.trans ((HK.out.setCell (p := ⟨w.heap.size, 0, none⟩) rfl _).below (by simp) (fun k h => by rw [h]; exact Nat.le_refl _))
    simp [Leaves, settle, results, Tryd.results21, go_sem, c1]
    exact HB2

/-- What Of tells of a chain. -/
def told : Value → Option Int → Int
  | .nilIface, _ => 0
  | _, e => e.getD 5
theorem of_any (v : Value) (l : List ByteArray) (e : Option Int) (n : Nat) (w : World) (hg : Typed w) (hc : Ch w v l e n) :
    Calls Tryd.prog 21 #[v] w fun ev w' => ev = .returned (.int .i64 (told v e)) ∧ Below w.heap.size w w' := by
  rcases hc.shape with rfl | ⟨t, x, rfl⟩
  · exact of_nil w
  · exact of_some t x l e n w hg hc

theorem wrap_ok (op what : ByteArray) (v : Value) (l : List ByteArray) (e : Option Int) (n : Nat) (w : World) (hg : Typed w) (hc : Ch w v l e n) (h0 : told v e = 0) :
    Calls Tryd.prog 20 #[.string op, .string what, v] w fun ev w' => ev = .returned .nilIface ∧ Below w.heap.size w w' := by
  have c := of_any v l e n w hg hc
  rw [h0] at c
  clear h0 hg hc
  go_enter Tryd.func20, Tryd.ntmps20
  go_wp2_with (go_at_call 21; refine c.mono ?_; rintro ev w3 ⟨rfl, hb⟩; have HB : Hid (Below _ _ _) := hb; clear hb)
  go_ret
  exact ⟨rfl, HB.out⟩
theorem wrap_some (op what : ByteArray) (v : Value) (l : List ByteArray) (e : Option Int) (n : Nat) (w : World) (hg : Typed w) (hc : Ch w v l e n) (h0 : told v e ≠ 0) :
    Calls Tryd.prog 20 #[.string op, .string what, v] w fun ev w' => ∃ b, ev = .returned (.iface 46 (.pointer (some ⟨b, 0, none⟩))) ∧ Row w' b [.string op, .string what, v] 48 ∧ Below w.heap.size w w' := by
  have c := of_any v l e n w hg hc
  have hs := hc.shape
  obtain ⟨x, hx⟩ : ∃ x, x = told v e := ⟨_, rfl⟩
  rw [← hx] at c h0
  have h1 : (x == 0) = false := by simpa using h0
  clear hg hc hx h0
  rcases hs with rfl | ⟨t, y, rfl⟩
  · go_enter Tryd.func20, Tryd.ntmps20
    go_wp2_with (go_at_call 21; refine c.mono ?_; rintro ev w3 ⟨rfl, hb⟩; have HB : Hid (Below _ _ _) := hb; clear hb)
    go_ret
    exact ⟨_, rfl, Row.new _ [_, _, _] _, Below.after HB.out (below_new _ _)⟩
  · go_enter Tryd.func20, Tryd.ntmps20
    go_wp2_with (go_at_call 21; refine c.mono ?_; rintro ev w3 ⟨rfl, hb⟩; have HB : Hid (Below _ _ _) := hb; clear hb)
    go_ret
    exact ⟨_, rfl, Row.new _ [_, _, _] _, Below.after HB.out (below_new _ _)⟩
end Go.Proofs.YtafihnnlblacnaaDoor
