/-
  errors.As, whole: at an errno, and at the program's own error.
-/
import Derived.Test.YtafihnnlblacnaaDoorEAsF
namespace Go.Proofs.YtafihnnlblacnaaDoor
open Go.RowKit Go.Extern.Stop Go.Stop Go.Extern

/-- package errors' own variable holds the type 'error'. -/
def Typed (w : World) : Prop := w.cell? ⟨0, 0, none⟩ = some (.iface 98 (.agg #[.pointer (some ⟨4, 36, none⟩)]))
theorem Typed.pos {w : World} (h : Typed w) : 0 < w.heap.size := World.block_lt_of_cell? w _ h
theorem Typed.later {w w' : World} (h : Typed w) (hb : Below w.heap.size w w') : Typed w' := by
  unfold Typed
  rw [hb.cell (p := ⟨0, 0, none⟩) h.pos]
  exact h
theorem Typed.keep {S : Nat → Prop} {w w' : World} (h : Typed w) (hk : Kept S w w') (hn : ¬ S 0) : Typed w' := by
  unfold Typed
  rw [World.cell?_of_block (w := w) (hk.block 0 h.pos hn)]
  exact h

theorem Found.answer {w w' : World} {e : Option Int} {tb : Nat} {old : Value} {l : List ByteArray} {n : Nat} {ev : Ending} (h : Found w w' e tb old l n ev) : ∃ b, ev = .returned (.bool b) := by
  rcases h with ⟨h, _⟩ | ⟨_, _, _, _, _, _, h, _⟩
  · exact ⟨_, h⟩
  · exact ⟨_, h⟩
theorem Found.before {w W w' : World} {e : Option Int} {tb : Nat} {old : Value} {l : List ByteArray} {n : Nat} {ev : Ending} (h : Found W w' e tb old l n ev) (hb : Below w.heap.size w W) : Found w w' e tb old l n ev := by
  rcases h with ⟨h1, h2, h3, h4⟩ | ⟨b, op, what, v2, l2, n2, h1, h2, h3, h4⟩
  · exact .inl ⟨h1, h2, (Kept.of_below hb).trans h3, h4⟩
  · exact .inr ⟨b, op, what, v2, l2, n2, h1, h2, (Kept.of_below hb).trans h3, h4⟩
theorem as_nil (t : Value) (w : World) : Calls Tryd.prog 31 #[.nilIface, t] w fun e w' => e = .returned (.bool false) ∧ w = w' := by
  go_enter Tryd.func31, Tryd.ntmps31
  go_wp2
  go_ret
  exact ⟨rfl, rfl⟩

set_option maxHeartbeats 4000000 in
theorem As_E (t : TypeId) (x : Value) (l : List ByteArray) (e : Option Int) (n tb : Nat) (old : Int) (w : World) (hg : Typed w) (hc : Ch w (.iface t x) l e n) (ht : Row w tb [.int .i64 old] 22) :
    Calls Tryd.prog 31 #[.iface t x, .iface 68 (.pointer (some ⟨tb, 0, none⟩))] w fun ev w' => ev = .returned (.bool e.isSome) ∧ Kept (fun k => k = tb) w w' ∧ Row w' tb [.int .i64 (e.getD old)] 22 := by
  have h45 := @run_callFunc_extern Tryd.prog 45 _ (fun args => ReflectliteValue.unpack (args.getD 0 (.tuple #[]))) Tryd.func45 (by kernel_rfl) (by kernel_rfl) (by kernel_rfl) (by kernel_rfl)
  have h46 := @run_callFunc_extern Tryd.prog 46 _ (ReflectliteValue.methodAny (ReflectliteValue.valueError "reflectlite.Value.Type" 0) (fun t _ _ _ => ReflectliteType.toType t)) Tryd.func46 (by kernel_rfl) (by kernel_rfl) (by kernel_rfl) (by kernel_rfl)
  have h47 := @run_callFunc_extern Tryd.prog 47 _ (ReflectliteValue.method (ReflectliteValue.valueError "reflectlite.Value.IsNil" 0) ReflectliteValue.isNil) Tryd.func47 (by kernel_rfl) (by kernel_rfl) (by kernel_rfl) (by kernel_rfl)
  have h82 := @run_callFunc_extern Tryd.prog 82 _ (ReflectliteType.abiMethod fun t => do pure (.int .u8 (← Rtype.kind t))) Tryd.func82 (by kernel_rfl) (by kernel_rfl) (by kernel_rfl) (by kernel_rfl)
  have h97 := @run_callFunc_extern Tryd.prog 97 _ (ReflectliteType.method ReflectliteType.elem) Tryd.func97 (by kernel_rfl) (by kernel_rfl) (by kernel_rfl) (by kernel_rfl)
  have h98 := @run_callFunc_extern Tryd.prog 98 _ (ReflectliteType.relation "Implements" ReflectliteType.implements_) Tryd.func98 (by kernel_rfl) (by kernel_rfl) (by kernel_rfl) (by kernel_rfl)
  have f1 := valueOf_pE
  have f2 := type_pE
  have f3 := method_Kind
  have f4 := method_Elem
  have f5 := method_Implements
  have f6 := kind_pE
  have f7 := kind_E
  have f8 := elem_pE
  have f9 := implements_E
  obtain ⟨W1, hW1⟩ : ∃ W1, W1 = w.alloc (.cells #[.pointer (some ⟨tb, 0, none⟩)] 68) := ⟨_, rfl⟩
  obtain ⟨W2, hW2⟩ : ∃ W2, W2 = W1.alloc (.cells #[.pointer (some ⟨4, 68, none⟩), .pointer (some ⟨w.heap.size, 0, none⟩), .int .u64 150] 87) := ⟨_, rfl⟩
  have b2 : Below w.heap.size w W2 := by rw [hW2, hW1]; exact Below.after (below_new _ _) (below_new _ _)
  have ra : Row W2 w.heap.size [.pointer (some ⟨tb, 0, none⟩)] 68 := by rw [hW2, hW1]; exact (Row.new w [_] _).alloc _
  have n8 := isNil_pE ⟨w.heap.size, 0, none⟩ ⟨tb, 0, none⟩ W2 (ra.cell (i := 0) rfl)
  have hg2 : W2.cell? ⟨0, 0, none⟩ = some (.iface 98 (.agg #[.pointer (some ⟨4, 36, none⟩)])) := hg.later b2
  have cA := as_E (.iface t x) l e n tb w.heap.size old W2 (hc.later b2) (by simp) ra (ht.later b2)
  have HB : Hid (Below w.heap.size w W2) := b2
  clear b2 ra hc ht hg
  subst hW2 hW1
  go_enter Tryd.func31, Tryd.ntmps31
  go_wp2_with (go_at_call 48; refine cA.mono ?_; rintro ev w3 ⟨rfl, hk, hr⟩; have HK : Hid (Kept _ _ _) := hk; have HR : Hid (Row _ _ _ _) := hr; clear hk hr)
  go_ret
  exact ⟨rfl, (Kept.of_below HB.out).trans HK.out, HR.out⟩

set_option maxHeartbeats 4000000 in
theorem As_F (t : TypeId) (x : Value) (l : List ByteArray) (e : Option Int) (n tb : Nat) (old : Value) (w : World) (hg : Typed w) (hc : Ch w (.iface t x) l e n) (ht : Row w tb [old] 46) :
    Calls Tryd.prog 31 #[.iface t x, .iface 64 (.pointer (some ⟨tb, 0, none⟩))] w fun ev w' => Found w w' e tb old l n ev := by
  have h45 := @run_callFunc_extern Tryd.prog 45 _ (fun args => ReflectliteValue.unpack (args.getD 0 (.tuple #[]))) Tryd.func45 (by kernel_rfl) (by kernel_rfl) (by kernel_rfl) (by kernel_rfl)
  have h46 := @run_callFunc_extern Tryd.prog 46 _ (ReflectliteValue.methodAny (ReflectliteValue.valueError "reflectlite.Value.Type" 0) (fun t _ _ _ => ReflectliteType.toType t)) Tryd.func46 (by kernel_rfl) (by kernel_rfl) (by kernel_rfl) (by kernel_rfl)
  have h47 := @run_callFunc_extern Tryd.prog 47 _ (ReflectliteValue.method (ReflectliteValue.valueError "reflectlite.Value.IsNil" 0) ReflectliteValue.isNil) Tryd.func47 (by kernel_rfl) (by kernel_rfl) (by kernel_rfl) (by kernel_rfl)
  have h82 := @run_callFunc_extern Tryd.prog 82 _ (ReflectliteType.abiMethod fun t => do pure (.int .u8 (← Rtype.kind t))) Tryd.func82 (by kernel_rfl) (by kernel_rfl) (by kernel_rfl) (by kernel_rfl)
  have h97 := @run_callFunc_extern Tryd.prog 97 _ (ReflectliteType.method ReflectliteType.elem) Tryd.func97 (by kernel_rfl) (by kernel_rfl) (by kernel_rfl) (by kernel_rfl)
  have h98 := @run_callFunc_extern Tryd.prog 98 _ (ReflectliteType.relation "Implements" ReflectliteType.implements_) Tryd.func98 (by kernel_rfl) (by kernel_rfl) (by kernel_rfl) (by kernel_rfl)
  have f1 := valueOf_pF
  have f2 := type_pF
  have f3 := method_Kind
  have f4 := method_Elem
  have f5 := method_Implements
  have f6 := kind_pF
  have f7 := kind_F
  have f8 := elem_pF
  have f9 := implements_F
  obtain ⟨W1, hW1⟩ : ∃ W1, W1 = w.alloc (.cells #[.pointer (some ⟨tb, 0, none⟩)] 64) := ⟨_, rfl⟩
  obtain ⟨W2, hW2⟩ : ∃ W2, W2 = W1.alloc (.cells #[.pointer (some ⟨4, 64, none⟩), .pointer (some ⟨w.heap.size, 0, none⟩), .int .u64 150] 87) := ⟨_, rfl⟩
  have b2 : Below w.heap.size w W2 := by rw [hW2, hW1]; exact Below.after (below_new _ _) (below_new _ _)
  have ra : Row W2 w.heap.size [.pointer (some ⟨tb, 0, none⟩)] 64 := by rw [hW2, hW1]; exact (Row.new w [_] _).alloc _
  have n8 := isNil_pF ⟨w.heap.size, 0, none⟩ ⟨tb, 0, none⟩ W2 (ra.cell (i := 0) rfl)
  have hg2 : W2.cell? ⟨0, 0, none⟩ = some (.iface 98 (.agg #[.pointer (some ⟨4, 36, none⟩)])) := hg.later b2
  have cA := as_F (.iface t x) l e n tb w.heap.size old W2 (hc.later b2) (by simp) ra (ht.later b2)
  have HB : Hid (Below w.heap.size w W2) := b2
  clear b2 ra hc ht hg
  subst hW2 hW1
  go_enter Tryd.func31, Tryd.ntmps31
  go_wp2_with (go_at_call 48; refine cA.mono ?_; rintro ev w3 hF; obtain ⟨bb, rfl⟩ := hF.answer; have HF : Hid (Found _ _ _ _ _ _ _ _) := hF; clear hF)
  go_ret
  exact HF.out.before HB.out
end Go.Proofs.YtafihnnlblacnaaDoor
