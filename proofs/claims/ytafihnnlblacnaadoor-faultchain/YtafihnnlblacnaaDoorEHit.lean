/-
  errors.As at the program's own error, where the error is one: it stands at the target.
-/
import Derived.Test.YtafihnnlblacnaaDoorEAsW
namespace Go.Proofs.YtafihnnlblacnaaDoor
open Go.RowKit Go.Extern.Stop Go.Stop Go.Extern

set_option maxHeartbeats 4000000 in
theorem as_hit (b tb a : Nat) (old : Value) (w : World) (ha : Row w a [.pointer (some ⟨tb, 0, none⟩)] 64) (ht : Row w tb [old] 46) :
    Calls Tryd.prog 48 #[.iface 46 (.pointer (some ⟨b, 0, none⟩)), .iface 64 (.pointer (some ⟨tb, 0, none⟩)), .agg #[.pointer (some ⟨4, 64, none⟩), .pointer (some ⟨a, 0, none⟩), .int .u64 150], .iface 98 (.agg #[.pointer (some ⟨4, 46, none⟩)])] w
      fun ev w' => ev = .returned (.bool true) ∧ Kept (fun k => k = tb) w w' ∧ Row w' tb [.pointer (some ⟨b, 0, none⟩)] 46 := by
  have h36 := @run_callFunc_extern Tryd.prog 36 _ ReflectliteType.typeOf Tryd.func36 (by kernel_rfl) (by kernel_rfl) (by kernel_rfl) (by kernel_rfl)
  have h95 := @run_callFunc_extern Tryd.prog 95 _ (ReflectliteType.relation "AssignableTo" ReflectliteType.assignableTo) Tryd.func95 (by kernel_rfl) (by kernel_rfl) (by kernel_rfl) (by kernel_rfl)
  have h45 := @run_callFunc_extern Tryd.prog 45 _ (fun args => ReflectliteValue.unpack (args.getD 0 (.tuple #[]))) Tryd.func45 (by kernel_rfl) (by kernel_rfl) (by kernel_rfl) (by kernel_rfl)
  have h54 := @run_callFunc_extern Tryd.prog 54 _ (ReflectliteValue.method (ReflectliteValue.valueError "reflectlite.Value.Elem" 0) ReflectliteValue.elem) Tryd.func54 (by kernel_rfl) (by kernel_rfl) (by kernel_rfl) (by kernel_rfl)
  have h55 := @run_callFunc_extern Tryd.prog 55 _ ReflectliteValue.set Tryd.func55 (by kernel_rfl) (by kernel_rfl) (by kernel_rfl) (by kernel_rfl)
  have mA := method_AssignableTo
  have tO := typeOf_F
  have aE := assignable_F_F
  obtain ⟨wr, hwr⟩ : ∃ wr, wr = w.alloc (.cells #[.pointer (some ⟨4, 64, none⟩), .pointer (some ⟨a, 0, none⟩), .int .u64 150] 87) := ⟨_, rfl⟩
  have HA : Hid (Row wr a [.pointer (some ⟨tb, 0, none⟩)] 64) := by rw [hwr]; exact ha.alloc _
  have HT : Hid (Row wr tb [old] 46) := by rw [hwr]; exact ht.alloc _
  have HK : Hid (Kept (fun k => k = tb) w wr) := by rw [hwr]; exact (Kept.refl _ _).alloc _
  have HR : Row wr w.heap.size [.pointer (some ⟨4, 64, none⟩), .pointer (some ⟨a, 0, none⟩), .int .u64 150] 87 := by rw [hwr]; exact Row.new w [_, _, _] _
  have r0 : wr.cell? ⟨w.heap.size, 0, none⟩ = some (.pointer (some ⟨4, 64, none⟩)) := HR.cell (i := 0) rfl
  have r1 : wr.cell? ⟨w.heap.size, 1, none⟩ = some (.pointer (some ⟨a, 0, none⟩)) := HR.cell (i := 1) rfl
  have r2 : wr.cell? ⟨w.heap.size, 2, none⟩ = some (.int .u64 150) := HR.cell (i := 2) rfl
  have el := elemV_pF ⟨a, 0, none⟩ ⟨tb, 0, none⟩ wr (HA.out.cell (i := 0) rfl)
  have vE := valueOf_F ⟨b, 0, none⟩ wr
  have st := set_F ⟨tb, 0, none⟩ ⟨wr.heap.size, 0, none⟩ ⟨b, 0, none⟩ old (wr.alloc (.cells #[.pointer (some ⟨b, 0, none⟩)] 46)) (by simp) ((HT.out.alloc _).cell (i := 0) rfl) ((HT.out.alloc _).frozen 0)
  clear HR ha ht
  go_enter Tryd.func48, Tryd.ntmps48
  go_wp2
  rw [← hwr]
  clear hwr
  refine wp_loop_rounds 1 ?_
  rw [rounds_succ]
  go_wp2
  go_ret
  exact ⟨rfl, (HK.out.alloc _).setCell (p := ⟨tb, 0, none⟩) rfl _, (HT.out.alloc _).set (i := 0) _ (by simp)⟩

set_option maxHeartbeats 4000000 in
theorem As_hit (b tb : Nat) (old : Value) (w : World) (hg : Typed w) (ht : Row w tb [old] 46) :
    Calls Tryd.prog 31 #[.iface 46 (.pointer (some ⟨b, 0, none⟩)), .iface 64 (.pointer (some ⟨tb, 0, none⟩))] w fun ev w' => ev = .returned (.bool true) ∧ Kept (fun k => k = tb) w w' ∧ Row w' tb [.pointer (some ⟨b, 0, none⟩)] 46 := by
  have h45 := @run_callFunc_extern Tryd.prog 45 _ (fun args => ReflectliteValue.unpack (args.getD 0 (.tuple #[]))) Tryd.func45 (by kernel_rfl) (by kernel_rfl) (by kernel_rfl) (by kernel_rfl)
  have h46 := @run_callFunc_extern Tryd.prog 46 _ (ReflectliteValue.methodAny (ReflectliteValue.valueError "reflectlite.Value.Type" 0) (fun t _ _ _ => ReflectliteType.toType t)) Tryd.func46 (by kernel_rfl) (by kernel_rfl) (by kernel_rfl) (by kernel_rfl)
  have h47 := @run_callFunc_extern Tryd.prog 47 _ (ReflectliteValue.method (ReflectliteValue.valueError "reflectlite.Value.IsNil" 0) ReflectliteValue.isNil) Tryd.func47 (by kernel_rfl) (by kernel_rfl) (by kernel_rfl) (by kernel_rfl)
  have h82 := @run_callFunc_extern Tryd.prog 82 _ (ReflectliteType.abiMethod fun t => do pure (.int .u8 (← Rtype.kind t))) Tryd.func82 (by kernel_rfl) (by kernel_rfl) (by kernel_rfl) (by kernel_rfl)
  have h97 := @run_callFunc_extern Tryd.prog 97 _ (ReflectliteType.method ReflectliteType.elem) Tryd.func97 (by kernel_rfl) (by kernel_rfl) (by kernel_rfl) (by kernel_rfl)
  have h98 := @run_callFunc_extern Tryd.prog 98 _ (ReflectliteType.relation "Implements" ReflectliteType.implements_) Tryd.func98 (by kernel_rfl) (by kernel_rfl) (by kernel_rfl) (by kernel_rfl)
  have f1 := valueOf_pF
  have f2 := type_pF
  have f3 := method_Kind
  have f4 := method_Elem
  have f5 := method_Implements
  have f6 := kind_pF
  have f7 := kind_F
  have f8 := elem_pF
  have f9 := implements_F
  obtain ⟨W1, hW1⟩ : ∃ W1, W1 = w.alloc (.cells #[.pointer (some ⟨tb, 0, none⟩)] 64) := ⟨_, rfl⟩
  obtain ⟨W2, hW2⟩ : ∃ W2, W2 = W1.alloc (.cells #[.pointer (some ⟨4, 64, none⟩), .pointer (some ⟨w.heap.size, 0, none⟩), .int .u64 150] 87) := ⟨_, rfl⟩
  have b2 : Below w.heap.size w W2 := by rw [hW2, hW1]; exact Below.after (below_new _ _) (below_new _ _)
  have ra : Row W2 w.heap.size [.pointer (some ⟨tb, 0, none⟩)] 64 := by rw [hW2, hW1]; exact (Row.new w [_] _).alloc _
  have n8 := isNil_pF ⟨w.heap.size, 0, none⟩ ⟨tb, 0, none⟩ W2 (ra.cell (i := 0) rfl)
  have hg2 : W2.cell? ⟨0, 0, none⟩ = some (.iface 98 (.agg #[.pointer (some ⟨4, 36, none⟩)])) := hg.later b2
  have cA := as_hit b tb w.heap.size old W2 ra (ht.later b2)
  have HB : Hid (Below w.heap.size w W2) := b2
  clear b2 ra ht hg
  subst hW2 hW1
  go_enter Tryd.func31, Tryd.ntmps31
  go_wp2_with (go_at_call 48; refine cA.mono ?_; rintro ev w3 ⟨rfl, hk, hr⟩; have HK : Hid (Kept _ _ _) := hk; have HR : Hid (Row _ _ _ _) := hr; clear hk hr)
  go_ret
  exact ⟨rfl, (Kept.of_below HB.out).trans HK.out, HR.out⟩
end Go.Proofs.YtafihnnlblacnaaDoor
