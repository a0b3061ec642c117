/-
  errors.As at an error of the manager; the errno that it wraps; what a call says of it.
-/
import Derived.Test.YtfcmkkkdccnhgaaGreatDoorKI
import Derived.Test.YtfcmkkkdccnhgaaGreatDoorKJ
namespace Go.Proofs.YtfcmkkkdccnhgaaGreatDoor
open Go.RowKit Go.Extern.Stop Go.Stop Go.Extern
set_option maxRecDepth 10000

/-- package errors' own variable holds the type 'error'. -/
def Typed (w : World) : Prop := w.cell? ⟨2, 0, none⟩ = some (.iface 218 (.agg #[.pointer (some ⟨3, 84, none⟩)]))
theorem Typed.pos {w : World} (h : Typed w) : 2 < w.heap.size := World.block_lt_of_cell? w _ h
theorem Typed.later {w w' : World} (h : Typed w) (hb : Below w.heap.size w w') : Typed w' := by
  unfold Typed
  rw [hb.cell (p := ⟨2, 0, none⟩) h.pos]
  exact h
theorem Typed.keep {S : Nat → Prop} {w w' : World} (h : Typed w) (hk : Kept S w w') (hn : ¬ S 2) : Typed w' := by
  unfold Typed
  rw [World.cell?_of_block (w := w) (hk.block 2 h.pos hn)]
  exact h
set_option maxHeartbeats 4000000 in
theorem as_failure (b : Nat) (what : ByteArray) (block x : Int) (tb a : Nat) (old : Int) (w : World) (r : Row w b [.string what, .int .i64 block, .iface 30 (.int .i64 x)] 166)
    (ha : Row w a [.pointer (some ⟨tb, 0, none⟩)] 158) (ht : Row w tb [.int .i64 old] 30) :
    Calls Tryz.prog 149 #[.iface 164 (.pointer (some ⟨b, 0, none⟩)), .iface 158 (.pointer (some ⟨tb, 0, none⟩)), .agg #[.pointer (some ⟨3, 158, none⟩), .pointer (some ⟨a, 0, none⟩), .int .u64 150], .iface 218 (.agg #[.pointer (some ⟨3, 30, none⟩)])] w
      fun ev w' => ev = .returned (.bool true) ∧ Kept (fun k => k = tb) w w' ∧ Row w' tb [.int .i64 x] 30 := by
  have h36 := @run_callFunc_extern Tryz.prog 120 _ ReflectliteType.typeOf Tryz.func120 (by kernel_rfl) (by kernel_rfl) (by kernel_rfl) (by kernel_rfl)
  have h95 := @run_callFunc_extern Tryz.prog 217 _ (ReflectliteType.relation "AssignableTo" ReflectliteType.assignableTo) Tryz.func217 (by kernel_rfl) (by kernel_rfl) (by kernel_rfl) (by kernel_rfl)
  have h45 := @run_callFunc_extern Tryz.prog 146 _ (fun args => ReflectliteValue.unpack (args.getD 0 (.tuple #[]))) Tryz.func146 (by kernel_rfl) (by kernel_rfl) (by kernel_rfl) (by kernel_rfl)
  have h54 := @run_callFunc_extern Tryz.prog 176 _ (ReflectliteValue.method (ReflectliteValue.valueError "reflectlite.Value.Elem" 0) ReflectliteValue.elem) Tryz.func176 (by kernel_rfl) (by kernel_rfl) (by kernel_rfl) (by kernel_rfl)
  have h55 := @run_callFunc_extern Tryz.prog 177 _ ReflectliteValue.set Tryz.func177 (by kernel_rfl) (by kernel_rfl) (by kernel_rfl) (by kernel_rfl)
  have mA := method_AssignableTo
  have hlt := ha.lt
  have hltt := ht.lt
  have HR0 : Hid (Row w b [.string what, .int .i64 block, .iface 30 (.int .i64 x)] 166) := r
  have HA : Hid (Row w a [.pointer (some ⟨tb, 0, none⟩)] 158) := ha
  have HT : Hid (Row w tb [.int .i64 old] 30) := ht
  clear r ha ht
  go_enter Tryz.func149, Tryz.ntmps149
  go_wp2
  go_loopg [0] 1 (fun gm s0 wr => Hid ((gm = 1 ∧ s0 = .iface 164 (.pointer (some ⟨b, 0, none⟩))) ∨ (gm = 0 ∧ s0 = .iface 30 (.int .i64 x))) ∧ Hid (Row wr b [.string what, .int .i64 block, .iface 30 (.int .i64 x)] 166) ∧ Hid (Row wr w.heap.size [.pointer (some ⟨3, 158, none⟩), .pointer (some ⟨a, 0, none⟩), .int .u64 150] 204) ∧ Hid (Row wr a [.pointer (some ⟨tb, 0, none⟩)] 158) ∧ Hid (Row wr tb [.int .i64 old] 30) ∧ Hid (Kept (fun k => k = tb) w wr))
  case atStart =>
    exact ⟨.inl ⟨rfl, rfl⟩, HR0.out.alloc _, Row.new w [_, _, _] _, HA.out.alloc _, HT.out.alloc _, (Kept.refl _ _).alloc _⟩
  case round =>
    obtain ⟨HS, HF, HR, HA', HT', HK⟩ := hrel
    clear HA HT HR0
    have r0 : wr.cell? ⟨w.heap.size, 0, none⟩ = some (.pointer (some ⟨3, 158, none⟩)) := HR.out.cell (i := 0) rfl
    have r1 : wr.cell? ⟨w.heap.size, 1, none⟩ = some (.pointer (some ⟨a, 0, none⟩)) := HR.out.cell (i := 1) rfl
    have r2 : wr.cell? ⟨w.heap.size, 2, none⟩ = some (.int .u64 150) := HR.out.cell (i := 2) rfl
    rcases HS.out with ⟨h1, rfl⟩ | ⟨h1, rfl⟩
    · have tO := typeOf_F
      have aE := assignable_F_E
      have s1 := assert_F_As
      have s2 := assert_F_U1
      have uF := unwrap_F
      have HG : Hid (gk = 1) := h1
      have cU := unwrapF_any b what block x wr HF.out
      clear h1 HS
      go_wp2_with (go_at_call 210; refine cU.mono ?_; rintro e w' ⟨rfl, rfl⟩)
      go_roundg 0
      case measure => have := HG.out; omega
      case rel => exact ⟨.inr ⟨rfl, rfl⟩, HF, HR, HA', HT', HK⟩
    · have tO := typeOf_E
      have aE := assignable_E_E
      have el := elemV_pE ⟨a, 0, none⟩ ⟨tb, 0, none⟩ wr (HA'.out.cell (i := 0) rfl)
      have vE := valueOf_E x wr
      have st := set_E ⟨tb, 0, none⟩ ⟨wr.heap.size, 0, none⟩ x (.int .i64 old) (wr.alloc (.cells #[.int .i64 x] 30)) (by simp) ((HT'.out.alloc _).cell (i := 0) rfl) ((HT'.out.alloc _).frozen 0)
      clear h1 HS
      go_wp2
      go_ret
      exact ⟨rfl, (HK.out.alloc _).setCell rfl _, (HT'.out.alloc _).set (i := 0) _ (by simp)⟩
theorem as_nil (t : Value) (w : World) : Calls Tryz.prog 109 #[.nilIface, t] w fun e w' => e = .returned (.bool false) ∧ w = w' := by
  go_enter Tryz.func109, Tryz.ntmps109
  go_wp2
  go_ret
  exact ⟨rfl, rfl⟩
set_option maxHeartbeats 4000000 in
theorem As_failure (b : Nat) (what : ByteArray) (block x : Int) (tb : Nat) (old : Int) (w : World) (hg : Typed w) (hc : Row w b [.string what, .int .i64 block, .iface 30 (.int .i64 x)] 166) (ht : Row w tb [.int .i64 old] 30) :
    Calls Tryz.prog 109 #[.iface 164 (.pointer (some ⟨b, 0, none⟩)), .iface 158 (.pointer (some ⟨tb, 0, none⟩))] w fun ev w' => ev = .returned (.bool true) ∧ Kept (fun k => k = tb) w w' ∧ Row w' tb [.int .i64 x] 30 := by
  have h45 := @run_callFunc_extern Tryz.prog 146 _ (fun args => ReflectliteValue.unpack (args.getD 0 (.tuple #[]))) Tryz.func146 (by kernel_rfl) (by kernel_rfl) (by kernel_rfl) (by kernel_rfl)
  have h46 := @run_callFunc_extern Tryz.prog 147 _ (ReflectliteValue.methodAny (ReflectliteValue.valueError "reflectlite.Value.Type" 0) (fun t _ _ _ => ReflectliteType.toType t)) Tryz.func147 (by kernel_rfl) (by kernel_rfl) (by kernel_rfl) (by kernel_rfl)
  have h47 := @run_callFunc_extern Tryz.prog 148 _ (ReflectliteValue.method (ReflectliteValue.valueError "reflectlite.Value.IsNil" 0) ReflectliteValue.isNil) Tryz.func148 (by kernel_rfl) (by kernel_rfl) (by kernel_rfl) (by kernel_rfl)
  have h82 := @run_callFunc_extern Tryz.prog 205 _ (ReflectliteType.abiMethod fun t => do pure (.int .u8 (← Rtype.kind t))) Tryz.func205 (by kernel_rfl) (by kernel_rfl) (by kernel_rfl) (by kernel_rfl)
  have h97 := @run_callFunc_extern Tryz.prog 219 _ (ReflectliteType.method ReflectliteType.elem) Tryz.func219 (by kernel_rfl) (by kernel_rfl) (by kernel_rfl) (by kernel_rfl)
  have h98 := @run_callFunc_extern Tryz.prog 220 _ (ReflectliteType.relation "Implements" ReflectliteType.implements_) Tryz.func220 (by kernel_rfl) (by kernel_rfl) (by kernel_rfl) (by kernel_rfl)
  have f1 := valueOf_pE
  have f2 := type_pE
  have f3 := method_Kind
  have f4 := method_Elem
  have f5 := method_Implements
  have f6 := kind_pE
  have f7 := kind_E
  have f8 := elem_pE
  have f9 := implements_E
  obtain ⟨W1, hW1⟩ : ∃ W1, W1 = w.alloc (.cells #[.pointer (some ⟨tb, 0, none⟩)] 158) := ⟨_, rfl⟩
  obtain ⟨W2, hW2⟩ : ∃ W2, W2 = W1.alloc (.cells #[.pointer (some ⟨3, 158, none⟩), .pointer (some ⟨w.heap.size, 0, none⟩), .int .u64 150] 204) := ⟨_, rfl⟩
  have b2 : Below w.heap.size w W2 := by rw [hW2, hW1]; exact Below.after (below_new _ _) (below_new _ _)
  have ra : Row W2 w.heap.size [.pointer (some ⟨tb, 0, none⟩)] 158 := by rw [hW2, hW1]; exact (Row.new w [_] _).alloc _
  have n8 := isNil_pE ⟨w.heap.size, 0, none⟩ ⟨tb, 0, none⟩ W2 (ra.cell (i := 0) rfl)
  have hg2 : W2.cell? ⟨2, 0, none⟩ = some (.iface 218 (.agg #[.pointer (some ⟨3, 84, none⟩)])) := hg.later b2
  have cA := as_failure b what block x tb w.heap.size old W2 (hc.later b2) ra (ht.later b2)
  have HB : Hid (Below w.heap.size w W2) := b2
  clear b2 ra hc ht hg
  subst hW2 hW1
  go_enter Tryz.func109, Tryz.ntmps109
  go_wp2_with (go_at_call 149; refine cA.mono ?_; rintro ev w3 ⟨rfl, hk, hr⟩; have HK : Hid (Kept _ _ _) := hk; have HR : Hid (Row _ _ _ _) := hr; clear hk hr)
  go_ret
  exact ⟨rfl, (Kept.of_below HB.out).trans HK.out, HR.out⟩
end Go.Proofs.YtfcmkkkdccnhgaaGreatDoor
