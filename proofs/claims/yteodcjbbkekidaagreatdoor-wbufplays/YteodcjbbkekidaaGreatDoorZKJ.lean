/-
  What the model answers of reflectlite's calls at the manager's errors.
  errors.As at an error of the manager; the errno that it wraps; what a call says of it.
  A logical block has just these pages.
-/
import Derived.Test.YteodcjbbkekidaaGreatDoorZKC
import Derived.Test.YteodcjbbkekidaaGreatDoorZKI
import Derived.WalkKit
import Derived.LaidEql
import Derived.Stop.Asserts
import Derived.RowKitTokens
namespace Go.Proofs.YteodcjbbkekidaaGreatDoor
open Go.RowKit Go.Extern.Stop Go.Stop Go.Extern
set_option maxRecDepth 10000

theorem valueOf_pE (t : Addr) (w : World) : (ReflectliteValue.unpack (.iface 189 (.pointer (some t)))).run Tryz.prog w = .ok (.agg #[.pointer (some ⟨3, 189, none⟩), .pointer (some ⟨w.heap.size, 0, none⟩), .int .u64 150]) (w.alloc (.cells #[.pointer (some t)] 189)) := by kernel_rfl
theorem type_pE (a : Addr) (w : World) : (ReflectliteValue.methodAny (ReflectliteValue.valueError "reflectlite.Value.Type" 0) (fun t _ _ _ => ReflectliteType.toType t) #[.agg #[.pointer (some ⟨3, 189, none⟩), .pointer (some a), .int .u64 150]]).run Tryz.prog w = .ok (.iface 252 (.agg #[.pointer (some ⟨3, 189, none⟩)])) w := by kernel_rfl
theorem method_Kind (h : Value) (w : World) : (Go.method 428 252 (.agg #[h]) "Kind").run Tryz.prog w = .ok (227, h) w := by kernel_rfl
theorem method_Elem (h : Value) (w : World) : (Go.method 428 252 (.agg #[h]) "Elem").run Tryz.prog w = .ok (242, .agg #[h]) w := by kernel_rfl
theorem method_Implements (h : Value) (w : World) : (Go.method 428 252 (.agg #[h]) "Implements").run Tryz.prog w = .ok (243, .agg #[h]) w := by kernel_rfl
theorem method_AssignableTo (h : Value) (w : World) : (Go.method 428 252 (.agg #[h]) "AssignableTo").run Tryz.prog w = .ok (240, .agg #[h]) w := by kernel_rfl
theorem kind_pE (w : World) : ((ReflectliteType.abiMethod fun t => (fun a : Nat => Value.int IntKind.u8 (a : Int)) <$> Rtype.kind t) #[.pointer (some ⟨3, 189, none⟩)]).run Tryz.prog w = .ok (.int .u8 22) w := by kernel_rfl
theorem kind_E (w : World) : ((ReflectliteType.abiMethod fun t => (fun a : Nat => Value.int IntKind.u8 (a : Int)) <$> Rtype.kind t) #[.pointer (some ⟨3, 30, none⟩)]).run Tryz.prog w = .ok (.int .u8 2) w := by kernel_rfl
theorem elem_pE (w : World) : (ReflectliteType.method ReflectliteType.elem #[.agg #[.pointer (some ⟨3, 189, none⟩)]]).run Tryz.prog w = .ok (.iface 252 (.agg #[.pointer (some ⟨3, 30, none⟩)])) w := by kernel_rfl
theorem implements_E (w : World) : (ReflectliteType.relation "Implements" ReflectliteType.implements_ #[.agg #[.pointer (some ⟨3, 30, none⟩)], .iface 252 (.agg #[.pointer (some ⟨3, 111, none⟩)])]).run Tryz.prog w = .ok (.bool true) w := by kernel_rfl
theorem typeOf_E (v : Value) (w : World) : (ReflectliteType.typeOf #[.iface 30 v]).run Tryz.prog w = .ok (.iface 252 (.agg #[.pointer (some ⟨3, 30, none⟩)])) w := by kernel_rfl
theorem assignable_E_E (w : World) : (ReflectliteType.relation "AssignableTo" ReflectliteType.assignableTo #[.agg #[.pointer (some ⟨3, 30, none⟩)], .iface 252 (.agg #[.pointer (some ⟨3, 30, none⟩)])]).run Tryz.prog w = .ok (.bool true) w := by kernel_rfl
theorem typeOf_F (v : Value) (w : World) : (ReflectliteType.typeOf #[.iface 246 v]).run Tryz.prog w = .ok (.iface 252 (.agg #[.pointer (some ⟨3, 246, none⟩)])) w := by kernel_rfl
theorem assignable_F_E (w : World) : (ReflectliteType.relation "AssignableTo" ReflectliteType.assignableTo #[.agg #[.pointer (some ⟨3, 246, none⟩)], .iface 252 (.agg #[.pointer (some ⟨3, 30, none⟩)])]).run Tryz.prog w = .ok (.bool false) w := by kernel_rfl
theorem valueOf_E (e : Int) (w : World) : (ReflectliteValue.unpack (.iface 30 (.int .i64 e))).run Tryz.prog w = .ok (.agg #[.pointer (some ⟨3, 30, none⟩), .pointer (some ⟨w.heap.size, 0, none⟩), .int .u64 130]) (w.alloc (.cells #[.int .i64 e] 30)) := by kernel_rfl
theorem rlm (z : Sem Value) (f : TypeId → Addr → Nat → Nat → Sem Value) (v : Value) :
    ReflectliteValue.method z f #[v] = (do match ← ReflectliteValue.parts v with | none => z | some (t, a, fl) => f t a fl (fl % 32)) := rfl
theorem rls (v x : Value) : ReflectliteValue.set #[v, x] = (do
    let (some (dst, a, fl), some (src, b, _)) := (← ReflectliteValue.parts v, ← ReflectliteValue.parts x)
      | unsupported (.noEntry "extern/(internal/reflectlite.Value).Set.zeroValue")
    if fl / ReflectliteValue.flagAddr % 2 == 0 then unsupported (.noEntry "extern/(internal/reflectlite.Value).Set.unaddressable")
    let val ← loadVar src b
    if ← Rtype.directlyAssignable dst src then storeVar dst a val
    else if ← Rtype.implements dst src then
      if (← Rtype.kind src) == 20 then
        match val with
        | .nilIface => unsupported (.noEntry "extern/reflectlite: a nil value of one interface type handed on as a value of another")
        | _ => storeVar dst a val
      else storeVar dst a (.iface src val)
    else panicString ("reflectlite.Set: value of type " ++ (← Rtype.spelt src) ++ " is not assignable to type " ++ (← Rtype.spelt dst))
    pure (.tuple #[])) := rfl
theorem parts_pE (a : Addr) (w : World) : (ReflectliteValue.parts (.agg #[.pointer (some ⟨3, 189, none⟩), .pointer (some a), .int .u64 150])).run Tryz.prog w = .ok (some (189, a, 150)) w := by kernel_rfl
theorem isNil_pE (a p : Addr) (W : World) (ha : W.cell? a = some (.pointer (some p))) :
    (ReflectliteValue.method (ReflectliteValue.valueError "reflectlite.Value.IsNil" 0) ReflectliteValue.isNil #[.agg #[.pointer (some ⟨3, 189, none⟩), .pointer (some a), .int .u64 150]]).run Tryz.prog W = .ok (.bool false) W := by
  rw [rlm]
  simp only [Sem.run_bind, parts_pE, Result.andThen]
  simp [ReflectliteValue.isNil, loadVar, isAgg, underlying, Tryz.underlying189, ha, Result.andThen]
theorem elemOf_pE (w : World) : (Rtype.elem? 189).run Tryz.prog w = .ok (some 30) w := by kernel_rfl
theorem mk_E (p : Addr) (w : World) : (ReflectliteValue.mk 30 p ReflectliteValue.flagAddr).run Tryz.prog w = .ok (.agg #[.pointer (some ⟨3, 30, none⟩), .pointer (some p), .int .u64 386]) w := by kernel_rfl
theorem elemV_pE (a p : Addr) (W : World) (ha : W.cell? a = some (.pointer (some p))) :
    (ReflectliteValue.method (ReflectliteValue.valueError "reflectlite.Value.Elem" 0) ReflectliteValue.elem #[.agg #[.pointer (some ⟨3, 189, none⟩), .pointer (some a), .int .u64 150]]).run Tryz.prog W
      = .ok (.agg #[.pointer (some ⟨3, 30, none⟩), .pointer (some p), .int .u64 386]) W := by
  rw [rlm]
  simp only [Sem.run_bind, parts_pE, Result.andThen]
  simp [ReflectliteValue.elem, loadVar, isAgg, underlying, Tryz.underlying189, ha, Result.andThen, elemOf_pE, mk_E]
theorem partsA_E (a : Addr) (w : World) : (ReflectliteValue.parts (.agg #[.pointer (some ⟨3, 30, none⟩), .pointer (some a), .int .u64 386])).run Tryz.prog w = .ok (some (30, a, 386)) w := by kernel_rfl
theorem parts_E (a : Addr) (w : World) : (ReflectliteValue.parts (.agg #[.pointer (some ⟨3, 30, none⟩), .pointer (some a), .int .u64 130])).run Tryz.prog w = .ok (some (30, a, 130)) w := by kernel_rfl
theorem direct_E (w : World) : (Rtype.directlyAssignable 30 30).run Tryz.prog w = .ok true w := by kernel_rfl
theorem set_E (ta b : Addr) (v : Int) (old : Value) (W : World) (hb : W.cell? b = some (.int .i64 v)) (ht : W.cell? ta = some old) (hf : W.frozen? ta = false) :
    (ReflectliteValue.set #[.agg #[.pointer (some ⟨3, 30, none⟩), .pointer (some ta), .int .u64 386], .agg #[.pointer (some ⟨3, 30, none⟩), .pointer (some b), .int .u64 130]]).run Tryz.prog W
      = .ok (.tuple #[]) (W.setCell ta (.int .i64 v)) := by
  rw [rls]
  simp only [Sem.run_bind, partsA_E, parts_E, Result.andThen]
  simp [ReflectliteValue.flagAddr, loadVar, isAgg, underlying, Tryz.underlying30, hb, Result.andThen, direct_E, storeVar, Value.cells, storeCells, Addr.add]
  rw [run_store Tryz.prog W ta _ _ (by rfl)]
  simp [ht, hf]
theorem assert_F_As (v : Value) (xT : TypeId) (w : World) : (Instr.typeAssert (.iface 246 v) xT 274 true).run Tryz.prog w = .ok (.tuple #[.nilIface, .bool false]) w := run_typeAssert_lacksB Tryz.underlying274 (by kernel_rfl) (by kernel_rfl) v xT w
end Go.Proofs.YteodcjbbkekidaaGreatDoor
namespace Go.Proofs.YteodcjbbkekidaaGreatDoor
open Go.RowKit Go.Extern.Stop Go.Stop Go.Extern
set_option maxRecDepth 10000

/-- package errors' own variable holds the type 'error'. -/
def Typed (w : World) : Prop := w.cell? ⟨1, 0, none⟩ = some (.iface 252 (.agg #[.pointer (some ⟨3, 111, none⟩)]))
theorem Typed.pos {w : World} (h : Typed w) : 1 < w.heap.size := World.block_lt_of_cell? w _ h
theorem Typed.later {w w' : World} (h : Typed w) (hb : Below w.heap.size w w') : Typed w' := by
  unfold Typed
  rw [hb.cell (p := ⟨1, 0, none⟩) h.pos]
  exact h
theorem Typed.keep {S : Nat → Prop} {w w' : World} (h : Typed w) (hk : Kept S w w') (hn : ¬ S 1) : Typed w' := by
  unfold Typed
  rw [World.cell?_of_block (w := w) (hk.block 1 h.pos hn)]
  exact h
set_option maxHeartbeats 4000000 in
theorem as_failure (b : Nat) (what : ByteArray) (block x : Int) (tb a : Nat) (old : Int) (w : World) (r : Row w b [.string what, .int .i64 block, .iface 30 (.int .i64 x)] 248)
    (ha : Row w a [.pointer (some ⟨tb, 0, none⟩)] 189) (ht : Row w tb [.int .i64 old] 30) :
    Calls Tryz.prog 173 #[.iface 246 (.pointer (some ⟨b, 0, none⟩)), .iface 189 (.pointer (some ⟨tb, 0, none⟩)), .agg #[.pointer (some ⟨3, 189, none⟩), .pointer (some ⟨a, 0, none⟩), .int .u64 150], .iface 252 (.agg #[.pointer (some ⟨3, 30, none⟩)])] w
      fun ev w' => ev = .returned (.bool true) ∧ Kept (fun k => k = tb) w w' ∧ Row w' tb [.int .i64 x] 30 := by
  have h36 := @run_callFunc_extern Tryz.prog 153 _ ReflectliteType.typeOf Tryz.func153 (by kernel_rfl) (by kernel_rfl) (by kernel_rfl) (by kernel_rfl)
  have h95 := @run_callFunc_extern Tryz.prog 240 _ (ReflectliteType.relation "AssignableTo" ReflectliteType.assignableTo) Tryz.func240 (by kernel_rfl) (by kernel_rfl) (by kernel_rfl) (by kernel_rfl)
  have h45 := @run_callFunc_extern Tryz.prog 170 _ (fun args => ReflectliteValue.unpack (args.getD 0 (.tuple #[]))) Tryz.func170 (by kernel_rfl) (by kernel_rfl) (by kernel_rfl) (by kernel_rfl)
  have h54 := @run_callFunc_extern Tryz.prog 199 _ (ReflectliteValue.method (ReflectliteValue.valueError "reflectlite.Value.Elem" 0) ReflectliteValue.elem) Tryz.func199 (by kernel_rfl) (by kernel_rfl) (by kernel_rfl) (by kernel_rfl)
  have h55 := @run_callFunc_extern Tryz.prog 200 _ ReflectliteValue.set Tryz.func200 (by kernel_rfl) (by kernel_rfl) (by kernel_rfl) (by kernel_rfl)
  have mA := method_AssignableTo
  have hlt := ha.lt
  have hltt := ht.lt
  have HR0 : Hid (Row w b [.string what, .int .i64 block, .iface 30 (.int .i64 x)] 248) := r
  have HA : Hid (Row w a [.pointer (some ⟨tb, 0, none⟩)] 189) := ha
  have HT : Hid (Row w tb [.int .i64 old] 30) := ht
  clear r ha ht
  go_enter Tryz.func173, Tryz.ntmps173
  go_wp2
  go_loopg [0] 1 (fun gm s0 wr => Hid ((gm = 1 ∧ s0 = .iface 246 (.pointer (some ⟨b, 0, none⟩))) ∨ (gm = 0 ∧ s0 = .iface 30 (.int .i64 x))) ∧ Hid (Row wr b [.string what, .int .i64 block, .iface 30 (.int .i64 x)] 248) ∧ Hid (Row wr w.heap.size [.pointer (some ⟨3, 189, none⟩), .pointer (some ⟨a, 0, none⟩), .int .u64 150] 226) ∧ Hid (Row wr a [.pointer (some ⟨tb, 0, none⟩)] 189) ∧ Hid (Row wr tb [.int .i64 old] 30) ∧ Hid (Kept (fun k => k = tb) w wr))
  case atStart =>
    exact ⟨.inl ⟨rfl, rfl⟩, HR0.out.alloc _, Row.new w [_, _, _] _, HA.out.alloc _, HT.out.alloc _, (Kept.refl _ _).alloc _⟩
  case round =>
    obtain ⟨HS, HF, HR, HA', HT', HK⟩ := hrel
    clear HA HT HR0
    have r0 : wr.cell? ⟨w.heap.size, 0, none⟩ = some (.pointer (some ⟨3, 189, none⟩)) := HR.out.cell (i := 0) rfl
    have r1 : wr.cell? ⟨w.heap.size, 1, none⟩ = some (.pointer (some ⟨a, 0, none⟩)) := HR.out.cell (i := 1) rfl
    have r2 : wr.cell? ⟨w.heap.size, 2, none⟩ = some (.int .u64 150) := HR.out.cell (i := 2) rfl
    rcases HS.out with ⟨h1, rfl⟩ | ⟨h1, rfl⟩
    · have tO := typeOf_F
      have aE := assignable_F_E
      have s1 := assert_F_As
      have s2 := assert_F_U1
      have uF := unwrap_F
      have HG : Hid (gk = 1) := h1
      have cU := unwrapF_any b what block x wr HF.out
      clear h1 HS
      go_wp2_with (go_at_call 238; refine cU.mono ?_; rintro e w' ⟨rfl, rfl⟩)
      go_roundg 0
      case measure => have := HG.out; omega
      case rel => exact ⟨.inr ⟨rfl, rfl⟩, HF, HR, HA', HT', HK⟩
    · have tO := typeOf_E
      have aE := assignable_E_E
      have el := elemV_pE ⟨a, 0, none⟩ ⟨tb, 0, none⟩ wr (HA'.out.cell (i := 0) rfl)
      have vE := valueOf_E x wr
      have st := set_E ⟨tb, 0, none⟩ ⟨wr.heap.size, 0, none⟩ x (.int .i64 old) (wr.alloc (.cells #[.int .i64 x] 30)) (by simp) ((HT'.out.alloc _).cell (i := 0) rfl) ((HT'.out.alloc _).frozen 0)
      clear h1 HS
      go_wp2
      go_ret
      exact ⟨rfl, (HK.out.alloc _).setCell rfl _, (HT'.out.alloc _).set (i := 0) _ (by simp)⟩
theorem as_nil (t : Value) (w : World) : Calls Tryz.prog 140 #[.nilIface, t] w fun e w' => e = .returned (.bool false) ∧ w = w' := by
  go_enter Tryz.func140, Tryz.ntmps140
  go_wp2
  go_ret
  exact ⟨rfl, rfl⟩
set_option maxHeartbeats 4000000 in
theorem As_failure (b : Nat) (what : ByteArray) (block x : Int) (tb : Nat) (old : Int) (w : World) (hg : Typed w) (hc : Row w b [.string what, .int .i64 block, .iface 30 (.int .i64 x)] 248) (ht : Row w tb [.int .i64 old] 30) :
    Calls Tryz.prog 140 #[.iface 246 (.pointer (some ⟨b, 0, none⟩)), .iface 189 (.pointer (some ⟨tb, 0, none⟩))] w fun ev w' => ev = .returned (.bool true) ∧ Kept (fun k => k = tb) w w' ∧ Row w' tb [.int .i64 x] 30 := by
  have h45 := @run_callFunc_extern Tryz.prog 170 _ (fun args => ReflectliteValue.unpack (args.getD 0 (.tuple #[]))) Tryz.func170 (by kernel_rfl) (by kernel_rfl) (by kernel_rfl) (by kernel_rfl)
  have h46 := @run_callFunc_extern Tryz.prog 171 _ (ReflectliteValue.methodAny (ReflectliteValue.valueError "reflectlite.Value.Type" 0) (fun t _ _ _ => ReflectliteType.toType t)) Tryz.func171 (by kernel_rfl) (by kernel_rfl) (by kernel_rfl) (by kernel_rfl)
  have h47 := @run_callFunc_extern Tryz.prog 172 _ (ReflectliteValue.method (ReflectliteValue.valueError "reflectlite.Value.IsNil" 0) ReflectliteValue.isNil) Tryz.func172 (by kernel_rfl) (by kernel_rfl) (by kernel_rfl) (by kernel_rfl)
  have h82 := @run_callFunc_extern Tryz.prog 227 _ (ReflectliteType.abiMethod fun t => do pure (.int .u8 (← Rtype.kind t))) Tryz.func227 (by kernel_rfl) (by kernel_rfl) (by kernel_rfl) (by kernel_rfl)
  have h97 := @run_callFunc_extern Tryz.prog 242 _ (ReflectliteType.method ReflectliteType.elem) Tryz.func242 (by kernel_rfl) (by kernel_rfl) (by kernel_rfl) (by kernel_rfl)
  have h98 := @run_callFunc_extern Tryz.prog 243 _ (ReflectliteType.relation "Implements" ReflectliteType.implements_) Tryz.func243 (by kernel_rfl) (by kernel_rfl) (by kernel_rfl) (by kernel_rfl)
  have f1 := valueOf_pE
  have f2 := type_pE
  have f3 := method_Kind
  have f4 := method_Elem
  have f5 := method_Implements
  have f6 := kind_pE
  have f7 := kind_E
  have f8 := elem_pE
  have f9 := implements_E
  obtain ⟨W1, hW1⟩ : ∃ W1, W1 = w.alloc (.cells #[.pointer (some ⟨tb, 0, none⟩)] 189) := ⟨_, rfl⟩
  obtain ⟨W2, hW2⟩ : ∃ W2, W2 = W1.alloc (.cells #[.pointer (some ⟨3, 189, none⟩), .pointer (some ⟨w.heap.size, 0, none⟩), .int .u64 150] 226) := ⟨_, rfl⟩
  have b2 : Below w.heap.size w W2 := by rw [hW2, hW1]; exact Below.after (below_new _ _) (below_new _ _)
  have ra : Row W2 w.heap.size [.pointer (some ⟨tb, 0, none⟩)] 189 := by rw [hW2, hW1]; exact (Row.new w [_] _).alloc _
  have n8 := isNil_pE ⟨w.heap.size, 0, none⟩ ⟨tb, 0, none⟩ W2 (ra.cell (i := 0) rfl)
  have hg2 : W2.cell? ⟨1, 0, none⟩ = some (.iface 252 (.agg #[.pointer (some ⟨3, 111, none⟩)])) := hg.later b2
  have cA := as_failure b what block x tb w.heap.size old W2 (hc.later b2) ra (ht.later b2)
  have HB : Hid (Below w.heap.size w W2) := b2
  clear b2 ra hc ht hg
  subst hW2 hW1
  go_enter Tryz.func140, Tryz.ntmps140
  go_wp2_with (go_at_call 173; refine cA.mono ?_; rintro ev w3 ⟨rfl, hk, hr⟩; have HK : Hid (Kept _ _ _) := hk; have HR : Hid (Row _ _ _ _) := hr; clear hk hr)
  go_ret
  exact ⟨rfl, (Kept.of_below HB.out).trans HK.out, HR.out⟩
end Go.Proofs.YteodcjbbkekidaaGreatDoor
namespace Go.Proofs.YteodcjbbkekidaaGreatDoor
open Go.RowKit
set_option maxRecDepth 10000

end Go.Proofs.YteodcjbbkekidaaGreatDoor
