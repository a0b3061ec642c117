/-
  What the model answers of reflectlite's calls at the manager's errors.
  errors.As at an error of the manager; the errno that it wraps; what a call says of it.
  A logical block has just these pages.
-/
import Derived.Test.YtkfecngkdlajgaaGreatDoorKC
import Derived.Test.YtkfecngkdlajgaaGreatDoorKI
import Derived.WalkKit
import Derived.LaidEql
import Derived.Stop.Asserts
import Derived.RowKitTokens
namespace Go.Proofs.YtkfecngkdlajgaaGreatDoor
open Go.RowKit Go.Extern.Stop Go.Stop Go.Extern
set_option maxRecDepth 10000

theorem valueOf_pE (t : Addr) (w : World) : (ReflectliteValue.unpack (.iface 219 (.pointer (some t)))).run Tryz.prog w = .ok (.agg #[.pointer (some ⟨3, 219, none⟩), .pointer (some ⟨w.heap.size, 0, none⟩), .int .u64 150]) (w.alloc (.cells #[.pointer (some t)] 219)) := by kernel_rfl
theorem type_pE (a : Addr) (w : World) : (ReflectliteValue.methodAny (ReflectliteValue.valueError "reflectlite.Value.Type" 0) (fun t _ _ _ => ReflectliteType.toType t) #[.agg #[.pointer (some ⟨3, 219, none⟩), .pointer (some a), .int .u64 150]]).run Tryz.prog w = .ok (.iface 228 (.agg #[.pointer (some ⟨3, 219, none⟩)])) w := by kernel_rfl
theorem method_Kind (h : Value) (w : World) : (Go.method 465 228 (.agg #[h]) "Kind").run Tryz.prog w = .ok (241, h) w := by kernel_rfl
theorem method_Elem (h : Value) (w : World) : (Go.method 465 228 (.agg #[h]) "Elem").run Tryz.prog w = .ok (251, .agg #[h]) w := by kernel_rfl
theorem method_Implements (h : Value) (w : World) : (Go.method 465 228 (.agg #[h]) "Implements").run Tryz.prog w = .ok (252, .agg #[h]) w := by kernel_rfl
theorem method_AssignableTo (h : Value) (w : World) : (Go.method 465 228 (.agg #[h]) "AssignableTo").run Tryz.prog w = .ok (249, .agg #[h]) w := by kernel_rfl
theorem kind_pE (w : World) : ((ReflectliteType.abiMethod fun t => (fun a : Nat => Value.int IntKind.u8 (a : Int)) <$> Rtype.kind t) #[.pointer (some ⟨3, 219, none⟩)]).run Tryz.prog w = .ok (.int .u8 22) w := by kernel_rfl
theorem kind_E (w : World) : ((ReflectliteType.abiMethod fun t => (fun a : Nat => Value.int IntKind.u8 (a : Int)) <$> Rtype.kind t) #[.pointer (some ⟨3, 30, none⟩)]).run Tryz.prog w = .ok (.int .u8 2) w := by kernel_rfl
theorem elem_pE (w : World) : (ReflectliteType.method ReflectliteType.elem #[.agg #[.pointer (some ⟨3, 219, none⟩)]]).run Tryz.prog w = .ok (.iface 228 (.agg #[.pointer (some ⟨3, 30, none⟩)])) w := by kernel_rfl
theorem implements_E (w : World) : (ReflectliteType.relation "Implements" ReflectliteType.implements_ #[.agg #[.pointer (some ⟨3, 30, none⟩)], .iface 228 (.agg #[.pointer (some ⟨3, 82, none⟩)])]).run Tryz.prog w = .ok (.bool true) w := by kernel_rfl
theorem typeOf_E (v : Value) (w : World) : (ReflectliteType.typeOf #[.iface 30 v]).run Tryz.prog w = .ok (.iface 228 (.agg #[.pointer (some ⟨3, 30, none⟩)])) w := by kernel_rfl
theorem assignable_E_E (w : World) : (ReflectliteType.relation "AssignableTo" ReflectliteType.assignableTo #[.agg #[.pointer (some ⟨3, 30, none⟩)], .iface 228 (.agg #[.pointer (some ⟨3, 30, none⟩)])]).run Tryz.prog w = .ok (.bool true) w := by kernel_rfl
theorem typeOf_F (v : Value) (w : World) : (ReflectliteType.typeOf #[.iface 283 v]).run Tryz.prog w = .ok (.iface 228 (.agg #[.pointer (some ⟨3, 283, none⟩)])) w := by kernel_rfl
theorem assignable_F_E (w : World) : (ReflectliteType.relation "AssignableTo" ReflectliteType.assignableTo #[.agg #[.pointer (some ⟨3, 283, none⟩)], .iface 228 (.agg #[.pointer (some ⟨3, 30, none⟩)])]).run Tryz.prog w = .ok (.bool false) w := by kernel_rfl
theorem valueOf_E (e : Int) (w : World) : (ReflectliteValue.unpack (.iface 30 (.int .i64 e))).run Tryz.prog w = .ok (.agg #[.pointer (some ⟨3, 30, none⟩), .pointer (some ⟨w.heap.size, 0, none⟩), .int .u64 130]) (w.alloc (.cells #[.int .i64 e] 30)) := by kernel_rfl
theorem rlm (z : Sem Value) (f : TypeId → Addr → Nat → Nat → Sem Value) (v : Value) :
    ReflectliteValue.method z f #[v] = (do match ← ReflectliteValue.parts v with | none => z | some (t, a, fl) => f t a fl (fl % 32)) := rfl
theorem rls (v x : Value) : ReflectliteValue.set #[v, x] = (do
    let (some (dst, a, fl), some (src, b, _)) := (← ReflectliteValue.parts v, ← ReflectliteValue.parts x)
      | unsupported (.noEntry "extern/(internal/reflectlite.Value).Set.zeroValue")
    if fl / ReflectliteValue.flagAddr % 2 == 0 then unsupported (.noEntry "extern/(internal/reflectlite.Value).Set.unaddressable")
    let val ← loadVar src b
    if ← Rtype.directlyAssignable dst src then storeVar dst a val
    else if ← Rtype.implements dst src then
      if (← Rtype.kind src) == 20 then
        match val with
        | .nilIface => unsupported (.noEntry "extern/reflectlite: a nil value of one interface type handed on as a value of another")
        | _ => storeVar dst a val
      else storeVar dst a (.iface src val)
    else panicString ("reflectlite.Set: value of type " ++ (← Rtype.spelt src) ++ " is not assignable to type " ++ (← Rtype.spelt dst))
    pure (.tuple #[])) := rfl
theorem parts_pE (a : Addr) (w : World) : (ReflectliteValue.parts (.agg #[.pointer (some ⟨3, 219, none⟩), .pointer (some a), .int .u64 150])).run Tryz.prog w = .ok (some (219, a, 150)) w := by kernel_rfl
theorem isNil_pE (a p : Addr) (W : World) (ha : W.cell? a = some (.pointer (some p))) :
    (ReflectliteValue.method (ReflectliteValue.valueError "reflectlite.Value.IsNil" 0) ReflectliteValue.isNil #[.agg #[.pointer (some ⟨3, 219, none⟩), .pointer (some a), .int .u64 150]]).run Tryz.prog W = .ok (.bool false) W := by
  rw [rlm]
  simp only [Sem.run_bind, parts_pE, Result.andThen]
  simp [ReflectliteValue.isNil, loadVar, isAgg, underlying, Tryz.underlying219, ha, Result.andThen]
theorem elemOf_pE (w : World) : (Rtype.elem? 219).run Tryz.prog w = .ok (some 30) w := by kernel_rfl
theorem mk_E (p : Addr) (w : World) : (ReflectliteValue.mk 30 p ReflectliteValue.flagAddr).run Tryz.prog w = .ok (.agg #[.pointer (some ⟨3, 30, none⟩), .pointer (some p), .int .u64 386]) w := by kernel_rfl
theorem elemV_pE (a p : Addr) (W : World) (ha : W.cell? a = some (.pointer (some p))) :
    (ReflectliteValue.method (ReflectliteValue.valueError "reflectlite.Value.Elem" 0) ReflectliteValue.elem #[.agg #[.pointer (some ⟨3, 219, none⟩), .pointer (some a), .int .u64 150]]).run Tryz.prog W
      = .ok (.agg #[.pointer (some ⟨3, 30, none⟩), .pointer (some p), .int .u64 386]) W := by
  rw [rlm]
  simp only [Sem.run_bind, parts_pE, Result.andThen]
  simp [ReflectliteValue.elem, loadVar, isAgg, underlying, Tryz.underlying219, ha, Result.andThen, elemOf_pE, mk_E]
theorem partsA_E (a : Addr) (w : World) : (ReflectliteValue.parts (.agg #[.pointer (some ⟨3, 30, none⟩), .pointer (some a), .int .u64 386])).run Tryz.prog w = .ok (some (30, a, 386)) w := by kernel_rfl
theorem parts_E (a : Addr) (w : World) : (ReflectliteValue.parts (.agg #[.pointer (some ⟨3, 30, none⟩), .pointer (some a), .int .u64 130])).run Tryz.prog w = .ok (some (30, a, 130)) w := by kernel_rfl
theorem direct_E (w : World) : (Rtype.directlyAssignable 30 30).run Tryz.prog w = .ok true w := by kernel_rfl
theorem set_E (ta b : Addr) (v : Int) (old : Value) (W : World) (hb : W.cell? b = some (.int .i64 v)) (ht : W.cell? ta = some old) (hf : W.frozen? ta = false) :
    (ReflectliteValue.set #[.agg #[.pointer (some ⟨3, 30, none⟩), .pointer (some ta), .int .u64 386], .agg #[.pointer (some ⟨3, 30, none⟩), .pointer (some b), .int .u64 130]]).run Tryz.prog W
      = .ok (.tuple #[]) (W.setCell ta (.int .i64 v)) := by
  rw [rls]
  simp only [Sem.run_bind, partsA_E, parts_E, Result.andThen]
  simp [ReflectliteValue.flagAddr, loadVar, isAgg, underlying, Tryz.underlying30, hb, Result.andThen, direct_E, storeVar, Value.cells, storeCells, Addr.add]
  rw [run_store Tryz.prog W ta _ _ (by rfl)]
  simp [ht, hf]
theorem assert_F_As (v : Value) (xT : TypeId) (w : World) : (Instr.typeAssert (.iface 283 v) xT 300 true).run Tryz.prog w = .ok (.tuple #[.nilIface, .bool false]) w := run_typeAssert_lacksB Tryz.underlying300 (by kernel_rfl) (by kernel_rfl) v xT w
end Go.Proofs.YtkfecngkdlajgaaGreatDoor
namespace Go.Proofs.YtkfecngkdlajgaaGreatDoor
open Go.RowKit Go.Extern.Stop Go.Stop Go.Extern
set_option maxRecDepth 10000

/-- package errors' own variable holds the type 'error'. -/
def Typed (w : World) : Prop := w.cell? ⟨1, 0, none⟩ = some (.iface 228 (.agg #[.pointer (some ⟨3, 82, none⟩)]))
theorem Typed.pos {w : World} (h : Typed w) : 1 < w.heap.size := World.block_lt_of_cell? w _ h
theorem Typed.later {w w' : World} (h : Typed w) (hb : Below w.heap.size w w') : Typed w' := by
  unfold Typed
  rw [hb.cell (p := ⟨1, 0, none⟩) h.pos]
  exact h
theorem Typed.keep {S : Nat → Prop} {w w' : World} (h : Typed w) (hk : Kept S w w') (hn : ¬ S 1) : Typed w' := by
  unfold Typed
  rw [World.cell?_of_block (w := w) (hk.block 1 h.pos hn)]
  exact h
set_option maxHeartbeats 4000000 in
theorem as_failure (b : Nat) (what : ByteArray) (block x : Int) (tb a : Nat) (old : Int) (w : World) (r : Row w b [.string what, .int .i64 block, .iface 30 (.int .i64 x)] 285)
    (ha : Row w a [.pointer (some ⟨tb, 0, none⟩)] 219) (ht : Row w tb [.int .i64 old] 30) :
    Calls Tryz.prog 175 #[.iface 283 (.pointer (some ⟨b, 0, none⟩)), .iface 219 (.pointer (some ⟨tb, 0, none⟩)), .agg #[.pointer (some ⟨3, 219, none⟩), .pointer (some ⟨a, 0, none⟩), .int .u64 150], .iface 228 (.agg #[.pointer (some ⟨3, 30, none⟩)])] w
      fun ev w' => ev = .returned (.bool true) ∧ Kept (fun k => k = tb) w w' ∧ Row w' tb [.int .i64 x] 30 := by
  have h36 := @run_callFunc_extern Tryz.prog 102 _ ReflectliteType.typeOf Tryz.func102 (by kernel_rfl) (by kernel_rfl) (by kernel_rfl) (by kernel_rfl)
  have h95 := @run_callFunc_extern Tryz.prog 249 _ (ReflectliteType.relation "AssignableTo" ReflectliteType.assignableTo) Tryz.func249 (by kernel_rfl) (by kernel_rfl) (by kernel_rfl) (by kernel_rfl)
  have h45 := @run_callFunc_extern Tryz.prog 172 _ (fun args => ReflectliteValue.unpack (args.getD 0 (.tuple #[]))) Tryz.func172 (by kernel_rfl) (by kernel_rfl) (by kernel_rfl) (by kernel_rfl)
  have h54 := @run_callFunc_extern Tryz.prog 202 _ (ReflectliteValue.method (ReflectliteValue.valueError "reflectlite.Value.Elem" 0) ReflectliteValue.elem) Tryz.func202 (by kernel_rfl) (by kernel_rfl) (by kernel_rfl) (by kernel_rfl)
  have h55 := @run_callFunc_extern Tryz.prog 203 _ ReflectliteValue.set Tryz.func203 (by kernel_rfl) (by kernel_rfl) (by kernel_rfl) (by kernel_rfl)
  have mA := method_AssignableTo
  have hlt := ha.lt
  have hltt := ht.lt
  have HR0 : Hid (Row w b [.string what, .int .i64 block, .iface 30 (.int .i64 x)] 285) := r
  have HA : Hid (Row w a [.pointer (some ⟨tb, 0, none⟩)] 219) := ha
  have HT : Hid (Row w tb [.int .i64 old] 30) := ht
  clear r ha ht
  go_enter Tryz.func175, Tryz.ntmps175
  go_wp2
  go_loopg [0] 1 (fun gm s0 wr => Hid ((gm = 1 ∧ s0 = .iface 283 (.pointer (some ⟨b, 0, none⟩))) ∨ (gm = 0 ∧ s0 = .iface 30 (.int .i64 x))) ∧ Hid (Row wr b [.string what, .int .i64 block, .iface 30 (.int .i64 x)] 285) ∧ Hid (Row wr w.heap.size [.pointer (some ⟨3, 219, none⟩), .pointer (some ⟨a, 0, none⟩), .int .u64 150] 265) ∧ Hid (Row wr a [.pointer (some ⟨tb, 0, none⟩)] 219) ∧ Hid (Row wr tb [.int .i64 old] 30) ∧ Hid (Kept (fun k => k = tb) w wr))
  case atStart =>
    exact ⟨.inl ⟨rfl, rfl⟩, HR0.out.alloc _, Row.new w [_, _, _] _, HA.out.alloc _, HT.out.alloc _, (Kept.refl _ _).alloc _⟩
  case round =>
    obtain ⟨HS, HF, HR, HA', HT', HK⟩ := hrel
    clear HA HT HR0
    have r0 : wr.cell? ⟨w.heap.size, 0, none⟩ = some (.pointer (some ⟨3, 219, none⟩)) := HR.out.cell (i := 0) rfl
    have r1 : wr.cell? ⟨w.heap.size, 1, none⟩ = some (.pointer (some ⟨a, 0, none⟩)) := HR.out.cell (i := 1) rfl
    have r2 : wr.cell? ⟨w.heap.size, 2, none⟩ = some (.int .u64 150) := HR.out.cell (i := 2) rfl
    rcases HS.out with ⟨h1, rfl⟩ | ⟨h1, rfl⟩
    · have tO := typeOf_F
      have aE := assignable_F_E
      have s1 := assert_F_As
      have s2 := assert_F_U1
      have uF := unwrap_F
      have HG : Hid (gk = 1) := h1
      have cU := unwrapF_any b what block x wr HF.out
      clear h1 HS
      go_wp2_with (go_at_call 265; refine cU.mono ?_; rintro e w' ⟨rfl, rfl⟩)
      go_roundg 0
      case measure => have := HG.out; omega
      case rel => exact ⟨.inr ⟨rfl, rfl⟩, HF, HR, HA', HT', HK⟩
    · have tO := typeOf_E
      have aE := assignable_E_E
      have el := elemV_pE ⟨a, 0, none⟩ ⟨tb, 0, none⟩ wr (HA'.out.cell (i := 0) rfl)
      have vE := valueOf_E x wr
      have st := set_E ⟨tb, 0, none⟩ ⟨wr.heap.size, 0, none⟩ x (.int .i64 old) (wr.alloc (.cells #[.int .i64 x] 30)) (by simp) ((HT'.out.alloc _).cell (i := 0) rfl) ((HT'.out.alloc _).frozen 0)
      clear h1 HS
      go_wp2
      go_ret
      exact ⟨rfl, (HK.out.alloc _).setCell rfl _, (HT'.out.alloc _).set (i := 0) _ (by simp)⟩
theorem as_nil (t : Value) (w : World) : Calls Tryz.prog 133 #[.nilIface, t] w fun e w' => e = .returned (.bool false) ∧ w = w' := by
  go_enter Tryz.func133, Tryz.ntmps133
  go_wp2
  go_ret
  exact ⟨rfl, rfl⟩
set_option maxHeartbeats 4000000 in
theorem As_failure (b : Nat) (what : ByteArray) (block x : Int) (tb : Nat) (old : Int) (w : World) (hg : Typed w) (hc : Row w b [.string what, .int .i64 block, .iface 30 (.int .i64 x)] 285) (ht : Row w tb [.int .i64 old] 30) :
    Calls Tryz.prog 133 #[.iface 283 (.pointer (some ⟨b, 0, none⟩)), .iface 219 (.pointer (some ⟨tb, 0, none⟩))] w fun ev w' => ev = .returned (.bool true) ∧ Kept (fun k => k = tb) w w' ∧ Row w' tb [.int .i64 x] 30 := by
  have h45 := @run_callFunc_extern Tryz.prog 172 _ (fun args => ReflectliteValue.unpack (args.getD 0 (.tuple #[]))) Tryz.func172 (by kernel_rfl) (by kernel_rfl) (by kernel_rfl) (by kernel_rfl)
  have h46 := @run_callFunc_extern Tryz.prog 173 _ (ReflectliteValue.methodAny (ReflectliteValue.valueError "reflectlite.Value.Type" 0) (fun t _ _ _ => ReflectliteType.toType t)) Tryz.func173 (by kernel_rfl) (by kernel_rfl) (by kernel_rfl) (by kernel_rfl)
  have h47 := @run_callFunc_extern Tryz.prog 174 _ (ReflectliteValue.method (ReflectliteValue.valueError "reflectlite.Value.IsNil" 0) ReflectliteValue.isNil) Tryz.func174 (by kernel_rfl) (by kernel_rfl) (by kernel_rfl) (by kernel_rfl)
  have h82 := @run_callFunc_extern Tryz.prog 241 _ (ReflectliteType.abiMethod fun t => do pure (.int .u8 (← Rtype.kind t))) Tryz.func241 (by kernel_rfl) (by kernel_rfl) (by kernel_rfl) (by kernel_rfl)
  have h97 := @run_callFunc_extern Tryz.prog 251 _ (ReflectliteType.method ReflectliteType.elem) Tryz.func251 (by kernel_rfl) (by kernel_rfl) (by kernel_rfl) (by kernel_rfl)
  have h98 := @run_callFunc_extern Tryz.prog 252 _ (ReflectliteType.relation "Implements" ReflectliteType.implements_) Tryz.func252 (by kernel_rfl) (by kernel_rfl) (by kernel_rfl) (by kernel_rfl)
  have f1 := valueOf_pE
  have f2 := type_pE
  have f3 := method_Kind
  have f4 := method_Elem
  have f5 := method_Implements
  have f6 := kind_pE
  have f7 := kind_E
  have f8 := elem_pE
  have f9 := implements_E
  obtain ⟨W1, hW1⟩ : ∃ W1, W1 = w.alloc (.cells #[.pointer (some ⟨tb, 0, none⟩)] 219) := ⟨_, rfl⟩
  obtain ⟨W2, hW2⟩ : ∃ W2, W2 = W1.alloc (.cells #[.pointer (some ⟨3, 219, none⟩), .pointer (some ⟨w.heap.size, 0, none⟩), .int .u64 150] 265) := ⟨_, rfl⟩
  have b2 : Below w.heap.size w W2 := by rw [hW2, hW1]; exact Below.after (below_new _ _) (below_new _ _)
  have ra : Row W2 w.heap.size [.pointer (some ⟨tb, 0, none⟩)] 219 := by rw [hW2, hW1]; exact (Row.new w [_] _).alloc _
  have n8 := isNil_pE ⟨w.heap.size, 0, none⟩ ⟨tb, 0, none⟩ W2 (ra.cell (i := 0) rfl)
  have hg2 : W2.cell? ⟨1, 0, none⟩ = some (.iface 228 (.agg #[.pointer (some ⟨3, 82, none⟩)])) := hg.later b2
  have cA := as_failure b what block x tb w.heap.size old W2 (hc.later b2) ra (ht.later b2)
  have HB : Hid (Below w.heap.size w W2) := b2
  clear b2 ra hc ht hg
  subst hW2 hW1
  go_enter Tryz.func133, Tryz.ntmps133
  go_wp2_with (go_at_call 175; refine cA.mono ?_; rintro ev w3 ⟨rfl, hk, hr⟩; have HK : Hid (Kept _ _ _) := hk; have HR : Hid (Row _ _ _ _) := hr; clear hk hr)
  go_ret
  exact ⟨rfl, (Kept.of_below HB.out).trans HK.out, HR.out⟩
end Go.Proofs.YtkfecngkdlajgaaGreatDoor
namespace Go.Proofs.YtkfecngkdlajgaaGreatDoor
open Go.RowKit
set_option maxRecDepth 10000

theorem feeds_given {base : Nat} {w w1 : World} {m : Mg} {c : CS} (h : MLies base w m c) (B cap : Nat) (a : Option Addr) (L : List (List Nat)) (hL : L.length ≤ 64) (hd : PDt (MFoot m c) w1 a L) (hB : w1.cell? ⟨B, 0, none⟩ = some (.slice a L.length cap)) (hBw : w.heap.size ≤ B) (leb p q : Int) :
    Feeds base w1 m c none L (.agg #[.int .i64 leb, .int .i64 p, .int .i64 q, .func (.func 115) #[] #[.pointer (some ⟨B, 0, none⟩)]]) := by
  intro W m' c' n i x hW h2 h3 hkp hp hon' hx
  have hi : i < L.length := (List.getElem?_eq_some_iff.1 hx).1
  have hd' := hd.kept hkp
  rcases hd' with e | ⟨b, off, e, hn, hc⟩
  · rw [e] at hx; simp at hx
  · obtain ⟨ai, ki, q1, q2⟩ := hc i x hx
    have hB' := cell_kept hkp (MFoot_new h hBw) hB
    rw [e] at hB'
    have hmf := MFoot_eq h2 h3 hp.foot
    have := transfer_given hW n i (by omega) leb p q x B L.length b off cap ki ai hB' hi q1 (by rw [hmf]; exact q2)
    rw [h2] at this
    exact this
theorem drop_any {base : Nat} {w : World} {m : Mg} {c : CS} (h : MLies base w m c) (n : Int) (hn : n < 0 ∨ ∃ (i q : Nat) (o : Bl), n = i ∧ m.bl[i]? = some o ∧ o.cnt = q ∧ q ≤ 2147483647) (hz : 64 ≤ c.gz) :
    Calls Tryz.prog 80 #[.pointer (some ⟨m.p, 0, none⟩), .int .i64 n] w (EPost base w m c (dropM m c n)) := by
  unfold dropM
  rcases hn with hn | ⟨i, q, o, rfl, ho, hq, hq2⟩
  · rw [if_pos hn]
    refine (mdrop_none h n hn).mono ?_
    rintro e w' ⟨v, rfl, he, hl, hk, hf⟩
    exact ⟨v, rfl, he, hl, rfl, rfl, hk, hf⟩
  · rw [if_neg (by omega), Int.toNat_natCast, ho]
    simp only [Option.getD_some]
    rw [hq, Int.toNat_natCast]
    refine (mdrop_some h i q o ho hq hq2 hz).mono ?_
    rintro e w' ⟨v, rfl, he, hl, hk, hf⟩
    refine ⟨v, rfl, he, hl, ?_, ?_, hk, hf⟩
    · unfold freeM endM; repeat' split
      all_goals rfl
    · unfold freeM endM; repeat' split
      all_goals rfl
set_option maxHeartbeats 2000000 in
theorem mreplace_any {base : Nat} {w : World} {m : Mg} {c : CS} (h : MLies base w m c) (leb cap : Nat) (a : Option Addr) (L : List (List Nat)) (hd : PDt (MFoot m c) w a L) (hL : L.length ≤ 64) (hs : m.seq + 258 < 18446744073709551616) (hle : leb ≤ 255) (hz : 64 ≤ c.gz)
    (hdr : (settleM leb L.length L m c).2.1 = 0 → (findI m.bl (leb : Nat) < 0 ∨ ∃ (i q : Nat) (o : Bl), findI m.bl (leb : Nat) = i ∧ (settleM leb L.length L m c).2.2.1.bl[i]? = some o ∧ o.cnt = q ∧ q ≤ 2147483647)) :
    Calls Tryz.prog 43 #[.pointer (some ⟨m.p, 0, none⟩), .int .i64 (leb : Nat), .slice a L.length cap] w (EPost base w m c (replaceM m c leb L)) := by
  obtain ⟨_, c1, _, _⟩ := h.cells
  have hgs := h.chip.good.gs
  have hlen := h.len
  have k1 := find_any m.bl.length m.bcap m.bl (some ⟨m.bb, 0, none⟩) (leb : Nat) rfl (by omega) w h.lrow
  have kg := fun W => given_any (leb : Nat) a L.length cap W
  have HSt : Hid (∀ W1 W B, Below w.heap.size w W1 → Below W1.heap.size W1 W → W.cell? ⟨B, 0, none⟩ = some (.slice a L.length cap) → W1.heap.size ≤ B → Calls Tryz.prog 78 #[.pointer (some ⟨m.p, 0, none⟩), .agg #[.int .i64 (leb : Nat), .int .i64 (L.length : Nat), .int .i64 (L.length : Nat), .func (.func 115) #[] #[.pointer (some ⟨B, 0, none⟩)]]] W (LPost base W m c none (settleM leb L.length L m c))) := fun W1 W B hb1 hb h1 h3 => by
    have hF := feeds_given (w := W1) (w1 := W) (h.later hb1) B cap a L hL (hd.kept (.of_below (Below.after hb1 hb))) h1 h3 leb L.length L.length
    have hly : Ly base W m c none W m c := ⟨h.later (Below.after hb1 hb), rfl, rfl, Kept.refl _ _, Pass.refl _ _, fun k hk => by cases hk⟩
    exact msettle_any hly leb L.length L (.func (.func 115) #[] #[.pointer (some ⟨B, 0, none⟩)]) hs hle hL hz hL hF
  have hR : replaceM m c leb L = if (settleM leb L.length L m c).2.1 = 0 then dropM (settleM leb L.length L m c).2.2.1 (settleM leb L.length L m c).2.2.2 (findI m.bl leb) else (settleM leb L.length L m c).2 := rfl
  obtain ⟨S, hS⟩ : ∃ S, S = settleM leb L.length L m c := ⟨_, rfl⟩
  rw [← hS] at HSt hR hdr
  obtain ⟨F, hF⟩ : ∃ F, F = findI m.bl (leb : Nat) := ⟨_, rfl⟩
  rw [← hF] at k1 hR hdr
  obtain ⟨R, hRR⟩ : ∃ R, R = replaceM m c leb L := ⟨_, rfl⟩
  rw [← hRR] at hR ⊢
  have HZ : Hid (64 ≤ c.gz) := hz
  obtain ⟨ll, hll⟩ : ∃ ll, ll = L.length := ⟨_, rfl⟩
  rw [← hll] at HSt kg ⊢
  by_cases h0 : S.2.1 = 0
  · have HR : Hid (R = dropM S.2.2.1 S.2.2.2 F ∧ S.2.1 = 0) := ⟨by rw [hR, if_pos h0], h0⟩
    have HDr : Hid (F < 0 ∨ ∃ (i q : Nat) (o : Bl), F = i ∧ S.2.2.1.bl[i]? = some o ∧ o.cnt = q ∧ q ≤ 2147483647) := hdr h0
    clear h hgs hlen hd hL hs hle hz hdr hR hS hF hRR hll h0
    go_enter Tryz.func43, Tryz.ntmps43
    go_wp2_with (first
      | (go_at_call 77; refine k1.mono ?_; rintro e w1 ⟨rfl, hb⟩; have HB1 : Hid (Below w.heap.size w w1) := hb; clear hb c1 k1)
      | (go_at_call 79; refine (kg w1).mono ?_; rintro e w2 ⟨B, rfl, q1, q2⟩; have HQ : Hid (Below w1.heap.size w1 w2) := q2.1; have kS := HSt.out w1 w2 B HB1.out q2.1 q1 q2.2; clear q1 q2)
      | (go_at_call 78; refine kS.mono ?_; rintro e w3 ⟨v, rfl, he, hl⟩; rw [HR.out.2] at he; obtain rfl := he.nil; have HL : Hid (Ly base w2 m c none w3 S.2.2.1 S.2.2.2) := hl; have kD := drop_any hl.ml F HDr.out (by rw [hl.ps.gz]; exact HZ.out); rw [hl.p, ← HR.out.1] at kD; clear he hl)
      | (go_at_call 80; refine kD.mono ?_; rintro e w4 ⟨v4, rfl, he4, hx4⟩; have HX : Hid (ErrV w4 v4 R.1 ∧ Ex base w3 S.2.2.1 S.2.2.2 w4 R.2.1 R.2.2) := ⟨he4, hx4⟩; clear he4 hx4))
    go_ret
    have hmf := MFoot_eq HL.out.p HL.out.bb HL.out.ps.foot
    exact ⟨v4, rfl, HX.out.1, ⟨HX.out.2.ml, HX.out.2.p.trans HL.out.p, HX.out.2.bb.trans HL.out.bb, ((Kept.of_below (Below.after HB1.out HQ.out)).trans HL.out.kp).trans (hmf ▸ HX.out.2.kp), HX.out.2.ft.trans HL.out.ps.foot⟩⟩
  · have HR : Hid (R = S.2 ∧ S.2.1 ≠ 0) := ⟨by rw [hR, if_neg h0], h0⟩
    clear h hgs hlen hd hL hs hle hz hdr hR hS hF hRR hll h0
    go_enter Tryz.func43, Tryz.ntmps43
    go_wp2_with (first
      | (go_at_call 77; refine k1.mono ?_; rintro e w1 ⟨rfl, hb⟩; have HB1 : Hid (Below w.heap.size w w1) := hb; clear hb c1 k1)
      | (go_at_call 79; refine (kg w1).mono ?_; rintro e w2 ⟨B, rfl, q1, q2⟩; have HQ : Hid (Below w1.heap.size w1 w2) := q2.1; have kS := HSt.out w1 w2 B HB1.out q2.1 q1 q2.2; clear q1 q2)
      | (go_at_call 78; refine kS.mono ?_; rintro e w3 ⟨v, rfl, he, hl⟩; obtain ⟨B3, rfl⟩ := he.some HR.out.2; have HL : Hid (Ly base w2 m c none w3 S.2.2.1 S.2.2.2 ∧ ErrV w3 (.iface 283 (.pointer (some ⟨B3, 0, none⟩))) S.2.1) := ⟨hl, he⟩; clear he hl))
    go_ret
    rw [HR.out.1]
    exact ⟨_, rfl, HL.out.2, ⟨HL.out.1.ml, HL.out.1.p, HL.out.1.bb, (Kept.of_below (Below.after HB1.out HQ.out)).trans HL.out.1.kp, HL.out.1.ps.foot⟩⟩
end Go.Proofs.YtkfecngkdlajgaaGreatDoor
