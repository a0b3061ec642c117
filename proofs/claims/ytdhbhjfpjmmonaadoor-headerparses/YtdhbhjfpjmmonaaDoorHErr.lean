/-
  Errors that errors.Is finds EINVAL in: the program's own one, and errors.Join's. What the model answers of the library's looks at them.
-/
import Derived.Test.YtdhbhjfpjmmonaaDoorHMem
import Derived.LaidEql
import Derived.Stop.Asserts
import Derived.RowKitTokens
import Derived.Deep.LoopGhost
namespace Go.Proofs.YtdhbhjfpjmmonaaDoor
open Go.RowKit Go.Extern.Stop Go.Stop Go.Extern

theorem typeOf_E (v : Value) (w : World) : (ReflectliteType.typeOf #[.iface 26 v]).run Tryd.prog w = .ok (.iface 84 (.agg #[.pointer (some ⟨1, 26, none⟩)])) w := by kernel_rfl
theorem method_Comparable (h : Value) (w : World) : (Go.method 231 84 (.agg #[h]) "Comparable").run Tryd.prog w = .ok (73, .agg #[h]) w := by kernel_rfl
theorem comparable_E (w : World) : (ReflectliteType.method (fun t => do Rtype.noPackHeld "Comparable" t; pure (.bool (← typeInfo t).comparable)) #[.agg #[.pointer (some ⟨1, 26, none⟩)]]).run Tryd.prog w = .ok (.bool true) w := by kernel_rfl
theorem assert_W_Is (v : Value) (xT : TypeId) (w : World) : (Instr.typeAssert (.iface 73 v) xT 86 true).run Tryd.prog w = .ok (.tuple #[.nilIface, .bool false]) w := run_typeAssert_lacksB Tryd.underlying86 (by kernel_rfl) (by kernel_rfl) v xT w
theorem assert_W_U1 (v : Value) (xT : TypeId) (w : World) : (Instr.typeAssert (.iface 73 v) xT 89 true).run Tryd.prog w = .ok (.tuple #[.iface 73 v, .bool true]) w := run_typeAssert_hasB Tryd.underlying89 (by kernel_rfl) v xT w
theorem assert_J_Is (v : Value) (xT : TypeId) (w : World) : (Instr.typeAssert (.iface 64 v) xT 86 true).run Tryd.prog w = .ok (.tuple #[.nilIface, .bool false]) w := run_typeAssert_lacksB Tryd.underlying86 (by kernel_rfl) (by kernel_rfl) v xT w
theorem assert_J_U1 (v : Value) (xT : TypeId) (w : World) : (Instr.typeAssert (.iface 64 v) xT 89 true).run Tryd.prog w = .ok (.tuple #[.nilIface, .bool false]) w := run_typeAssert_lacksB Tryd.underlying89 (by kernel_rfl) (by kernel_rfl) v xT w
theorem assert_J_U2 (v : Value) (xT : TypeId) (w : World) : (Instr.typeAssert (.iface 64 v) xT 91 true).run Tryd.prog w = .ok (.tuple #[.iface 64 v, .bool true]) w := run_typeAssert_hasB Tryd.underlying91 (by kernel_rfl) v xT w
theorem unwrap_W (h : Value) (w : World) : (Go.method 231 73 h "Unwrap").run Tryd.prog w = .ok (69, h) w := by kernel_rfl
theorem unwrap_J (h : Value) (w : World) : (Go.method 231 64 h "Unwrap").run Tryd.prog w = .ok (67, h) w := by kernel_rfl
/-- Two errnos, as errors, are alike as their numbers are. -/
theorem eql_int (w : World) (a b : Int) : (binOp .eql 46 (.iface 26 (.int .i64 a)) (.iface 26 (.int .i64 b))).run Tryd.prog w = .ok (.bool (a == b)) w := by
  obtain ⟨i, hi, hcmp⟩ : ∃ i, Tryd.prog.info? 26 = some i ∧ i.comparable = true := Option.map_eq_some_iff.1 (show (Tryd.prog.info? 26).map (·.comparable) = some true by kernel_rfl)
  have deep : ∀ k : Nat, (Op.equalIn (k + 2) 46 (.iface 26 (.int .i64 a)) (.iface 26 (.int .i64 b))).run Tryd.prog w = .ok (a == b) w := fun k => by
    simp [Op.equalIn, run_underlying Tryd.underlying46, run_underlying Tryd.underlying26, typeInfo, hi, hcmp]
  have top := deep 9998
  simp only [binOp, Op.equal, Op.maxDepth]
  simp [top]
theorem eql_types (tx ty : TypeId) (vx vy : Value) (hne : tx ≠ ty) (w : World) : (binOp .eql 46 (.iface tx vx) (.iface ty vy)).run Tryd.prog w = .ok (.bool false) w :=
  run_eql_iface_types tx ty vx vy Tryd.underlying46 hne w

/-- An error of this package's own that wraps EINVAL; or one of errors.Join's whose first one is such. -/
inductive Bad (w : World) : Value → Prop
  | wrong {b : Nat} {what : ByteArray} : Row w b [.string what, .iface 26 (.int .i64 22)] 75 → Bad w (.iface 73 (.pointer (some ⟨b, 0, none⟩)))
  | join {b g n cap : Nat} {v : Value} : Row w b [.slice (some ⟨g, 0, none⟩) n cap] 66 → Row w g [v] 46 → 1 ≤ n → n ≤ 2 → Bad w v → Bad w (.iface 64 (.pointer (some ⟨b, 0, none⟩)))
theorem Bad.later {w w' : World} {v : Value} (h : Bad w v) (hb : Below w.heap.size w w') : Bad w' v := by
  induction h with
  | wrong r => exact .wrong (r.later hb)
  | join r s h1 h2 _ ih => exact .join (r.later hb) (s.later hb) h1 h2 ih
theorem Bad.shape {w : World} {v : Value} (h : Bad w v) : ∃ t x, v = .iface t (.pointer (some x)) := by cases h <;> exact ⟨_, _, rfl⟩

theorem unwrapW_any (b : Nat) (what : ByteArray) (w : World) (h : Row w b [.string what, .iface 26 (.int .i64 22)] 75) :
    Calls Tryd.prog 69 #[.pointer (some ⟨b, 0, none⟩)] w fun e w' => e = .returned (.iface 26 (.int .i64 22)) ∧ w = w' := by
  have c2 : w.cell? ⟨b, 1, none⟩ = some (.iface 26 (.int .i64 22)) := h.cell (i := 1) rfl
  clear h
  go_enter Tryd.func69, Tryd.ntmps69
  go_wp2
  go_ret
  exact ⟨rfl, rfl⟩
theorem unwrapJ_any (b : Nat) (a : Option Addr) (n cap : Nat) (w : World) (h : Row w b [.slice a n cap] 66) :
    Calls Tryd.prog 67 #[.pointer (some ⟨b, 0, none⟩)] w fun e w' => e = .returned (.slice a n cap) ∧ w = w' := by
  have c2 : w.cell? ⟨b, 0, none⟩ = some (.slice a n cap) := h.cell (i := 0) rfl
  clear h
  go_enter Tryd.func67, Tryd.ntmps67
  go_wp2
  go_ret
  exact ⟨rfl, rfl⟩

set_option maxRecDepth 10000 in
set_option maxHeartbeats 4000000 in
theorem is_wrong (b : Nat) (what : ByteArray) (w : World) (r : Row w b [.string what, .iface 26 (.int .i64 22)] 75) :
    Calls Tryd.prog 45 #[.iface 73 (.pointer (some ⟨b, 0, none⟩)), .iface 26 (.int .i64 22), .bool true] w fun ev w' => ev = .returned (.bool true) ∧ w = w' := by
  have cU := unwrapW_any b what w r
  clear r
  go_enter Tryd.func45, Tryd.ntmps45
  go_wp2
  go_loopg [0] 1 (fun gm s0 wr => w = wr ∧ Hid ((gm = 1 ∧ s0 = .iface 73 (.pointer (some ⟨b, 0, none⟩))) ∨ (gm = 0 ∧ s0 = .iface 26 (.int .i64 22))))
  case atStart => exact ⟨rfl, .inl ⟨rfl, rfl⟩⟩
  case round =>
    obtain ⟨rfl, HS⟩ := hrel
    rcases HS.out with ⟨h1, rfl⟩ | ⟨h1, rfl⟩
    · have HG : Hid (gk = 1) := h1
      clear h1 HS
      have s0 := eql_types 73 26 (.pointer (some ⟨b, 0, none⟩)) (.int .i64 22) (by decide) w
      have s1 := assert_W_Is
      have s2 := assert_W_U1
      have uF := unwrap_W
      go_wp2_with (go_at_call 69; refine cU.mono ?_; rintro e w' ⟨rfl, rfl⟩)
      go_roundg 0
      case measure => have := HG.out; omega
      case rel => exact ⟨rfl, .inr ⟨rfl, rfl⟩⟩
    · clear h1 HS
      have s0 := eql_int w 22 22
      have hb : ((22 : Int) == 22) = true := rfl
      rw [hb] at s0
      go_wp2
      go_ret
      exact ⟨rfl, rfl⟩

set_option maxRecDepth 10000 in
set_option maxHeartbeats 4000000 in
theorem is_join (b g n cap : Nat) (v : Value) (w : World) (r : Row w b [.slice (some ⟨g, 0, none⟩) n cap] 66) (s : Row w g [v] 46) (h1 : 1 ≤ n) (_h2 : n ≤ 2) (hv : ∃ t x, v = .iface t (.pointer (some x)))
    (ih : Calls Tryd.prog 45 #[v, .iface 26 (.int .i64 22), .bool true] w fun ev w' => ev = .returned (.bool true) ∧ w = w') :
    Calls Tryd.prog 45 #[.iface 64 (.pointer (some ⟨b, 0, none⟩)), .iface 26 (.int .i64 22), .bool true] w fun ev w' => ev = .returned (.bool true) ∧ w = w' := by
  have cU := unwrapJ_any b _ n cap w r
  have hc : w.cell? ⟨g, 0, none⟩ = some v := s.cell (i := 0) rfl
  clear r s
  obtain ⟨t, x, rfl⟩ := hv
  have s0 := eql_types 64 26 (.pointer (some ⟨b, 0, none⟩)) (.int .i64 22) (by decide) w
  have s1 := assert_J_Is
  have s2 := assert_J_U1
  have s3 := assert_J_U2
  have uF := unwrap_J
  go_enter Tryd.func45, Tryd.ntmps45
  go_wp2
  refine wp_loop_rounds 1 ?_
  rw [rounds_succ]
  go_wp2_with (go_at_call 67; refine cU.mono ?_; rintro e w' ⟨rfl, rfl⟩)
  refine wp_loop_rounds 1 ?_
  rw [rounds_succ]
  go_wp2_with (go_at_call 45; refine ih.mono ?_; rintro e w' ⟨rfl, rfl⟩)
  go_ret
  exact ⟨rfl, rfl⟩

theorem is_bad {w : World} {v : Value} (h : Bad w v) : Calls Tryd.prog 45 #[v, .iface 26 (.int .i64 22), .bool true] w fun ev w' => ev = .returned (.bool true) ∧ w = w' := by
  induction h with
  | wrong r => exact is_wrong _ _ w r
  | join r s h1 h2 hv ih => exact is_join _ _ _ _ _ w r s h1 h2 hv.shape ih

set_option maxRecDepth 10000 in
set_option maxHeartbeats 4000000 in
theorem Is_bad {w : World} {v : Value} (h : Bad w v) :
    Calls Tryd.prog 32 #[v, .iface 26 (.int .i64 22)] w fun ev w' => ev = .returned (.bool true) ∧ w = w' := by
  have h36 := @run_callFunc_extern Tryd.prog 44 _ ReflectliteType.typeOf Tryd.func44 (by kernel_rfl) (by kernel_rfl) (by kernel_rfl) (by kernel_rfl)
  have h96 := @run_callFunc_extern Tryd.prog 73 _ (ReflectliteType.method (fun t => do Rtype.noPackHeld "Comparable" t; pure (.bool (← typeInfo t).comparable))) Tryd.func73 (by kernel_rfl) (by kernel_rfl) (by kernel_rfl) (by kernel_rfl)
  have tO := typeOf_E
  have mC : ∀ (h : Value) (w : World), (Go.method 231 84 (.agg #[h]) "Comparable").run Tryd.prog w = _ := method_Comparable
  have cE : ∀ w, (callFunc 73 #[.agg #[.pointer (some ⟨1, 26, none⟩)]]).run Tryd.prog w = .ok (.value (.bool true)) w := fun w => by rw [h96, comparable_E]; rfl
  clear h96
  have cA := is_bad h
  obtain ⟨t, x, rfl⟩ := h.shape
  clear h
  go_enter Tryd.func32, Tryd.ntmps32
  go_wp2_with (go_at_call 45; refine cA.mono ?_; rintro ev w3 ⟨rfl, rfl⟩)
  go_ret
  exact ⟨rfl, rfl⟩
set_option maxRecDepth 10000 in
set_option maxHeartbeats 4000000 in
theorem Is_nil (w : World) :
    Calls Tryd.prog 32 #[.nilIface, .iface 26 (.int .i64 22)] w fun ev w' => ev = .returned (.bool false) ∧ w = w' := by
  have s0 := fun w => run_eql_iface_nil_left (P := Tryd.prog) (w := w) 26 (.int .i64 22) Tryd.underlying46
  go_enter Tryd.func32, Tryd.ntmps32
  go_wp2
  go_ret
  exact ⟨rfl, rfl⟩
set_option maxRecDepth 10000 in
set_option maxHeartbeats 4000000 in
theorem errnoOf_bad {w : World} {v : Value} (h : Bad w v) :
    Calls Tryd.prog 17 #[v] w fun ev w' => ev = .returned (.int .i64 22) ∧ w = w' := by
  have cA := Is_bad h
  obtain ⟨t, x, rfl⟩ := h.shape
  clear h
  go_enter Tryd.func17, Tryd.ntmps17
  go_wp2_with (go_at_call 32; refine cA.mono ?_; rintro ev w3 ⟨rfl, rfl⟩)
  go_ret
  exact ⟨rfl, rfl⟩
set_option maxRecDepth 10000 in
set_option maxHeartbeats 4000000 in
theorem errnoOf_nil (w : World) :
    Calls Tryd.prog 17 #[.nilIface] w fun ev w' => ev = .returned (.int .i64 0) ∧ w = w' := by
  go_enter Tryd.func17, Tryd.ntmps17
  go_wp2_with (go_at_call 32; refine (Is_nil _).mono ?_; rintro ev w3 ⟨rfl, rfl⟩)
  go_ret
  exact ⟨rfl, rfl⟩
end Go.Proofs.YtdhbhjfpjmmonaaDoor
