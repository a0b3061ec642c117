/-
  errors.Is over a chain of errors, at an errno and at an error of errors.New.
-/
import Derived.Test.YtafihnnlblacnaaDoorEAs
namespace Go.Proofs.YtafihnnlblacnaaDoor
open Go.RowKit Go.Extern.Stop Go.Stop Go.Extern

/-- Two errnos, as errors, are alike as their numbers are. -/
theorem eql_int (w : World) (a b : Int) : (binOp .eql 36 (.iface 22 (.int .i64 a)) (.iface 22 (.int .i64 b))).run Tryd.prog w = .ok (.bool (a == b)) w := by
  obtain ⟨i, hi, hcmp⟩ : ∃ i, Tryd.prog.info? 22 = some i ∧ i.comparable = true := Option.map_eq_some_iff.1 (show (Tryd.prog.info? 22).map (·.comparable) = some true by kernel_rfl)
  have deep : ∀ k : Nat, (Op.equalIn (k + 2) 36 (.iface 22 (.int .i64 a)) (.iface 22 (.int .i64 b))).run Tryd.prog w = .ok (a == b) w := fun k => by
    simp [Op.equalIn, run_underlying Tryd.underlying36, run_underlying Tryd.underlying22, typeInfo, hi, hcmp]
  have top := deep 9998
  simp only [binOp, Op.equal, Op.maxDepth]
  simp [top]
theorem eql_types (tx ty : TypeId) (vx vy : Value) (hne : tx ≠ ty) (w : World) : (binOp .eql 36 (.iface tx vx) (.iface ty vy)).run Tryd.prog w = .ok (.bool false) w :=
  run_eql_iface_types tx ty vx vy Tryd.underlying36 hne w

set_option maxHeartbeats 4000000 in
theorem is_E (v : Value) (l : List ByteArray) (e : Option Int) (n : Nat) (f : Int) (w : World) (hc : Ch w v l e n) (hv : v ≠ .nilIface) :
    Calls Tryd.prog 37 #[v, .iface 22 (.int .i64 f), .bool true] w fun ev w' => ev = .returned (.bool (e == some f)) ∧ w = w' := by
  have HV : Hid (v ≠ .nilIface) := hv
  have HC : Hid (Ch w v l e n) := hc
  clear hc hv
  go_enter Tryd.func37, Tryd.ntmps37
  go_wp2
  go_loopg [0] n (fun gm s0 wr => ∃ v' l', s0 = v' ∧ Hid (Ch w v' l' e gm) ∧ Hid (v' ≠ .nilIface) ∧ w = wr)
  case atStart => exact ⟨v, l, rfl, HC, HV, rfl⟩
  case round =>
    obtain ⟨v', l', rfl, HC', HV', rfl⟩ := hrel
    clear HV HC
    cases HC'.out with
    | nothing => exact absurd rfl HV'.out
    | errno x =>
      have s0 := eql_int w x f
      have s1 := assert_E_Is
      have s2 := assert_E_U1
      have s3 := assert_E_U2
      by_cases hxf : x = f
      · have hb : (x == f) = true := by simpa using hxf
        rw [hb] at s0
        have HX : Hid (x = f) := hxf
        clear hxf hb
        go_wp2
        go_ret
        exact ⟨ret_bool (by simp [HX.out]), rfl⟩
      · have hb : (x == f) = false := by simpa using hxf
        rw [hb] at s0
        have HX : Hid (¬ x = f) := hxf
        clear hxf hb
        go_wp2
        go_ret
        exact ⟨ret_bool (by simp [HX.out]), rfl⟩
    | strange x =>
      have s0 := eql_types 73 22 (.pointer (some x)) (.int .i64 f) (by decide) w
      have s1 := assert_S_Is
      have s2 := assert_S_U1
      have s3 := assert_S_U2
      go_wp2
      go_ret
      exact ⟨rfl, rfl⟩
    | @err b op what v2 l2 _ n2 r hch =>
      have s0 := eql_types 46 22 (.pointer (some ⟨b, 0, none⟩)) (.int .i64 f) (by decide) w
      have s1 := assert_F_Is
      have s2 := assert_F_U1
      have uF := unwrap_F
      have HN : Hid (Ch w v2 l2 e n2) := hch
      have cU := unwrapF_any b op what v2 w r hch.shape
      have hs := hch.shape
      clear hch r
      rcases hs with rfl | ⟨t2, x2, rfl⟩
      · go_wp2_with (go_at_call 26; refine cU.mono ?_; rintro e w' ⟨rfl, rfl⟩)
        go_ret
        cases HN.out
        exact ⟨rfl, rfl⟩
      · go_wp2_with (go_at_call 26; refine cU.mono ?_; rintro e w' ⟨rfl, rfl⟩)
        go_roundg n2
        case measure => omega
        case rel => exact ⟨_, l2, rfl, HN, by simp [Hid], rfl⟩
    | @other b v2 l2 _ n2 r hch =>
      have s0 := eql_types 38 22 (.pointer (some ⟨b, 0, none⟩)) (.int .i64 f) (by decide) w
      have s1 := assert_O_Is
      have s2 := assert_O_U1
      have uF := unwrap_O
      have HN : Hid (Ch w v2 l' e n2) := hch
      have cU := unwrapO_any b v2 w r hch.shape
      have hs := hch.shape
      clear hch r
      rcases hs with rfl | ⟨t2, x2, rfl⟩
      · go_wp2_with (go_at_call 88; refine cU.mono ?_; rintro e w' ⟨rfl, rfl⟩)
        go_ret
        cases HN.out
        exact ⟨rfl, rfl⟩
      · go_wp2_with (go_at_call 88; refine cU.mono ?_; rintro e w' ⟨rfl, rfl⟩)
        go_roundg n2
        case measure => omega
        case rel => exact ⟨_, l', rfl, HN, by simp [Hid], rfl⟩

set_option maxHeartbeats 4000000 in
theorem Is_E (t : TypeId) (x : Value) (l : List ByteArray) (e : Option Int) (n : Nat) (f : Int) (w : World) (hc : Ch w (.iface t x) l e n) :
    Calls Tryd.prog 22 #[.iface t x, .iface 22 (.int .i64 f)] w fun ev w' => ev = .returned (.bool (e == some f)) ∧ w = w' := by
  have h36 := @run_callFunc_extern Tryd.prog 36 _ ReflectliteType.typeOf Tryd.func36 (by kernel_rfl) (by kernel_rfl) (by kernel_rfl) (by kernel_rfl)
  have h96 := @run_callFunc_extern Tryd.prog 96 _ (ReflectliteType.method (fun t => do Rtype.noPackHeld "Comparable" t; pure (.bool (← typeInfo t).comparable))) Tryd.func96 (by kernel_rfl) (by kernel_rfl) (by kernel_rfl) (by kernel_rfl)
  have tO := typeOf_E
  have mC : ∀ (h : Value) (w : World), (Go.method 259 98 (.agg #[h]) "Comparable").run Tryd.prog w = _ := method_Comparable
  have cE : ∀ w, (callFunc 96 #[.agg #[.pointer (some ⟨4, 22, none⟩)]]).run Tryd.prog w = .ok (.value (.bool true)) w := fun w => by rw [h96, comparable_E]; rfl
  clear h96
  have cA := is_E (.iface t x) l e n f w hc (by simp)
  clear hc
  go_enter Tryd.func22, Tryd.ntmps22
  go_wp2_with (go_at_call 37; refine cA.mono ?_; rintro ev w3 ⟨rfl, rfl⟩)
  go_ret
  exact ⟨rfl, rfl⟩

/-- The same error of errors.New, as the program's own error wraps it. -/
theorem eql_same (w : World) (a : Addr) : (binOp .eql 36 (.iface 73 (.pointer (some a))) (.iface 73 (.pointer (some a)))).run Tryd.prog w = .ok (.bool true) w := by
  obtain ⟨i, hi, hcmp⟩ : ∃ i, Tryd.prog.info? 73 = some i ∧ i.comparable = true := Option.map_eq_some_iff.1 (show (Tryd.prog.info? 73).map (·.comparable) = some true by kernel_rfl)
  have deep : ∀ k : Nat, (Op.equalIn (k + 2) 36 (.iface 73 (.pointer (some a))) (.iface 73 (.pointer (some a)))).run Tryd.prog w = .ok true w := fun k => by
    simp [Op.equalIn, run_underlying Tryd.underlying36, run_underlying Tryd.underlying73, typeInfo, hi, hcmp, run_sameAddr_same]
  have top := deep 9998
  simp only [binOp, Op.equal, Op.maxDepth]
  simp [top]
set_option maxHeartbeats 4000000 in
theorem is_S (b : Nat) (op what : ByteArray) (a : Addr) (w : World) (r : Row w b [.string op, .string what, .iface 73 (.pointer (some a))] 48) :
    Calls Tryd.prog 37 #[.iface 46 (.pointer (some ⟨b, 0, none⟩)), .iface 73 (.pointer (some a)), .bool true] w fun ev w' => ev = .returned (.bool true) ∧ w = w' := by
  have cU := unwrapF_any b op what _ w r (.inr ⟨_, _, rfl⟩)
  clear r
  go_enter Tryd.func37, Tryd.ntmps37
  go_wp2
  go_loopg [0] 1 (fun gm s0 wr => w = wr ∧ Hid ((gm = 1 ∧ s0 = .iface 46 (.pointer (some ⟨b, 0, none⟩))) ∨ (gm = 0 ∧ s0 = .iface 73 (.pointer (some a)))))
  case atStart => exact ⟨rfl, .inl ⟨rfl, rfl⟩⟩
  case round =>
    obtain ⟨rfl, HS⟩ := hrel
    rcases HS.out with ⟨h1, rfl⟩ | ⟨h1, rfl⟩
    · have HG : Hid (gk = 1) := h1
      clear h1 HS
      have s0 := eql_types 46 73 (.pointer (some ⟨b, 0, none⟩)) (.pointer (some a)) (by decide) w
      have s1 := assert_F_Is
      have s2 := assert_F_U1
      have uF := unwrap_F
      go_wp2_with (go_at_call 26; refine cU.mono ?_; rintro e w' ⟨rfl, rfl⟩)
      go_roundg 0
      case measure => have := HG.out; omega
      case rel => exact ⟨rfl, .inr ⟨rfl, rfl⟩⟩
    · clear h1 HS
      have s0 := eql_same w a
      go_wp2
      go_ret
      exact ⟨rfl, rfl⟩
set_option maxHeartbeats 4000000 in
theorem Is_S (b : Nat) (op what : ByteArray) (a : Addr) (w : World) (r : Row w b [.string op, .string what, .iface 73 (.pointer (some a))] 48) :
    Calls Tryd.prog 22 #[.iface 46 (.pointer (some ⟨b, 0, none⟩)), .iface 73 (.pointer (some a))] w fun ev w' => ev = .returned (.bool true) ∧ w = w' := by
  have h36 := @run_callFunc_extern Tryd.prog 36 _ ReflectliteType.typeOf Tryd.func36 (by kernel_rfl) (by kernel_rfl) (by kernel_rfl) (by kernel_rfl)
  have h96 := @run_callFunc_extern Tryd.prog 96 _ (ReflectliteType.method (fun t => do Rtype.noPackHeld "Comparable" t; pure (.bool (← typeInfo t).comparable))) Tryd.func96 (by kernel_rfl) (by kernel_rfl) (by kernel_rfl) (by kernel_rfl)
  have tO := typeOf_S
  have mC : ∀ (h : Value) (w : World), (Go.method 259 98 (.agg #[h]) "Comparable").run Tryd.prog w = _ := method_Comparable
  have cE : ∀ w, (callFunc 96 #[.agg #[.pointer (some ⟨4, 73, none⟩)]]).run Tryd.prog w = .ok (.value (.bool true)) w := fun w => by rw [h96, comparable_S]; rfl
  clear h96
  have cA := is_S b op what a w r
  clear r
  go_enter Tryd.func22, Tryd.ntmps22
  go_wp2_with (go_at_call 37; refine cA.mono ?_; rintro ev w3 ⟨rfl, rfl⟩)
  go_ret
  exact ⟨rfl, rfl⟩
end Go.Proofs.YtafihnnlblacnaaDoor
