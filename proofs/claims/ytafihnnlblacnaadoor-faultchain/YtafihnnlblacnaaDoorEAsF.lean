/-
  errors.As at a pointer to the program's own error: the first of them in the chain.
-/
import Derived.Test.YtafihnnlblacnaaDoorEAs
namespace Go.Proofs.YtafihnnlblacnaaDoor
open Go.RowKit Go.Extern.Stop Go.Stop Go.Extern

/-- Nothing was found; or the first of the program's own errors was, and stands at the target. -/
def Found (w w' : World) (e : Option Int) (tb : Nat) (old : Value) (l : List ByteArray) (n : Nat) (ev : Ending) : Prop :=
  (ev = .returned (.bool false) ∧ l = [] ∧ Kept (fun k => k = tb) w w' ∧ Row w' tb [old] 46) ∨
  (∃ b op what v2 l2 n2, ev = .returned (.bool true) ∧ l = op :: l2 ∧ Kept (fun k => k = tb) w w' ∧ Row w' tb [.pointer (some ⟨b, 0, none⟩)] 46 ∧ Row w' b [.string op, .string what, v2] 48 ∧ Ch w' v2 l2 e n2 ∧ n2 < n)

set_option maxHeartbeats 4000000 in
theorem as_F (v : Value) (l : List ByteArray) (e : Option Int) (n tb a : Nat) (old : Value) (w : World) (hc : Ch w v l e n) (hv : v ≠ .nilIface)
    (ha : Row w a [.pointer (some ⟨tb, 0, none⟩)] 64) (ht : Row w tb [old] 46) :
    Calls Tryd.prog 48 #[v, .iface 64 (.pointer (some ⟨tb, 0, none⟩)), .agg #[.pointer (some ⟨4, 64, none⟩), .pointer (some ⟨a, 0, none⟩), .int .u64 150], .iface 98 (.agg #[.pointer (some ⟨4, 46, none⟩)])] w
      fun ev w' => Found w w' e tb old l n ev := by
  have h36 := @run_callFunc_extern Tryd.prog 36 _ ReflectliteType.typeOf Tryd.func36 (by kernel_rfl) (by kernel_rfl) (by kernel_rfl) (by kernel_rfl)
  have h95 := @run_callFunc_extern Tryd.prog 95 _ (ReflectliteType.relation "AssignableTo" ReflectliteType.assignableTo) Tryd.func95 (by kernel_rfl) (by kernel_rfl) (by kernel_rfl) (by kernel_rfl)
  have h45 := @run_callFunc_extern Tryd.prog 45 _ (fun args => ReflectliteValue.unpack (args.getD 0 (.tuple #[]))) Tryd.func45 (by kernel_rfl) (by kernel_rfl) (by kernel_rfl) (by kernel_rfl)
  have h54 := @run_callFunc_extern Tryd.prog 54 _ (ReflectliteValue.method (ReflectliteValue.valueError "reflectlite.Value.Elem" 0) ReflectliteValue.elem) Tryd.func54 (by kernel_rfl) (by kernel_rfl) (by kernel_rfl) (by kernel_rfl)
  have h55 := @run_callFunc_extern Tryd.prog 55 _ ReflectliteValue.set Tryd.func55 (by kernel_rfl) (by kernel_rfl) (by kernel_rfl) (by kernel_rfl)
  have mA := method_AssignableTo
  have hlt := ha.lt
  have hltt := ht.lt
  have HV : Hid (v ≠ .nilIface) := hv
  have HC : Hid (Ch w v l e n) := hc
  have HA : Hid (Row w a [.pointer (some ⟨tb, 0, none⟩)] 64) := ha
  have HT : Hid (Row w tb [old] 46) := ht
  clear hc hv ha ht
  go_enter Tryd.func48, Tryd.ntmps48
  go_wp2
  go_loopg [0] n (fun gm s0 wr => ∃ v', s0 = v' ∧ Hid (Ch wr v' l e gm) ∧ Hid (gm ≤ n) ∧ Hid (v' ≠ .nilIface) ∧ Hid (Row wr w.heap.size [.pointer (some ⟨4, 64, none⟩), .pointer (some ⟨a, 0, none⟩), .int .u64 150] 87) ∧ Hid (Row wr a [.pointer (some ⟨tb, 0, none⟩)] 64) ∧ Hid (Row wr tb [old] 46) ∧ Hid (Kept (fun k => k = tb) w wr))
  case atStart =>
    refine ⟨v, rfl, HC.out.later (below_new _ _), Nat.le_refl _, HV, Row.new w [_, _, _] _, HA.out.alloc _, HT.out.alloc _, (Kept.refl _ _).alloc _⟩
  case round =>
    obtain ⟨v', rfl, HC', HG, HV', HR, HA', HT', HK⟩ := hrel
    clear HV HC HA HT
    have r0 : wr.cell? ⟨w.heap.size, 0, none⟩ = some (.pointer (some ⟨4, 64, none⟩)) := HR.out.cell (i := 0) rfl
    have r1 : wr.cell? ⟨w.heap.size, 1, none⟩ = some (.pointer (some ⟨a, 0, none⟩)) := HR.out.cell (i := 1) rfl
    have r2 : wr.cell? ⟨w.heap.size, 2, none⟩ = some (.int .u64 150) := HR.out.cell (i := 2) rfl
    cases HC'.out with
    | nothing => exact absurd rfl HV'.out
    | errno x =>
      have tO := typeOf_E
      have aE := assignable_E_F
      have s1 := assert_E_As
      have s2 := assert_E_U1
      have s3 := assert_E_U2
      go_wp2
      go_ret
      exact .inl ⟨rfl, rfl, HK.out, HT'.out⟩
    | strange x =>
      have tO := typeOf_S
      have aE := assignable_S_F
      have s1 := assert_S_As
      have s2 := assert_S_U1
      have s3 := assert_S_U2
      go_wp2
      go_ret
      exact .inl ⟨rfl, rfl, HK.out, HT'.out⟩
    | @err b op what v2 l2 _ n2 r hch =>
      have tO := typeOf_F
      have aE := assignable_F_F
      have el := elemV_pF ⟨a, 0, none⟩ ⟨tb, 0, none⟩ wr (HA'.out.cell (i := 0) rfl)
      have vE := valueOf_F ⟨b, 0, none⟩ wr
      have st := set_F ⟨tb, 0, none⟩ ⟨wr.heap.size, 0, none⟩ ⟨b, 0, none⟩ old (wr.alloc (.cells #[.pointer (some ⟨b, 0, none⟩)] 46)) (by simp) ((HT'.out.alloc _).cell (i := 0) rfl) ((HT'.out.alloc _).frozen 0)
      have HN : Hid (Ch wr v2 l2 e n2) := hch
      have HB : Hid (Row wr b [.string op, .string what, v2] 48) := r
      clear hch r
      go_wp2
      go_ret
      have hk2 : Kept (fun k => k = tb) wr ((wr.alloc (.cells #[.pointer (some ⟨b, 0, none⟩)] 46)).setCell ⟨tb, 0, none⟩ (.pointer (some ⟨b, 0, none⟩))) := Kept.setCell (S := fun k => k = tb) (p := ⟨tb, 0, none⟩) ((Kept.refl _ _).alloc _) rfl _
      have ne1 : ∀ k cs, Row wr k cs 48 → ¬ (k = tb) := fun k cs h => h.ne HT'.out (by decide)
      have ne2 : ∀ k cs, Row wr k cs 40 → ¬ (k = tb) := fun k cs h => h.ne HT'.out (by decide)
      exact .inr ⟨b, op, what, v2, l2, n2, rfl, rfl, HK.out.trans hk2, (HT'.out.alloc _).set (i := 0) _ (by simp), HB.out.kept hk2 (ne1 _ _ HB.out), HN.out.kept hk2 ne1 ne2, Nat.lt_of_succ_le HG.out⟩
    | @other b v2 l2 _ n2 r hch =>
      have tO := typeOf_O
      have aE := assignable_O_F
      have s1 := assert_O_As
      have s2 := assert_O_U1
      have uF := unwrap_O
      have HN : Hid (Ch wr v2 l e n2) := hch
      have cU := unwrapO_any b v2 wr r hch.shape
      have hs := hch.shape
      clear hch r
      rcases hs with rfl | ⟨t2, x2, rfl⟩
      · go_wp2_with (go_at_call 88; refine cU.mono ?_; rintro e w' ⟨rfl, rfl⟩)
        go_ret
        cases HN.out
        exact .inl ⟨rfl, rfl, HK.out, HT'.out⟩
      · go_wp2_with (go_at_call 88; refine cU.mono ?_; rintro e w' ⟨rfl, rfl⟩)
        go_roundg n2
        case measure => omega
        case rel => exact ⟨_, rfl, HN, by have := HG.out; show _ ≤ _; omega, by simp [Hid], HR, HA', HT', HK⟩
end Go.Proofs.YtafihnnlblacnaaDoor
