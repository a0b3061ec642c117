/-
  A chain of errors in memory, and what errors.As tells of it.
-/
import Derived.Test.YtafihnnlblacnaaDoorEErr
import Derived.Test.YtafihnnlblacnaaDoorEMem
import Derived.Deep.LoopGhost
namespace Go.Proofs.YtafihnnlblacnaaDoor
open Go.RowKit Go.Extern.Stop Go.Stop Go.Extern

/-- A chain of errors: an errno, one of errors.New, nothing; the program's own error, or another package's, around a chain. With the Ops, the errno at its end, how many wrap. -/
inductive Ch (w : World) : Value → List ByteArray → Option Int → Nat → Prop
  | errno (e : Int) : Ch w (.iface 22 (.int .i64 e)) [] (some e) 0
  | strange (a : Addr) : Ch w (.iface 73 (.pointer (some a))) [] none 0
  | nothing : Ch w .nilIface [] none 0
  | err {b : Nat} {op what : ByteArray} {v : Value} {l : List ByteArray} {e : Option Int} {n : Nat} : Row w b [.string op, .string what, v] 48 → Ch w v l e n → Ch w (.iface 46 (.pointer (some ⟨b, 0, none⟩))) (op :: l) e (n + 1)
  | other {b : Nat} {v : Value} {l : List ByteArray} {e : Option Int} {n : Nat} : Row w b [v] 40 → Ch w v l e n → Ch w (.iface 38 (.pointer (some ⟨b, 0, none⟩))) l e (n + 1)
theorem Ch.kept {S : Nat → Prop} {w w' : World} {v : Value} {l : List ByteArray} {e : Option Int} {n : Nat} (h : Ch w v l e n) (hk : Kept S w w')
    (hn1 : ∀ b cs, Row w b cs 48 → ¬ S b) (hn2 : ∀ b cs, Row w b cs 40 → ¬ S b) : Ch w' v l e n := by
  induction h with
  | errno e => exact .errno e
  | strange a => exact .strange a
  | nothing => exact .nothing
  | err r _ ih => exact .err (r.kept hk (hn1 _ _ r)) ih
  | other r _ ih => exact .other (r.kept hk (hn2 _ _ r)) ih
theorem Ch.later {w w' : World} {v : Value} {l : List ByteArray} {e : Option Int} {n : Nat} (h : Ch w v l e n) (hb : Below w.heap.size w w') : Ch w' v l e n :=
  h.kept (S := fun _ => False) (.of_below hb) (fun _ _ _ h => h) (fun _ _ _ h => h)

/-- The error's own Unwrap, and the other package's. -/
theorem unwrapF_any (b : Nat) (op what : ByteArray) (v : Value) (w : World) (h : Row w b [.string op, .string what, v] 48) (hv : v = .nilIface ∨ ∃ t x, v = .iface t x) :
    Calls Tryd.prog 26 #[.pointer (some ⟨b, 0, none⟩)] w fun e w' => e = .returned v ∧ w = w' := by
  have c2 : w.cell? ⟨b, 2, none⟩ = some v := h.cell (i := 2) rfl
  clear h
  rcases hv with rfl | ⟨t, x, rfl⟩
  · go_enter Tryd.func26, Tryd.ntmps26
    go_wp2
    go_ret
    exact ⟨rfl, rfl⟩
  · go_enter Tryd.func26, Tryd.ntmps26
    go_wp2
    go_ret
    exact ⟨rfl, rfl⟩
theorem unwrapO_any (b : Nat) (v : Value) (w : World) (h : Row w b [v] 40) (hv : v = .nilIface ∨ ∃ t x, v = .iface t x) :
    Calls Tryd.prog 88 #[.pointer (some ⟨b, 0, none⟩)] w fun e w' => e = .returned v ∧ w = w' := by
  have c2 : w.cell? ⟨b, 0, none⟩ = some v := h.cell (i := 0) rfl
  clear h
  rcases hv with rfl | ⟨t, x, rfl⟩
  · go_enter Tryd.func88, Tryd.ntmps88
    go_wp2
    go_ret
    exact ⟨rfl, rfl⟩
  · go_enter Tryd.func88, Tryd.ntmps88
    go_wp2
    go_ret
    exact ⟨rfl, rfl⟩
theorem Ch.shape {w : World} {v : Value} {l : List ByteArray} {e : Option Int} {n : Nat} (h : Ch w v l e n) : v = .nilIface ∨ ∃ t x, v = .iface t x := by
  cases h <;> simp

set_option maxHeartbeats 4000000 in
theorem as_E (v : Value) (l : List ByteArray) (e : Option Int) (n tb a : Nat) (old : Int) (w : World) (hc : Ch w v l e n) (hv : v ≠ .nilIface)
    (ha : Row w a [.pointer (some ⟨tb, 0, none⟩)] 68) (ht : Row w tb [.int .i64 old] 22) :
    Calls Tryd.prog 48 #[v, .iface 68 (.pointer (some ⟨tb, 0, none⟩)), .agg #[.pointer (some ⟨4, 68, none⟩), .pointer (some ⟨a, 0, none⟩), .int .u64 150], .iface 98 (.agg #[.pointer (some ⟨4, 22, none⟩)])] w
      fun ev w' => ev = .returned (.bool e.isSome) ∧ Kept (fun k => k = tb) w w' ∧ Row w' tb [.int .i64 (e.getD old)] 22 := by
  have h36 := @run_callFunc_extern Tryd.prog 36 _ ReflectliteType.typeOf Tryd.func36 (by kernel_rfl) (by kernel_rfl) (by kernel_rfl) (by kernel_rfl)
  have h95 := @run_callFunc_extern Tryd.prog 95 _ (ReflectliteType.relation "AssignableTo" ReflectliteType.assignableTo) Tryd.func95 (by kernel_rfl) (by kernel_rfl) (by kernel_rfl) (by kernel_rfl)
  have h45 := @run_callFunc_extern Tryd.prog 45 _ (fun args => ReflectliteValue.unpack (args.getD 0 (.tuple #[]))) Tryd.func45 (by kernel_rfl) (by kernel_rfl) (by kernel_rfl) (by kernel_rfl)
  have h54 := @run_callFunc_extern Tryd.prog 54 _ (ReflectliteValue.method (ReflectliteValue.valueError "reflectlite.Value.Elem" 0) ReflectliteValue.elem) Tryd.func54 (by kernel_rfl) (by kernel_rfl) (by kernel_rfl) (by kernel_rfl)
  have h55 := @run_callFunc_extern Tryd.prog 55 _ ReflectliteValue.set Tryd.func55 (by kernel_rfl) (by kernel_rfl) (by kernel_rfl) (by kernel_rfl)
  have mA := method_AssignableTo
  have hlt := ha.lt
  have hltt := ht.lt
  have HV : Hid (v ≠ .nilIface) := hv
  have HC : Hid (Ch w v l e n) := hc
  have HA : Hid (Row w a [.pointer (some ⟨tb, 0, none⟩)] 68) := ha
  have HT : Hid (Row w tb [.int .i64 old] 22) := ht
  clear hc hv ha ht
  go_enter Tryd.func48, Tryd.ntmps48
  go_wp2
  go_loopg [0] n (fun gm s0 wr => ∃ v' l', s0 = v' ∧ Hid (Ch wr v' l' e gm) ∧ Hid (v' ≠ .nilIface) ∧ Hid (Row wr w.heap.size [.pointer (some ⟨4, 68, none⟩), .pointer (some ⟨a, 0, none⟩), .int .u64 150] 87) ∧ Hid (Row wr a [.pointer (some ⟨tb, 0, none⟩)] 68) ∧ Hid (Row wr tb [.int .i64 old] 22) ∧ Hid (Kept (fun k => k = tb) w wr))
  case atStart =>
    refine ⟨v, l, rfl, HC.out.later (below_new _ _), HV, Row.new w [_, _, _] _, HA.out.alloc _, HT.out.alloc _, (Kept.refl _ _).alloc _⟩
  case round =>
    obtain ⟨v', l', rfl, HC', HV', HR, HA', HT', HK⟩ := hrel
    clear HV HC HA HT
    have r0 : wr.cell? ⟨w.heap.size, 0, none⟩ = some (.pointer (some ⟨4, 68, none⟩)) := HR.out.cell (i := 0) rfl
    have r1 : wr.cell? ⟨w.heap.size, 1, none⟩ = some (.pointer (some ⟨a, 0, none⟩)) := HR.out.cell (i := 1) rfl
    have r2 : wr.cell? ⟨w.heap.size, 2, none⟩ = some (.int .u64 150) := HR.out.cell (i := 2) rfl
    cases HC'.out with
    | nothing => exact absurd rfl HV'.out
    | errno x =>
      have tO := typeOf_E
      have aE := assignable_E_E
      have el := elemV_pE ⟨a, 0, none⟩ ⟨tb, 0, none⟩ wr (HA'.out.cell (i := 0) rfl)
      have vE := valueOf_E x wr
      have st := set_E ⟨tb, 0, none⟩ ⟨wr.heap.size, 0, none⟩ x (.int .i64 old) (wr.alloc (.cells #[.int .i64 x] 22)) (by simp) ((HT'.out.alloc _).cell (i := 0) rfl) ((HT'.out.alloc _).frozen 0)
      go_wp2
      go_ret
      exact ⟨rfl, (HK.out.alloc _).setCell rfl _, (HT'.out.alloc _).set (i := 0) _ (by simp)⟩
    | strange x =>
      have tO := typeOf_S
      have aE := assignable_S_E
      have s1 := assert_S_As
      have s2 := assert_S_U1
      have s3 := assert_S_U2
      go_wp2
      go_ret
      exact ⟨rfl, HK.out, HT'.out⟩
    | @err b op what v2 l2 _ n2 r hch =>
      have tO := typeOf_F
      have aE := assignable_F_E
      have s1 := assert_F_As
      have s2 := assert_F_U1
      have uF := unwrap_F
      have HN : Hid (Ch wr v2 l2 e n2) := hch
      have cU := unwrapF_any b op what v2 wr r hch.shape
      have hs := hch.shape
      clear hch r
      rcases hs with rfl | ⟨t2, x2, rfl⟩
      · go_wp2_with (go_at_call 26; refine cU.mono ?_; rintro e w' ⟨rfl, rfl⟩)
        go_ret
        cases HN.out
        exact ⟨rfl, HK.out, HT'.out⟩
      · go_wp2_with (go_at_call 26; refine cU.mono ?_; rintro e w' ⟨rfl, rfl⟩)
        go_roundg n2
        case measure => omega
        case rel => exact ⟨_, l2, rfl, HN, by simp [Hid], HR, HA', HT', HK⟩
    | @other b v2 l2 _ n2 r hch =>
      have tO := typeOf_O
      have aE := assignable_O_E
      have s1 := assert_O_As
      have s2 := assert_O_U1
      have uF := unwrap_O
      have HN : Hid (Ch wr v2 l' e n2) := hch
      have cU := unwrapO_any b v2 wr r hch.shape
      have hs := hch.shape
      clear hch r
      rcases hs with rfl | ⟨t2, x2, rfl⟩
      · go_wp2_with (go_at_call 88; refine cU.mono ?_; rintro e w' ⟨rfl, rfl⟩)
        go_ret
        cases HN.out
        exact ⟨rfl, HK.out, HT'.out⟩
      · go_wp2_with (go_at_call 88; refine cU.mono ?_; rintro e w' ⟨rfl, rfl⟩)
        go_roundg n2
        case measure => omega
        case rel => exact ⟨_, l', rfl, HN, by simp [Hid], HR, HA', HT', HK⟩
end Go.Proofs.YtafihnnlblacnaaDoor
