/-
  The superblock's bytes, a record's bytes.
  Bytes cut into pages; the pages filled are the bytes and a filling.
  The master's errors: failed, errors.Is, told.
  told: what a call says of an error.
  Super, packed, framed.
  packed, framed.
-/
import Derived.Test.YtkfecngkdlajgaaGreatDoorQB
import Derived.Test.YtkfecngkdlajgaaGreatDoorGB
import Derived.Test.YtkfecngkdlajgaaGreatDoorQE
import Derived.Test.YtkfecngkdlajgaaGreatDoorKC
import Derived.Test.YtkfecngkdlajgaaGreatDoorGD
import Derived.Test.YtkfecngkdlajgaaGreatDoorGI
import Derived.Test.YtkfecngkdlajgaaGreatDoorGA
import Derived.Deep.LoopGhost
import Derived.Lib.SlBytesConst
import Derived.ArgAppend
import Derived.Lib.AppendStr
namespace Go.Proofs.YtkfecngkdlajgaaGreatDoor

/-- A number's lowest 64 bits. -/
def lo64 (n : Int) : Nat := (n % 18446744073709551616).toNat
def recL (e : Nat) (t : List Nat) : List Nat := 82 :: (Hd.M.putL 8 e ++ t)
theorem recL_length (e : Nat) (t : List Nat) : (recL e t).length = 9 + t.length := by simp [recL, Hd.M.putL_length]; omega
/-- Is a payload a record's? -/
def isRec (b : List Nat) : Bool := decide (9 ≤ b.length) && decide (b.length ≤ 521) && decide (b.getD 0 0 = 82)
/-- What stands in the logical block 0 behind a change to a superblock and a record. -/
theorem rup_bgn {gz : Nat} (hz : 2 ≤ gz) (e : Nat) : rup gz (bgn gz e) = rup gz e := by
  unfold bgn
  split
  · rename_i h
    have h1 : (e + 1) % gz = 0 := by
      have hd := Nat.div_add_mod e gz
      have : e + 1 = gz * (e / gz + 1) := by rw [Nat.mul_add]; omega
      rw [this]
      exact Nat.mul_mod_right _ _
    unfold rup
    rw [if_pos h1, if_neg (by omega)]
    omega
  · rfl
theorem bgn_21 {gz : Nat} (hz : 64 ≤ gz) : bgn gz 21 = 21 := by
  unfold bgn
  rw [Nat.mod_eq_of_lt (by omega), if_neg (by omega)]
theorem renewed {gz : Nat} (hz : 64 ≤ gz) (s p : List Nat) (hs : s.length = 15) :
    synD gz (appD gz (appD gz [] s) p) = (Hd.frameL s ++ Hd.frameL p) ++ List.replicate (rup gz (21 + (6 + p.length)) - (21 + (6 + p.length))) 255 := by
  have h1 : appD gz [] s = Hd.frameL s := by
    unfold appD
    rw [hs]
    show [] ++ (Hd.frameL s ++ List.replicate (bgn gz (0 + (6 + 15)) - (0 + (6 + 15))) 255) = _
    rw [show 0 + (6 + 15) = 21 from rfl, bgn_21 hz]
    simp
  have hf : (Hd.frameL s).length = 21 := by rw [Hd.frameL_length, hs]
  rw [h1]
  unfold synD
  rw [appD_length, hf, rup_bgn (by omega)]
  unfold appD
  rw [hf]
  obtain ⟨e, he⟩ : ∃ e, e = 21 + (6 + p.length) := ⟨_, rfl⟩
  rw [← he]
  have q1 := (bgn_le gz e)
  have q2 := (rup_ge (page := gz) (bgn gz e) (by omega)).1
  rw [rup_bgn (by omega)] at q2
  rw [List.append_assoc, List.append_assoc, List.append_assoc]
  congr 2
  rw [List.replicate_append_replicate]
  congr 1
  omega
end Go.Proofs.YtkfecngkdlajgaaGreatDoor
namespace Go.Proofs.YtkfecngkdlajgaaGreatDoor

/-- The pieces of so many bytes. -/
def cut (gz : Nat) (d : List Nat) (n : Nat) : List (List Nat) := (List.range n).map fun i => (d.drop (i * gz)).take gz
theorem cut_length (gz : Nat) (d : List Nat) (n : Nat) : (cut gz d n).length = n := by simp [cut]
theorem cut_get {gz : Nat} {d : List Nat} {n i : Nat} (h : i < n) : (cut gz d n)[i]? = some ((d.drop (i * gz)).take gz) := by simp [cut, h]
theorem cut_le {gz : Nat} {d : List Nat} {n : Nat} : ∀ x ∈ cut gz d n, x.length ≤ gz := by
  intro x hx
  obtain ⟨i, _, rfl⟩ := List.mem_map.1 hx
  simp [List.length_take]
  omega
/-- How many pages so many bytes take. -/
def many (gz k : Nat) : Nat := (k + gz - 1) / gz
theorem many_iff {gz k i : Nat} (hz : 0 < gz) : i < many gz k ↔ i * gz < k := by
  unfold many
  rw [Nat.lt_iff_add_one_le, Nat.le_div_iff_mul_le hz, Nat.add_mul]
  omega
theorem rup_many {gz k : Nat} (hz : 0 < gz) : rup gz k = many gz k * gz := by
  have h1 := rup_mod hz k
  have h2 := rup_ge (page := gz) k hz
  have hd := Nat.div_add_mod (rup gz k) gz
  rw [h1, Nat.add_zero] at hd
  have e : many gz k = rup gz k / gz := by
    apply Nat.le_antisymm
    · rcases Nat.lt_or_ge (rup gz k / gz) (many gz k) with q | q
      · have := (many_iff hz).1 q
        rw [Nat.mul_comm] at this
        omega
      · exact q
    · rcases Nat.lt_or_ge (many gz k) (rup gz k / gz) with q | q
      · exfalso
        have q1 : ¬ many gz k * gz < k := fun h => by have := (many_iff hz).2 h; omega
        have q2 : (many gz k + 1) * gz ≤ rup gz k / gz * gz := Nat.mul_le_mul_right _ q
        rw [Nat.mul_comm (rup gz k / gz), Nat.add_mul] at q2
        omega
      · exact q
  rw [e, Nat.mul_comm]
  exact hd.symm
theorem cut_flat (gz : Nat) : ∀ (n : Nat) (d : List Nat), d.length = n * gz → (cut gz d n).flatten = d := by
  intro n
  induction n with
  | zero =>
    intro d h
    have : d = [] := List.eq_nil_of_length_eq_zero (by omega)
    rw [this]; rfl
  | succ n ih =>
    intro d h
    have e : cut gz d (n + 1) = d.take gz :: cut gz (d.drop gz) n := by
      unfold cut
      rw [List.range_succ_eq_map, List.map_cons, List.map_map]
      congr 1
      · simp
      · refine List.map_congr_left fun i _ => ?_
        simp only [Function.comp]
        rw [List.drop_drop, Nat.succ_mul, Nat.add_comm gz]
    rw [e, List.flatten_cons, ih (d.drop gz) (by rw [List.length_drop, h, Nat.add_mul]; omega)]
    exact List.take_append_drop gz d
theorem cut_fill {gz : Nat} (hz : 0 < gz) (d : List Nat) : ((cut gz d (many gz d.length)).map (fillP gz)).flatten = d ++ List.replicate (rup gz d.length - d.length) 255 := by
  obtain ⟨n, hn⟩ : ∃ n, n = many gz d.length := ⟨_, rfl⟩
  have hr := rup_many (k := d.length) hz
  have hge := (rup_ge (page := gz) d.length hz).1
  rw [← hn] at hr
  have hl : (d ++ List.replicate (rup gz d.length - d.length) 255).length = n * gz := by rw [List.length_append, List.length_replicate]; omega
  have hmap : (cut gz d n).map (fillP gz) = cut gz (d ++ List.replicate (rup gz d.length - d.length) 255) n := by
    unfold cut
    rw [List.map_map]
    refine List.map_congr_left fun i hi => ?_
    have hi' : i < n := List.mem_range.1 hi
    have hlt : i * gz < d.length := by rw [hn] at hi'; exact (many_iff hz).1 hi'
    have hi2 : (i + 1) * gz ≤ n * gz := Nat.mul_le_mul_right _ hi'
    rw [Nat.add_mul] at hi2
    simp only [Function.comp]
    unfold fillP
    rw [List.drop_append_of_le_length (by omega), List.take_append, List.length_take, List.length_drop, List.take_replicate]
    congr 2
    omega
  rw [← hn, hmap]
  exact cut_flat gz n _ hl
end Go.Proofs.YtkfecngkdlajgaaGreatDoor
namespace Go.Proofs.YtkfecngkdlajgaaGreatDoor
open Go.RowKit Go.Extern.Stop Go.Stop Go.Extern
set_option maxRecDepth 10000

/-- An error of the master's that tells of an errno; none, if it is 0. -/
def ErX (w : World) (v : Value) (x : Int) : Prop :=
  (x = 0 ∧ v = .nilIface) ∨ (x ≠ 0 ∧ ∃ B what, v = .iface 174 (.pointer (some ⟨B, 0, none⟩)) ∧ Row w B [.string what, .iface 30 (.int .i64 x)] 176)
theorem ErX.later {w w' : World} {v : Value} {x : Int} (h : ErX w v x) (hb : Below w.heap.size w w') : ErX w' v x := by
  rcases h with h | ⟨h0, B, what, h1, h2⟩
  · exact .inl h
  · exact .inr ⟨h0, B, what, h1, h2.later hb⟩
theorem xfailed_any (what : ByteArray) (x : Int) (w : World) :
    Calls Tryz.prog 56 #[.string what, .int .i64 x] w fun e w' => ∃ v, e = .returned v ∧ ErX w' v x ∧ Below w.heap.size w w' := by
  by_cases hx : x = 0
  · subst hx
    go_enter Tryz.func56, Tryz.ntmps56
    go_wp2
    go_ret
    exact ⟨_, rfl, .inl ⟨rfl, rfl⟩, Below.refl _ _⟩
  · have hx2 : (x == 0) = false := by simp [hx]
    have HX : Hid (x ≠ 0) := hx
    have HR : Hid (Row (w.alloc (.cells #[.string what, .iface 30 (.int .i64 x)] 176)) w.heap.size [.string what, .iface 30 (.int .i64 x)] 176) := Row.new w [_, _] _
    have HB : Hid (Below w.heap.size w (w.alloc (.cells #[.string what, .iface 30 (.int .i64 x)] 176))) := below_new w _
    go_enter Tryz.func56, Tryz.ntmps56
    go_wp2
    go_ret
    exact ⟨_, rfl, .inr ⟨HX.out, _, _, rfl, HR.out⟩, HB.out⟩
theorem assert_X_Is (v : Value) (xT : TypeId) (w : World) : (Instr.typeAssert (.iface 174 v) xT 230 true).run Tryz.prog w = .ok (.tuple #[.nilIface, .bool false]) w := run_typeAssert_lacksB Tryz.underlying230 (by kernel_rfl) (by kernel_rfl) v xT w
theorem assert_X_U1 (v : Value) (xT : TypeId) (w : World) : (Instr.typeAssert (.iface 174 v) xT 233 true).run Tryz.prog w = .ok (.tuple #[.iface 174 v, .bool true]) w := run_typeAssert_hasB Tryz.underlying233 (by kernel_rfl) v xT w
theorem unwrap_X (h : Value) (w : World) : (Go.method 465 174 h "Unwrap").run Tryz.prog w = .ok (247, h) w := by kernel_rfl
theorem unwrapX_any (b : Nat) (what : ByteArray) (x : Int) (w : World) (h : Row w b [.string what, .iface 30 (.int .i64 x)] 176) :
    Calls Tryz.prog 247 #[.pointer (some ⟨b, 0, none⟩)] w fun e w' => e = .returned (.iface 30 (.int .i64 x)) ∧ w = w' := by
  have c2 : w.cell? ⟨b, 1, none⟩ = some (.iface 30 (.int .i64 x)) := h.cell (i := 1) rfl
  clear h
  go_enter Tryz.func247, Tryz.ntmps247
  go_wp2
  go_ret
  exact ⟨rfl, rfl⟩
set_option maxHeartbeats 4000000 in
theorem is_failureX (b : Nat) (what : ByteArray) (x y : Int) (w : World) (r : Row w b [.string what, .iface 30 (.int .i64 x)] 176) :
    Calls Tryz.prog 103 #[.iface 174 (.pointer (some ⟨b, 0, none⟩)), .iface 30 (.int .i64 y), .bool true] w fun ev w' => ev = .returned (.bool (x == y)) ∧ w = w' := by
  have cU := unwrapX_any b what x w r
  clear r
  go_enter Tryz.func103, Tryz.ntmps103
  go_wp2
  go_loopg [0] 1 (fun gm s0 wr => w = wr ∧ Hid ((gm = 1 ∧ s0 = .iface 174 (.pointer (some ⟨b, 0, none⟩))) ∨ (gm = 0 ∧ s0 = .iface 30 (.int .i64 x))))
  case atStart => exact ⟨rfl, .inl ⟨rfl, rfl⟩⟩
  case round =>
    obtain ⟨rfl, HS⟩ := hrel
    rcases HS.out with ⟨h1, rfl⟩ | ⟨h1, rfl⟩
    · have HG : Hid (gk = 1) := h1
      clear h1 HS
      have s0 := Hd.eql_types 174 30 (.pointer (some ⟨b, 0, none⟩)) (.int .i64 y) (by decide) w
      have s1 := assert_X_Is
      have s2 := assert_X_U1
      have uF := unwrap_X
      go_wp2_with (go_at_call 247; refine cU.mono ?_; rintro e w' ⟨rfl, rfl⟩)
      go_roundg 0
      case measure => have := HG.out; omega
      case rel => exact ⟨rfl, .inr ⟨rfl, rfl⟩⟩
    · clear h1 HS
      have s0 := Hd.eql_int w x y
      cases hb : x == y with
      | true =>
        rw [hb] at s0
        have HE : Hid ((x == y) = true) := hb
        clear hb
        go_wp2
        go_ret
        exact ⟨by rw [HE.out]; rfl, rfl⟩
      | false =>
        rw [hb] at s0
        have HE : Hid ((x == y) = false) := hb
        clear hb
        have s1 := assert_E_Is
        have s2 := assert_E_U1
        have s3 := assert_E_U2
        go_wp2
        go_ret
        exact ⟨by rw [HE.out]; rfl, rfl⟩
set_option maxHeartbeats 4000000 in
theorem IsX_any {w : World} {v : Value} {x : Int} (h : ErX w v x) (y : Int) (hy : y ≠ 0) :
    Calls Tryz.prog 62 #[v, .iface 30 (.int .i64 y)] w fun ev w' => ev = .returned (.bool (x == y)) ∧ w = w' := by
  rcases h with ⟨rfl, rfl⟩ | ⟨_, B, what, rfl, hr⟩
  · have s0 := fun w => run_eql_iface_nil_left (P := Tryz.prog) (w := w) 30 (.int .i64 y) Tryz.underlying82
    have e : ((0 : Int) == y) = false := by simp; omega
    rw [e]
    clear e hy
    go_enter Tryz.func62, Tryz.ntmps62
    go_wp2
    go_ret
    exact ⟨rfl, rfl⟩
  · have h36 := @run_callFunc_extern Tryz.prog 102 _ ReflectliteType.typeOf Tryz.func102 (by kernel_rfl) (by kernel_rfl) (by kernel_rfl) (by kernel_rfl)
    have h96 := @run_callFunc_extern Tryz.prog 250 _ (ReflectliteType.method (fun t => do Rtype.noPackHeld "Comparable" t; pure (.bool (← typeInfo t).comparable))) Tryz.func250 (by kernel_rfl) (by kernel_rfl) (by kernel_rfl) (by kernel_rfl)
    have tO := Hd.typeOf_E
    have mC : ∀ (h : Value) (w : World), (Go.method 465 228 (.agg #[h]) "Comparable").run Tryz.prog w = _ := Hd.method_Comparable
    have cE : ∀ w, (callFunc 250 #[.agg #[.pointer (some ⟨3, 30, none⟩)]]).run Tryz.prog w = .ok (.value (.bool true)) w := fun w => by rw [h96, Hd.comparable_E]; rfl
    clear h96
    have cA := is_failureX B what x y w hr
    obtain ⟨q, hq⟩ : ∃ q, q = (x == y) := ⟨_, rfl⟩
    rw [← hq] at cA ⊢
    clear hq hr hy
    go_enter Tryz.func62, Tryz.ntmps62
    go_wp2_with (go_at_call 103; refine cA.mono ?_; rintro ev w3 ⟨rfl, rfl⟩)
    go_ret
    exact ⟨rfl, rfl⟩
end Go.Proofs.YtkfecngkdlajgaaGreatDoor
namespace Go.Proofs.YtkfecngkdlajgaaGreatDoor
open Go.RowKit Go.Extern.Stop Go.Stop Go.Extern
set_option maxRecDepth 10000

end Go.Proofs.YtkfecngkdlajgaaGreatDoor
namespace Go.Proofs.YtkfecngkdlajgaaGreatDoor
open Go.RowKit Hd.M
set_option maxRecDepth 10000

theorem Hd.lit_row (W : World) (l : List Nat) (fr : Nat × Nat) : Hd.BRow (W.alloc (.cells (l.map u8v).toArray 5 fr)) (some ⟨W.heap.size, 0, none⟩) l := by
  refine .inr ⟨W.heap.size, 0, rfl, fun i hi => ?_⟩
  rw [Nat.zero_add]
  have : (W.alloc (.cells (l.map u8v).toArray 5 fr)).heap[W.heap.size]? = some (.cells (l.map u8v).toArray 5 fr) := by show (W.heap.push _)[W.heap.size]? = _; simp
  unfold World.cell?
  simp only [this]
  simp [u8v, List.getD, hi]
/-- The superblock's bytes as far as k numbers. -/
def supN (x : List Int) (k : Nat) : List Nat := [112, 117, 109, 105, 99, 101, 49] ++ (x.take k).flatMap fun n => putL 2 (lo64 n)
theorem supN_length (x : List Int) (k : Nat) (h : k ≤ x.length) : (supN x k).length = 7 + 2 * k := by
  unfold supN
  have : ∀ (l : List Int), (l.flatMap fun n => putL 2 (lo64 n)).length = 2 * l.length := by
    intro l
    induction l with
    | nil => rfl
    | cons n l ih => rw [List.flatMap_cons, List.length_append, ih, putL_length, List.length_cons]; omega
  rw [List.length_append, this, List.length_take]
  simp
  omega
theorem supN_succ (x : List Int) (k : Nat) (n : Int) (h : x[k]? = some n) : supN x (k + 1) = supN x k ++ putL 2 (lo64 n) := by
  unfold supN
  rw [List.take_add_one, h]
  simp
theorem lo64_lt (n : Int) : lo64 n < 18446744073709551616 := by unfold lo64; omega
theorem u64_wrap (n : Int) : IntKind.u64.wrap n = ((lo64 n : Nat) : Int) := by
  unfold lo64
  rw [IntKind.wrap_u64]
  omega
theorem Hd.lown_low' {w : World} {base base' e size n : Nat} {v : Value} {xs : List Value} (h : w.ownsRow base' e size v n xs) (hb : base ≤ base') : w.ownsRow base e size v n xs := by
  refine ⟨h.1, ?_⟩
  rcases h.2 with e | ⟨g, cap, cur, e, hbg, rest⟩
  · exact .inl e
  · exact .inr ⟨g, cap, cur, e, Nat.le_trans hb hbg, rest⟩
structure SupS (W wr : World) (v : Value) (l : List Nat) (k : Nat) : Prop where
  bel : Below W.heap.size W wr
  row : ∃ a cap, v = .slice (some a) l.length cap ∧ Hd.BRow wr (some a) l ∧ (k = 0 → cap = l.length)
  own : 1 ≤ k → wr.ownsRow W.heap.size 5 1 v l.length (l.map u8v)
theorem sup_two {w w' : World} {n : Nat} (h : Hd.Own w w' (.slice (some ⟨w.heap.size, 0, none⟩) 2 2) (putL 2 n)) : Hd.BRow w' (some ⟨w.heap.size, 0, none⟩) (putL 2 n) := by
  obtain ⟨a, c, e, hr, _⟩ := h.row
  cases e
  exact hr
theorem sup_next {W wr w5 w6 : World} {v v6 : Value} {X : List Int} {k base : Nat} {x : Int} {row : Option Nat} (h : SupS W wr v (supN X k) k) (hx : X[k]? = some x) (h5 : Below wr.heap.size wr w5) (hg : w5.grownBy w6 row) (hr : ∀ g, row = some g → W.heap.size ≤ g) (hbase : W.heap.size ≤ base)
    (hown : w6.ownsRow base 5 1 v6 ((supN X k).length + 2) ((supN X k).map u8v ++ (putL 2 (lo64 x)).map u8v)) : SupS W w6 v6 (supN X (k + 1)) (k + 1) := by
  have h3 : W.heap.size ≤ w5.heap.size := Nat.le_trans h.bel.size h5.size
  have e : supN X (k + 1) = supN X k ++ putL 2 (lo64 x) := supN_succ X k x hx
  have hl : (supN X (k + 1)).length = (supN X k).length + 2 := by rw [e, List.length_append, putL_length]
  have ho : w6.ownsRow base 5 1 v6 (supN X (k + 1)).length ((supN X (k + 1)).map u8v) := by
    rw [hl, e, List.map_append]
    exact hown
  refine ⟨(h.bel.trans (h5.mono h.bel.size)).grown hg h3 hr, ?_, fun _ => Hd.lown_low' ho hbase⟩
  obtain ⟨a, c, ev, hr', _⟩ := Hd.owns_row ho
  cases a with
  | none =>
    exfalso
    rcases ho.2 with ⟨q, h0⟩ | ⟨g, cap, cur, q, _⟩
    · omega
    · rw [q] at ev; cases ev
  | some a => exact ⟨a, c, ev, hr', fun h => by omega⟩
set_option maxHeartbeats 2000000 in
theorem super_any (b p z r : Int) (w : World) :
    Calls Tryz.prog 21 #[.agg #[.int .i64 b, .int .i64 p, .int .i64 z, .int .i64 r]] w fun e w' => ∃ v, e = .returned v ∧ Hd.Own w w' v (supN [b, p, z, r] 4) := by
  have hc1 : ∀ W : World, (convert 56 56 (.slice (some ⟨W.heap.size, 0, none⟩) 7 7)).run Tryz.prog (W.alloc (.cells #[.int .u8 112, .int .u8 117, .int .u8 109, .int .u8 105, .int .u8 99, .int .u8 101, .int .u8 49] 5)) = .ok (.slice (some ⟨W.heap.size, 0, none⟩) 7 7) (W.alloc (.cells #[.int .u8 112, .int .u8 117, .int .u8 109, .int .u8 105, .int .u8 99, .int .u8 101, .int .u8 49] 5 (7, 8))) := fun W => Lib.run_convert_bytes_const W 56 5 #[.int .u8 112, .int .u8 117, .int .u8 109, .int .u8 105, .int .u8 99, .int .u8 101, .int .u8 49] 7 7 Tryz.underlying56 Tryz.underlying5
  have hc2 := hc1 (w.alloc (.cells #[.int .i64 b, .int .i64 p, .int .i64 z, .int .i64 r] 23))
  rw [show (w.alloc (.cells #[.int .i64 b, .int .i64 p, .int .i64 z, .int .i64 r] 23)).heap.size = w.heap.size + 1 by simp] at hc2
  have hW2 : ∃ W2, W2 = (w.alloc (.cells #[.int .i64 b, .int .i64 p, .int .i64 z, .int .i64 r] 23)).alloc (.cells #[.int .u8 112, .int .u8 117, .int .u8 109, .int .u8 105, .int .u8 99, .int .u8 101, .int .u8 49] 5 (7, 8)) := ⟨_, rfl⟩
  obtain ⟨W2, hW2⟩ := hW2
  rw [← hW2] at hc2
  have hr2 : Row W2 w.heap.size [.int .i64 b, .int .i64 p, .int .i64 z, .int .i64 r] 23 := by rw [hW2]; exact (Row.new w [_, _, _, _] _).later (below_new _ _)
  have hbel : Hid (Below w.heap.size w W2) := by rw [hW2]; exact Below.after (below_new w _) (below_new _ _)
  have hb7 : Hid (Hd.BRow W2 (some ⟨w.heap.size + 1, 0, none⟩) [112, 117, 109, 105, 99, 101, 49]) := by
    rw [hW2]
    have hl := Hd.lit_row (w.alloc (.cells #[.int .i64 b, .int .i64 p, .int .i64 z, .int .i64 r] 23)) [112, 117, 109, 105, 99, 101, 49] (7, 8)
    rw [show (w.alloc (.cells #[.int .i64 b, .int .i64 p, .int .i64 z, .int .i64 r] 23)).heap.size = w.heap.size + 1 by simp] at hl
    exact hl
  have c0 := hr2.cell (i := 0) rfl
  have c1 := hr2.cell (i := 1) rfl
  have c2 := hr2.cell (i := 2) rfl
  have c3 := hr2.cell (i := 3) rfl
  clear hr2 hW2 hc1
  go_enter Tryz.func21, Tryz.ntmps21
  go_wp2_with fail
  obtain ⟨W3, hW3⟩ : ∃ W3, W3 = W2.alloc (.cells #[.int .i64 b, .int .i64 p, .int .i64 z, .int .i64 r] 3) := ⟨_, rfl⟩
  have hr3 : Row W3 W2.heap.size [.int .i64 b, .int .i64 p, .int .i64 z, .int .i64 r] 3 := by rw [hW3]; exact Row.new W2 [_, _, _, _] _
  have hb3 : Below W2.heap.size W2 W3 := by rw [hW3]; exact below_new _ _
  rw [← hW3]
  clear hW3 c0 c1 c2 c3
  have HR3 := (show Hid (Row W3 W2.heap.size [.int .i64 b, .int .i64 p, .int .i64 z, .int .i64 r] 3) from hr3)
  obtain ⟨X, hX⟩ : ∃ X, X = [b, p, z, r] := ⟨_, rfl⟩
  have HXl := (show Hid (X.length = 4 ∧ ∀ k, k < 4 → ∃ x, X[k]? = some x ∧ ∀ W, Below W3.heap.size W3 W → W.cell? ⟨W2.heap.size, k, none⟩ = some (.int .i64 x)) from by
    refine ⟨by rw [hX]; rfl, fun k hk => ?_⟩
    rw [hX]
    have hk' : k = 0 ∨ k = 1 ∨ k = 2 ∨ k = 3 := by omega
    rcases hk' with rfl | rfl | rfl | rfl
    · exact ⟨b, rfl, fun W hW => (hr3.later hW).cell (i := 0) rfl⟩
    · exact ⟨p, rfl, fun W hW => (hr3.later hW).cell (i := 1) rfl⟩
    · exact ⟨z, rfl, fun W hW => (hr3.later hW).cell (i := 2) rfl⟩
    · exact ⟨r, rfl, fun W hW => (hr3.later hW).cell (i := 3) rfl⟩)
  have HS0 : Hid (SupS W3 W3 (.slice (some ⟨w.heap.size + 1, 0, none⟩) 7 7) (supN X 0) 0) := ⟨Below.refl _ _, ⟨_, 7, rfl, hb7.out.later hb3, fun _ => rfl⟩, fun h => by omega⟩
  have HW3 : Hid (Below w.heap.size w W3) := Below.after hbel.out hb3
  have HXe := (show Hid (X = [b, p, z, r]) from hX)
  clear hX hr3 hb3
  obtain ⟨i0, hi, hz0, hz1, hz2⟩ := info_parts info8
  go_loopg [3, 18] 4 (fun kx s3 s18 wr => ∃ k : Nat, k + kx = 4 ∧ s18 = .int .i64 (k : Nat) ∧ Hid (SupS W3 wr s3 (supN X k) k))
  case atStart => exact ⟨0, by omega, rfl, HS0.out⟩
  case round =>
    obtain ⟨k, hk, rfl, I⟩ := hrel
    by_cases hlt : k < 4
    · obtain ⟨x, hx, hcx⟩ := HXl.out.2 k hlt
      have cx := hcx wr I.out.bel
      have hki : (k : Int) < 4 := by omega
      have hlen : (supN X k).length = 7 + 2 * k := supN_length X k (by have := HXl.out.1; omega)
      have hwr := u64_wrap x
      have kP := fun W => Hd.put_any (lo64 x) (lo64_lt x) 2 2 rfl W
      obtain ⟨a3, c3, e3, hr3, hc3⟩ := I.out.row
      rw [hlen] at e3 hc3
      subst e3
      have HX1 := (show Hid (X[k]? = some x) from hx)
      have HL := (show Hid ((supN X k).length = 7 + 2 * k) from hlen)
      have HRw := (show Hid (Hd.BRow wr (some a3) (supN X k)) from hr3)
      clear hx hcx hlen hr3
      by_cases hk0 : k = 0
      · have hcap : c3 = 7 := by have := hc3 hk0; omega
        subst hk0
        subst hcap
        go_wp2_with (first
          | (go_at_call 37; refine (kP _).mono ?_; rintro e w5 ⟨rfl, ho5⟩; have HO5 := (show Hid (Hd.Own wr w5 (.slice (some ⟨wr.heap.size, 0, none⟩) 2 2) (putL 2 (lo64 x))) from ho5); clear ho5)
          | (at_builtin; go_must (refine wpList_append_grows _ rfl (.tmp 22) (.tmp 25) 56 rfl 5 i0 (.int .u8 0) 1 1 Tryz.underlying56 hi hz0 hz1 hz2 rfl (by omega) (some a3) 7 7 ((supN X 0).map u8v) rfl (fun e => by cases e) (by rw [List.length_map, HL.out]) (fun b e j u hj => by cases e; exact Hd.cells_any (HRw.out.later HO5.out.2) j u hj) ⟨wr.heap.size, 0, none⟩ 2 2 ((putL 2 (lo64 x)).map u8v) rfl (by rw [List.length_map, putL_length]) (Hd.cells_any (sup_two HO5.out)) (Hd.u8v_one _) (by omega) (by decide) (by decide) ?_); intro v6 w6 hown6 hgrow6))
        have HS6 : Hid (SupS W3 w6 v6 (supN X 1) 1) := sup_next (base := w5.heap.size) I.out HX1.out HO5.out.2 hgrow6 (fun g e => by cases e) (by have := I.out.bel.size; have := HO5.out.2.size; omega) (by rw [HL.out]; exact hown6)
        clear hown6 hgrow6
        go_wp2_with fail
        go_roundg 3
        case measure => omega
        case rel => exact ⟨1, rfl, by go_num, HS6.out⟩
      · clear hc3
        have hown := I.out.own (by omega)
        rw [HL.out] at hown
        have HOw := (show Hid (wr.ownsRow W3.heap.size 5 1 (.slice (some a3) (7 + 2 * k) c3) (7 + 2 * k) ((supN X k).map u8v)) from hown)
        have HB := (show Hid (7 + 2 * k + 2 ≤ maxLen ∧ (7 + 2 * k + 2) * 1 ≤ 140737488355328) from ⟨by unfold maxLen; omega, by omega⟩)
        clear hown
        go_wp2_with (first
          | (go_at_call 37; refine (kP _).mono ?_; rintro e w5 ⟨rfl, ho5⟩; have HO5 := (show Hid (Hd.Own wr w5 (.slice (some ⟨wr.heap.size, 0, none⟩) 2 2) (putL 2 (lo64 x))) from ho5); clear ho5)
          | (at_builtin; go_must (refine Hd.wpList_append_bytes rfl (.tmp 22) (.tmp 25) rfl W3.heap.size (.slice (some a3) (7 + 2 * k) c3) (7 + 2 * k) ((supN X k).map u8v) rfl (Hd.owns_later HOw.out HO5.out.2) (some ⟨wr.heap.size, 0, none⟩) 2 2 (putL 2 (lo64 x)) rfl (putL_length _ _).symm (sup_two HO5.out) (fun e => by cases e) HB.out.1 HB.out.2 (by have := I.out.bel.size; have := HO5.out.2.size; omega) ?_); intro v6 w6 hown6 hgrow6))
        have HS6 : Hid (SupS W3 w6 v6 (supN X (k + 1)) (k + 1)) := sup_next I.out HX1.out HO5.out.2 hgrow6 (fun g e => (HOw.out.lt g e).1) (Nat.le_refl _) (by rw [HL.out]; exact hown6)
        clear hown6 hgrow6
        go_wp2_with fail
        go_roundg (4 - (k + 1))
        case measure => omega
        case rel => exact ⟨k + 1, by omega, by go_num, HS6.out⟩
    · have hk4 : k = 4 := by omega
      subst hk4
      have HI := (show Hid (SupS W3 wr u3 (supN X 4) 4) from I.out)
      clear I
      go_wp2_with fail
      go_ret
      refine ⟨u3, rfl, ?_⟩
      rw [← HXe.out]
      exact ⟨Hd.lown_low' (HI.out.own (by omega)) HW3.out.size, HW3.out.trans (HI.out.bel.mono HW3.out.size)⟩
end Go.Proofs.YtkfecngkdlajgaaGreatDoor
namespace Go.Proofs.YtkfecngkdlajgaaGreatDoor
open Go.RowKit Hd.M
set_option maxRecDepth 10000

theorem framed_any (a : Option Addr) (cap : Nat) (l : List Nat) (w : World) (h1 : 1 ≤ l.length) (h2 : l.length ≤ 1024) (hb : ∀ x ∈ l, x < 256) (hr : Hd.BRow w a l) :
    Calls Tryz.prog 63 #[.slice a l.length cap] w fun e w' => ∃ v, e = .returned v ∧ Hd.Own w w' v (Hd.frameL l) := by
  have kF := Hd.frame_yes a cap l w h1 h2 hb hr
  clear hr hb h1 h2
  go_enter Tryz.func63, Tryz.ntmps63
  go_wp2_with (go_at_call 104; refine kF.mono ?_; rintro e w1 ⟨rfl, ho1⟩)
  go_ret
  have e : l.length + 6 = 6 + l.length := Nat.add_comm _ _
  exact ⟨_, rfl, by first | exact ho1 | simpa [Nat.add_comm] using ho1⟩
theorem strCells_bstr (l : List Nat) (h : ∀ x ∈ l, x < 256) : Lib.strCells (bstr l) = l.map u8v := by
  unfold Lib.strCells bstr strOfNums
  simp only [List.map_map]
  refine List.map_congr_left fun x hx => ?_
  have := h x hx
  simp [u8v]
  omega
theorem bstr_size (l : List Nat) : (bstr l).size = l.length := by unfold bstr; rw [strOfNums_size]; simp
set_option maxHeartbeats 2000000 in
theorem packed_any (n : Nat) (hn : n < 18446744073709551616) (t : List Nat) (ht : ∀ x ∈ t, x < 256) (htl : t.length ≤ 1048576) (w : World) :
    Calls Tryz.prog 64 #[.agg #[.int .u64 (n : Nat), .string (bstr t)]] w fun e w' => ∃ v, e = .returned v ∧ Hd.Own w w' v (recL n t) := by
  have kP := fun W => Hd.put_any n hn 8 8 rfl W
  obtain ⟨i0, hi, hz0, hz1, hz2⟩ := info_parts info8
  obtain ⟨W2, hW2⟩ : ∃ W2, W2 = (w.alloc (.cells #[.int .u64 (n : Nat), .string (bstr t)] 40)).alloc (.cells #[.int .u8 82] 5) := ⟨_, rfl⟩
  have hr : Row W2 w.heap.size [.int .u64 (n : Nat), .string (bstr t)] 40 := by rw [hW2]; exact (Row.new w [_, _] _).later (below_new _ _)
  have hs2 : W2.heap.size = w.heap.size + 1 + 1 := by rw [hW2]; simp
  have hb2 : Below w.heap.size w W2 := by rw [hW2]; exact Below.after (below_new w _) (below_new _ _)
  have hown : W2.ownsRow w.heap.size 5 1 (.slice (some ⟨w.heap.size + 1, 0, none⟩) 1 1) 1 [.int .u8 82] := by
    have := World.ownsRow_lit (e := 5) (size := 1) (base := w.heap.size) (w.alloc (.cells #[.int .u64 (n : Nat), .string (bstr t)] 40)) #[.int .u8 82] 1 (by simp) (by decide) rfl
    rw [show (w.alloc (.cells #[.int .u64 (n : Nat), .string (bstr t)] 40)).heap.size = w.heap.size + 1 by simp, ← hW2] at this
    exact this
  have c0 := hr.cell (i := 0) rfl
  have HR := (show Hid (Row W2 w.heap.size [.int .u64 (n : Nat), .string (bstr t)] 40 ∧ Below w.heap.size w W2 ∧ W2.ownsRow w.heap.size 5 1 (.slice (some ⟨w.heap.size + 1, 0, none⟩) 1 1) 1 [.int .u8 82]) from ⟨hr, hb2, hown⟩)
  have HT := (show Hid (Lib.strCells (bstr t) = t.map u8v ∧ (bstr t).size = t.length ∧ t.length ≤ 1048576) from ⟨strCells_bstr t ht, bstr_size t, htl⟩)
  have kP2 := kP W2
  rw [hs2] at kP2
  obtain ⟨S, hS⟩ : ∃ S, S = bstr t := ⟨_, rfl⟩
  rw [← hS] at HR HT hW2 ⊢
  clear hr hb2 hown hs2 kP ht htl hS
  go_enter Tryz.func64, Tryz.ntmps64
  have M1 : Hid True := trivial
  go_wp2_with fail
  rw [← hW2]
  clear hW2
  go_wp2_with (first
    | (go_at_call 37; refine kP2.mono ?_; rintro e w5 ⟨rfl, ho5⟩; have HO5 := (show Hid (Hd.Own W2 w5 (.slice (some ⟨w.heap.size + 1 + 1, 0, none⟩) 8 8) (putL 8 n)) from ho5); have d1 := (HR.out.1.later ho5.2).cell (i := 1) rfl; clear ho5)
    | (at_builtin; clear M1; go_must (refine Hd.wpList_append_bytes rfl (.tmp 4) (.tmp 7) rfl w.heap.size (.slice (some ⟨w.heap.size + 1, 0, none⟩) 1 1) 1 [.int .u8 82] rfl (Hd.owns_later HR.out.2.2 HO5.out.2) (some ⟨w.heap.size + 1 + 1, 0, none⟩) 8 8 (putL 8 n) rfl (putL_length _ _).symm (by obtain ⟨a, c, e, hr, _⟩ := HO5.out.row; cases e; exact hr) (fun e => by cases e) (by decide) (by decide) (by have := HR.out.2.1.size; have := HO5.out.2.size; omega) ?_); intro v6 w6 hown6 hgrow6; have HO6 := (show Hid (w6.ownsRow w.heap.size 5 1 v6 (1 + 8) ([.int .u8 82] ++ (putL 8 n).map u8v) ∧ Below w.heap.size w w6) from ⟨hown6, ((HR.out.2.1.trans (HO5.out.2.mono HR.out.2.1.size)).grown hgrow6 (by have := HR.out.2.1.size; have := HO5.out.2.size; omega) (fun k e => by cases e; exact Nat.le_succ _))⟩); have d2 := ((HR.out.1.later HO5.out.2).kept (S := fun k => k = w.heap.size + 1) ⟨hgrow6.os, hgrow6.tape, hgrow6.output, hgrow6.size, fun k hk hn => hgrow6.block k hk (fun e => by cases e; exact hn rfl)⟩ (by show ¬ w.heap.size = w.heap.size + 1; omega)).cell (i := 1) rfl; clear hown6 hgrow6 d1)
    | (at_builtin; go_must (refine Lib.wpList_append_own_string _ rfl (.tmp 9) (.tmp 11) 56 9 rfl w.heap.size 5 i0 Tryz.underlying56 Tryz.underlying9 hi hz0 hz1 hz2 v6 (1 + 8) ([.int .u8 82] ++ (putL 8 n).map u8v) rfl HO6.out.1 S rfl (by rw [HT.out.2.1]; have := HT.out.2.2; unfold maxLen; omega) (by rw [HT.out.2.1]; have := HT.out.2.2; omega) HO6.out.2.size ?_); intro v7 w7 hown7 hgrow7 _; have HO7 := (show Hid (w7.ownsRow w.heap.size 5 1 v7 (1 + 8 + S.size) (([.int .u8 82] ++ (putL 8 n).map u8v) ++ Lib.strCells S) ∧ Below w.heap.size w w7) from ⟨hown7, HO6.out.2.grown hgrow7 HO6.out.2.size (fun k e => (HO6.out.1.lt k e).1)⟩); clear hown7 hgrow7))
  go_ret
  refine ⟨v7, rfl, ?_, HO7.out.2⟩
  have h := HO7.out.1
  rw [HT.out.1, HT.out.2.1] at h
  rw [recL_length]
  show w7.ownsRow w.heap.size 5 1 v7 (9 + t.length) ((82 :: (putL 8 n ++ t)).map u8v)
  rw [List.map_cons, List.map_append]
  exact h
end Go.Proofs.YtkfecngkdlajgaaGreatDoor
