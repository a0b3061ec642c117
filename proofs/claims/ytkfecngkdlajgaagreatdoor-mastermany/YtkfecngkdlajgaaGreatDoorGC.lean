/-
  Errors that errors.Is finds EINVAL in: the program's own one, and errors.Join's. What the model answers of the library's looks at them.
  errors.Join: nothing of nils alone, else an error that holds the others in their order.
-/
import Derived.Test.YtkfecngkdlajgaaGreatDoorGB
import Derived.LaidEql
import Derived.Stop.Asserts
import Derived.RowKitTokens
import Derived.Deep.LoopGhost
import Derived.OwnWalk
namespace Go.Proofs.YtkfecngkdlajgaaGreatDoor.Hd
open Go.RowKit Go.Extern.Stop Go.Stop Go.Extern

theorem typeOf_E (v : Value) (w : World) : (ReflectliteType.typeOf #[.iface 30 v]).run Tryz.prog w = .ok (.iface 228 (.agg #[.pointer (some ⟨3, 30, none⟩)])) w := by kernel_rfl
theorem method_Comparable (h : Value) (w : World) : (Go.method 465 228 (.agg #[h]) "Comparable").run Tryz.prog w = .ok (250, .agg #[h]) w := by kernel_rfl
theorem comparable_E (w : World) : (ReflectliteType.method (fun t => do Rtype.noPackHeld "Comparable" t; pure (.bool (← typeInfo t).comparable)) #[.agg #[.pointer (some ⟨3, 30, none⟩)]]).run Tryz.prog w = .ok (.bool true) w := by kernel_rfl
theorem assert_W_Is (v : Value) (xT : TypeId) (w : World) : (Instr.typeAssert (.iface 256 v) xT 230 true).run Tryz.prog w = .ok (.tuple #[.nilIface, .bool false]) w := run_typeAssert_lacksB Tryz.underlying230 (by kernel_rfl) (by kernel_rfl) v xT w
theorem assert_W_U1 (v : Value) (xT : TypeId) (w : World) : (Instr.typeAssert (.iface 256 v) xT 233 true).run Tryz.prog w = .ok (.tuple #[.iface 256 v, .bool true]) w := run_typeAssert_hasB Tryz.underlying233 (by kernel_rfl) v xT w
theorem assert_J_Is (v : Value) (xT : TypeId) (w : World) : (Instr.typeAssert (.iface 317 v) xT 230 true).run Tryz.prog w = .ok (.tuple #[.nilIface, .bool false]) w := run_typeAssert_lacksB Tryz.underlying230 (by kernel_rfl) (by kernel_rfl) v xT w
theorem assert_J_U1 (v : Value) (xT : TypeId) (w : World) : (Instr.typeAssert (.iface 317 v) xT 233 true).run Tryz.prog w = .ok (.tuple #[.nilIface, .bool false]) w := run_typeAssert_lacksB Tryz.underlying233 (by kernel_rfl) (by kernel_rfl) v xT w
theorem assert_J_U2 (v : Value) (xT : TypeId) (w : World) : (Instr.typeAssert (.iface 317 v) xT 234 true).run Tryz.prog w = .ok (.tuple #[.iface 317 v, .bool true]) w := run_typeAssert_hasB Tryz.underlying234 (by kernel_rfl) v xT w
theorem unwrap_W (h : Value) (w : World) : (Go.method 465 256 h "Unwrap").run Tryz.prog w = .ok (260, h) w := by kernel_rfl
theorem unwrap_J (h : Value) (w : World) : (Go.method 465 317 h "Unwrap").run Tryz.prog w = .ok (267, h) w := by kernel_rfl
/-- Two errnos, as errors, are alike as their numbers are. -/
theorem eql_int (w : World) (a b : Int) : (binOp .eql 82 (.iface 30 (.int .i64 a)) (.iface 30 (.int .i64 b))).run Tryz.prog w = .ok (.bool (a == b)) w := by
  obtain ⟨i, hi, hcmp⟩ : ∃ i, Tryz.prog.info? 30 = some i ∧ i.comparable = true := Option.map_eq_some_iff.1 (show (Tryz.prog.info? 30).map (·.comparable) = some true by kernel_rfl)
  have deep : ∀ k : Nat, (Op.equalIn (k + 2) 82 (.iface 30 (.int .i64 a)) (.iface 30 (.int .i64 b))).run Tryz.prog w = .ok (a == b) w := fun k => by
    simp [Op.equalIn, run_underlying Tryz.underlying82, run_underlying Tryz.underlying30, typeInfo, hi, hcmp]
  have top := deep 9998
  simp only [binOp, Op.equal, Op.maxDepth]
  simp [top]
theorem eql_types (tx ty : TypeId) (vx vy : Value) (hne : tx ≠ ty) (w : World) : (binOp .eql 82 (.iface tx vx) (.iface ty vy)).run Tryz.prog w = .ok (.bool false) w :=
  run_eql_iface_types tx ty vx vy Tryz.underlying82 hne w

/-- An error of this package's own that wraps EINVAL; or one of errors.Join's whose first one is such. -/
inductive Bad (w : World) : Value → Prop
  | wrong {b : Nat} {what : ByteArray} : Row w b [.string what, .iface 30 (.int .i64 22)] 258 → Bad w (.iface 256 (.pointer (some ⟨b, 0, none⟩)))
  | join {b g n cap : Nat} {v : Value} : Row w b [.slice (some ⟨g, 0, none⟩) n cap] 319 → Row w g [v] 82 → 1 ≤ n → n ≤ 2 → Bad w v → Bad w (.iface 317 (.pointer (some ⟨b, 0, none⟩)))
theorem Bad.later {w w' : World} {v : Value} (h : Bad w v) (hb : Below w.heap.size w w') : Bad w' v := by
  induction h with
  | wrong r => exact .wrong (r.later hb)
  | join r s h1 h2 _ ih => exact .join (r.later hb) (s.later hb) h1 h2 ih
theorem Bad.shape {w : World} {v : Value} (h : Bad w v) : ∃ t x, v = .iface t (.pointer (some x)) := by cases h <;> exact ⟨_, _, rfl⟩

theorem unwrapW_any (b : Nat) (what : ByteArray) (w : World) (h : Row w b [.string what, .iface 30 (.int .i64 22)] 258) :
    Calls Tryz.prog 260 #[.pointer (some ⟨b, 0, none⟩)] w fun e w' => e = .returned (.iface 30 (.int .i64 22)) ∧ w = w' := by
  have c2 : w.cell? ⟨b, 1, none⟩ = some (.iface 30 (.int .i64 22)) := h.cell (i := 1) rfl
  clear h
  go_enter Tryz.func260, Tryz.ntmps260
  go_wp2
  go_ret
  exact ⟨rfl, rfl⟩
theorem unwrapJ_any (b : Nat) (a : Option Addr) (n cap : Nat) (w : World) (h : Row w b [.slice a n cap] 319) :
    Calls Tryz.prog 267 #[.pointer (some ⟨b, 0, none⟩)] w fun e w' => e = .returned (.slice a n cap) ∧ w = w' := by
  have c2 : w.cell? ⟨b, 0, none⟩ = some (.slice a n cap) := h.cell (i := 0) rfl
  clear h
  go_enter Tryz.func267, Tryz.ntmps267
  go_wp2
  go_ret
  exact ⟨rfl, rfl⟩

set_option maxRecDepth 10000 in
set_option maxHeartbeats 4000000 in
theorem is_wrong (b : Nat) (what : ByteArray) (w : World) (r : Row w b [.string what, .iface 30 (.int .i64 22)] 258) :
    Calls Tryz.prog 103 #[.iface 256 (.pointer (some ⟨b, 0, none⟩)), .iface 30 (.int .i64 22), .bool true] w fun ev w' => ev = .returned (.bool true) ∧ w = w' := by
  have cU := unwrapW_any b what w r
  clear r
  go_enter Tryz.func103, Tryz.ntmps103
  go_wp2
  go_loopg [0] 1 (fun gm s0 wr => w = wr ∧ Hid ((gm = 1 ∧ s0 = .iface 256 (.pointer (some ⟨b, 0, none⟩))) ∨ (gm = 0 ∧ s0 = .iface 30 (.int .i64 22))))
  case atStart => exact ⟨rfl, .inl ⟨rfl, rfl⟩⟩
  case round =>
    obtain ⟨rfl, HS⟩ := hrel
    rcases HS.out with ⟨h1, rfl⟩ | ⟨h1, rfl⟩
    · have HG : Hid (gk = 1) := h1
      clear h1 HS
      have s0 := eql_types 256 30 (.pointer (some ⟨b, 0, none⟩)) (.int .i64 22) (by decide) w
      have s1 := assert_W_Is
      have s2 := assert_W_U1
      have uF := unwrap_W
      go_wp2_with (go_at_call 260; refine cU.mono ?_; rintro e w' ⟨rfl, rfl⟩)
      go_roundg 0
      case measure => have := HG.out; omega
      case rel => exact ⟨rfl, .inr ⟨rfl, rfl⟩⟩
    · clear h1 HS
      have s0 := eql_int w 22 22
      have hb : ((22 : Int) == 22) = true := rfl
      rw [hb] at s0
      go_wp2
      go_ret
      exact ⟨rfl, rfl⟩

set_option maxRecDepth 10000 in
set_option maxHeartbeats 4000000 in
theorem is_join (b g n cap : Nat) (v : Value) (w : World) (r : Row w b [.slice (some ⟨g, 0, none⟩) n cap] 319) (s : Row w g [v] 82) (h1 : 1 ≤ n) (_h2 : n ≤ 2) (hv : ∃ t x, v = .iface t (.pointer (some x)))
    (ih : Calls Tryz.prog 103 #[v, .iface 30 (.int .i64 22), .bool true] w fun ev w' => ev = .returned (.bool true) ∧ w = w') :
    Calls Tryz.prog 103 #[.iface 317 (.pointer (some ⟨b, 0, none⟩)), .iface 30 (.int .i64 22), .bool true] w fun ev w' => ev = .returned (.bool true) ∧ w = w' := by
  have cU := unwrapJ_any b _ n cap w r
  have hc : w.cell? ⟨g, 0, none⟩ = some v := s.cell (i := 0) rfl
  clear r s
  obtain ⟨t, x, rfl⟩ := hv
  have s0 := eql_types 317 30 (.pointer (some ⟨b, 0, none⟩)) (.int .i64 22) (by decide) w
  have s1 := assert_J_Is
  have s2 := assert_J_U1
  have s3 := assert_J_U2
  have uF := unwrap_J
  go_enter Tryz.func103, Tryz.ntmps103
  go_wp2
  refine wp_loop_rounds 1 ?_
  rw [rounds_succ]
  go_wp2_with (go_at_call 267; refine cU.mono ?_; rintro e w' ⟨rfl, rfl⟩)
  refine wp_loop_rounds 1 ?_
  rw [rounds_succ]
  go_wp2_with (go_at_call 103; refine ih.mono ?_; rintro e w' ⟨rfl, rfl⟩)
  go_ret
  exact ⟨rfl, rfl⟩

theorem is_bad {w : World} {v : Value} (h : Bad w v) : Calls Tryz.prog 103 #[v, .iface 30 (.int .i64 22), .bool true] w fun ev w' => ev = .returned (.bool true) ∧ w = w' := by
  induction h with
  | wrong r => exact is_wrong _ _ w r
  | join r s h1 h2 hv ih => exact is_join _ _ _ _ _ w r s h1 h2 hv.shape ih

set_option maxRecDepth 10000 in
set_option maxHeartbeats 4000000 in
theorem Is_bad {w : World} {v : Value} (h : Bad w v) :
    Calls Tryz.prog 62 #[v, .iface 30 (.int .i64 22)] w fun ev w' => ev = .returned (.bool true) ∧ w = w' := by
  have h36 := @run_callFunc_extern Tryz.prog 102 _ ReflectliteType.typeOf Tryz.func102 (by kernel_rfl) (by kernel_rfl) (by kernel_rfl) (by kernel_rfl)
  have h96 := @run_callFunc_extern Tryz.prog 250 _ (ReflectliteType.method (fun t => do Rtype.noPackHeld "Comparable" t; pure (.bool (← typeInfo t).comparable))) Tryz.func250 (by kernel_rfl) (by kernel_rfl) (by kernel_rfl) (by kernel_rfl)
  have tO := typeOf_E
  have mC : ∀ (h : Value) (w : World), (Go.method 465 228 (.agg #[h]) "Comparable").run Tryz.prog w = _ := method_Comparable
  have cE : ∀ w, (callFunc 250 #[.agg #[.pointer (some ⟨3, 30, none⟩)]]).run Tryz.prog w = .ok (.value (.bool true)) w := fun w => by rw [h96, comparable_E]; rfl
  clear h96
  have cA := is_bad h
  obtain ⟨t, x, rfl⟩ := h.shape
  clear h
  go_enter Tryz.func62, Tryz.ntmps62
  go_wp2_with (go_at_call 103; refine cA.mono ?_; rintro ev w3 ⟨rfl, rfl⟩)
  go_ret
  exact ⟨rfl, rfl⟩
set_option maxRecDepth 10000 in
set_option maxHeartbeats 4000000 in
theorem Is_nil (w : World) :
    Calls Tryz.prog 62 #[.nilIface, .iface 30 (.int .i64 22)] w fun ev w' => ev = .returned (.bool false) ∧ w = w' := by
  have s0 := fun w => run_eql_iface_nil_left (P := Tryz.prog) (w := w) 30 (.int .i64 22) Tryz.underlying82
  go_enter Tryz.func62, Tryz.ntmps62
  go_wp2
  go_ret
  exact ⟨rfl, rfl⟩
set_option maxRecDepth 10000 in
set_option maxHeartbeats 4000000 in
theorem errnoOf_bad {w : World} {v : Value} (h : Bad w v) :
    Calls Tryz.prog 198 #[v] w fun ev w' => ev = .returned (.int .i64 22) ∧ w = w' := by
  have cA := Is_bad h
  obtain ⟨t, x, rfl⟩ := h.shape
  clear h
  go_enter Tryz.func198, Tryz.ntmps198
  go_wp2_with (go_at_call 62; refine cA.mono ?_; rintro ev w3 ⟨rfl, rfl⟩)
  go_ret
  exact ⟨rfl, rfl⟩
set_option maxRecDepth 10000 in
set_option maxHeartbeats 4000000 in
theorem errnoOf_nil (w : World) :
    Calls Tryz.prog 198 #[.nilIface] w fun ev w' => ev = .returned (.int .i64 0) ∧ w = w' := by
  go_enter Tryz.func198, Tryz.ntmps198
  go_wp2_with (go_at_call 62; refine (Is_nil _).mono ?_; rintro ev w3 ⟨rfl, rfl⟩)
  go_ret
  exact ⟨rfl, rfl⟩
end Go.Proofs.YtkfecngkdlajgaaGreatDoor.Hd
namespace Go.Proofs.YtkfecngkdlajgaaGreatDoor.Hd
open Go.RowKit Go.Extern.Stop Go.Stop Go.Extern

theorem infoE : (Tryz.prog.info? 82).map (fun i => (i.zero, i.size, i.bytes)) = some (some .nilIface, 1, 16) := by kernel_rfl

/-- Is it an error at all? -/
def nn : Value → Bool
  | .nilIface => false
  | _ => true
theorem filter_snoc (vs : List Value) (k : Nat) (v : Value) (h : vs[k]? = some v) : (vs.take (k + 1)).filter nn = (vs.take k).filter nn ++ (if nn v then [v] else []) := by
  rw [List.take_add_one, h]
  simp [List.filter_append, List.filter_cons]
theorem filter_le (vs : List Value) (k : Nat) : ((vs.take k).filter nn).length ≤ (vs.filter nn).length :=
  ((List.take_sublist k vs).filter nn).length_le
theorem filter_lt (vs : List Value) (k : Nat) (v : Value) (h : vs[k]? = some v) (hv : nn v = true) : ((vs.take k).filter nn).length + 1 ≤ (vs.filter nn).length := by
  have := filter_le vs (k + 1)
  rw [filter_snoc vs k v h, hv] at this
  simpa using this

/-- What is made while the errors are gathered. -/
structure Jn (w wr : World) (b m : Nat) (xs : List Value) : Prop where
  own : wr.ownsRow w.heap.size 82 1 (.slice (some ⟨w.heap.size, 0, none⟩) xs.length m) xs.length xs
  row : Row wr b [.slice (some ⟨w.heap.size, 0, none⟩) xs.length m] 319
  ne : b ≠ w.heap.size
  big : w.heap.size ≤ b
  bel : Below w.heap.size w wr

theorem jn_start {w w1 : World} {m : Nat} (ho : w1.ownsRow w.heap.size 82 1 (.slice (some ⟨w.heap.size, 0, none⟩) 0 m) 0 []) (hg : w.grownBy w1 none) :
    Jn w (w1.alloc (.cells #[.slice (some ⟨w.heap.size, 0, none⟩) 0 m] 319)) w1.heap.size m [] := by
  have hb : Below w.heap.size w w1 := (Below.refl _ _).grown hg (Nat.le_refl _) (fun k hk => by cases hk)
  have hlt : w.heap.size < w1.heap.size := by
    rcases ho.2 with ⟨h, _⟩ | ⟨g, cap, cur, h, _, hgg, _⟩
    · cases h
    · simp only [Value.slice.injEq, Option.some.injEq, Addr.mk.injEq] at h
      rw [h.1.1]
      exact (Array.getElem?_eq_some_iff.1 hgg).1
  exact ⟨owns_later ho (below_new _ _), Row.new w1 [_] _, by omega, by omega, Below.after hb (below_new _ _)⟩
theorem jn_grown {w wr w2 : World} {b m : Nat} {xs : List Value} {v : Value} (h : Jn w wr b m xs) (o : Obj)
    (ho : w2.ownsRow w.heap.size 82 1 (.slice (some ⟨w.heap.size, 0, none⟩) (xs.length + 1) m) (xs.length + 1) (xs ++ [v])) (hg : (wr.alloc o).grownBy w2 (some w.heap.size)) :
    Jn w (w2.setCell ⟨b, 0, none⟩ (.slice (some ⟨w.heap.size, 0, none⟩) (xs.length + 1) m)) b m (xs ++ [v]) := by
  have hr : Row w2 b [.slice (some ⟨w.heap.size, 0, none⟩) xs.length m] 319 := by
    have hr1 := h.row.alloc o
    exact hr1.same (hg.block b hr1.lt (by simpa using h.ne))
  have hb : Below w.heap.size w w2 := grown_below (Below.after h.bel (below_new wr o)) hg (Nat.le_trans h.bel.size (by simp)) (Nat.le_refl _)
  refine ⟨?_, ?_, h.ne, h.big, hb.setCell h.big _⟩
  · simp only [List.length_append, List.length_cons, List.length_nil, Nat.zero_add]
    refine ⟨ho.1, ?_⟩
    rcases ho.2 with hn | ⟨g, cap, cur, he, hbg, hgg, rest⟩
    · exact .inl hn
    · refine .inr ⟨g, cap, cur, he, hbg, ?_, rest⟩
      have hgw : g = w.heap.size := by simp only [Value.slice.injEq, Option.some.injEq, Addr.mk.injEq] at he; exact he.1.1.symm
      rw [Below.heap_setCell _ _ _ g (by rw [hgw]; exact fun e => h.ne e.symm)]
      exact hgg
  · have := hr.set (i := 0) (.slice (some ⟨w.heap.size, 0, none⟩) (xs.length + 1) m) (by simp)
    simpa using this

theorem jn_row {w wr w2 : World} {b m : Nat} {xs : List Value} (h : Jn w wr b m xs) (o : Obj) (hg : (wr.alloc o).grownBy w2 (some w.heap.size)) :
    Row w2 b [.slice (some ⟨w.heap.size, 0, none⟩) xs.length m] 319 :=
  (h.row.alloc o).same (hg.block b (h.row.alloc o).lt (by simpa using h.ne))
theorem one_new (w : World) (v : Value) (t : TypeId) : ∀ j u, [v][j]? = some u → (w.alloc (.cells #[v] t)).cell? ((⟨w.heap.size, 0, none⟩ : Addr).add j) = some u := by
  intro j u hj
  cases j with
  | zero =>
    simp at hj
    subst hj
    exact (Row.new w [v] t).cell (i := 0) rfl
  | succ j => simp at hj

/-- An error that holds the errors xs. -/
def Joined (w w' : World) (v : Value) (xs : List Value) : Prop :=
  ∃ b g cap, v = .iface 317 (.pointer (some ⟨b, 0, none⟩)) ∧ Row w' b [.slice (some ⟨g, 0, none⟩) xs.length cap] 319 ∧ Row w' g xs 82 ∧ Below w.heap.size w w'
theorem jn_end {w wr : World} {b m : Nat} {xs : List Value} (h : Jn w wr b m xs) (hx : xs ≠ []) : Joined w wr (.iface 317 (.pointer (some ⟨b, 0, none⟩))) xs := by
  obtain ⟨g, cap, hv, _, _, _, hr⟩ := Row.of_owns h.own (List.length_pos_iff.2 hx)
  simp only [Value.slice.injEq, Option.some.injEq, Addr.mk.injEq] at hv
  refine ⟨b, w.heap.size, m, rfl, h.row, ?_, h.bel⟩
  rw [hv.1.1]
  exact hr

/-- What Join answers. -/
def JoinPost (w : World) (vs : List Value) (e : Ending) (w' : World) : Prop :=
  (vs.filter nn = [] → e = .returned .nilIface ∧ w = w') ∧ (vs.filter nn ≠ [] → ∃ v, e = .returned v ∧ Joined w w' v (vs.filter nn))

set_option maxRecDepth 10000 in
set_option maxHeartbeats 4000000 in
theorem join_any (g cap n : Nat) (vs : List Value) (w : World) (s : Row w g vs 82) (hn : vs.length = n) (h2 : n ≤ 2) (hvs : ∀ v ∈ vs, v = .nilIface ∨ ∃ t x, v = .iface t x) :
    Calls Tryz.prog 199 #[.slice (some ⟨g, 0, none⟩) n cap] w (JoinPost w vs) := by
  obtain ⟨i0, hi, hz0, hz1, hz2⟩ := info_parts infoE
  have HS : Hid (Row w g vs 82) := s
  have HN : Hid (vs.length = n) := hn
  have HVS : Hid (∀ v ∈ vs, v = .nilIface ∨ ∃ t x, v = .iface t x) := hvs
  have hgl := s.lt
  clear s hn hvs
  obtain ⟨m, hm⟩ : ∃ m, m = (vs.filter nn).length := ⟨_, rfl⟩
  have hmn : m ≤ n := by rw [hm, ← HN.out]; exact List.length_filter_le _ _
  have HM : Hid (m = (vs.filter nn).length) := hm
  clear hm
  go_enter Tryz.func199, Tryz.ntmps199
  go_wp2
  go_loop [3, 11] (fun c i => ∃ k q : Nat, k ≤ n ∧ i = .int .i64 k ∧ c = .int .i64 q ∧ q ≤ k ∧ Hid (q = ((vs.take k).filter nn).length)) (fun _ i => n - (intOf i).toNat)
  case atStart => exact ⟨0, 0, by omega, rfl, rfl, by omega, rfl⟩
  case round =>
    obtain ⟨k, q, hk, rfl, rfl, hqk, HQ⟩ := hrel
    by_cases hlt : k < n
    · obtain ⟨v, hv⟩ : ∃ v, vs[k]? = some v := ⟨_, List.getElem?_eq_getElem (by have := HN.out; omega)⟩
      have hc := HS.out.cell hv
      have HV : Hid (vs[k]? = some v) := hv
      rcases HVS.out v (List.mem_of_getElem? hv) with rfl | ⟨t, x, rfl⟩
      · clear hv
        go_wp2
        go_round
        case rel => exact ⟨k + 1, q, by omega, by go_num, rfl, by omega, by show _ = _; rw [filter_snoc vs k _ HV.out, HQ.out]; simp [nn]⟩
        case measure => simp [intOf]; omega
      · clear hv
        go_wp2
        go_round
        case rel => exact ⟨k + 1, q + 1, by omega, by go_num, by go_num, by omega, by show _ = _; rw [filter_snoc vs k _ HV.out, HQ.out]; simp [nn]⟩
        case measure => simp [intOf]; omega
    · have hkn : k = n := by omega
      subst hkn
      have hqm : q = m := by rw [HQ.out, HM.out, List.take_of_length_le (by rw [HN.out]; exact Nat.le_refl _)]
      subst hqm
      clear HQ
      by_cases h0 : q = 0
      · subst h0
        go_wp2
        go_ret
        have he : vs.filter nn = [] := List.eq_nil_of_length_eq_zero HM.out.symm
        exact ⟨fun _ => ⟨rfl, rfl⟩, fun h => absurd he h⟩
      · go_wp2_with (at_make; refine wpList_make_own _ rfl _ _ 235 rfl w.heap.size 82 i0 .nilIface 1 Tryz.underlying235 hi hz0 hz1 _ _ _ q rfl rfl rfl (by rw [hz2]; omega) (by unfold maxLen; omega) (Nat.le_refl _) ?_; intro w1 hown hgrow)
        have HJ : Hid (Jn w (w1.alloc (.cells #[.slice (some ⟨w.heap.size, 0, none⟩) 0 q] 319)) w1.heap.size q []) := jn_start hown hgrow
        clear hown hgrow
        have hb1 := HJ.out.big
        go_loopw [28] (fun i wr => ∃ k2 : Nat, k2 ≤ k ∧ i = .int .i64 k2 ∧ Hid (Jn w wr w1.heap.size q ((vs.take k2).filter nn))) (fun i _ => k - (intOf i).toNat)
        case atStart => exact ⟨0, by omega, rfl, HJ⟩
        case round =>
          clear HJ
          obtain ⟨k2, hk2, rfl, HJ⟩ := hrel
          by_cases hlt2 : k2 < k
          · obtain ⟨v, hv⟩ : ∃ v, vs[k2]? = some v := ⟨_, List.getElem?_eq_getElem (by have := HN.out; omega)⟩
            have hc : wr.cell? ⟨g, k2, none⟩ = some v := (HS.out.later HJ.out.bel).cell hv
            have HV : Hid (vs[k2]? = some v) := hv
            rcases HVS.out v (List.mem_of_getElem? hv) with rfl | ⟨t, x, rfl⟩
            · clear hv
              go_wp2
              go_roundw
              case rel => exact ⟨k2 + 1, by omega, by go_num, by show Jn _ _ _ _ _; rw [filter_snoc vs k2 _ HV.out]; simpa [nn] using HJ.out⟩
              case measure => simp [intOf]; omega
            · clear hv
              obtain ⟨xs, hxs⟩ : ∃ xs, xs = (vs.take k2).filter nn := ⟨_, rfl⟩
              have HX : Hid (xs = (vs.take k2).filter nn) := hxs
              have HL : Hid (xs.length + 1 ≤ q) := by show _ ≤ _; rw [hxs, HM.out]; exact filter_lt vs k2 _ HV.out rfl
              rw [← hxs] at HJ
              clear hxs
              have hce : wr.cell? ⟨w1.heap.size, 0, none⟩ = some (.slice (some ⟨w.heap.size, 0, none⟩) xs.length q) := HJ.out.row.cell (i := 0) rfl
              have hbl := HJ.out.row.lt
              have HOW : Hid ((wr.alloc (.cells #[.iface t x] 82)).ownsRow w.heap.size 82 1 (.slice (some ⟨w.heap.size, 0, none⟩) xs.length q) xs.length xs) := owns_later HJ.out.own (below_new _ _)
              obtain ⟨z, hz⟩ : ∃ z, z = xs.length := ⟨_, rfl⟩
              rw [← hz] at hce HOW HL
              have HZ : Hid (z = xs.length) := hz
              clear hz
              go_wp2_with (at_builtin; refine wpList_append_fits _ rfl (.tmp 38) (.tmp 40) 235 rfl w.heap.size 82 i0 1 Tryz.underlying235 hi hz1 w.heap.size z q xs rfl HOW.out ⟨wr.heap.size, 0, none⟩ 1 1 [.iface t x] rfl rfl (one_new _ _ _) (by intro u hu; simp at hu; subst hu; rfl) HL.out ?_; intro w2 ho hg; have hr2 := jn_row HJ.out _ hg; have hc2 : w2.cell? ⟨w1.heap.size, 0, none⟩ = some (.slice (some ⟨w.heap.size, 0, none⟩) xs.length q) := hr2.cell (i := 0) rfl; have hf2 := hr2.frozen 0; have HO2 : Hid (Jn _ _ _ _ _) := jn_grown HJ.out _ (by rw [← HZ.out]; exact ho) hg; clear ho hg hr2)
              go_roundw
              case rel => exact ⟨k2 + 1, by omega, by go_num, by show Jn _ _ _ _ _; rw [filter_snoc vs k2 _ HV.out, ← HX.out, HZ.out]; exact HO2.out⟩
              case measure => simp [intOf]; omega
          · have hkk : k2 = k := by omega
            subst hkk
            go_wp2
            go_ret
            have hJ := HJ.out
            rw [List.take_of_length_le (by rw [HN.out]; exact Nat.le_refl _)] at hJ
            have hne : vs.filter nn ≠ [] := fun e => h0 (by rw [HM.out, e]; rfl)
            exact ⟨fun he => absurd he hne, fun _ => ⟨_, rfl, jn_end hJ hne⟩⟩
end Go.Proofs.YtkfecngkdlajgaaGreatDoor.Hd
