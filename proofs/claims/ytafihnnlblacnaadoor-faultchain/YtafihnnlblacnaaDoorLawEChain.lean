/-
  FaultChain: however often an errno is wrapped, and by whomever, it is found, and nothing else is; as many Ops are told as were wrapped around it: for every list of texts, every two errnos, wrapped by another package too or not. Conditions: none but the row's own: the listed library variables hold what their initialisers lay (the card ties that to the program's text).
-/
import Derived.Test.YtafihnnlblacnaaDoorESArg
import Derived.Test.YtafihnnlblacnaaDoorEOps
namespace Go.Proofs.YtafihnnlblacnaaDoor.faultChain
open Go.ChangeShapes Go.WideShapes Go.ChangeAt Go.RowKit

structure On (w0 w : World) : Prop where
  g : Typed w
  p : Pows w
  bel : Below w0.heap.size w0 w
theorem On.later {w0 w w' : World} (h : On w0 w) (hb : Below w.heap.size w w') : On w0 w' := ⟨h.g.later hb, h.p.later hb, Below.after h.bel hb⟩
/-- A chain that ends with e, of k Ops. -/
def Told (w : World) (v : Value) (e : Int) (k : Nat) : Prop := ∃ l n, Ch w v l (some e) n ∧ l.length = k
theorem Told.later {w w' : World} {v : Value} {e : Int} {k : Nat} (h : Told w v e k) (hb : Below w.heap.size w w') : Told w' v e k := by
  obtain ⟨l, n, h1, h2⟩ := h
  exact ⟨l, n, h1.later hb, h2⟩
theorem wrap_told (s : ByteArray) (t : TypeId) (x : Value) (e : Int) (k : Nat) (he : e ≠ 0) (w : World) (hg : Typed w) (h : Told w (.iface t x) e k) :
    Calls Tryd.prog 20 #[.string s, .string ⟨#[]⟩, .iface t x] w fun ev w' => ∃ b, ev = .returned (.iface 46 (.pointer (some ⟨b, 0, none⟩))) ∧ Hid (Told w' (.iface 46 (.pointer (some ⟨b, 0, none⟩))) e (k + 1)) ∧ Hid (Below w.heap.size w w') := by
  obtain ⟨l, n, h1, h2⟩ := h
  refine (wrap_some s ⟨#[]⟩ _ l (some e) n w hg h1 he).mono ?_
  rintro ev w' ⟨b, rfl, hr, hb⟩
  exact ⟨b, rfl, ⟨s :: l, n + 1, .err hr (h1.later hb), by simp [h2]⟩, hb⟩
theorem is_told (t : TypeId) (x : Value) (e f : Int) (z : Bool) (k : Nat) (hz : (e == f) = z) (w : World) (h : Told w (.iface t x) e k) :
    Calls Tryd.prog 22 #[.iface t x, .iface 22 (.int .i64 f)] w fun ev w' => ev = .returned (.bool z) ∧ w = w' := by
  obtain ⟨l, n, h1, h2⟩ := h
  refine (Is_E t x l (some e) n f w h1).mono ?_
  rintro ev w' ⟨rfl, rfl⟩
  exact ⟨ret_bool (by rw [← hz]; rfl), rfl⟩
theorem of_told (t : TypeId) (x : Value) (e : Int) (k : Nat) (w : World) (hg : Typed w) (h : Told w (.iface t x) e k) :
    Calls Tryd.prog 21 #[.iface t x] w fun ev w' => ev = .returned (.int .i64 e) ∧ Hid (Below w.heap.size w w') := by
  obtain ⟨l, n, h1, h2⟩ := h
  exact of_some t x l (some e) n w hg h1
theorem ops_told (t : TypeId) (x : Value) (e : Int) (k : Nat) (hk : k * 16 ≤ 140737488351232) (w : World) (hg : Typed w) (h : Told w (.iface t x) e k) :
    Calls Tryd.prog 23 #[.iface t x] w fun ev w' => ∃ a cap, ev = .returned (.slice a k cap) ∧ Hid (Below w.heap.size w w') := by
  obtain ⟨l, n, h1, h2⟩ := h
  refine (ops_any _ l (some e) n w hg h1 (by rw [h2]; exact hk)).mono ?_
  rintro ev w' ⟨⟨a, cap, rfl⟩, hb⟩
  exact ⟨a, cap, by rw [h2], hb⟩
set_option maxHeartbeats 4000000 in
theorem walk_some (a : Option Addr) (len cap : Nat) (l : List ByteArray) (e f : Int) (foreign : Bool) (w : World) (hg : Typed w) (hp : Pows w) (hA : SArg w a len cap l) (hs : cap * 16 ≤ 140737488351232) (he : e ≠ 0) :
    Calls Tryd.prog 5 #[.slice a len cap, .int .i64 e, .int .i64 f, .bool foreign] w fun ev w' => ev = .returned (.bool true) ∧ Below w.heap.size w w' := by
  have hle := hA.le
  have hmx : len ≤ 9223372036854775807 := by omega
  have HL : Hid (len = l.length) := hA.len_eq
  have HO : Hid (On w w) := ⟨hg, hp, Below.refl _ _⟩
  have HA : Hid (SRow w a l) := hA.row
  have HE : Hid (e ≠ 0) := he
  have he0 : (e == 0) = false := by simpa using he
  have hee : (e == e) = true := by simp
  obtain ⟨z, hz⟩ : ∃ z : Bool, (e == f) = z := ⟨_, rfl⟩
  have HS : Hid (len * 16 ≤ 140737488351232) := by show _ ≤ _; omega
  clear hA hg hp he hs hle
  cases foreign with
  | false =>
    go_enter Tryd.func5, Tryd.ntmps5
    go_wp2
    go_loopg [9, 10] len (fun gm s9 s10 wr => ∃ (t : TypeId) (x : Value) (k : Nat), s9 = .iface t x ∧ k ≤ len ∧ gm = len - k ∧ s10 = .int .i64 k ∧ Hid (Told wr (.iface t x) e k) ∧ Hid (On w wr))
    case atStart => exact ⟨_, _, 0, rfl, by omega, rfl, rfl, ⟨[], 0, .errno e, rfl⟩, HO⟩
    case round =>
      obtain ⟨t, x, k, rfl, hk, hgk, rfl, HT, HO'⟩ := hrel
      by_cases hlt : k < len
      · have hkl : k < l.length := by have := HL.out; omega
        obtain ⟨b, off, rfl, hc⟩ : ∃ b off, a = some ⟨b, off, none⟩ ∧ ∀ i, i < l.length → w.cell? ⟨b, off + i, none⟩ = some (.string (l.getD i ByteArray.empty)) := by
          rcases HA.out with e | h
          · subst e; simp at hkl
          · exact h
        have c0 := hc k hkl
        rw [← HO'.out.bel.cell (p := ⟨b, off + k, none⟩) (World.block_lt_of_cell? w _ c0)] at c0
        generalize l.getD k ByteArray.empty = s at c0
        have hI : (k : Int) < (len : Int) := by omega
        have kW := wrap_told s t x e k HE.out wr HO'.out.g HT.out
        clear hc hkl
        go_wp2_with (go_at_call 20; refine kW.mono ?_; rintro ev w1 ⟨b1, rfl, HT1, HB1⟩)
        go_roundg (len - (k + 1))
        case measure => omega
        case rel => exact ⟨_, _, k + 1, rfl, by omega, rfl, by go_num, HT1, HO'.out.later HB1.out⟩
      · have hI : ¬ (k : Int) < (len : Int) := by omega
        have hkl : k = len := by omega
        subst hkl
        have i1 := is_told t x e e true k hee wr HT.out
        have i2 := fun w' (hb : Below wr.heap.size wr w') => is_told t x e f z k hz w' (HT.out.later hb)
        have o1 := of_told t x e k wr HO'.out.g HT.out
        have o2 := fun w' (hb : Below wr.heap.size wr w') => ops_told t x e k HS.out w' (HO'.out.later hb).g (HT.out.later hb)
        have hzz : (z == z) = true := by simp
        have hkk : ((k : Int) == (k : Int)) = true := by simp
        have M1 : Hid True := trivial
        go_wp2_with (first
          | (go_at_call 22; clear M1; refine i1.mono ?_; rintro ev w1 ⟨rfl, rfl⟩)
          | (go_at_call 21; refine o1.mono ?_; rintro ev w2 ⟨rfl, HB2⟩)
          | (go_at_call 22; refine (i2 _ HB2.out).mono ?_; rintro ev w3 ⟨rfl, rfl⟩)
          | (go_at_call 23; refine (o2 _ HB2.out).mono ?_; rintro ev w4 ⟨a4, cap4, rfl, HB4⟩; have L4 : Hid (On w w4) := (HO'.out.later HB2.out).later HB4.out)
          | (go_at_call 15; refine (alive_any _ L4.out.g L4.out.p).mono ?_; rintro ev w5 ⟨rfl, hb⟩; have L5 : Hid (On w w5) := L4.out.later hb; clear hb))
        go_ret
        exact ⟨rfl, L5.out.bel⟩
  | true =>
    go_enter Tryd.func5, Tryd.ntmps5
    go_wp2
    go_loopg [9, 10] len (fun gm s9 s10 wr => ∃ (t : TypeId) (x : Value) (k : Nat), s9 = .iface t x ∧ k ≤ len ∧ gm = len - k ∧ s10 = .int .i64 k ∧ Hid (Told wr (.iface t x) e k) ∧ Hid (On w wr))
    case atStart => exact ⟨_, _, 0, rfl, by omega, rfl, rfl, ⟨[], 0, .errno e, rfl⟩, HO⟩
    case round =>
      obtain ⟨t, x, k, rfl, hk, hgk, rfl, HT, HO'⟩ := hrel
      by_cases hlt : k < len
      · have hkl : k < l.length := by have := HL.out; omega
        obtain ⟨b, off, rfl, hc⟩ : ∃ b off, a = some ⟨b, off, none⟩ ∧ ∀ i, i < l.length → w.cell? ⟨b, off + i, none⟩ = some (.string (l.getD i ByteArray.empty)) := by
          rcases HA.out with e | h
          · subst e; simp at hkl
          · exact h
        have c0 := hc k hkl
        rw [← HO'.out.bel.cell (p := ⟨b, off + k, none⟩) (World.block_lt_of_cell? w _ c0)] at c0
        generalize l.getD k ByteArray.empty = s at c0
        have hI : (k : Int) < (len : Int) := by omega
        have kW := wrap_told s t x e k HE.out wr HO'.out.g HT.out
        clear hc hkl
        go_wp2_with (go_at_call 20; refine kW.mono ?_; rintro ev w1 ⟨b1, rfl, HT1, HB1⟩)
        go_roundg (len - (k + 1))
        case measure => omega
        case rel =>
          refine ⟨_, _, k + 1, rfl, by omega, rfl, by go_num, ?_, (HO'.out.later HB1.out).later (below_new _ _)⟩
          obtain ⟨l1, n1, h1, h2⟩ := HT1.out.later (below_new w1 (Obj.cells #[Value.iface 46 (.pointer (some ⟨b1, 0, none⟩))] 40))
          exact ⟨l1, n1 + 1, .other (Row.new w1 [_] _) h1, h2⟩
      · have hI : ¬ (k : Int) < (len : Int) := by omega
        have hkl : k = len := by omega
        subst hkl
        have i1 := is_told t x e e true k hee wr HT.out
        have i2 := fun w' (hb : Below wr.heap.size wr w') => is_told t x e f z k hz w' (HT.out.later hb)
        have o1 := of_told t x e k wr HO'.out.g HT.out
        have o2 := fun w' (hb : Below wr.heap.size wr w') => ops_told t x e k HS.out w' (HO'.out.later hb).g (HT.out.later hb)
        have hzz : (z == z) = true := by simp
        have hkk : ((k : Int) == (k : Int)) = true := by simp
        have M1 : Hid True := trivial
        go_wp2_with (first
          | (go_at_call 22; clear M1; refine i1.mono ?_; rintro ev w1 ⟨rfl, rfl⟩)
          | (go_at_call 21; refine o1.mono ?_; rintro ev w2 ⟨rfl, HB2⟩)
          | (go_at_call 22; refine (i2 _ HB2.out).mono ?_; rintro ev w3 ⟨rfl, rfl⟩)
          | (go_at_call 23; refine (o2 _ HB2.out).mono ?_; rintro ev w4 ⟨a4, cap4, rfl, HB4⟩; have L4 : Hid (On w w4) := (HO'.out.later HB2.out).later HB4.out)
          | (go_at_call 15; refine (alive_any _ L4.out.g L4.out.p).mono ?_; rintro ev w5 ⟨rfl, hb⟩; have L5 : Hid (On w w5) := L4.out.later hb; clear hb))
        go_ret
        exact ⟨rfl, L5.out.bel⟩

set_option maxHeartbeats 4000000 in
theorem walk_zero (a : Option Addr) (len cap : Nat) (l : List ByteArray) (f : Int) (foreign : Bool) (w : World) (hg : Typed w) (hp : Pows w) (hA : SArg w a len cap l) :
    Calls Tryd.prog 5 #[.slice a len cap, .int .i64 0, .int .i64 f, .bool foreign] w fun ev w' => ev = .returned (.bool true) ∧ Below w.heap.size w w' := by
  have hle := hA.le
  have hmx : len ≤ 9223372036854775807 := by have := hA.max; unfold maxLen at this; omega
  have HL : Hid (len = l.length) := hA.len_eq
  have HO : Hid (On w w) := ⟨hg, hp, Below.refl _ _⟩
  have HA : Hid (SRow w a l) := hA.row
  clear hA hg hp hle
  go_enter Tryd.func5, Tryd.ntmps5
  go_wp2
  go_loopg [9, 10] len (fun gm s9 s10 wr => ∃ (k : Nat), k ≤ len ∧ gm = len - k ∧ s10 = .int .i64 k ∧ Hid ((k = 0 ∧ s9 = .iface 22 (.int .i64 0)) ∨ (0 < k ∧ s9 = .nilIface)) ∧ Hid (On w wr))
  case atStart => exact ⟨0, by omega, rfl, rfl, .inl ⟨rfl, rfl⟩, HO⟩
  case round =>
    obtain ⟨k, hk, hgk, rfl, HS, HO'⟩ := hrel
    by_cases hlt : k < len
    · have hkl : k < l.length := by have := HL.out; omega
      obtain ⟨b, off, rfl, hc⟩ : ∃ b off, a = some ⟨b, off, none⟩ ∧ ∀ i, i < l.length → w.cell? ⟨b, off + i, none⟩ = some (.string (l.getD i ByteArray.empty)) := by
        rcases HA.out with e | h
        · subst e; simp at hkl
        · exact h
      have c0 := hc k hkl
      rw [← HO'.out.bel.cell (p := ⟨b, off + k, none⟩) (World.block_lt_of_cell? w _ c0)] at c0
      generalize l.getD k ByteArray.empty = s at c0
      have hI : (k : Int) < (len : Int) := by omega
      have kE := wrap_ok s ⟨#[]⟩ (.iface 22 (.int .i64 0)) [] (some 0) 0 wr HO'.out.g (.errno 0) rfl
      have kN := wrap_ok s ⟨#[]⟩ .nilIface [] none 0 wr HO'.out.g .nothing rfl
      clear hc hkl
      rcases HS.out with ⟨hk0, rfl⟩ | ⟨hk0, rfl⟩
      · clear HS kN hk0
        cases foreign
        all_goals
          go_wp2_with (go_at_call 20; refine kE.mono ?_; rintro ev w1 ⟨rfl, hb⟩; have HB1 : Hid (Below _ _ _) := hb; clear hb)
          go_roundg (len - (k + 1))
          case measure => omega
          case rel => exact ⟨k + 1, by omega, rfl, by go_num, .inr ⟨by omega, rfl⟩, HO'.out.later HB1.out⟩
      · clear HS kE hk0
        cases foreign
        all_goals
          go_wp2_with (go_at_call 20; refine kN.mono ?_; rintro ev w1 ⟨rfl, hb⟩; have HB1 : Hid (Below _ _ _) := hb; clear hb)
          go_roundg (len - (k + 1))
          case measure => omega
          case rel => exact ⟨k + 1, by omega, rfl, by go_num, .inr ⟨by omega, rfl⟩, HO'.out.later HB1.out⟩
    · have hI : ¬ (k : Int) < (len : Int) := by omega
      have hkl : k = len := by omega
      subst hkl
      have oE : Calls Tryd.prog 21 #[.iface 22 (.int .i64 0)] wr fun ev w' => ev = .returned (.int .i64 0) ∧ Below wr.heap.size wr w' := of_some _ _ [] (some 0) 0 wr HO'.out.g (.errno 0)
      have oN := of_nil wr
      rcases HS.out with ⟨hk0, rfl⟩ | ⟨hk0, rfl⟩
      · clear HS oN
        have h0 : ((k : Int) == 0) = true := by simp [hk0]
        clear hk0
        go_wp2_with (first
          | (go_at_call 21; refine oE.mono ?_; rintro ev w2 ⟨rfl, hb⟩; have L2 : Hid (On w w2) := HO'.out.later hb; clear hb)
          | (go_at_call 15; refine (alive_any _ L2.out.g L2.out.p).mono ?_; rintro ev w5 ⟨rfl, hb⟩; have L5 : Hid (On w w5) := L2.out.later hb; clear hb))
        go_ret
        exact ⟨rfl, L5.out.bel⟩
      · clear HS oE
        have h0 : ((k : Int) == 0) = false := by rw [beq_eq_false_iff_ne]; omega
        clear hk0
        go_wp2_with (first
          | (go_at_call 21; refine oN.mono ?_; rintro ev w2 ⟨rfl, hb⟩; have L2 : Hid (On w w2) := HO'.out.later hb; clear hb)
          | (go_at_call 15; refine (alive_any _ L2.out.g L2.out.p).mono ?_; rintro ev w5 ⟨rfl, hb⟩; have L5 : Hid (On w w5) := L2.out.later hb; clear hb))
        go_ret
        exact ⟨rfl, L5.out.bel⟩

theorem walk (a : Option Addr) (len cap : Nat) (l : List ByteArray) (e f : Int) (foreign : Bool) (w : World) (hg : Typed w) (hp : Pows w) (hA : SArg w a len cap l) (hs : cap * 16 ≤ 140737488351232) :
    Calls Tryd.prog 5 #[.slice a len cap, .int .i64 e, .int .i64 f, .bool foreign] w fun ev w' => ev = .returned (.bool true) ∧ Below w.heap.size w w' := by
  by_cases he : e = 0
  · subst he
    exact walk_zero a len cap l f foreign w hg hp hA
  · exact walk_some a len cap l e f foreign w hg hp hA hs he

set_option maxRecDepth 100000 in
theorem contract (H : Type) (enc : TypeId × Value → H) (W : World) (base : Nat) (args : Array Value) (ds gs : List (DataW H)) (before : List MemPlace)
    (hval : ∀ (j : Nat) t v, Tryd.f5.params[j]? = some t → args[j]? = some v → Value.okWide Tryd.prog W .any base t v)
    (hW : DataW.Whole enc Tryd.prog Tryd.f5.params.toList Rows.faultChainSpec.vars false W args.toList ds gs before) (hL : laidMetH Tryd.prog laid W)
    (hsz : (DataW.weightsEach Tryd.prog (Tryd.f5.params.toList ++ Rows.faultChainSpec.plain.varTypes Tryd.prog) (ds ++ gs)).all (· ≤ reachBytes) = true)
    : Calls Tryd.prog 5 args W fun e W' => ∃ v, e = .returned v ∧ Rows.faultChainSpec.post enc Tryd.prog Tryd.f5 false true false false W args v W' := by
  have hW' := hW
  obtain ⟨p, q, hA0, hV, rfl, hfz, hnd⟩ := hW
  have hA : DataW.TrodAll enc Tryd.prog W 0 (fun _ => true) true Tryd.f5.params.toList args.toList ds p := hA0
  rw [Tryd.params5] at hA hval hsz
  obtain ⟨v0, vs0, d0, ds0, p0, q0, hargs, rfl, rfl, h0, r0⟩ := trodAll_cons hA
  obtain ⟨v1, vs1, d1, ds1, p1, q1, rfl, rfl, rfl, h1, r1⟩ := trodAll_cons r0
  obtain ⟨v2, vs2, d2, ds2, p2, q2, rfl, rfl, rfl, h2, r2⟩ := trodAll_cons r1
  obtain ⟨v3, vs3, d3, ds3, p3, q3, rfl, rfl, rfl, h3, r3⟩ := trodAll_cons r2
  obtain ⟨rfl, rfl, rfl⟩ := trodAll_nil r3
  obtain rfl : args = #[v0, v1, v2, v3] := by cases args; simp_all
  obtain ⟨rfl, rfl⟩ := trodVars_none hV
  obtain ⟨a0, len0, cap0, rfl⟩ := okWide_slice Tryd.underlying34 (hval 0 34 v0 rfl rfl)
  have k0 := h0
  have lt0 : ∀ x ∈ p0, x.block < W.heap.size := by obtain ⟨m, hm⟩ := k0; exact DataW.trod_lt m _ _ _ hm
  obtain ⟨l0, w0, s0⟩ : ∃ l, SArg W a0 len0 cap0 l ∧ cap0 * 16 ≤ 140737488351232 := by
    obtain ⟨fuel, hf⟩ := h0
    obtain ⟨l, hl, hd⟩ := sarg_open hf
    refine ⟨l, hl, ?_⟩
    rcases hd with ⟨h, _⟩ | ⟨ss, _, hc, rfl⟩
    · omega
    have := sized_slice hsz (j := 0) (t := 34) (e := 9) rfl rfl Tryd.underlying34
    rw [bytesS] at this
    simp only [reachBytes, strs, List.length_map, List.length_take, List.length_drop] at this
    have := hl.le
    omega
  obtain ⟨a1, rfl, rfl, rfl, w1⟩ := open_int Tryd.underlying22 (hval 1 22 v1 rfl rfl) h1
  obtain ⟨a2, rfl, rfl, rfl, w2⟩ := open_int Tryd.underlying22 (hval 2 22 v2 rfl rfl) h2
  obtain ⟨a3, rfl, rfl, rfl⟩ := open_bool Tryd.underlying4 (hval 3 4 v3 rfl rfl) h3
  clear hA0
  refine (walk a0 len0 cap0 l0 a1 a2 a3 W (typed_of hL) (pows_of hL) w0 s0).mono fun e W' ⟨he, bel⟩ => ?_
  subst he
  exact ⟨_, rfl, _, _, _, [], _, [], hW', trodAll_mk1 (shut_bool Tryd.underlying4 _), (trodAll_cons_mk (Below.trod laidOut (by kernel_rfl) (of_decide_eq_true (by kernel_rfl)) k0 bel lt0) (trodAll_cons_mk (shut_int Tryd.underlying22 w1) (trodAll_cons_mk (shut_int Tryd.underlying22 w2) (trodAll_cons_mk (shut_bool Tryd.underlying4 a3) trodAll_mk0)))), rfl, bel.frame _, fun h => by cases h⟩

theorem reads (os : Os) {H : Type} (enc : TypeId × Value → H) : ∃ places, DataW.whole enc Tryd.prog ((laidWorld os).forCall (fun _ _ => 0) ⟨#[], #[.slice none 0 0, .int .i64 0, .int .i64 0, .bool false], []⟩).memory Tryd.f5.params.toList Rows.faultChainSpec.vars false (#[.slice none 0 0, .int .i64 0, .int .i64 0, .bool false] : Array Value).toList 8 = some ([.nil, .lit (.int .i64 0), .lit (.int .i64 0), .lit (.bool false)], [], places) :=
  ⟨[], by kernel_rfl⟩
set_option maxRecDepth 100000 in
theorem lifted (os : Os) (started : os.Started) (H : Type) (enc : TypeId × Value → H) (F : Stop.Interp) :
    ReturnsInHanded {} Tryd.checked os 5 .any ((OpenSpec.ofChange Rows.faultChainSpec).preRow enc Tryd.prog Tryd.f5 Rows.faultChainRow.domain false Rows.faultChainRow.laid) (((OpenSpec.ofChange Rows.faultChainSpec).at F).post enc Tryd.prog Tryd.f5 false true false false) := by
  obtain ⟨places, hx⟩ := reads os enc
  refine returnsInHanded_of_row (C := Tryd.checked) (s := OpenSpec.ofChange Rows.faultChainSpec) own started (by kernel_rfl) Tryd.func5
    (witness_row_at (enc := enc) (C := Tryd.checked) false (laidWorld os) #[.slice none 0 0, .int .i64 0, .int .i64 0, .bool false] rfl (by kernel_rfl) (by kernel_rfl) (by kernel_rfl)
      (OpenSpec.preRow_of_cond 8 hx (by kernel_rfl) (fun k hk => by cases hk) (by kernel_rfl) (laid_met os _))) ?_
  intro W base args ds gs before hval hW _ _ hsz hL _ _
  exact contract H enc W base args ds gs before hval hW hL hsz
theorem said : Rows.FaultChainSaid :=
  OpenClaim.holds_of_cond 5 Tryd.f5 rfl rfl rfl rfl rfl rfl rfl ⟨rfl, rfl, rfl, rfl, rfl⟩ rfl rfl rfl rfl rfl (by kernel_rfl) Tryd.func5 (by kernel_rfl)
    (of_decide_eq_true (by kernel_rfl)) (by unfold Func.isWrapper; first | (rw [if_pos (by decide +kernel)]; kernel_rfl) | (rw [if_neg (by decide +kernel)]; exact ⟨rfl, rfl⟩))
    (fun os started H enc _ F => by rw [OpenClaim.pre_eq_preRow]; exact lifted os started H enc F)
set_option maxRecDepth 100000 in
theorem plain (f : FuncId) (fn : Func) (hf : Tryd.pinned.checked.prog.funcNamed "pumice/pumicelaw04.FaultChain" = some f) (hfn : Tryd.pinned.checked.prog.funcs[f]? = some fn) :
    true = Tryd.pinned.checked.prog.looks [] ∧ ∀ (j : Nat) t, fn.params[j]? = some t → Tryd.pinned.checked.prog.wantsStandIn t = false := by
  obtain rfl : f = 5 := Option.some.inj ((show Tryd.prog.funcNamed "pumice/pumicelaw04.FaultChain" = some 5 by kernel_rfl).symm.trans hf) |>.symm
  obtain rfl : fn = Tryd.f5 := (Option.some.inj (Tryd.func5.symm.trans hfn)).symm
  refine ⟨by kernel_rfl, fun j t ht => ?_⟩
  rw [Tryd.params5] at ht
  have hm : t = 34 ∨ t = 22 ∨ t = 22 ∨ t = 4 := by simpa using Array.mem_of_getElem? ht
  rcases hm with rfl | rfl | rfl | rfl
  · exact (show Tryd.prog.wantsStandIn 34 = false by kernel_rfl)
  · exact (show Tryd.prog.wantsStandIn 22 = false by kernel_rfl)
  · exact (show Tryd.prog.wantsStandIn 22 = false by kernel_rfl)
  · exact (show Tryd.prog.wantsStandIn 4 = false by kernel_rfl)
theorem card : Rows.FaultChainCardSaid :=
  Claim7.holds_tied_plain_at .later [] _ _ _ _ said (fun _ h => by cases h) (by kernel_rfl) (fun _ h => by cases h) faultChain_row_tie rfl ⟨rfl, rfl⟩ (by kernel_rfl) rfl plain (by kernel_rfl)
end Go.Proofs.YtafihnnlblacnaaDoor.faultChain

namespace Go.Proofs.YtafihnnlblacnaaDoor
theorem faultChain_holds : Rows.FaultChainCardSaid := faultChain.card
#print axioms faultChain_holds
end Go.Proofs.YtafihnnlblacnaaDoor
