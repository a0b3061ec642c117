/-
  Proved: the statement on parts that are joined, paths that are cleaned and parents (NamesPaths), for all inputs that hold together at most 1048576 values and letters (the statement's second form).
-/
import Derived.Test.YtnhoaafpdckmjaaNParent
import Derived.JoinedCond
namespace Go.Proofs.Ytnhoaafpdckmjaa.namesPaths
open Go.ChangeShapes Go.WideShapes Go.ChangeAt Go.RowKit Go.Shelf M

/-- The list and its copy, as they lie. -/
structure Lies (w0 w : World) (al : Option Addr) (n c : Nat) (l : List ByteArray) (ao : Option Addr) (co : Nat) : Prop where
  A : SArg w al n c l
  O : SRow w ao l
  nil : ao = none → n = 0 ∧ co = 0
  le : n ≤ co
  bel : Below w0.heap.size w0 w
theorem SArg.later {w w' : World} {a : Option Addr} {len cap : Nat} {l : List ByteArray} (h : SArg w a len cap l) (hb : Below w.heap.size w w') : SArg w' a len cap l :=
  ⟨h.len_eq, h.le, h.max, h.lt, h.row.later hb, h.nil⟩
theorem Lies.later {w0 w w' : World} {al ao : Option Addr} {n c co : Nat} {l : List ByteArray} (h : Lies w0 w al n c l ao co) (hb : Below w.heap.size w w') : Lies w0 w' al n c l ao co :=
  ⟨SArg.later h.A hb, h.O.later hb, h.nil, h.le, Below.after h.bel hb⟩
theorem below_copy {w w' : World} (hg : (w.alloc (.cells #[] 9)).grownBy w' (Value.ownBlock (.slice (some ⟨w.heap.size, 0, none⟩) 0 0))) : Below w.heap.size w w' :=
  (below_new w _).grown hg (by simp) (fun k hk => by simp [Value.ownBlock] at hk; omega)

/-- The parts of a parent, its end, and the last part. -/
def upParts (l : List ByteArray) : List ByteArray := l.dropLast
def upSlash (l : List ByteArray) (f : Bool) : Bool := if l = [] then f else false
def upLast (l : List ByteArray) : ByteArray := (l.getLast?).getD ⟨#[]⟩
theorem last_cell {w : World} {b off m : Nat} {l : List ByteArray} (h : SRow w (some ⟨b, off, none⟩) l) (hm : m + 1 = l.length) : w.cell? ⟨b, off + m, none⟩ = some (.string (upLast l)) := by
  rcases h with rfl | ⟨b', off', ha, hc⟩
  · simp at hm
  · cases ha
    rw [hc m (by omega)]
    have e : l.getLast? = l[m]? := by rw [List.getLast?_eq_getElem?]; congr 1; omega
    unfold upLast
    rw [e, List.getD, List.getElem?_eq_getElem (show m < l.length by omega)]
    rfl
theorem drop_row {w : World} {b off m : Nat} {l : List ByteArray} (h : SRow w (some ⟨b, off, none⟩) l) (hm : m + 1 = l.length) : SRow w (some ⟨b, off, none⟩) (upParts l) := by
  have e : upParts l = l.take m := by unfold upParts; rw [List.dropLast_eq_take]; congr 1; omega
  rw [e]
  exact h.take m
theorem up_length {l : List ByteArray} {m : Nat} (hm : m + 1 = l.length) : m = (upParts l).length := by unfold upParts; rw [List.length_dropLast]; omega

theorem parent_any (a : Option Addr) (n c : Nat) (f : Bool) (l : List ByteArray) (w : World) (hn : n = l.length) (hc : n ≤ c) (hbig : n ≤ 4194304) (hr : SRow w a l) :
    Calls Try.prog 15 #[.agg #[.slice a n c, .bool f]] w fun e w' => ∃ a' c', e = .returned (.tuple #[.agg #[.slice a' (n - 1) c', .bool (upSlash l f)], .string (upLast l)]) ∧ SRow w' a' (upParts l) ∧ Below w.heap.size w w' := by
  rcases n with _ | m
  · have : l = [] := List.eq_nil_of_length_eq_zero hn.symm
    subst this
    refine (parent_zero a c f w).mono ?_
    rintro e w' ⟨rfl, hb⟩
    exact ⟨none, 0, rfl, .inl rfl, hb⟩
  · have hne : l ≠ [] := by intro e; subst e; simp at hn
    have e1 : upSlash l f = false := by unfold upSlash; rw [if_neg hne]
    obtain ⟨b, off, rfl⟩ : ∃ b off, a = some ⟨b, off, none⟩ := by
      rcases hr with h | ⟨b, off, h, _⟩
      · exact absurd h hne
      · exact ⟨b, off, h⟩
    rw [e1]
    exact parent_more b off m c f (upLast l) (upParts l) w hc (by omega) (last_cell hr hn) (up_length hn) (drop_row hr hn)
theorem rparent_any (a : Option Addr) (n c : Nat) (f : Bool) (l : List ByteArray) (w : World) (hn : n = l.length) (hc : n ≤ c) (hbig : n ≤ 4194304) (hr : SRow w a l) :
    Calls Try.prog 16 #[.agg #[.slice a n c, .bool f]] w fun e w' => e = .returned (.tuple #[.agg #[.slice a (n - 1) c, .bool (upSlash l f)], .string (upLast l)]) ∧ SRow w' a (upParts l) ∧ Below w.heap.size w w' := by
  rcases n with _ | m
  · have : l = [] := List.eq_nil_of_length_eq_zero hn.symm
    subst this
    refine (rparent_zero a c f w).mono ?_
    rintro e w' ⟨rfl, hb⟩
    exact ⟨rfl, .inl rfl, hb⟩
  · have hne : l ≠ [] := by intro e; subst e; simp at hn
    have e1 : upSlash l f = false := by unfold upSlash; rw [if_neg hne]
    obtain ⟨b, off, rfl⟩ : ∃ b off, a = some ⟨b, off, none⟩ := by
      rcases hr with h | ⟨b, off, h, _⟩
      · exact absurd h hne
      · exact ⟨b, off, h⟩
    rw [e1]
    refine (rparent_more b off m c f (upLast l) w hc (by omega) (last_cell hr hn)).mono ?_
    rintro e w' ⟨rfl, hb⟩
    exact ⟨rfl, (drop_row hr hn).later hb, hb⟩

set_option maxRecDepth 100000 in
set_option maxHeartbeats 4000000 in
theorem walk_l (al : Option Addr) (n c : Nat) (l : List ByteArray) (f : Bool) (s : List UInt8) (w : World) (wl : SArg w al n c l) (hw : weigh l ≤ 1048576) :
    Calls Try.prog 4 #[.slice al n c, .bool f, .string (bs s)] w fun e w' => e = .returned (.bool true) ∧ Below w.heap.size w w' := by
  have hn : n ≤ 1048576 := by have h1 := weigh_length l; have h2 := wl.len_eq; omega
  have HL : Hid (SArg w al n c l) := wl
  have hmm : n ≤ maxLen := Nat.le_trans wl.le wl.max
  have HUL : Hid (n - 1 = (upParts l).length) := by show _ = _; unfold upParts; rw [List.length_dropLast, wl.len_eq]
  have hmm1 : n - 1 ≤ maxLen := by omega
  have HP1 : Hid (∀ W a c, n ≤ c → SRow W a l → Calls Try.prog 15 #[.agg #[.slice a n c, .bool f]] W fun e w' => ∃ a' c', e = .returned (.tuple #[.agg #[.slice a' (n - 1) c', .bool (upSlash l f)], .string (upLast l)]) ∧ SRow w' a' (upParts l) ∧ Below W.heap.size W w') := fun W a c h1 h2 => parent_any a n c f l W wl.len_eq h1 (by omega) h2
  have HP2 : Hid (∀ W a c, n ≤ c → SRow W a l → Calls Try.prog 16 #[.agg #[.slice a n c, .bool f]] W fun e w' => e = .returned (.tuple #[.agg #[.slice a (n - 1) c, .bool (upSlash l f)], .string (upLast l)]) ∧ SRow w' a (upParts l) ∧ Below W.heap.size W w') := fun W a c h1 h2 => rparent_any a n c f l W wl.len_eq h1 (by omega) h2
  have HJ1 : Hid (∀ W a c, n ≤ c → SRow W a l → Calls Try.prog 19 #[.slice a n c] W fun e w' => e = .returned (.string (bs (joined (datas l)))) ∧ Below W.heap.size W w') := fun W a c h1 h2 => join_any a n c l W wl.len_eq h1 h2 (by have := wl.len_eq; omega) (by have := joined_len l; omega)
  have HJ2 : Hid (∀ W a c, SRow W a l → Calls Try.prog 20 #[.slice a n c] W fun e w' => e = .returned (.string (bs (joined (datas l)))) ∧ W = w') := fun W a c h2 => rjoin_any a n c l W wl.len_eq h2 (by omega)
  have hc1 := fun W => clean_any s W
  have hc2 := fun W => rclean_any s W
  obtain ⟨J, hJ⟩ : ∃ J, J = bs (joined (datas l)) := ⟨_, rfl⟩
  obtain ⟨C, hC⟩ : ∃ C, C = bs (cleaned s) := ⟨_, rfl⟩
  obtain ⟨z, hz⟩ : ∃ z, z = err s := ⟨_, rfl⟩
  obtain ⟨S, hS⟩ : ∃ S, S = bs s := ⟨_, rfl⟩
  obtain ⟨u, hu⟩ : ∃ u, u = upSlash l f := ⟨_, rfl⟩
  obtain ⟨x, hx⟩ : ∃ x, x = upLast l := ⟨_, rfl⟩
  obtain ⟨m, hm⟩ : ∃ m, m = n - 1 := ⟨_, rfl⟩
  rw [← hJ] at HJ1 HJ2
  rw [← hS, ← hC, ← hz] at hc1 hc2
  rw [← hu, ← hx, ← hm] at HP1 HP2
  rw [← hm] at HUL hmm1
  rw [← hS]
  clear wl hw hJ hC hz hS hu hx hm
  have M1 : Hid True := trivial
  go_enter Try.func4, Try.ntmps4
  go_wp2_with (first
    | (at_builtin; go_must (refine wpList_append_strs rfl (.tmp 16) (.tmp 17) rfl w.heap.size (.slice (some ⟨w.heap.size, 0, none⟩) 0 0) 0 [] rfl (own_empty w _ (Nat.le_refl _)) al n c l rfl HL.out.len_eq (HL.out.row.later (below_new w _)) HL.out.nil (by unfold maxLen; omega) (by omega) (by simp) ?_); intro v1 x1 ho1 hg1; simp only [Nat.zero_add, List.nil_append] at ho1; have hb1 := below_copy hg1; obtain ⟨ao, co, rfl, hro, hno, hco, _⟩ := owns_row' HL.out.len_eq ho1; have T1 : Lies w x1 al n c l ao co := ⟨SArg.later HL.out hb1, hro, hno, hco, hb1⟩; clear ho1 hg1 hb1 hro hno hco)
    | (go_at_call 15; go_must (refine (HP1.out x1 ao co T1.le T1.O).mono ?_); rintro e x2 ⟨a2, c2, rfl, hr2, hb2⟩; have T2 := (T1.later hb2).later (below_new x2 (Obj.cells #[Value.slice a2 m c2, Value.bool u] 24)); have hk2 : Blk (x2.alloc (Obj.cells #[Value.slice a2 m c2, Value.bool u] 24)) x2.heap.size #[Value.slice a2 m c2, Value.bool u] 24 := World.alloc_heap_new x2 _; have hq2 := hr2.later (below_new x2 (Obj.cells #[Value.slice a2 m c2, Value.bool u] 24)); clear T1 hb2 hr2)
    | (go_at_call 16; go_must (refine (HP2.out _ al c T2.A.le T2.A.row).mono ?_); rintro e x3 ⟨rfl, hr3, hb3⟩; have T3 := (T2.later hb3).later (below_new x3 (Obj.cells #[Value.slice al m c, Value.bool u] 28)); have hk3 := (hk2.later hb3).later (below_new x3 (Obj.cells #[Value.slice al m c, Value.bool u] 28)); have hk3' : Blk (x3.alloc (Obj.cells #[Value.slice al m c, Value.bool u] 28)) x3.heap.size #[Value.slice al m c, Value.bool u] 28 := World.alloc_heap_new x3 _; have hq3 := (hq2.later hb3).later (below_new x3 (Obj.cells #[Value.slice al m c, Value.bool u] 28)); have hs3 := hr3.later (below_new x3 (Obj.cells #[Value.slice al m c, Value.bool u] 28)); clear T2 hb3 hr3 hk2 hq2)
    | (go_at_call 17; go_must (refine (hc1 _).mono ?_); rintro e x4 ⟨rfl, hb4⟩; have T4 := T3.later hb4; have hk4 := hk3.later hb4; have hk4' := hk3'.later hb4; have hq4 := hq3.later hb4; have hs4 := hs3.later hb4; clear T3 hk3 hk3' hq3 hs3 hb4)
    | (go_at_call 18; go_must (refine (hc2 _).mono ?_); rintro e x5 ⟨rfl, hb5⟩; have T5 := T4.later hb5; have hk5 := hk4.later hb5; have hk5' := hk4'.later hb5; have hq5 := hq4.later hb5; have hs5 := hs4.later hb5; clear T4 hk4 hk4' hq4 hs4 hb5)
    | (go_at_call 19; go_must (refine (HJ1.out _ ao co T5.le T5.O).mono ?_); rintro e x6 ⟨rfl, hb6⟩; have T6 := T5.later hb6; have hk6 := hk5.later hb6; have hk6' := hk5'.later hb6; have hq6 := hq5.later hb6; have hs6 := hs5.later hb6; have c0 := hk6.cell0; have c1 := hk6.cell1; have d0 := hk6'.cell0; have d1 := hk6'.cell1; clear T5 hk5 hk5' hq5 hs5 hb6)
    | (go_at_call 20; go_must (refine (HJ2.out _ al c T6.A.row).mono ?_); rintro e w' ⟨rfl, rfl⟩)
    | (go_at_call 13; go_must (refine (same_yes a2 al m c2 c (upParts l) u _ HUL.out hmm1 hq6 hs6).mono ?_); rintro e x7 ⟨rfl, hb7⟩; have T7 := T6.later hb7; clear T6 hb7)
    | (go_at_call 21; go_must (refine (texts_any ao n co l al n c l _ T7.A.len_eq T7.A.len_eq hmm T7.O T7.A.row).mono ?_); rw [decide_eq_true (rfl : l = l)]; rintro e x8 ⟨rfl, q8, hq8⟩; have hb8 : Below w.heap.size w x8 := by rw [hq8]; exact Below.after T7.bel (below_drawn _ _)
       clear hq8)
    | (go_at_call 14; refine (alive_any _).mono ?_; rintro e x9 ⟨rfl, hb9⟩))
  go_ret
  exact ⟨by simp, Below.after hb8 hb9⟩

theorem walk (al : Option Addr) (n c : Nat) (l : List ByteArray) (f : Bool) (y : ByteArray) (w : World) (wl : SArg w al n c l) (_ : y.size ≤ maxLen) (hb : weigh l + c ≤ n + 1048576) :
    Calls Try.prog 4 #[.slice al n c, .bool f, .string y] w fun e w' => e = .returned (.bool true) ∧ Below w.heap.size w w' := by
  rw [← bs_of y]
  exact walk_l al n c l f _ w wl (by have := wl.le; omega)

set_option maxRecDepth 100000 in
theorem contract (H : Type) (enc : TypeId × Value → H) (W : World) (base : Nat) (args : Array Value) (ds gs : List (DataW H)) (before : List MemPlace)
    (hval : ∀ (j : Nat) t v, Try.f4.params[j]? = some t → args[j]? = some v → Value.okWide Try.prog W .any base t v)
    (hW : DataW.Whole enc Try.prog Try.f4.params.toList Rows.namesPathsSpec.vars false W args.toList ds gs before) (hk : Rows.uptoSmall H (ds ++ gs) = true) :
    Calls Try.prog 4 args W fun e W' => ∃ v, e = .returned v ∧ Rows.namesPathsSpec.post enc Try.prog Try.f4 false true false false W args v W' := by
  have hW' := hW
  obtain ⟨p, q, hA0, hV, rfl, hfz, hnd⟩ := hW
  have hA : DataW.TrodAll enc Try.prog W 0 (fun _ => true) true Try.f4.params.toList args.toList ds p := hA0
  rw [Try.params4] at hA hval
  obtain ⟨v0, vs0, d0, ds0, p0, q0, hargs, rfl, rfl, h0, r0⟩ := trodAll_cons hA
  obtain ⟨v1, vs1, d1, ds1, p1, q1, rfl, rfl, rfl, h1, r1⟩ := trodAll_cons r0
  obtain ⟨v2, vs2, d2, ds2, p2, q2, rfl, rfl, rfl, h2, r2⟩ := trodAll_cons r1
  obtain ⟨rfl, rfl, rfl⟩ := trodAll_nil r2
  obtain rfl : args = #[v0, v1, v2] := by cases args; simp_all
  obtain ⟨rfl, rfl⟩ := trodVars_none hV
  simp only [List.append_nil] at hk
  have hb : Rows.uptoBulkAll ([d0, d1, d2] : List (DataW H)) ≤ 1048576 := of_decide_eq_true hk
  simp only [Rows.uptoBulkAll] at hb
  obtain ⟨a0, len0, cap0, rfl⟩ := okWide_slice Try.underlying22 (hval 0 22 v0 rfl rfl)
  have k0 := h0
  have lt0 : ∀ x ∈ p0, x.block < W.heap.size := by obtain ⟨m, hm⟩ := k0; exact DataW.trod_lt m _ _ _ hm
  obtain ⟨l0, w0, b0⟩ : ∃ l, SArg W a0 len0 cap0 l ∧ weigh l + cap0 ≤ len0 + Rows.uptoBulk d0 := by
    obtain ⟨fuel, hf⟩ := h0
    obtain ⟨l, hl, hd⟩ := sarg_open hf
    refine ⟨l, hl, ?_⟩
    rcases hd with ⟨h, rfl⟩ | ⟨ss, rfl, hc, rfl⟩
    · rw [weigh_nil]; omega
    · rw [bulk_slice]
      have h1 := weigh_length (ss.drop len0)
      rw [List.length_drop] at h1
      omega
  obtain ⟨a1, rfl, rfl, rfl⟩ := open_bool Try.underlying4 (hval 1 4 v1 rfl rfl) h1
  obtain ⟨a2, rfl, rfl, rfl, w2⟩ := Go.ChangeMaps.open_string Try.underlying9 (hval 2 9 v2 rfl rfl) h2
  clear hA0
  refine (walk a0 len0 cap0 l0 a1 a2 W w0 w2 (by omega)).mono fun e W' ⟨he, bel⟩ => ?_
  subst he
  exact ⟨_, rfl, _, _, _, [], _, [], hW', trodAll_mk1 (shut_bool Try.underlying4 _), (trodAll_cons_mk (Below.trod laidOut (by kernel_rfl) (of_decide_eq_true (by kernel_rfl)) k0 bel lt0) (trodAll_cons_mk (shut_bool Try.underlying4 a1) (trodAll_cons_mk (Go.ChangeMaps.shut_string Try.underlying9 w2) trodAll_mk0))), rfl, bel.frame _, fun h => by cases h⟩

set_option maxRecDepth 100000 in
theorem lifted (os : Os) (started : os.Started) (H : Type) (enc : TypeId × Value → H) (F : Stop.Interp) :
    ReturnsInHanded {} Try.checked os 4 .any ((Rows.OpenSpec.upto Rows.namesPathsSpec).pre6 enc Try.prog Try.f4 Rows.namesPathsUptoRow.domain false) (((Rows.OpenSpec.upto Rows.namesPathsSpec).at F).post enc Try.prog Try.f4 false true false false) := by
  refine returnsInHanded_of_cond (C := Try.checked) (s := Rows.OpenSpec.upto Rows.namesPathsSpec) (k := Rows.uptoSmall) rfl own started (by kernel_rfl) Try.func4
    (OpenSpec.witness (enc := enc) (C := Try.checked) (s := Rows.OpenSpec.upto Rows.namesPathsSpec) (k := Rows.uptoSmall) rfl false ⟨#[], #[.slice none 0 0, .bool false, .string ⟨#[]⟩], []⟩ 8 (by kernel_rfl) (by kernel_rfl) (by kernel_rfl)
      (x := ([.nil, .lit (.bool false), .lit (.string [])], [], [])) (by kernel_rfl) rfl (by kernel_rfl)) ?_
  intro W base args ds gs before hval hW _ hk _
  exact contract H enc W base args ds gs before hval hW hk

theorem over : Rows.NamesPathsUptoSaid :=
  OpenClaim.holds_of_cond 4 Try.f4 rfl rfl rfl rfl rfl rfl rfl ⟨rfl, rfl, rfl, rfl, rfl⟩ rfl rfl rfl rfl rfl (by kernel_rfl) Try.func4 (by kernel_rfl)
    (of_decide_eq_true (by kernel_rfl)) (by unfold Func.isWrapper; first | (rw [if_pos (by decide +kernel)]; kernel_rfl) | (rw [if_neg (by decide +kernel)]; exact ⟨rfl, rfl⟩))
    (fun os started H enc _ F => lifted os started H enc F)
end Go.Proofs.Ytnhoaafpdckmjaa.namesPaths

namespace Go.Proofs.Ytnhoaafpdckmjaa
theorem namesPathsUpto_holds : Rows.NamesPathsUptoSaid := namesPaths.over
#print axioms namesPathsUpto_holds
end Go.Proofs.Ytnhoaafpdckmjaa
