/-
  those, Frees, Totals, Victims of one block: what they tell.
-/
import Derived.Test.YtmaekpfkkpkgpaaGreatDoorBParse
import Derived.Laws.AppendOwn
import Derived.Laws.AppendOwnNone
import Derived.Deep.LoopGhost
namespace Go.Proofs.YtmaekpfkkpkgpaaGreatDoor
open Go.RowKit Go.Shelf
set_option maxRecDepth 10000

/-- The numbers of the blocks that are so. -/
def thoseF (pr : PB → Bool) : Nat → List PB → List Int
  | _, [] => []
  | k, x :: l => if pr x = true then (k : Int) :: thoseF pr (k + 1) l else thoseF pr (k + 1) l
theorem thoseF_snoc (pr : PB → Bool) : ∀ (l : List PB) (k : Nat) (x : PB), thoseF pr k (l ++ [x]) = thoseF pr k l ++ (if pr x = true then [((k + l.length : Nat) : Int)] else [])
  | [], k, x => by simp [thoseF]
  | y :: l, k, x => by
    rw [List.cons_append]
    unfold thoseF
    rw [thoseF_snoc pr l (k + 1) x, List.length_cons, show k + 1 + l.length = k + (l.length + 1) by omega]
    split <;> simp
theorem thoseF_take (pr : PB → Bool) {l : List PB} {k : Nat} {x : PB} (h : l[k]? = some x) : thoseF pr 0 (l.take (k + 1)) = thoseF pr 0 (l.take k) ++ (if pr x = true then [(k : Int)] else []) := by
  obtain ⟨hk, e⟩ := List.getElem?_eq_some_iff.1 h
  rw [List.take_add_one, h]
  show thoseF pr 0 (l.take k ++ [x]) = _
  rw [thoseF_snoc, List.length_take, Nat.min_eq_left (Nat.le_of_lt hk), Nat.zero_add]
theorem thoseF_len (pr : PB → Bool) : ∀ (l : List PB) (q : Nat), (thoseF pr q l).length ≤ l.length := by
  intro l
  induction l with
  | nil => intro q; exact Nat.le_refl _
  | cons y l ih =>
    intro q
    unfold thoseF
    split
    · have := ih (q + 1); simp; omega
    · have := ih (q + 1); simp; omega
theorem wpList_append_int {w : World} {ops : Array Oper} {rest : List Oper} {o : Oper} {a : Act} {Q : Exit → Act → World → Prop} (hgd : o.guard = none) (s x : Operand)
    (ho : o.op = .call { callee := .builtin .append, args := #[s, x], argTypes := #[51, 51] })
    (base : Nat) (v : Value) (n : Nat) (xs : List Value) (hs : a.eval s = v) (hown : w.ownsRow base 3 1 v n xs)
    (ad : Addr) (c : Nat) (u : Int) (hx : a.eval x = .slice (some ad) 1 c) (hr : w.cell? (ad.add 0) = some (intV u))
    (h63 : n + 1 ≤ maxLen) (hbytes : (n + 1) * 8 ≤ 140737488355328) (hbase : base ≤ w.heap.size)
    (h : ∀ v' w', w'.ownsRow base 3 1 v' (n + 1) (xs ++ [intV u]) → w.grownBy w' v.ownBlock → wpList Tryz.prog ops Q rest (a.put o.dst v') w') : wpList Tryz.prog ops Q (o :: rest) a w := by
  obtain ⟨i0, hi, hz0, hz1, hz2⟩ := info_parts infoI
  exact wpList_append_own w hgd s x 51 ho base 3 i0 (.int .i64 0) 1 8 Tryz.underlying51 hi hz0 hz1 hz2 rfl (by omega) v n xs hs hown ad 1 c [intV u] hx rfl
    (fun j z hj => by
      have hj0 : j = 0 := by have := (List.getElem?_eq_some_iff.1 hj).1; simp at this; omega
      subst hj0
      simp at hj; subst hj
      exact hr) (fun z hz => by simp at hz; subst hz; rfl) h63 hbytes hbase
    (fun v' w' h1 h2 _ => h v' w' h1 h2)
theorem new_int (w : World) (u : Int) (t : TypeId) : (w.alloc (.cells #[.int .i64 u] t)).cell? ((⟨w.heap.size, 0, none⟩ : Addr).add 0) = some (intV u) := ((Row.new w [.int .i64 u] t).cell (i := 0) rfl : _)
/-- Numbers that a call has made. -/
def OwnI (base : Nat) (w : World) (v : Value) (l : List Int) : Prop := w.ownsRow base 3 1 v l.length (l.map intV)
theorem OwnI.later {base : Nat} {w w' : World} {v : Value} {l : List Int} (h : OwnI base w v l) (hb : Below w.heap.size w w') : OwnI base w' v l := owns_later h hb
theorem OwnI.block {base : Nat} {w : World} {v : Value} {l : List Int} (h : OwnI base w v l) : ∀ q, v.ownBlock = some q → base ≤ q := by
  intro q hq
  rcases h.2 with ⟨rfl, h0⟩ | ⟨g, cap, cur, rfl, hbg, _⟩
  · simp [Value.ownBlock] at hq
  · simp [Value.ownBlock] at hq
    omega
structure Am (w wr : World) (v : Value) (l : List Int) : Prop where
  bel : Below w.heap.size w wr
  own : OwnI w.heap.size wr v l
theorem own_empty (w : World) (base : Nat) (h : base ≤ w.heap.size) (e : TypeId) : (w.alloc (.cells #[] e)).ownsRow base e 1 (.slice (some ⟨w.heap.size, 0, none⟩) 0 0) 0 [] :=
  ⟨by simp, .inr ⟨w.heap.size, 0, #[], rfl, h, World.alloc_heap_new w _, Nat.le_refl _, Nat.zero_le _, rfl, rfl⟩⟩
set_option maxHeartbeats 4000000 in
theorem those_free {w : World} {p q cap : Nat} {size : Int} {l : List PB} (h : BLies w p q cap size l) (hn : l.length ≤ 256) (pr : PB → Bool) (hP : ∀ X (x : PB), Below w.heap.size w X → x ∈ l → Calls Tryz.prog 55 #[.agg #[.int .i64 x.use, .int .i64 x.used, .int .i64 x.live, .bool x.closed]] X fun e w' => e = .returned (.bool (pr x)) ∧ Below X.heap.size X w') :
    Calls Tryz.prog 47 #[.pointer (some ⟨p, 0, none⟩), .func (.func 55) #[] #[]] w fun e w' => ∃ v, e = .returned v ∧ OwnI w.heap.size w' v (thoseF pr 0 l) ∧ Below w.heap.size w w' := by
  obtain ⟨X, hX⟩ : ∃ X, X = w.alloc (.cells #[] 3) := ⟨_, rfl⟩
  have hbX : Below w.heap.size w X := by rw [hX]; exact below_new _ _
  have hoX : OwnI w.heap.size X (.slice (some ⟨w.heap.size, 0, none⟩) 0 0) [] := by rw [hX]; exact own_empty w _ (Nat.le_refl _) _
  have c1 := (h.later (below_new w (.cells #[] 3))).box.cell (i := 1) rfl
  have HM : Hid (∀ X, Below w.heap.size w X → BLies X p q cap size l) := fun X hb => h.later hb
  have HP := hidW hP
  have HAX := hidW (show Am w X (.slice (some ⟨w.heap.size, 0, none⟩) 0 0) [] from ⟨hbX, hoX⟩)
  clear h hP hbX hoX
  go_enter Tryz.func47, Tryz.ntmps47
  go_wp2_with fail
  rw [← hX]
  clear hX c1
  go_loopg [5, 16] l.length (fun kx s5 s16 wr => ∃ (k : Nat) (v : Value), k + kx = l.length ∧ v = s5 ∧ s16 = .int .i64 (k : Nat) ∧ Hid (Am w wr v (thoseF pr 0 (l.take k))))
  case atStart => exact ⟨0, _, by omega, rfl, rfl, HAX⟩
  case round =>
    obtain ⟨k, v, hk, rfl, rfl, HA⟩ := hrel
    by_cases hlt : k < l.length
    · obtain ⟨x, hx⟩ : ∃ x, l[k]? = some x := ⟨_, List.getElem?_eq_getElem hlt⟩
      have HT : Hid (thoseF pr 0 (l.take (k + 1)) = thoseF pr 0 (l.take k) ++ (if pr x = true then [(k : Int)] else [])) := thoseF_take pr hx
      obtain ⟨g0, g1, g2, g3⟩ := (HM.out wr HA.out.bel).at hx
      have n0 : ¬ (k : Int) < 0 := by omega
      have n1 : (k : Int) < (l.length : Int) := by omega
      have hll : (thoseF pr 0 (l.take k)).length ≤ 256 := by
        have := thoseF_len pr (l.take k) 0
        rw [List.length_take] at this
        omega
      obtain ⟨A, hA⟩ : ∃ A, A = thoseF pr 0 (l.take k) := ⟨_, rfl⟩
      rw [← hA] at HA HT hll
      have hb2 := below_new wr (.cells #[.int .i64 x.use, .int .i64 x.used, .int .i64 x.live, .bool x.closed] 54)
      have HA2 : Hid (Am w (wr.alloc (.cells #[.int .i64 x.use, .int .i64 x.used, .int .i64 x.live, .bool x.closed] 54)) v A) := ⟨Below.after HA.out.bel hb2, HA.out.own.later hb2⟩
      have kC := HP.out _ x HA2.out.bel (List.mem_of_getElem? hx)
      obtain ⟨q1, hq⟩ : ∃ q1, q1 = pr x := ⟨_, rfl⟩
      rw [← hq] at kC HT
      clear hx hA hq hb2
      cases q1 with
      | true =>
        have HLn : Hid (A.length ≤ 256) := hll
        clear hll
        go_wp2_with (first
          | (go_at_call 55; refine kC.mono ?_; rintro e w3 ⟨rfl, hb3⟩; have HA3 : Hid (Am w w3 v A) := ⟨Below.after HA2.out.bel hb3, HA2.out.own.later hb3⟩; clear hb3; have HNew : Hid ((w3.alloc (.cells #[.int .i64 (k : Int)] 3)).cell? ((⟨w3.heap.size, 0, none⟩ : Addr).add 0) = some (intV (k : Int)) ∧ OwnI w.heap.size (w3.alloc (.cells #[.int .i64 (k : Int)] 3)) v A ∧ Below w.heap.size w (w3.alloc (.cells #[.int .i64 (k : Int)] 3))) := ⟨new_int w3 k _, HA3.out.own.later (below_new _ _), Below.after HA3.out.bel (below_new _ _)⟩)
          | (at_builtin; refine wpList_append_int rfl (.tmp 24) (.tmp 26) rfl w.heap.size v A.length (A.map intV) rfl HNew.out.2.1 ⟨w3.heap.size, 0, none⟩ 1 (k : Int) rfl HNew.out.1 (by have := HLn.out; unfold maxLen; omega) (by have := HLn.out; omega) HNew.out.2.2.size ?_; intro v5 w5 hown hgrow; have HO5 : Hid (OwnI w.heap.size w5 v5 (A ++ [(k : Int)]) ∧ Below w.heap.size w w5) := ⟨by have := hown; unfold OwnI; rw [List.map_append, List.length_append]; exact this, HNew.out.2.2.grown hgrow HNew.out.2.2.size (fun q hq => HNew.out.2.1.block q hq)⟩; clear hown hgrow))
        go_roundg (l.length - (k + 1))
        case measure => omega
        case rel => exact ⟨k + 1, v5, by omega, rfl, by go_num, ⟨HO5.out.2, by rw [HT.out]; simpa using HO5.out.1⟩⟩
      | false =>
        have HT2 : Hid (thoseF pr 0 (l.take (k + 1)) = A) := (by have := HT.out; simpa using this : thoseF pr 0 (l.take (k + 1)) = A)
        clear HT
        go_wp2_with (go_at_call 55; refine kC.mono ?_; rintro e w3 ⟨rfl, hb3⟩; have HA3 : Hid (Am w w3 v A) := ⟨Below.after HA2.out.bel hb3, HA2.out.own.later hb3⟩; clear hb3)
        go_roundg (l.length - (k + 1))
        case measure => omega
        case rel => exact ⟨k + 1, v, by omega, rfl, by go_num, by rw [HT2.out]; exact HA3⟩
    · have hkk : k = l.length := by omega
      rw [hkk, List.take_length] at HA
      have n1 : ¬ (k : Int) < (l.length : Int) := by omega
      obtain ⟨a, cc, rfl⟩ := owns_form HA.out.own
      clear hkk hlt hk
      go_wp2
      go_ret
      exact ⟨_, rfl, HA.out.own, HA.out.bel⟩
set_option maxHeartbeats 4000000 in
theorem those_vict {w : World} {p q cap : Nat} {size : Int} {l : List PB} (h : BLies w p q cap size l) (hn : l.length ≤ 256) (pr : PB → Bool) (ub : Nat) (hP : ∀ X (x : PB), Below w.heap.size w X → x ∈ l → Calls Tryz.prog 48 #[.agg #[.int .i64 x.use, .int .i64 x.used, .int .i64 x.live, .bool x.closed], .pointer (some ⟨ub, 0, none⟩)] X fun e w' => e = .returned (.bool (pr x)) ∧ Below X.heap.size X w') :
    Calls Tryz.prog 47 #[.pointer (some ⟨p, 0, none⟩), .func (.func 48) #[] #[.pointer (some ⟨ub, 0, none⟩)]] w fun e w' => ∃ v, e = .returned v ∧ OwnI w.heap.size w' v (thoseF pr 0 l) ∧ Below w.heap.size w w' := by
  obtain ⟨X, hX⟩ : ∃ X, X = w.alloc (.cells #[] 3) := ⟨_, rfl⟩
  have hbX : Below w.heap.size w X := by rw [hX]; exact below_new _ _
  have hoX : OwnI w.heap.size X (.slice (some ⟨w.heap.size, 0, none⟩) 0 0) [] := by rw [hX]; exact own_empty w _ (Nat.le_refl _) _
  have c1 := (h.later (below_new w (.cells #[] 3))).box.cell (i := 1) rfl
  have HM : Hid (∀ X, Below w.heap.size w X → BLies X p q cap size l) := fun X hb => h.later hb
  have HP := hidW hP
  have HAX := hidW (show Am w X (.slice (some ⟨w.heap.size, 0, none⟩) 0 0) [] from ⟨hbX, hoX⟩)
  clear h hP hbX hoX
  go_enter Tryz.func47, Tryz.ntmps47
  go_wp2_with fail
  rw [← hX]
  clear hX c1
  go_loopg [5, 16] l.length (fun kx s5 s16 wr => ∃ (k : Nat) (v : Value), k + kx = l.length ∧ v = s5 ∧ s16 = .int .i64 (k : Nat) ∧ Hid (Am w wr v (thoseF pr 0 (l.take k))))
  case atStart => exact ⟨0, _, by omega, rfl, rfl, HAX⟩
  case round =>
    obtain ⟨k, v, hk, rfl, rfl, HA⟩ := hrel
    by_cases hlt : k < l.length
    · obtain ⟨x, hx⟩ : ∃ x, l[k]? = some x := ⟨_, List.getElem?_eq_getElem hlt⟩
      have HT : Hid (thoseF pr 0 (l.take (k + 1)) = thoseF pr 0 (l.take k) ++ (if pr x = true then [(k : Int)] else [])) := thoseF_take pr hx
      obtain ⟨g0, g1, g2, g3⟩ := (HM.out wr HA.out.bel).at hx
      have n0 : ¬ (k : Int) < 0 := by omega
      have n1 : (k : Int) < (l.length : Int) := by omega
      have hll : (thoseF pr 0 (l.take k)).length ≤ 256 := by
        have := thoseF_len pr (l.take k) 0
        rw [List.length_take] at this
        omega
      obtain ⟨A, hA⟩ : ∃ A, A = thoseF pr 0 (l.take k) := ⟨_, rfl⟩
      rw [← hA] at HA HT hll
      have hb2 := below_new wr (.cells #[.int .i64 x.use, .int .i64 x.used, .int .i64 x.live, .bool x.closed] 54)
      have HA2 : Hid (Am w (wr.alloc (.cells #[.int .i64 x.use, .int .i64 x.used, .int .i64 x.live, .bool x.closed] 54)) v A) := ⟨Below.after HA.out.bel hb2, HA.out.own.later hb2⟩
      have kC := HP.out _ x HA2.out.bel (List.mem_of_getElem? hx)
      obtain ⟨q1, hq⟩ : ∃ q1, q1 = pr x := ⟨_, rfl⟩
      rw [← hq] at kC HT
      clear hx hA hq hb2
      cases q1 with
      | true =>
        have HLn : Hid (A.length ≤ 256) := hll
        clear hll
        go_wp2_with (first
          | (go_at_call 48; refine kC.mono ?_; rintro e w3 ⟨rfl, hb3⟩; have HA3 : Hid (Am w w3 v A) := ⟨Below.after HA2.out.bel hb3, HA2.out.own.later hb3⟩; clear hb3; have HNew : Hid ((w3.alloc (.cells #[.int .i64 (k : Int)] 3)).cell? ((⟨w3.heap.size, 0, none⟩ : Addr).add 0) = some (intV (k : Int)) ∧ OwnI w.heap.size (w3.alloc (.cells #[.int .i64 (k : Int)] 3)) v A ∧ Below w.heap.size w (w3.alloc (.cells #[.int .i64 (k : Int)] 3))) := ⟨new_int w3 k _, HA3.out.own.later (below_new _ _), Below.after HA3.out.bel (below_new _ _)⟩)
          | (at_builtin; refine wpList_append_int rfl (.tmp 24) (.tmp 26) rfl w.heap.size v A.length (A.map intV) rfl HNew.out.2.1 ⟨w3.heap.size, 0, none⟩ 1 (k : Int) rfl HNew.out.1 (by have := HLn.out; unfold maxLen; omega) (by have := HLn.out; omega) HNew.out.2.2.size ?_; intro v5 w5 hown hgrow; have HO5 : Hid (OwnI w.heap.size w5 v5 (A ++ [(k : Int)]) ∧ Below w.heap.size w w5) := ⟨by have := hown; unfold OwnI; rw [List.map_append, List.length_append]; exact this, HNew.out.2.2.grown hgrow HNew.out.2.2.size (fun q hq => HNew.out.2.1.block q hq)⟩; clear hown hgrow))
        go_roundg (l.length - (k + 1))
        case measure => omega
        case rel => exact ⟨k + 1, v5, by omega, rfl, by go_num, ⟨HO5.out.2, by rw [HT.out]; simpa using HO5.out.1⟩⟩
      | false =>
        have HT2 : Hid (thoseF pr 0 (l.take (k + 1)) = A) := (by have := HT.out; simpa using this : thoseF pr 0 (l.take (k + 1)) = A)
        clear HT
        go_wp2_with (go_at_call 48; refine kC.mono ?_; rintro e w3 ⟨rfl, hb3⟩; have HA3 : Hid (Am w w3 v A) := ⟨Below.after HA2.out.bel hb3, HA2.out.own.later hb3⟩; clear hb3)
        go_roundg (l.length - (k + 1))
        case measure => omega
        case rel => exact ⟨k + 1, v, by omega, rfl, by go_num, by rw [HT2.out]; exact HA3⟩
    · have hkk : k = l.length := by omega
      rw [hkk, List.take_length] at HA
      have n1 : ¬ (k : Int) < (l.length : Int) := by omega
      obtain ⟨a, cc, rfl⟩ := owns_form HA.out.own
      clear hkk hlt hk
      go_wp2
      go_ret
      exact ⟨_, rfl, HA.out.own, HA.out.bel⟩
set_option maxHeartbeats 4000000 in
theorem those_of {w : World} {p q cap : Nat} {size : Int} {l : List PB} (h : BLies w p q cap size l) (hn : l.length ≤ 256) (pr : PB → Bool) (ub : Nat) (hP : ∀ X (x : PB), Below w.heap.size w X → x ∈ l → Calls Tryz.prog 56 #[.agg #[.int .i64 x.use, .int .i64 x.used, .int .i64 x.live, .bool x.closed], .pointer (some ⟨ub, 0, none⟩)] X fun e w' => e = .returned (.bool (pr x)) ∧ Below X.heap.size X w') :
    Calls Tryz.prog 47 #[.pointer (some ⟨p, 0, none⟩), .func (.func 56) #[] #[.pointer (some ⟨ub, 0, none⟩)]] w fun e w' => ∃ v, e = .returned v ∧ OwnI w.heap.size w' v (thoseF pr 0 l) ∧ Below w.heap.size w w' := by
  obtain ⟨X, hX⟩ : ∃ X, X = w.alloc (.cells #[] 3) := ⟨_, rfl⟩
  have hbX : Below w.heap.size w X := by rw [hX]; exact below_new _ _
  have hoX : OwnI w.heap.size X (.slice (some ⟨w.heap.size, 0, none⟩) 0 0) [] := by rw [hX]; exact own_empty w _ (Nat.le_refl _) _
  have c1 := (h.later (below_new w (.cells #[] 3))).box.cell (i := 1) rfl
  have HM : Hid (∀ X, Below w.heap.size w X → BLies X p q cap size l) := fun X hb => h.later hb
  have HP := hidW hP
  have HAX := hidW (show Am w X (.slice (some ⟨w.heap.size, 0, none⟩) 0 0) [] from ⟨hbX, hoX⟩)
  clear h hP hbX hoX
  go_enter Tryz.func47, Tryz.ntmps47
  go_wp2_with fail
  rw [← hX]
  clear hX c1
  go_loopg [5, 16] l.length (fun kx s5 s16 wr => ∃ (k : Nat) (v : Value), k + kx = l.length ∧ v = s5 ∧ s16 = .int .i64 (k : Nat) ∧ Hid (Am w wr v (thoseF pr 0 (l.take k))))
  case atStart => exact ⟨0, _, by omega, rfl, rfl, HAX⟩
  case round =>
    obtain ⟨k, v, hk, rfl, rfl, HA⟩ := hrel
    by_cases hlt : k < l.length
    · obtain ⟨x, hx⟩ : ∃ x, l[k]? = some x := ⟨_, List.getElem?_eq_getElem hlt⟩
      have HT : Hid (thoseF pr 0 (l.take (k + 1)) = thoseF pr 0 (l.take k) ++ (if pr x = true then [(k : Int)] else [])) := thoseF_take pr hx
      obtain ⟨g0, g1, g2, g3⟩ := (HM.out wr HA.out.bel).at hx
      have n0 : ¬ (k : Int) < 0 := by omega
      have n1 : (k : Int) < (l.length : Int) := by omega
      have hll : (thoseF pr 0 (l.take k)).length ≤ 256 := by
        have := thoseF_len pr (l.take k) 0
        rw [List.length_take] at this
        omega
      obtain ⟨A, hA⟩ : ∃ A, A = thoseF pr 0 (l.take k) := ⟨_, rfl⟩
      rw [← hA] at HA HT hll
      have hb2 := below_new wr (.cells #[.int .i64 x.use, .int .i64 x.used, .int .i64 x.live, .bool x.closed] 54)
      have HA2 : Hid (Am w (wr.alloc (.cells #[.int .i64 x.use, .int .i64 x.used, .int .i64 x.live, .bool x.closed] 54)) v A) := ⟨Below.after HA.out.bel hb2, HA.out.own.later hb2⟩
      have kC := HP.out _ x HA2.out.bel (List.mem_of_getElem? hx)
      obtain ⟨q1, hq⟩ : ∃ q1, q1 = pr x := ⟨_, rfl⟩
      rw [← hq] at kC HT
      clear hx hA hq hb2
      cases q1 with
      | true =>
        have HLn : Hid (A.length ≤ 256) := hll
        clear hll
        go_wp2_with (first
          | (go_at_call 56; refine kC.mono ?_; rintro e w3 ⟨rfl, hb3⟩; have HA3 : Hid (Am w w3 v A) := ⟨Below.after HA2.out.bel hb3, HA2.out.own.later hb3⟩; clear hb3; have HNew : Hid ((w3.alloc (.cells #[.int .i64 (k : Int)] 3)).cell? ((⟨w3.heap.size, 0, none⟩ : Addr).add 0) = some (intV (k : Int)) ∧ OwnI w.heap.size (w3.alloc (.cells #[.int .i64 (k : Int)] 3)) v A ∧ Below w.heap.size w (w3.alloc (.cells #[.int .i64 (k : Int)] 3))) := ⟨new_int w3 k _, HA3.out.own.later (below_new _ _), Below.after HA3.out.bel (below_new _ _)⟩)
          | (at_builtin; refine wpList_append_int rfl (.tmp 24) (.tmp 26) rfl w.heap.size v A.length (A.map intV) rfl HNew.out.2.1 ⟨w3.heap.size, 0, none⟩ 1 (k : Int) rfl HNew.out.1 (by have := HLn.out; unfold maxLen; omega) (by have := HLn.out; omega) HNew.out.2.2.size ?_; intro v5 w5 hown hgrow; have HO5 : Hid (OwnI w.heap.size w5 v5 (A ++ [(k : Int)]) ∧ Below w.heap.size w w5) := ⟨by have := hown; unfold OwnI; rw [List.map_append, List.length_append]; exact this, HNew.out.2.2.grown hgrow HNew.out.2.2.size (fun q hq => HNew.out.2.1.block q hq)⟩; clear hown hgrow))
        go_roundg (l.length - (k + 1))
        case measure => omega
        case rel => exact ⟨k + 1, v5, by omega, rfl, by go_num, ⟨HO5.out.2, by rw [HT.out]; simpa using HO5.out.1⟩⟩
      | false =>
        have HT2 : Hid (thoseF pr 0 (l.take (k + 1)) = A) := (by have := HT.out; simpa using this : thoseF pr 0 (l.take (k + 1)) = A)
        clear HT
        go_wp2_with (go_at_call 56; refine kC.mono ?_; rintro e w3 ⟨rfl, hb3⟩; have HA3 : Hid (Am w w3 v A) := ⟨Below.after HA2.out.bel hb3, HA2.out.own.later hb3⟩; clear hb3)
        go_roundg (l.length - (k + 1))
        case measure => omega
        case rel => exact ⟨k + 1, v, by omega, rfl, by go_num, by rw [HT2.out]; exact HA3⟩
    · have hkk : k = l.length := by omega
      rw [hkk, List.take_length] at HA
      have n1 : ¬ (k : Int) < (l.length : Int) := by omega
      obtain ⟨a, cc, rfl⟩ := owns_form HA.out.own
      clear hkk hlt hk
      go_wp2
      go_ret
      exact ⟨_, rfl, HA.out.own, HA.out.bel⟩
end Go.Proofs.YtmaekpfkkpkgpaaGreatDoor
