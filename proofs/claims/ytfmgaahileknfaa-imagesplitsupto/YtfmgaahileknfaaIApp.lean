/-
  Bytes that are put behind others, in memory of one's own.
-/
import Derived.Test.YtfmgaahileknfaaIRight
import Derived.Lib.AppendStr
namespace Go.Proofs.Ytfmgaahileknfaa
open Go.RowKit M

theorem cells_any {w : World} {ad : Addr} {l : List Nat} (h : BRow w (some ad) l) : ∀ j u, (l.map u8v)[j]? = some u → w.cell? (ad.add j) = some u := by
  rcases h with rfl | ⟨b, off, ha, hc⟩
  · intro j u hj; simp at hj
  · cases ha
    exact BRow.cells hc
theorem wpList_append_bytes {w : World} {ops : Array Oper} {rest : List Oper} {o : Oper} {a : Act} {Q : Exit → Act → World → Prop} (hgd : o.guard = none) (s x : Operand)
    (ho : o.op = .call { callee := .builtin .append, args := #[s, x], argTypes := #[53, 53] })
    (base : Nat) (v : Value) (n : Nat) (xs : List Value) (hs : a.eval s = v) (hown : w.ownsRow base 5 1 v n xs)
    (ao : Option Addr) (m c : Nat) (M : List Nat) (hx : a.eval x = .slice ao m c) (hM : m = M.length) (hr : BRow w ao M) (hnil : ao = none → m = 0 ∧ c = 0)
    (h63 : n + m ≤ maxLen) (hbytes : (n + m) * 1 ≤ 140737488355328) (hbase : base ≤ w.heap.size)
    (h : ∀ v' w', w'.ownsRow base 5 1 v' (n + m) (xs ++ M.map u8v) → w.grownBy w' v.ownBlock → wpList Try.prog ops Q rest (a.put o.dst v') w') : wpList Try.prog ops Q (o :: rest) a w := by
  obtain ⟨i0, hi, hz0, hz1, hz2⟩ := info_parts info8
  cases ao with
  | none =>
    obtain ⟨rfl, rfl⟩ := hnil rfl
    have hM0 : M = [] := List.eq_nil_of_length_eq_zero hM.symm
    subst hM0
    refine wpList_append_own_none hgd s x 53 ho base 5 i0 1 Try.underlying53 hi v n xs hs hown hx ?_
    exact h v w (by simpa using hown) ⟨rfl, rfl, rfl, Nat.le_refl _, fun _ _ _ => rfl⟩
  | some ad =>
    exact wpList_append_own w hgd s x 53 ho base 5 i0 (.int .u8 0) 1 1 Try.underlying53 hi hz0 hz1 hz2 rfl (by omega) v n xs hs hown ad m c (M.map u8v) hx (by simp [hM]) (cells_any hr) (u8v_one _) h63 hbytes hbase
      (fun v' w' h1 h2 _ => h v' w' h1 h2)
theorem own_shape {w : World} {base n : Nat} {v : Value} {l : List Nat} (hn : n = l.length) (h : w.ownsRow base 5 1 v l.length (l.map u8v)) :
    ∃ a cap, v = .slice a n cap ∧ BRow w a l ∧ (a = none → n = 0 ∧ cap = 0) ∧ n ≤ cap ∧ cap ≤ maxLen := by
  subst hn
  rcases h.2 with ⟨rfl, hn⟩ | ⟨g, cap, cur, rfl, hbg, hgg, hnc, hcm, hcs, htake⟩
  · have : l = [] := List.eq_nil_of_length_eq_zero hn
    subst this
    exact ⟨none, 0, rfl, .inl rfl, fun _ => ⟨rfl, rfl⟩, Nat.le_refl _, by decide⟩
  · obtain ⟨a, c, hv, hr, _⟩ := owns_row h
    simp only [Value.slice.injEq] at hv
    obtain ⟨rfl, _, rfl⟩ := hv
    exact ⟨_, cap, rfl, hr, (fun h => by cases h), hnc, hcm⟩
theorem own_shape' {w : World} {base n : Nat} {v : Value} {l : List Nat} (hn : n = l.length) (h : w.ownsRow base 5 1 v n (l.map u8v)) :
    ∃ a cap, v = .slice a n cap ∧ BRow w a l ∧ (a = none → n = 0 ∧ cap = 0) ∧ n ≤ cap ∧ cap ≤ maxLen := own_shape hn (by rw [← hn]; exact h)

/-- Another block than the row that grew is as it was. -/
theorem Row.grown {W W' : World} {B base e n : Nat} {cs : List Value} {t : TypeId} {v : Value} {xs : List Value} (h : Row W B cs t) (ho : W.ownsRow base e 1 v n xs) (hg : W.grownBy W' v.ownBlock) (ht : t ≠ e) : Row W' B cs t := by
  refine h.same (hg.block B h.lt fun hk => ?_)
  rcases ho.2 with ⟨rfl, _⟩ | ⟨g, cap, cur, rfl, _, hgg, _⟩
  · simp [Value.ownBlock] at hk
  · simp only [Value.ownBlock, Option.some.injEq] at hk
    subst hk
    obtain ⟨r, h⟩ := h
    rw [hgg] at h
    simp at h
    exact ht h.2.symm
theorem strCells_nats (s : List UInt8) : Lib.strCells (bs s) = (nats s).map u8v := by
  simp [Lib.strCells, nats, bs, u8v]

/-- append(b, text...). -/
theorem wpList_append_txt {w : World} {ops : Array Oper} {rest : List Oper} {o : Oper} {a : Act} {Q : Exit → Act → World → Prop} (hgd : o.guard = none) (s x : Operand)
    (ho : o.op = .call { callee := .builtin .append, args := #[s, x], argTypes := #[53, 9] })
    (base : Nat) (v : Value) (n : Nat) (xs : List Value) (hs : a.eval s = v) (hown : w.ownsRow base 5 1 v n xs)
    (S : ByteArray) (m : Nat) (M : List Nat) (hx : a.eval x = .string S) (hm : S.size = m) (hM : Lib.strCells S = M.map u8v)
    (h63 : n + m ≤ maxLen) (hbytes : n + m ≤ 140737488355328) (hbase : base ≤ w.heap.size)
    (h : ∀ v' w', w'.ownsRow base 5 1 v' (n + m) (xs ++ M.map u8v) → w.grownBy w' v.ownBlock → wpList Try.prog ops Q rest (a.put o.dst v') w') : wpList Try.prog ops Q (o :: rest) a w := by
  obtain ⟨i0, hi, hz0, hz1, hz2⟩ := info_parts info8
  subst hm
  refine Lib.wpList_append_own_string w hgd s x 53 9 ho base 5 i0 Try.underlying53 Try.underlying9 hi hz0 hz1 hz2 v n xs hs hown S hx h63 hbytes hbase fun v' w' h1 h2 _ => ?_
  rw [hM] at h1
  exact h v' w' h1 h2
theorem brow_new1 (W : World) (a : Nat) : BRow (W.alloc (.cells #[.int .u8 (a : Int)] 5)) (some ⟨W.heap.size, 0, none⟩) [a] := by
  refine .inr ⟨_, 0, rfl, fun i hi => ?_⟩
  have hi' : i < 1 := by simpa using hi
  obtain rfl : i = 0 := by omega
  simp
theorem own_brow {W w' : World} {g m c : Nat} {l : List Nat} (_hm : l.length = m) (h : Own W w' (.slice (some ⟨g, 0, none⟩) m c) l) : BRow w' (some ⟨g, 0, none⟩) l := by
  obtain ⟨a', cap, hv, hr, _, _⟩ := h.row
  obtain ⟨rfl, _, rfl⟩ : some ⟨g, 0, none⟩ = a' ∧ m = l.length ∧ c = cap := by simpa using hv
  exact hr

/-- What a call has gathered: the bytes L, at v. -/
structure Acc (w W : World) (v : Value) (m : Nat) (L : List Nat) : Prop where
  own : W.ownsRow w.heap.size 5 1 v m (L.map u8v)
  len : m = L.length
  bel : Below w.heap.size w W
theorem Acc.later {w W W' : World} {v : Value} {m : Nat} {L : List Nat} (h : Acc w W v m L) (hb : Below W.heap.size W W') : Acc w W' v m L :=
  ⟨owns_later h.own hb, h.len, Below.after h.bel hb⟩
theorem Acc.app {w W W' : World} {v v' : Value} {m k : Nat} {L M : List Nat} (h : Acc w W v m L) (hM : k = M.length) (ho : W'.ownsRow w.heap.size 5 1 v' (m + k) (L.map u8v ++ M.map u8v)) (hg : W.grownBy W' v.ownBlock) : Acc w W' v' (m + k) (L ++ M) :=
  ⟨by rw [List.map_append]; exact ho, by rw [List.length_append, h.len, hM], grown_own h.bel hg h.bel.size h.own⟩
theorem Acc.end {w W : World} {v : Value} {m : Nat} {L : List Nat} (h : Acc w W v m L) : Own w W v L := by
  have h1 := h.own
  rw [h.len] at h1
  exact ⟨h1, h.bel⟩
theorem make_acc {w w1 : World} {c : Nat} (hown : w1.ownsRow w.heap.size 5 1 (.slice (some ⟨w.heap.size, 0, none⟩) 0 c) 0 []) (hgrow : w.grownBy w1 none) : Acc w w1 (.slice (some ⟨w.heap.size, 0, none⟩) 0 c) 0 [] :=
  ⟨hown, rfl, (Below.refl _ _).grown hgrow (Nat.le_refl _) (fun k hk => by cases hk)⟩


/-- What a call has gathered, and a box that lies beside it. -/
structure Pk (w W : World) (B : Nat) (cs : List Value) (t : TypeId) (v : Value) (m : Nat) (L : List Nat) : Prop where
  acc : Acc w W v m L
  box : Row W B cs t
theorem Pk.later {w W W' : World} {B : Nat} {cs : List Value} {t : TypeId} {v : Value} {m : Nat} {L : List Nat} (h : Pk w W B cs t v m L) (hb : Below W.heap.size W W') : Pk w W' B cs t v m L :=
  ⟨h.acc.later hb, h.box.later hb⟩
theorem Pk.app {w W W' : World} {B : Nat} {cs : List Value} {t : TypeId} {v v' : Value} {m k : Nat} {L M : List Nat} (h : Pk w W B cs t v m L) (ht : t ≠ 5) (hM : k = M.length) (ho : W'.ownsRow w.heap.size 5 1 v' (m + k) (L.map u8v ++ M.map u8v)) (hg : W.grownBy W' v.ownBlock) : Pk w W' B cs t v' (m + k) (L ++ M) :=
  ⟨h.acc.app hM ho hg, h.box.grown h.acc.own hg ht⟩
theorem make_pk {w W w1 : World} {cs : List Value} {t : TypeId} {c : Nat} (hb : Below w.heap.size w W) (hr : Row W w.heap.size cs t)
    (hown : w1.ownsRow w.heap.size 5 1 (.slice (some ⟨W.heap.size, 0, none⟩) 0 c) 0 []) (hgrow : W.grownBy w1 none) : Pk w w1 w.heap.size cs t (.slice (some ⟨W.heap.size, 0, none⟩) 0 c) 0 [] := by
  have hb1 : Below W.heap.size W w1 := (Below.refl _ _).grown hgrow (Nat.le_refl _) (fun k hk => by cases hk)
  exact ⟨⟨hown, rfl, Below.after hb hb1⟩, hr.later hb1⟩
theorem Pk.seen2 {w W : World} {B : Nat} {x y : Value} {t : TypeId} {v : Value} {m : Nat} {L : List Nat} (h : Pk w W B [x, y] t v m L) : W.cell? ⟨B, 0, none⟩ = some x ∧ W.cell? ⟨B, 1, none⟩ = some y :=
  ⟨h.box.cell (i := 0) rfl, h.box.cell (i := 1) rfl⟩
theorem Pk.seen4 {w W : World} {B : Nat} {x y z u : Value} {t : TypeId} {v : Value} {m : Nat} {L : List Nat} (h : Pk w W B [x, y, z, u] t v m L) : W.cell? ⟨B, 0, none⟩ = some x ∧ W.cell? ⟨B, 1, none⟩ = some y ∧ W.cell? ⟨B, 2, none⟩ = some z ∧ W.cell? ⟨B, 3, none⟩ = some u :=
  ⟨h.box.cell (i := 0) rfl, h.box.cell (i := 1) rfl, h.box.cell (i := 2) rfl, h.box.cell (i := 3) rfl⟩
end Go.Proofs.Ytfmgaahileknfaa
