/-
  Bytes that are put behind others, in memory of one's own.
-/
import Derived.Test.YtefpcdpclpignaaKIno
import Derived.Laws.AppendOwnNone
import Derived.Lib.AppendStr
namespace Go.Proofs.Ytefpcdpclpignaa
open Go.RowKit M

theorem cells_any {w : World} {ad : Addr} {l : List Nat} (h : BRow w (some ad) l) : ∀ j u, (l.map u8v)[j]? = some u → w.cell? (ad.add j) = some u := by
  rcases h with rfl | ⟨b, off, ha, hc⟩
  · intro j u hj; simp at hj
  · cases ha
    exact BRow.cells hc
theorem wpList_append_bytes {w : World} {ops : Array Oper} {rest : List Oper} {o : Oper} {a : Act} {Q : Exit → Act → World → Prop} (hgd : o.guard = none) (s x : Operand)
    (ho : o.op = .call { callee := .builtin .append, args := #[s, x], argTypes := #[43, 43] })
    (base : Nat) (v : Value) (n : Nat) (xs : List Value) (hs : a.eval s = v) (hown : w.ownsRow base 5 1 v n xs)
    (ao : Option Addr) (m c : Nat) (M : List Nat) (hx : a.eval x = .slice ao m c) (hM : m = M.length) (hr : BRow w ao M) (hnil : ao = none → m = 0 ∧ c = 0)
    (h63 : n + m ≤ maxLen) (hbytes : (n + m) * 1 ≤ 140737488355328) (hbase : base ≤ w.heap.size)
    (h : ∀ v' w', w'.ownsRow base 5 1 v' (n + m) (xs ++ M.map u8v) → w.grownBy w' v.ownBlock → wpList Try.prog ops Q rest (a.put o.dst v') w') : wpList Try.prog ops Q (o :: rest) a w := by
  obtain ⟨i0, hi, hz0, hz1, hz2⟩ := info_parts info8
  cases ao with
  | none =>
    obtain ⟨rfl, rfl⟩ := hnil rfl
    have hM0 : M = [] := List.eq_nil_of_length_eq_zero hM.symm
    subst hM0
    refine wpList_append_own_none hgd s x 43 ho base 5 i0 1 Try.underlying43 hi v n xs hs hown hx ?_
    exact h v w (by simpa using hown) ⟨rfl, rfl, rfl, Nat.le_refl _, fun _ _ _ => rfl⟩
  | some ad =>
    exact wpList_append_own w hgd s x 43 ho base 5 i0 (.int .u8 0) 1 1 Try.underlying43 hi hz0 hz1 hz2 rfl (by omega) v n xs hs hown ad m c (M.map u8v) hx (by simp [hM]) (cells_any hr) (u8v_one _) h63 hbytes hbase
      (fun v' w' h1 h2 _ => h v' w' h1 h2)
theorem own_shape {w : World} {base n : Nat} {v : Value} {l : List Nat} (hn : n = l.length) (h : w.ownsRow base 5 1 v l.length (l.map u8v)) :
    ∃ a cap, v = .slice a n cap ∧ BRow w a l ∧ (a = none → n = 0 ∧ cap = 0) ∧ n ≤ cap ∧ cap ≤ maxLen := by
  subst hn
  rcases h.2 with ⟨rfl, hn⟩ | ⟨g, cap, cur, rfl, hbg, hgg, hnc, hcm, hcs, htake⟩
  · have : l = [] := List.eq_nil_of_length_eq_zero hn
    subst this
    exact ⟨none, 0, rfl, .inl rfl, fun _ => ⟨rfl, rfl⟩, Nat.le_refl _, by decide⟩
  · obtain ⟨a, c, hv, hr, _⟩ := owns_row h
    simp only [Value.slice.injEq] at hv
    obtain ⟨rfl, _, rfl⟩ := hv
    exact ⟨_, cap, rfl, hr, (fun h => by cases h), hnc, hcm⟩
theorem own_shape' {w : World} {base n : Nat} {v : Value} {l : List Nat} (hn : n = l.length) (h : w.ownsRow base 5 1 v n (l.map u8v)) :
    ∃ a cap, v = .slice a n cap ∧ BRow w a l ∧ (a = none → n = 0 ∧ cap = 0) ∧ n ≤ cap ∧ cap ≤ maxLen := own_shape hn (by rw [← hn]; exact h)
theorem grown_own {B : Nat} {w w1 w2 : World} {v : Value} {e n : Nat} {xs : List Value} (h : Below B w w1) (hg : w1.grownBy w2 v.ownBlock) (hB : B ≤ w1.heap.size) (ho : w1.ownsRow B e 1 v n xs) : Below B w w2 :=
  h.grown hg hB (fun k hk => (ho.lt k hk).1)

/-- Another block than the row that grew is as it was. -/
theorem Row.grown {W W' : World} {B base e n : Nat} {cs : List Value} {t : TypeId} {v : Value} {xs : List Value} (h : Row W B cs t) (ho : W.ownsRow base e 1 v n xs) (hg : W.grownBy W' v.ownBlock) (ht : t ≠ e) : Row W' B cs t := by
  refine h.same (hg.block B h.lt fun hk => ?_)
  rcases ho.2 with ⟨rfl, _⟩ | ⟨g, cap, cur, rfl, _, hgg, _⟩
  · simp [Value.ownBlock] at hk
  · simp only [Value.ownBlock, Option.some.injEq] at hk
    subst hk
    obtain ⟨r, h⟩ := h
    rw [hgg] at h
    simp at h
    exact ht h.2.symm
theorem strCells_nats (s : List UInt8) : Lib.strCells (bs s) = (nats s).map u8v := by
  simp [Lib.strCells, nats, bs, u8v]

/-- What a call has gathered: the bytes L, at v; and what it was handed lies on in its box. -/
structure Gat (w W : World) (cs : List Value) (t : TypeId) (v : Value) (m : Nat) (L : List Nat) : Prop where
  own : W.ownsRow w.heap.size 5 1 v m (L.map u8v)
  len : m = L.length
  bel : Below w.heap.size w W
  box : Row W w.heap.size cs t
theorem Gat.later {w W W' : World} {cs : List Value} {t : TypeId} {v : Value} {m : Nat} {L : List Nat} (h : Gat w W cs t v m L) (hb : Below W.heap.size W W') : Gat w W' cs t v m L :=
  ⟨owns_later h.own hb, h.len, Below.after h.bel hb, h.box.later hb⟩
theorem Gat.app {w W W' : World} {cs : List Value} {t : TypeId} {v v' : Value} {m k : Nat} {L M : List Nat} (h : Gat w W cs t v m L) (ht : t ≠ 5) (hM : k = M.length) (ho : W'.ownsRow w.heap.size 5 1 v' (m + k) (L.map u8v ++ M.map u8v)) (hg : W.grownBy W' v.ownBlock) : Gat w W' cs t v' (m + k) (L ++ M) :=
  ⟨by rw [List.map_append]; exact ho, by rw [List.length_append, h.len, hM], grown_own h.bel hg h.bel.size h.own, h.box.grown h.own hg ht⟩
/-- append(b, text...). -/
theorem wpList_append_txt {w : World} {ops : Array Oper} {rest : List Oper} {o : Oper} {a : Act} {Q : Exit → Act → World → Prop} (hgd : o.guard = none) (s x : Operand)
    (ho : o.op = .call { callee := .builtin .append, args := #[s, x], argTypes := #[43, 9] })
    (base : Nat) (v : Value) (n : Nat) (xs : List Value) (hs : a.eval s = v) (hown : w.ownsRow base 5 1 v n xs)
    (S : ByteArray) (m : Nat) (M : List Nat) (hx : a.eval x = .string S) (hm : S.size = m) (hM : Lib.strCells S = M.map u8v)
    (h63 : n + m ≤ maxLen) (hbytes : n + m ≤ 140737488355328) (hbase : base ≤ w.heap.size)
    (h : ∀ v' w', w'.ownsRow base 5 1 v' (n + m) (xs ++ M.map u8v) → w.grownBy w' v.ownBlock → wpList Try.prog ops Q rest (a.put o.dst v') w') : wpList Try.prog ops Q (o :: rest) a w := by
  obtain ⟨i0, hi, hz0, hz1, hz2⟩ := info_parts info8
  subst hm
  refine Lib.wpList_append_own_string w hgd s x 43 9 ho base 5 i0 Try.underlying43 Try.underlying9 hi hz0 hz1 hz2 v n xs hs hown S hx h63 hbytes hbase fun v' w' h1 h2 _ => ?_
  rw [hM] at h1
  exact h v' w' h1 h2
end Go.Proofs.Ytefpcdpclpignaa
