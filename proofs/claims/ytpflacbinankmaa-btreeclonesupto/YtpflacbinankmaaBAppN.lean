/-
  A list of nodes put behind another; a list's bulk.
-/
import Derived.Test.YtpflacbinankmaaBSame
import Derived.Test.YtpflacbinankmaaBPartsM
import Derived.Test.YtpflacbinankmaaBAlive
import Derived.Test.YtpflacbinankmaaRows
import Derived.Laws.AppendOwnNone
namespace Go.Proofs.Ytpflacbinankmaa.Bt
open Go.RowKit

theorem wpList_append_nds {w : World} {ops : Array Oper} {rest : List Oper} {o : Oper} {a : Act} {Q : Exit → Act → World → Prop} (hgd : o.guard = none) (s x : Operand)
    (ho : o.op = .call { callee := .builtin .append, args := #[s, x], argTypes := #[22, 22] })
    (base : Nat) (v : Value) (n : Nat) (l1 : List KV) (hs : a.eval s = v) (hn : n = l1.length) (hown : w.ownsRow base 54 3 v n (l1.flatMap ndv))
    (u : Value) (l2 : List KV) (hx : a.eval x = u) (hu : NdAt w u l2) (hb : l1.length + l2.length ≤ 3000000000) (hbase : base ≤ w.heap.size)
    (h : ∀ v' w', w'.ownsRow base 54 3 v' (l1 ++ l2).length ((l1 ++ l2).flatMap ndv) → w.grownBy w' v.ownBlock → wpList Try.prog ops Q rest (a.put o.dst v') w') : wpList Try.prog ops Q (o :: rest) a w := by
  obtain ⟨i0, hi, hz0, hz1, hz2⟩ := info_parts infoNd
  subst hn
  rcases hu.own.2 with ⟨rfl, h0⟩ | ⟨g, cap, cur, rfl, _, hgg, hnc, hcm, hcs, htake⟩
  · have hl : l2 = [] := List.eq_nil_of_length_eq_zero h0
    subst hl
    refine wpList_append_own_none hgd s x 22 ho base 54 i0 3 Try.underlying22 hi v l1.length _ hs hown hx ?_
    exact h v w (by simpa using hown) ⟨rfl, rfl, rfl, Nat.le_refl _, fun _ _ _ => rfl⟩
  · refine wpList_append_own w hgd s x 22 ho base 54 i0 _ 3 40 Try.underlying22 hi hz0 hz1 hz2 rfl (by omega) v l1.length _ hs hown ⟨g, 0, none⟩ l2.length cap (l2.flatMap ndv) hx (flat_len ndv 3 ndv_len l2) ?_ (ndv_one _) (by unfold maxLen; omega) (by omega) hbase
      (fun v' w' h1 h2 _ => h v' w' (by rw [List.length_append, List.flatMap_append]; exact h1) h2)
    intro j z hj
    have hw : Whole w g cur.toList 54 := by unfold Whole; simpa using hgg
    rw [show (⟨g, 0, none⟩ : Addr).add j = ⟨g, j, none⟩ by unfold Addr.add; split <;> simp_all, hw.cell]
    have hlt := (List.getElem?_eq_some_iff.1 hj).1
    rw [flat_len ndv 3 ndv_len] at hlt
    rw [← hj, ← htake, List.getElem?_take, if_pos (by omega)]
theorem bulk_pos {H : Type} (d : DataW H) : 1 ≤ Rows.uptoBulk d := by
  cases d with
  | lit x => cases x <;> simp [Rows.uptoBulk]
  | _ => simp [Rows.uptoBulk]
theorem bulk_len {H : Type} : ∀ l : List (DataW H), l.length ≤ Rows.uptoBulkAll l
  | [] => Nat.zero_le _
  | d :: r => by
    have h1 := bulk_len r
    have h2 := bulk_pos d
    simp only [Rows.uptoBulkAll, List.length_cons]
    omega
end Go.Proofs.Ytpflacbinankmaa.Bt
