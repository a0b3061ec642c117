/-
  Pages in every logical block: what the walk of EbmAll needs besides.
-/
import Derived.Test.YtccfalafphjkpaaGreatDoorKS
import Derived.Laws.OwnMore
namespace Go.Proofs.YtccfalafphjkpaaGreatDoor
open Go.RowKit Go.ChangeShapes Go.WideShapes Go.ChangeAt
set_option maxRecDepth 10000

theorem infoPg : (Tryz.prog.info? 24).map (fun i => (i.zero, i.size, i.bytes)) = some (some (.slice none 0 0), 1, 24) := by kernel_rfl
theorem wpList_append_pages {w : World} {ops : Array Oper} {rest : List Oper} {o : Oper} {a : Act} {Q : Exit → Act → World → Prop} (hgd : o.guard = none) (s x : Operand)
    (ho : o.op = .call { callee := .builtin .append, args := #[s, x], argTypes := #[33, 33] })
    (base : Nat) (v : Value) (n : Nat) (xs : List Value) (hs : a.eval s = v) (hown : w.ownsRow base 24 1 v n xs)
    (ad : Addr) (c : Nat) (u : Value) (hx : a.eval x = .slice (some ad) 1 c) (hr : w.cell? (ad.add 0) = some u) (hu : u.oneCell' = true)
    (h63 : n + 1 ≤ maxLen) (hbytes : (n + 1) * 24 ≤ 140737488355328) (hbase : base ≤ w.heap.size)
    (h : ∀ v' w', w'.ownsRow base 24 1 v' (n + 1) (xs ++ [u]) → w.grownBy w' v.ownBlock → wpList Tryz.prog ops Q rest (a.put o.dst v') w') : wpList Tryz.prog ops Q (o :: rest) a w := by
  obtain ⟨i0, hi, hz0, hz1, hz2⟩ := info_parts infoPg
  exact wpList_append_own w hgd s x 33 ho base 24 i0 (.slice none 0 0) 1 24 Tryz.underlying33 hi hz0 hz1 hz2 rfl (by omega) v n xs hs hown ad 1 c [u] hx rfl
    (fun j z hj => by
      have hj0 : j = 0 := by have := (List.getElem?_eq_some_iff.1 hj).1; simp at this; omega
      subst hj0
      simp at hj; subst hj
      exact hr) (fun z hz => by simp at hz; subst hz; exact hu) h63 hbytes hbase
    (fun v' w' h1 h2 _ => h v' w' h1 h2)
/-- A list of k slices that are alike, the call's own. -/
structure PgL (w W : World) (u v : Value) (k : Nat) : Prop where
  own : W.ownsRow w.heap.size 24 1 v k (List.replicate k u)
  bel : Below w.heap.size w W
theorem PgL.later {w W W' : World} {u v : Value} {k : Nat} (h : PgL w W u v k) (hb : Below W.heap.size W W') : PgL w W' u v k := ⟨owns_later h.own hb, Below.after h.bel hb⟩
theorem PgL.app {w W W' : World} {u v v' : Value} {k : Nat} (h : PgL w W u v k) (ho : W'.ownsRow w.heap.size 24 1 v' (k + 1) (List.replicate k u ++ [u])) (hg : W.grownBy W' v.ownBlock) : PgL w W' u v' (k + 1) :=
  ⟨by rw [List.replicate_succ']; exact ho, h.bel.grown hg h.bel.size (fun j hj => (h.own.lt j hj).1)⟩
theorem PgL.nil (w : World) (u : Value) : PgL w w u (.slice none 0 0) 0 := ⟨World.ownsRow_nil _ _ _ _, .refl _ _⟩
theorem PgL.pdt {base : Nat} {w W : World} {m : Mg} {c : CS} {a : Option Addr} {l : List Nat} {cap k : Nat} {v : Value} (h : PgL w W (.slice a l.length cap) v k) (hm : MLies base w m c) (hd : Dt (MFoot m c) W a l) (hk : 0 < k) : ∃ q cq, v = .slice q k cq ∧ PDt (MFoot m c) W q (List.replicate k l) := by
  have ho := h.own
  rcases ho.2 with ⟨rfl, h0⟩ | ⟨q, cq, cur, rfl, hbg, _⟩
  · omega
  · refine ⟨_, cq, rfl, .inr ⟨q, 0, rfl, MFoot_new hm hbg, fun i d hi => ?_⟩⟩
    have hik : i < k := by have := (List.getElem?_eq_some_iff.1 hi).1; simpa using this
    have hd0 : d = l := by
      rw [List.getElem?_replicate, if_pos hik] at hi
      exact (Option.some.inj hi).symm
    subst hd0
    refine ⟨a, cap, ?_, hd⟩
    rw [Nat.zero_add, ho.cellAt i (by omega), List.getElem?_replicate, if_pos hik]
/-- What does not change through the walk. -/
structure EnvA (X : World) (gb gp gz gr n : Nat) (a : Option Addr) (l : List Nat) (c0 : CS) : Prop where
  row : BRow X a l
  lt : ∀ x ∈ l, x < 256
  len : n = l.length
  nz : n ≤ gz
  geo : c0.gb = gb ∧ c0.gp = gp ∧ c0.gz = gz ∧ c0.gr = gr
  rt : rightB gb gp gz gr = true
/-- The first k logical blocks have all the pages; the pages' list lies at q. -/
def AlF (X : World) (c0 : CS) (p N k t : Nat) (l : List Nat) (q : Option Addr) (W : World) : Prop :=
  ∃ m c P, Al X.heap.size t X c0.gz W m c P (fun j => if 0 ≤ j ∧ j < (k : Int) then some (List.replicate N (fillP c0.gz l)) else none) ∧ Gm c0 c ∧ m.p = p ∧ PDt (MFoot m c) W q (List.replicate N l)
theorem AlF.later {X : World} {c0 : CS} {p N k t : Nat} {l : List Nat} {q : Option Addr} {W W' : World} (h : AlF X c0 p N k t l q W) (hb : Below W.heap.size W W') : AlF X c0 p N k t l q W' := by
  obtain ⟨m, c, P, h1, h2, h3, h4⟩ := h
  exact ⟨m, c, P, h1.later hb, h2, h3, h4.kept (.of_below hb)⟩
theorem al_lebs {base t : Nat} {w0 : World} {gz : Nat} {W : World} {m : Mg} {c : CS} {P : List (List (List Nat))} {f : Int → Option (List (List Nat))} (h : Al base t w0 gz W m c P f) :
    Calls Tryz.prog 9 #[.pointer (some ⟨m.p, 0, none⟩)] W fun e w' => e = .returned (.int .i64 ((c.gb : Int) - c.gr - 2)) ∧ Below W.heap.size W w' := by
  have := mlebs_any h.ms.ml
  rw [h.ms.lebs] at this
  exact this
theorem al_pages {base t : Nat} {w0 : World} {gz : Nat} {W : World} {m : Mg} {c : CS} {P : List (List (List Nat))} {f : Int → Option (List (List Nat))} (h : Al base t w0 gz W m c P f) :
    Calls Tryz.prog 8 #[.pointer (some ⟨m.p, 0, none⟩)] W fun e w' => e = .returned (.int .i64 ((c.gp : Int) - 2)) ∧ Below W.heap.size W w' :=
  mpages_any h.ms.ml (by have := h.ms.rp.rb.geo; omega)
theorem rc_lebs {X : World} {gb gp gz gr n : Nat} {a : Option Addr} {l : List Nat} {c0 : CS} {p N k t : Nat} {q : Option Addr} {W : World} (E : EnvA X gb gp gz gr n a l c0) (h : AlF X c0 p N k t l q W) :
    Calls Tryz.prog 9 #[.pointer (some ⟨p, 0, none⟩)] W fun e w' => e = .returned (.int .i64 ((gb : Int) - gr - 2)) ∧ AlF X c0 p N k t l q w' := by
  have h' := h
  obtain ⟨m, c, P, h1, h2, rfl, h4⟩ := h
  refine (al_lebs h1).mono ?_
  rintro e w' ⟨rfl, hb⟩
  exact ⟨by rw [h2.gb, h2.gr, E.geo.1, E.geo.2.2.2], h'.later hb⟩
theorem rc_change {X : World} {gb gp gz gr n : Nat} {a : Option Addr} {l : List Nat} {c0 : CS} {p N k t cq : Nat} {q : Option Addr} {W : World} (E : EnvA X gb gp gz gr n a l c0) (h : AlF X c0 p N k t l q W) (hN : N + 2 = gp) (hk : k + gr + 2 < gb) (ht : t < 1000) :
    Calls Tryz.prog 10 #[.pointer (some ⟨p, 0, none⟩), .int .i64 (k : Int), .slice q N cq] W fun e w' => e = .returned (.int .i64 0) ∧ AlF X c0 p N (k + 1) (t + 1) l q w' := by
  obtain ⟨m, c, P, hA, h2, rfl, h4⟩ := h
  have e1 := h2.gb
  have e2 := h2.gr
  have e3 := h2.gz
  have e4 := h2.gp
  have e5 := E.geo
  have e7 := E.nz
  have e8 := E.len
  have kc := change_go hA.ms k cq q (List.replicate N l) h4 (by omega) (fun d hd => by rw [(List.mem_replicate.1 hd).2]; omega) (by rw [List.length_replicate]; omega) (by omega)
  rw [List.length_replicate] at kc
  refine kc.mono ?_
  rintro e w' ⟨rfl, hd⟩
  obtain ⟨m', c', P', q1, q2, q3, q4, q5⟩ := hA.done hd
  refine ⟨rfl, m', c', P', ⟨q1.ms, q1.gl, fun j => ?_, q1.kp, q1.hb, q1.z⟩, h2.trans q2, q3, by rw [q4]; exact h4.kept q5⟩
  rw [q1.fn j]
  simp only [List.map_replicate]
  rw [hA.fn j, h2.gz]
  by_cases hj : j = (k : Int)
  · rw [if_pos hj, if_pos (by omega)]
  · rw [if_neg hj]
    by_cases hj2 : 0 ≤ j ∧ j < (k : Int)
    · rw [if_pos hj2, if_pos (by omega)]
    · rw [if_neg hj2, if_neg (by omega)]
/-- Each logical block has so many pages. -/
def AlW (X : World) (c0 : CS) (p : Nat) (lebs at_ : Int) (N : Nat) (l : List Nat) (W : World) : Prop :=
  ∃ t m c P f, Al X.heap.size t X c0.gz W m c P f ∧ Gm c0 c ∧ m.p = p ∧ ∀ j : Int, 0 ≤ j → j < lebs → f j = some (List.replicate (if j = at_ then 1 else N) (fillP c0.gz l))
theorem AlW.later {X : World} {c0 : CS} {p : Nat} {lebs at_ : Int} {N : Nat} {l : List Nat} {W W' : World} (h : AlW X c0 p lebs at_ N l W) (hb : Below W.heap.size W W') : AlW X c0 p lebs at_ N l W' := by
  obtain ⟨t, m, c, P, f, h1, h2, h3, h4⟩ := h
  exact ⟨t, m, c, P, f, h1.later hb, h2, h3, h4⟩
theorem AlW.below {X : World} {c0 : CS} {p : Nat} {lebs at_ : Int} {N : Nat} {l : List Nat} {W : World} (h : AlW X c0 p lebs at_ N l W) : Below X.heap.size X W := by
  obtain ⟨t, m, c, P, f, h1, h2, h3, h4⟩ := h
  exact h1.below (Nat.le_refl _)
theorem AlF.out {X : World} {c0 : CS} {p N k t : Nat} {l : List Nat} {q : Option Addr} {W : World} (h : AlF X c0 p N k t l q W) (at_ : Int) (ho : ¬ (0 ≤ at_ ∧ at_ < (k : Int))) : AlW X c0 p k at_ N l W := by
  obtain ⟨m, c, P, h1, h2, h3, h4⟩ := h
  refine ⟨t, m, c, P, _, h1, h2, h3, fun j h0 hj => ?_⟩
  rw [if_pos ⟨h0, hj⟩, if_neg (by omega)]
theorem rc_one {X : World} {gb gp gz gr n : Nat} {a : Option Addr} {l : List Nat} {c0 : CS} {p N k t dc : Nat} {q : Option Addr} {W : World} (E : EnvA X gb gp gz gr n a l c0) (h : AlF X c0 p N k t l q W) (hk : k + gr + 2 = gb) (ht : t < 1000) (at_ : Int) (h0 : 0 ≤ at_) (h1 : at_ + gr + 2 < gb) :
    Calls Tryz.prog 10 #[.pointer (some ⟨p, 0, none⟩), .int .i64 at_, .slice (some ⟨W.heap.size, 0, none⟩) 1 1] (W.alloc (.cells #[.slice a n dc] 24)) fun e w' => e = .returned (.int .i64 0) ∧ AlW X c0 p ((gb : Int) - gr - 2) at_ N l w' := by
  obtain ⟨m, c, P, hA, h2, rfl, h4⟩ := h
  have e1 := h2.gb
  have e2 := h2.gr
  have e3 := h2.gz
  have e4 := h2.gp
  have e5 := E.geo
  have e7 := E.nz
  have e8 := E.len
  have e9 := right_geo E.rt
  have hb := below_new W (.cells #[.slice a n dc] 24)
  have hB := hA.later hb
  have hd := dt_arg E.lt E.row (Nat.le_refl _) hB.kp hB.ms.ml
  have hpd : PDt (MFoot m c) (W.alloc (.cells #[.slice a n dc] 24)) (some ⟨W.heap.size, 0, none⟩) [l] := by
    refine .inr ⟨W.heap.size, 0, rfl, MFoot_new hA.ms.ml (Nat.le_refl _), fun i d hd' => ?_⟩
    cases i with
    | succ i => simp at hd'
    | zero =>
      simp at hd'
      subst hd'
      refine ⟨a, dc, ?_, hd⟩
      rw [← e8]
      exact (Row.new W [.slice a n dc] 24).cell (i := 0) rfl
  obtain ⟨k0, rfl⟩ : ∃ k0 : Nat, at_ = k0 := ⟨at_.toNat, by omega⟩
  have kc := change_go hB.ms k0 1 (some ⟨W.heap.size, 0, none⟩) [l] hpd (by omega) (fun d hd => by simp at hd; subst hd; omega) (by simp; omega) (by omega)
  refine Calls.mono kc ?_
  rintro e w' ⟨rfl, hdn⟩
  obtain ⟨m', c', P', q1, q2, q3, q4, q5⟩ := hB.done hdn
  refine ⟨rfl, _, m', c', P', _, q1, h2.trans q2, q3, fun j hj0 hj => ?_⟩
  by_cases hj2 : j = (k0 : Int)
  · rw [if_pos hj2, if_pos hj2, h2.gz]
    rfl
  · rw [if_neg hj2, if_neg hj2, hA.fn j, if_pos ⟨hj0, by omega⟩]
theorem ra_used {X : World} {c0 : CS} {p : Nat} {lebs at_ : Int} {N : Nat} {l : List Nat} {W : World} (h : AlW X c0 p lebs at_ N l W) (j : Int) (h0 : 0 ≤ j) (h1 : j < lebs) :
    Calls Tryz.prog 11 #[.pointer (some ⟨p, 0, none⟩), .int .i64 j] W fun e w' => e = .returned (.int .i64 ((if j = at_ then 1 else N : Nat) : Int)) ∧ Below W.heap.size W w' := by
  obtain ⟨t, m, c, P, f, hA, h2, rfl, h4⟩ := h
  have := used_go hA.ms j
  rw [hA.fn j, h4 j h0 h1] at this
  simp only [Option.getD_some, List.length_replicate] at this
  exact this
theorem hid_of {p : Prop} (h : p) : Hid p := h
theorem ra_used_at {X : World} {c0 : CS} {p : Nat} {lebs at_ : Int} {N : Nat} {l : List Nat} {W : World} (h : AlW X c0 p lebs at_ N l W) (j : Int) (h0 : 0 ≤ j) (h1 : j < lebs) (hj : j = at_) :
    Calls Tryz.prog 11 #[.pointer (some ⟨p, 0, none⟩), .int .i64 j] W fun e w' => e = .returned (.int .i64 1) ∧ Below W.heap.size W w' := by
  have := ra_used h j h0 h1
  rw [if_pos hj] at this
  exact this
theorem ra_used_not {X : World} {c0 : CS} {p : Nat} {lebs at_ : Int} {N : Nat} {l : List Nat} {W : World} (h : AlW X c0 p lebs at_ N l W) (j : Int) (h0 : 0 ≤ j) (h1 : j < lebs) (hj : ¬ j = at_) :
    Calls Tryz.prog 11 #[.pointer (some ⟨p, 0, none⟩), .int .i64 j] W fun e w' => e = .returned (.int .i64 (N : Int)) ∧ Below W.heap.size W w' := by
  have := ra_used h j h0 h1
  rw [if_neg hj] at this
  exact this
theorem ra_attach {X : World} {c0 : CS} {p : Nat} {lebs at_ : Int} {N : Nat} {l : List Nat} {W : World} (h : AlW X c0 p lebs at_ N l W) :
    Calls Tryz.prog 12 #[.pointer (some ⟨c0.p, 0, none⟩)] W fun e w' => ∃ p', e = .returned (.tuple #[.pointer (some ⟨p', 0, none⟩), .int .i64 0]) ∧ AlW X c0 p' lebs at_ N l w' := by
  obtain ⟨t, m, c, P, f, hA, h2, rfl, h4⟩ := h
  have := al_attach hA
  rw [h2.p] at this
  refine this.mono ?_
  rintro e w' ⟨m', rfl, hA', _, _, _⟩
  exact ⟨m'.p, rfl, t, m', c, P, f, hA', h2, rfl, h4⟩
theorem ra_wrong {X : World} {c0 : CS} {p : Nat} {lebs at_ : Int} {N : Nat} {l : List Nat} {W : World} (h : AlW X c0 p lebs at_ N l W) :
    Calls Tryz.prog 13 #[.pointer (some ⟨c0.p, 0, none⟩)] W fun e w' => e = .returned (.int .i64 0) ∧ W = w' := by
  obtain ⟨t, m, c, P, f, hA, h2, rfl, h4⟩ := h
  have := wrong_any hA.ms.ml.chip
  rw [h2.p, hA.ms.rp.wrong] at this
  exact this
theorem ra_lebs {X : World} {gb gp gz gr n : Nat} {a : Option Addr} {l : List Nat} {c0 : CS} {p : Nat} {lebs at_ : Int} {N : Nat} {W : World} (E : EnvA X gb gp gz gr n a l c0) (h : AlW X c0 p lebs at_ N l W) :
    Calls Tryz.prog 9 #[.pointer (some ⟨p, 0, none⟩)] W fun e w' => e = .returned (.int .i64 ((gb : Int) - gr - 2)) ∧ AlW X c0 p lebs at_ N l w' := by
  have h' := h
  obtain ⟨t, m, c, P, f, hA, h2, rfl, h4⟩ := h
  refine (al_lebs hA).mono ?_
  rintro e w' ⟨rfl, hb⟩
  exact ⟨by rw [h2.gb, h2.gr, E.geo.1, E.geo.2.2.2], h'.later hb⟩
theorem ra_pages {X : World} {gb gp gz gr n : Nat} {a : Option Addr} {l : List Nat} {c0 : CS} {p : Nat} {lebs at_ : Int} {N : Nat} {W : World} (E : EnvA X gb gp gz gr n a l c0) (h : AlW X c0 p lebs at_ N l W) :
    Calls Tryz.prog 8 #[.pointer (some ⟨p, 0, none⟩)] W fun e w' => e = .returned (.int .i64 ((gp : Int) - 2)) ∧ AlW X c0 p lebs at_ N l w' := by
  have h' := h
  obtain ⟨t, m, c, P, f, hA, h2, rfl, h4⟩ := h
  refine (al_pages hA).mono ?_
  rintro e w' ⟨rfl, hb⟩
  exact ⟨by rw [h2.gp, E.geo.2.1], h'.later hb⟩
theorem brow_pre {w : World} {b o gz : Nat} {l : List Nat} (h : ∀ i, i < (fillP gz l).length → w.cell? ⟨b, o + i, none⟩ = some (.int .u8 (((fillP gz l).getD i 0 : Nat) : Int))) : BRow w (some ⟨b, o, none⟩) l := by
  refine .inr ⟨b, o, rfl, fun i hi => ?_⟩
  rw [h i (by unfold fillP; simp; omega)]
  unfold fillP
  simp only [List.getD_eq_getElem?_getD]
  rw [List.getElem?_append_left hi]
theorem ra_read {X : World} {gb gp gz gr n : Nat} {a : Option Addr} {l : List Nat} {c0 : CS} {p : Nat} {at_ : Int} {N : Nat} {W : World} (E : EnvA X gb gp gz gr n a l c0) (h : AlW X c0 p ((gb : Int) - gr - 2) at_ N l W) (hN : 0 < N) (j : Int) (h0 : 0 ≤ j) (h1 : j + gr + 2 < gb) :
    Calls Tryz.prog 14 #[.pointer (some ⟨p, 0, none⟩), .int .i64 j, .int .i64 0] W fun e w' => ∃ b o cap, e = .returned (.tuple #[.slice (some ⟨b, o, none⟩) gz cap, .int .i64 0]) ∧ gz ≤ cap ∧ BRow w' (some ⟨b, o, none⟩) l ∧ AlW X c0 p ((gb : Int) - gr - 2) at_ N l w' := by
  obtain ⟨t, m, c, P, f, hA, h2, rfl, h4⟩ := h
  have e1 := h2.gb
  have e2 := h2.gr
  have e3 := h2.gz
  have e5 := E.geo
  have e7 := E.nz
  have e8 := E.len
  have e9 := right_geo E.rt
  have hf := h4 j h0 (by omega)
  have kr := read_go hA.ms j 0 h0 (by omega) _ (by rw [hA.fn j]; exact hf) (fillP c0.gz l) (by rw [List.getElem?_replicate, if_pos (by split <;> omega)])
  refine Calls.mono kr ?_
  rintro e w' ⟨a', n', cap, rfl, hr⟩
  have hl : (fillP c0.gz l).length = gz := by rw [fillP_length (by omega)]; omega
  have hn' : n' = gz := hr.len.trans hl
  have hfit := hr.fits
  subst hn'
  rcases hr.row with e | ⟨b, o, rfl, hc⟩
  · rw [e] at hl; simp at hl; omega
  · exact ⟨b, o, cap, rfl, hfit, brow_pre hc, t, m, c, P, f, hA.rd hr, h2, rfl, h4⟩
theorem ra_same {X : World} {gb gp gz gr n : Nat} {a : Option Addr} {l : List Nat} {c0 : CS} {b : Option Addr} {c1 c2 : Nat} {W : World} (E : EnvA X gb gp gz gr n a l c0) (hx : Below X.heap.size X W) (hb : BRow W b l) :
    Calls Tryz.prog 15 #[.slice b n c1, .slice a n c2] W fun e w' => e = .returned (.bool true) ∧ W = w' := by
  have := same_any b c1 l a c2 l W E.lt E.lt hb (E.row.later hx)
  rw [decide_eq_true rfl, ← E.len] at this
  exact this
end Go.Proofs.YtccfalafphjkpaaGreatDoor
