/-
  A list of pages of the call's own, each of its own bytes.
  Scripts of ebm's statements that come in, as the walks are told of them.
-/
import Derived.Test.YteodcjbbkekidaaGreatDoorQF
import Derived.Test.YteodcjbbkekidaaGreatDoorQH
import Derived.Test.YteodcjbbkekidaaGreatDoorKH
import Derived.Test.YteodcjbbkekidaaGreatDoorGD
import Derived.Test.YteodcjbbkekidaaGreatDoorKQ
import Derived.Maps.AppendAt
import Derived.Laws.OwnMore
import Derived.Deep.Slices
import Derived.Deep.SlicePairs
namespace Go.Proofs.YteodcjbbkekidaaGreatDoor
open Go.RowKit Go.Extern.Stop Go.Stop Go.Extern
set_option maxRecDepth 10000

theorem infoPg : (Tryz.prog.info? 39).map (fun i => (i.zero, i.size, i.bytes)) = some (some (.slice none 0 0), 1, 24) := by kernel_rfl
theorem wpList_append_page {w : World} {ops : Array Oper} {rest : List Oper} {o : Oper} {a : Act} {Q : Exit → Act → World → Prop} (hgd : o.guard = none) (s x : Operand)
    (ho : o.op = .call { callee := .builtin .append, args := #[s, x], argTypes := #[50, 50] })
    (base : Nat) (v : Value) (n : Nat) (xs : List Value) (hs : a.eval s = v) (hown : w.ownsRow base 39 1 v n xs)
    (ad : Addr) (c : Nat) (u : Value) (hx : a.eval x = .slice (some ad) 1 c) (hr : w.cell? (ad.add 0) = some u) (hu : u.oneCell' = true)
    (h63 : n + 1 ≤ maxLen) (hbytes : (n + 1) * 24 ≤ 140737488355328) (hbase : base ≤ w.heap.size)
    (h : ∀ v' w', w'.ownsRow base 39 1 v' (n + 1) (xs ++ [u]) → w.grownBy w' v.ownBlock → wpList Tryz.prog ops Q rest (a.put o.dst v') w') : wpList Tryz.prog ops Q (o :: rest) a w := by
  obtain ⟨i0, hi, hz0, hz1, hz2⟩ := info_parts infoPg
  exact wpList_append_own w hgd s x 50 ho base 39 i0 (.slice none 0 0) 1 24 Tryz.underlying50 hi hz0 hz1 hz2 rfl (by omega) v n xs hs hown ad 1 c [u] hx rfl
    (fun j z hj => by
      have hj0 : j = 0 := by have := (List.getElem?_eq_some_iff.1 hj).1; simp at this; omega
      subst hj0
      simp at hj; subst hj
      exact hr) (fun z hz => by simp at hz; subst hz; exact hu) h63 hbytes hbase
    (fun v' w' h1 h2 _ => h v' w' h1 h2)
def PL (base : Nat) (w : World) (v : Value) (L : List (List Nat)) : Prop :=
  ∃ vs : List Value, vs.length = L.length ∧ w.ownsRow base 39 1 v L.length vs ∧ ∀ q ∈ L.zip vs, w.ownsRow base 5 1 q.2 q.1.length (q.1.map u8v)
theorem PL.later {base : Nat} {w w' : World} {v : Value} {L : List (List Nat)} (h : PL base w v L) (hb : Below w.heap.size w w') : PL base w' v L := by
  obtain ⟨vs, h1, h2, h3⟩ := h
  exact ⟨vs, h1, owns_later h2 hb, fun q hq => owns_later (h3 q hq) hb⟩
theorem PL.nil (base : Nat) (w : World) : PL base w (.slice none 0 0) [] := ⟨[], rfl, World.ownsRow_nil _ _ _ _, by simp⟩
theorem PL.push {base : Nat} {W W' : World} {v u v' : Value} {L : List (List Nat)} {x : List Nat} {vs : List Value} (h1 : vs.length = L.length) (h2 : W.ownsRow base 39 1 v L.length vs) (h3 : ∀ q ∈ L.zip vs, W.ownsRow base 5 1 q.2 q.1.length (q.1.map u8v))
    (ho : W.ownsRow base 5 1 u x.length (x.map u8v)) (hg : W.grownBy W' v.ownBlock) (hown : W'.ownsRow base 39 1 v' (L.length + 1) (vs ++ [u])) : PL base W' v' (L ++ [x]) := by
  refine ⟨vs ++ [u], by simp [h1], by simpa using hown, ?_⟩
  have hk : Kept (fun k => v.ownBlock = some k) W W' := ⟨hg.os, hg.tape, hg.output, hg.size, fun k hk hn => hg.block k hk (fun e => hn e.symm)⟩
  have hne : ∀ {z : Value} {n : Nat} {ys : List Value}, W.ownsRow base 5 1 z n ys → ∀ g, z.ownBlock = some g → ¬ v.ownBlock = some g := fun hu g e1 e2 => by
    obtain ⟨_, cs, r1⟩ := lown_row hu e1
    obtain ⟨_, ds, r2⟩ := lown_row h2 e2
    exact r1.ne r2 (by decide) rfl
  intro q hq
  rw [List.zip_append h1.symm] at hq
  rcases List.mem_append.1 hq with hq | hq
  · exact owns_kept (h3 q hq) hk (hne (h3 q hq))
  · have : q = (x, u) := by simpa using hq
    subst this
    exact owns_kept ho hk (hne ho)
theorem PL.pdt {base base' : Nat} {w : World} {v : Value} {L : List (List Nat)} {m : Mg} {c : CS} (h : PL base w v L) (hm : MLies base' w m c) (hlt : ∀ x ∈ L, ∀ y ∈ x, y < 256) : ∃ a cap, v = .slice a L.length cap ∧ PDt (MFoot m c) w a L := by
  obtain ⟨vs, h1, h2, h3⟩ := h
  have hr := h2
  rcases h2.2 with ⟨e, e2⟩ | ⟨g, cap, cur, e, hbg, hrow, rest⟩
  · refine ⟨none, 0, by rw [e, e2], .inl (List.eq_nil_of_length_eq_zero e2)⟩
  · refine ⟨some ⟨g, 0, none⟩, cap, e, .inr ⟨g, 0, rfl, ?_, fun i d hd => ?_⟩⟩
    · obtain ⟨_, cs, hr'⟩ := lown_row hr (g := g) (by rw [e]; rfl)
      exact hm.off' hr' ⟨by decide, by decide, by decide, by decide, by decide, by decide⟩
    · have hi := (List.getElem?_eq_some_iff.1 hd).1
      obtain ⟨u, hu⟩ : ∃ u, vs[i]? = some u := ⟨_, List.getElem?_eq_getElem (by omega)⟩
      have hz : (L.zip vs)[i]? = some (d, u) := by rw [List.getElem?_zip_eq_some]; exact ⟨hd, hu⟩
      have ho := h3 (d, u) (List.mem_of_getElem? hz)
      subst e
      have hc : w.cell? ⟨g, 0 + i, none⟩ = some u := by
        rw [Nat.zero_add, hr.cellAt i (by omega)]
        exact hu
      obtain ⟨ai, ki, eu, hb, _⟩ := owns_row ho
      have eu' : u = .slice ai d.length ki := eu
      subst eu'
      refine ⟨ai, ki, hc, hlt d (List.mem_of_getElem? hd), ?_⟩
      rcases hb with e | ⟨b, off, e, hcells⟩
      · exact .inl e
      · refine .inr ⟨b, off, e, ?_, hcells⟩
        have hob : (Value.slice ai d.length ki).ownBlock = some b := by
          rcases ho.2 with ⟨q, _⟩ | ⟨g', cap', cur', q, _⟩
          · rw [e] at q; cases q
          · rw [e] at q; cases q; rw [e]; rfl
        obtain ⟨_, cs, hr'⟩ := lown_row ho hob
        exact hm.off' hr' ⟨by decide, by decide, by decide, by decide, by decide, by decide⟩
theorem PDt.mono {S T : Nat → Prop} {w : World} {a : Option Addr} {L : List (List Nat)} (h : PDt S w a L) (hs : ∀ k, T k → S k) : PDt T w a L := by
  rcases h with e | ⟨b, off, e, hn, hc⟩
  · exact .inl e
  · refine .inr ⟨b, off, e, fun q => hn (hs _ q), fun i d hd => ?_⟩
    obtain ⟨ai, ki, h1, h2⟩ := hc i d hd
    refine ⟨ai, ki, h1, h2.lt, ?_⟩
    rcases h2.row with e | ⟨b', off', e', hn', hc'⟩
    · exact .inl e
    · exact .inr ⟨b', off', e', fun q => hn' (hs _ q), hc'⟩
end Go.Proofs.YteodcjbbkekidaaGreatDoor
namespace Go.Proofs.YteodcjbbkekidaaGreatDoor
open Go.ChangeShapes Go.WideShapes Go.ChangeAt Go.RowKit Go.Deep

/-- A page that comes in. -/
structure PgD where
  a : Option Addr
  l : Nat
  c : Nat
  d : List Nat
/-- The slice's elements are the pages l. -/
structure PArg (w : World) (a : Option Addr) (len cap : Nat) (l : List PgD) : Prop where
  len_eq : len = l.length
  le : len ≤ cap
  max : cap ≤ maxLen
  row : l = [] ∨ ∃ b off, a = some ⟨b, off, none⟩ ∧ ∀ i o, l[i]? = some o → w.cell? ⟨b, off + i, none⟩ = some (.slice o.a o.l o.c)
  each : ∀ o ∈ l, BArg w o.a o.l o.c o.d
theorem eadd_plain (b off i : Nat) : (⟨b, off, none⟩ : Addr).add i = ⟨b, off + i, none⟩ := by unfold Addr.add; split <;> simp_all
theorem eslice_of {H : Type} {enc : TypeId × Value → H} {w : World} {t e : TypeId} {v : Value} {fuel : Nat} {x : DataW H × List MemPlace} (ht : Tryz.prog.underlying t = some (.slice e))
    (hf : DataW.trod enc Tryz.prog w 0 (fun _ => true) true fuel t [v] = some x) : ∃ a l c, v = .slice a l c := by
  rcases open_slice ht hf with ⟨hcs, _⟩ | ⟨ad, len', cap', m, n, D, Pl, hcs, _⟩
  · simp at hcs; exact ⟨_, _, _, hcs⟩
  · simp at hcs; exact ⟨_, _, _, hcs⟩
set_option maxRecDepth 100000 in
theorem parg_open {H : Type} {enc : TypeId × Value → H} {w : World} {a : Option Addr} {len cap fuel : Nat} {x : DataW H × List MemPlace}
    (hf : DataW.trod enc Tryz.prog w 0 (fun _ => true) true fuel 50 [.slice a len cap] = some x) : ∃ l, PArg w a len cap l := by
  rcases open_slice Tryz.underlying50 hf with ⟨hcs, _⟩ | ⟨ad, len', cap', m, n, D, Pl, hcs, _, hl, hm, hmm, _, hx⟩
  · simp at hcs
    obtain ⟨rfl, rfl, rfl⟩ := hcs
    exact ⟨[], rfl, Nat.le_refl _, by decide, .inl rfl, by simp⟩
  · simp at hcs
    obtain ⟨rfl, rfl, rfl⟩ := hcs
    have hmm' : m = cap := by simpa using hmm
    subst hmm'
    have each : ∀ i, ∃ o : PgD, i < len → w.cell? (ad.add i) = some (.slice o.a o.l o.c) ∧ BArg w o.a o.l o.c o.d := by
      intro i
      by_cases hi : i < len
      · obtain ⟨cs', h1, h2⟩ := hx i (by omega)
        rw [show Tryz.prog.cellsOf 39 = 1 by kernel_rfl] at h1
        obtain ⟨_, hlen, hcell⟩ := World.cells?_some h1
        match cs', hlen with
        | [v0], _ =>
          obtain ⟨da, dl, dc, rfl⟩ := eslice_of Tryz.underlying39 h2
          obtain ⟨data, hdata⟩ := barg_open (show DataW.trod enc Tryz.prog w 0 (fun _ => true) true _ 39 (Value.slice da dl dc).cells.toList = some (_, _) from h2)
          have c0 := hcell 0 (by omega)
          rw [add_add] at c0
          exact ⟨⟨da, dl, dc, data⟩, fun _ => ⟨by simpa using c0, hdata⟩⟩
      · exact ⟨⟨none, 0, 0, []⟩, fun h => absurd h hi⟩
    obtain ⟨F, hF⟩ := Classical.axiomOfChoice each
    refine ⟨(List.range len).map F, by simp, hl, hm, ?_, ?_⟩
    · by_cases h0 : len = 0
      · exact .inl (by simp [h0])
      · obtain ⟨b, off, spot⟩ := ad
        have hspot : spot = none := by
          have := World.cell?_spot (hF 0 (by omega)).1
          simpa [Addr.add] using this
        subst hspot
        refine .inr ⟨b, off, rfl, fun i f hf => ?_⟩
        have hil : i < len := by
          have := (List.getElem?_eq_some_iff.1 hf).1
          simpa using this
        have hfi : F i = f := by simpa [hil] using hf
        have := (hF i hil).1
        rw [hfi, eadd_plain] at this
        exact this
    · intro o ho
      obtain ⟨i, hi, rfl⟩ := List.mem_map.1 ho
      exact (hF i (by simpa using hi)).2
theorem PArg.later {w w' : World} {a : Option Addr} {len cap : Nat} {l : List PgD} (h : PArg w a len cap l) (hb : Below w.heap.size w w') : PArg w' a len cap l := by
  refine ⟨h.len_eq, h.le, h.max, ?_, fun o ho => ?_⟩
  · rcases h.row with e | ⟨b, off, e, hc⟩
    · exact .inl e
    · exact .inr ⟨b, off, e, fun i o hi => (hb.cell (p := ⟨b, off + i, none⟩) (World.block_lt_of_cell? w _ (hc i o hi))).trans (hc i o hi)⟩
  · have := h.each o ho
    exact ⟨this.len_eq, this.le, this.max, this.lt, this.row.later hb, this.nil⟩
end Go.Proofs.YteodcjbbkekidaaGreatDoor
