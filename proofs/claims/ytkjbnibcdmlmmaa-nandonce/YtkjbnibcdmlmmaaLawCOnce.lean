/-
  Proved: the statement on what is read of a page (NandOnce): for every script, block and page; no condition.
-/
import Derived.Test.YtkjbnibcdmlmmaaCOnce
import Derived.Test.YtkjbnibcdmlmmaaCOArg
namespace Go.Proofs.Ytkjbnibcdmlmmaa.nandOnce
open Go.ChangeShapes Go.WideShapes Go.ChangeAt Go.RowKit

/-- What the loop keeps. -/
structure Inv (w wr : World) (p : Nat) (c : CS) : Prop where
  lies : Lies w.heap.size wr c
  at_p : c.p = p
  calm : Calm c
  below : Below w.heap.size w wr
theorem Inv.later {w W W' : World} {p : Nat} {c : CS} (h : Inv w W p c) (hb : Below W.heap.size W W') : Inv w W' p c := ⟨h.lies.later hb, h.at_p, h.calm, Below.after h.below hb⟩
theorem Inv.stepped {w W W' : World} {p : Nat} {c c' : CS} (h : Inv w W p c) (hl : Lies w.heap.size W' c') (hp : c'.p = c.p) (hc : Calm c') (hk : Kept c.foot W W') : Inv w W' p c' :=
  ⟨hl, hp.trans h.at_p, hc, h.below.trans (hk.low h.lies h.below.size)⟩
/-- A step's data, later. -/
theorem barg_row {w W : World} {a : Option Addr} {m c : Nat} {l : List Nat} (h : BArg w a m c l) (hb : Below w.heap.size w W) : BRow W a l := by
  rcases h.row with e | ⟨b, off, e, hc⟩
  · exact .inl e
  · refine .inr ⟨b, off, e, fun i hi => ?_⟩
    have := hc i hi
    rw [hb.cell (p := ⟨b, off + i, none⟩) (World.block_lt_of_cell? w _ this)]
    exact this
theorem barg_apart {w W : World} {c : CS} {a : Option Addr} {m cp : Nat} {l : List Nat} (h : BArg w a m cp l) (hl : Lies w.heap.size W c) : l = [] ∨ ∀ b o, a = some ⟨b, o, none⟩ → ¬ c.foot b := by
  rcases h.row with e | ⟨b, off, e, hc⟩
  · exact .inl e
  · cases l with
    | nil => exact .inl rfl
    | cons x l =>
      refine .inr fun b2 o2 e2 hk => ?_
      rw [e] at e2
      cases e2
      have := World.block_lt_of_cell? w _ (hc 0 (by simp))
      have h2 := hl.low _ hk
      simp at this
      omega
/-- A page as it was read and as it is read again. -/
theorem Inv.read_at {w W : World} {p : Nat} {c : CS} (h : Inv w W p c) (bl pg : Int) (l : List Nat) (x : Int) (he : c.read bl pg = (l, x)) :
    Calls Try.prog 19 #[.pointer (some ⟨p, 0, none⟩), .int .i64 bl, .int .i64 pg] W fun e w' => ∃ a m cap, e = .returned (.tuple #[.slice a m cap, .int .i64 x]) ∧ Got W w' l a m cap := read_at' h.lies p h.at_p bl pg x l he
theorem got_row {w W W' : World} {l : List Nat} {a : Option Addr} {m cap : Nat} (h : Got w W l a m cap) (hb : Below W.heap.size W W') : BRow W' a l := h.row.later hb
theorem kept_row {W W' : World} {c : CS} {l : List Nat} {a : Option Addr} (h : BRow W a l) (hn : l = [] ∨ ∀ b o, a = some ⟨b, o, none⟩ → ¬ c.foot b) (hk : Kept c.foot W W') : BRow W' a l := by
  rcases h with e | ⟨b, off, e, hc⟩
  · exact .inl e
  · refine .inr ⟨b, off, e, fun i hi => ?_⟩
    rcases hn with q | q
    · subst q; simp at hi
    · have := hc i hi
      rw [World.cell?_of_block (w := W) (hk.block b (World.block_lt_of_cell? W _ this) (q b off e))]
      exact this
theorem after_op {w W0 W W' : World} {p B : Nat} {c c' : CS} {cs : List Value} {L : List Nat} {a : Option Addr} {m cap : Nat} (h0 : Inv w W0 p c) (hI : Inv w W p c) (hl : Lies w.heap.size W' c') (hp : c'.p = c.p) (hc : Calm c') (hk : Kept c.foot W W') (hr : Row W B cs 37) (hg : Got W0 W L a m cap) :
    Inv w W' p c' ∧ Row W' B cs 37 ∧ BRow W' a L := by
  refine ⟨hI.stepped hl hp hc hk, hr.kept hk ?_, kept_row hg.row ?_ hk⟩
  · rintro (e | e | e)
    · obtain ⟨fa, fc, h1, _⟩ := hI.lies.chip; exact hr.ne h1 (by decide) e
    · exact hr.ne hI.lies.bks (by decide) e
    · obtain ⟨bk, hb, e⟩ := List.mem_map.1 e; exact hr.ne (hI.lies.pgs bk hb) (by decide) e.symm
  · rcases hg.fresh with e | h
    · exact .inl e
    · refine .inr fun b o e hf => ?_
      have := h b o e
      have := h0.lies.foot_lt hf
      omega
theorem next_bound {c : CS} (h : Good c) {n x : Int} (hx : (c.at n).map Bk.next = some x) : 0 ≤ x ∧ x ≤ 64 := by
  cases hb : c.at n with
  | none => rw [hb] at hx; cases hx
  | some b =>
    rw [hb] at hx
    obtain ⟨_, _, _, h4, h5⟩ := h.plen b (List.mem_of_getElem? (at_some hb).1)
    have := h.gs
    have e : b.next = x := by simpa using hx
    omega
set_option maxRecDepth 20000 in
set_option maxHeartbeats 8000000 in
theorem walk (a : Option Addr) (n cap : Nat) (l : List OpD) (bl pg : Int) (w : World) (ha : OArg w a n cap l) (_ : (Lit.int .i64 bl).wf = true) (_ : (Lit.int .i64 pg).wf = true) :
    Calls Try.prog 4 #[.slice a n cap, .int .i64 bl, .int .i64 pg] w fun e w' => e = .returned (.bool true) ∧ Below w.heap.size w w' := by
  have HA : Hid (OArg w a n cap l) := ha
  have hnm : n ≤ 9223372036854775807 := by have := ha.le; have := ha.max; unfold maxLen at this; omega
  have hnl := ha.len_eq
  have HN : Hid (n = l.length) := hnl
  clear ha hnl
  go_enter Try.func4, Try.ntmps4
  go_wp2_with (first
    | (go_at_call 18; refine (small_any _).mono ?_; rintro e w1 ⟨rfl, hb1⟩)
    | (go_at_call 8; refine (new_small' w w1 hb1).mono ?_; rintro e w2 ⟨p, q, rs, rfl, hrs, hl2, hb2⟩; have hI2 : Inv w w2 p (smallC p q rs) := ⟨hl2, rfl, ⟨rfl, rfl⟩, hb2⟩; clear hl2 hb1)
    | (go_at_call 12; refine (alive_any _).mono ?_; rintro e w3 ⟨rfl, hb3⟩; have hI3 := hI2.later hb3; clear hI2 hb3 hb2))
  go_loopg [9] n (fun gm i wr => ∃ k : Nat, k ≤ n ∧ gm = n - k ∧ i = .int .i64 k ∧ ∃ c, Hid (Inv w wr p c))
  case atStart => exact ⟨0, by omega, by omega, rfl, _, hI3⟩
  case round =>
    obtain ⟨k, hk, rfl, rfl, c, hI⟩ := hrel
    by_cases hlt : k < n
    · obtain ⟨o, ho⟩ : ∃ o, l[k]? = some o := ⟨_, List.getElem?_eq_getElem (by rw [← HN.out]; exact hlt)⟩
      obtain ⟨b, off, rfl, hcs⟩ : ∃ b off, a = some ⟨b, off, none⟩ ∧ ∀ i o, l[i]? = some o → w.cell? ⟨b, off + i * 5, none⟩ = some (.int .i64 o.kind) ∧ w.cell? ⟨b, off + i * 5 + 1, none⟩ = some (.int .i64 o.block) ∧ w.cell? ⟨b, off + i * 5 + 2, none⟩ = some (.int .i64 o.page) ∧ w.cell? ⟨b, off + i * 5 + 3, none⟩ = some (.slice o.da o.dl o.dc) ∧ w.cell? ⟨b, off + i * 5 + 4, none⟩ = some (.slice o.pa o.pl o.pc) := by
        rcases HA.out.row with e | h
        · subst e; simp at ho
        · exact h
      obtain ⟨g0, g1, g2, g3, g4⟩ := hcs k o ho
      have hbw : b < w.heap.size := World.block_lt_of_cell? w _ g0
      rw [← hI.out.below.cell (p := ⟨b, off + k * 5, none⟩) hbw] at g0
      rw [← hI.out.below.cell (p := ⟨b, off + k * 5 + 1, none⟩) hbw] at g1
      rw [← hI.out.below.cell (p := ⟨b, off + k * 5 + 2, none⟩) hbw] at g2
      rw [← hI.out.below.cell (p := ⟨b, off + k * 5 + 3, none⟩) hbw] at g3
      rw [← hI.out.below.cell (p := ⟨b, off + k * 5 + 4, none⟩) hbw] at g4
      have hda := (HA.out.each o (List.mem_of_getElem? ho)).1
      have HDA : Hid (BArg w o.da o.dl o.dc o.data) := hda
      have hbr : b < wr.heap.size := Nat.lt_of_lt_of_le hbw hI.out.below.size
      clear hcs ho hda hI3
      obtain ⟨L, X, hrd⟩ : ∃ L X, c.read bl pg = (L, X) := ⟨_, _, rfl⟩
      have HRD : Hid (c.read bl pg = (L, X)) := hrd
      have HLT : Hid (∀ x ∈ L, x < 256) := by have := hI.out.lies.good.read_lt bl pg; rw [hrd] at this; exact this
      clear hrd
      have hki : (k : Int) < (n : Int) := by omega
      obtain ⟨N, hN⟩ : ∃ N : Int, N = match c.at bl with | none => 0 | some b => b.next := ⟨_, rfl⟩
      have HNN : Hid (N = match c.at bl with | none => 0 | some b => b.next) := hN
      have hIo : Inv w (wr.alloc (.cells #[.int .i64 o.kind, .int .i64 o.block, .int .i64 o.page, .slice o.da o.dl o.dc, .slice o.pa o.pl o.pc] 37)) p c := hI.out.later (below_new wr _)
      have hro : Row (wr.alloc (.cells #[.int .i64 o.kind, .int .i64 o.block, .int .i64 o.page, .slice o.da o.dl o.dc, .slice o.pa o.pl o.pc] 37)) wr.heap.size [.int .i64 o.kind, .int .i64 o.block, .int .i64 o.page, .slice o.da o.dl o.dc, .slice o.pa o.pl o.pc] 37 := Row.new wr _ _
      have M1 : Hid True := trivial
      have M2 : Hid True := trivial
      by_cases k1 : o.kind = 1
      · have e1 : (o.kind == 1) = true := by simpa using k1
        have e2 : (o.kind == 2) = false := by simp [k1]
        have e3 : (o.kind == 3) = false := by simp [k1]
        obtain ⟨x, c6, hop, hcalm, hp6, hcase⟩ := prog_calm hI.out.calm o.block o.page o.data
        have HOP : Hid (c.program o.block o.page o.data = (x, c6)) := hop
        have HC6 : Hid (Calm c6) := hcalm
        have HP6 : Hid (c6.p = c.p) := hp6
        rcases hcase with ⟨hx, hrd2⟩ | ⟨hx, hnx, hnx0, hrd2⟩
        · have HRD2 : Hid (c6.read bl pg = (L, X)) := (hrd2 bl pg).trans HRD.out
          have x0 : (x != 0) = true := by simpa using hx
          have x1 : (x == 0) = false := by simpa using hx
          clear hx hrd2 hop hcalm hp6 k1 hN
          go_wp2_with (first
            | (go_at_call 19; clear M1; go_must (refine (hIo.read_at bl pg L X HRD.out).mono ?_); rintro e w4 ⟨a4, m4, cap4, rfl, hg4⟩; have hI4 := hIo.later hg4.below; have hr4 := hro.later hg4.below; have o0 := hr4.cell (i := 0) rfl; have o1 := hr4.cell (i := 1) rfl; have o2 := hr4.cell (i := 2) rfl; have o3 := hr4.cell (i := 3) rfl; have M3 : Hid True := trivial)
            | (go_at_call 20; clear M2; go_must (refine (next_at hI4.lies p hI4.at_p bl N HNN.out).mono ?_); rintro e w' ⟨rfl, rfl⟩)
            | (go_at_call 21; go_must (refine (program_at hI4.lies p hI4.at_p o.block o.page x o.da o.dl o.dc o.data HDA.out.len_eq (barg_row HDA.out hI4.below) HDA.out.lt (barg_apart HDA.out hI4.lies) HOP.out).mono ?_); rintro e w6 ⟨rfl, hl6, hk6, _⟩; obtain ⟨hI6, hr6, hb6⟩ := after_op hIo hI4 hl6 HP6.out HC6.out hk6 hr4 hg4; have q0 := hr6.cell (i := 0) rfl; have q1 := hr6.cell (i := 1) rfl; have q2 := hr6.cell (i := 2) rfl)
            | (go_at_call 19; go_must (refine (hI6.read_at bl pg L X HRD2.out).mono ?_); rintro e w5 ⟨a5, m5, cap5, rfl, hg5⟩; have hI5 := hI6.later hg5.below; have hr5 := hr6.later hg5.below; have hb5 := hb6.later hg5.below; have v0 := hr5.cell (i := 0) rfl; have v1 := hr5.cell (i := 1) rfl; have v2 := hr5.cell (i := 2) rfl)
            | (go_at_call 22; go_must (refine (same_at _ hg4.len hg5.len HLT.out hb5 hg5.row).mono ?_); rintro e w' ⟨rfl, rfl⟩))
          all_goals go_quiet (first | fail)
          all_goals go_wp2
          all_goals go_roundg (n - (k + 1))
          all_goals first
            | (show n - (k + 1) < n - k; omega)
            | exact ⟨k + 1, by omega, rfl, by simp, c6, hI5.later (below_drawn _ _)⟩
        · have x0 : (x != 0) = false := by simp [hx]
          have x1 : (x == 0) = true := by simp [hx]
          have HNX : Hid (o.page + 1 = match c6.at o.block with | none => 0 | some b => b.next) := next_map hnx
          have hbd := next_bound hI.out.lies.good hnx0
          have hw : IntKind.i64.wrap (o.page + 1) = o.page + 1 := by rw [IntKind.wrap_i64]; omega
          have hw2 : wrap64 (o.page + 1) = o.page + 1 := by unfold wrap64; omega
          by_cases hB : o.block = bl
          · have b1 : (o.block == bl) = true := by simpa using hB
            have hNo : N = o.page := by rw [hN, ← hB]; exact (next_map hnx0).symm
            have b3 : (N != o.page) = false := by simp [hNo]
            by_cases hP : o.page = pg
            · have b2 : (o.page == pg) = true := by simpa using hP
              obtain ⟨L2, X2, hrd3⟩ : ∃ L2 X2, c6.read bl pg = (L2, X2) := ⟨_, _, rfl⟩
              have HRD2 : Hid (c6.read bl pg = (L2, X2)) := hrd3
              clear hx hrd2 hop hcalm hp6 k1 hN hB hP hNo hnx hnx0 hbd hrd3
              go_wp2_with (first
                | (go_at_call 19; clear M1; go_must (refine (hIo.read_at bl pg L X HRD.out).mono ?_); rintro e w4 ⟨a4, m4, cap4, rfl, hg4⟩; have hI4 := hIo.later hg4.below; have hr4 := hro.later hg4.below; have o0 := hr4.cell (i := 0) rfl; have o1 := hr4.cell (i := 1) rfl; have o2 := hr4.cell (i := 2) rfl; have o3 := hr4.cell (i := 3) rfl; have M3 : Hid True := trivial)
                | (go_at_call 20; clear M2; go_must (refine (next_at hI4.lies p hI4.at_p bl N HNN.out).mono ?_); rintro e w' ⟨rfl, rfl⟩)
                | (go_at_call 21; go_must (refine (program_at hI4.lies p hI4.at_p o.block o.page x o.da o.dl o.dc o.data HDA.out.len_eq (barg_row HDA.out hI4.below) HDA.out.lt (barg_apart HDA.out hI4.lies) HOP.out).mono ?_); rintro e w6 ⟨rfl, hl6, hk6, _⟩; obtain ⟨hI6, hr6, hb6⟩ := after_op hIo hI4 hl6 HP6.out HC6.out hk6 hr4 hg4; have q0 := hr6.cell (i := 0) rfl; have q1 := hr6.cell (i := 1) rfl; have q2 := hr6.cell (i := 2) rfl)
                | (go_at_call 19; go_must (refine (hI6.read_at bl pg L2 X2 HRD2.out).mono ?_); rintro e w5 ⟨a5, m5, cap5, rfl, hg5⟩; have hI5 := hI6.later hg5.below; have hr5 := hr6.later hg5.below; have hb5 := hb6.later hg5.below; have v0 := hr5.cell (i := 0) rfl; have v1 := hr5.cell (i := 1) rfl; have v2 := hr5.cell (i := 2) rfl)
                | (go_at_call 22; go_must (refine (same_at _ hg4.len hg5.len HLT.out hb5 hg5.row).mono ?_); rintro e w' ⟨rfl, rfl⟩))
              all_goals go_quiet (first | fail | (go_at_call 20; exact (next_at (hI5.lies.drewN _) p hI5.at_p o.block (o.page + 1) HNX.out).mono (fun _ _ h => ⟨h.1, _, h.2.symm⟩)))
              all_goals go_wp2
              all_goals go_roundg (n - (k + 1))
              all_goals first
                | (show n - (k + 1) < n - k; omega)
                | exact ⟨k + 1, by omega, rfl, by simp, c6, hI5.later (below_drawn _ _)⟩
            · have b2 : (o.page == pg) = false := by simpa using hP
              have HRD2 : Hid (c6.read bl pg = (L, X)) := (hrd2 bl pg (fun q => hP q.2.symm)).trans HRD.out
              clear hx hrd2 hop hcalm hp6 k1 hN hB hP hNo hnx hnx0 hbd
              go_wp2_with (first
                | (go_at_call 19; clear M1; go_must (refine (hIo.read_at bl pg L X HRD.out).mono ?_); rintro e w4 ⟨a4, m4, cap4, rfl, hg4⟩; have hI4 := hIo.later hg4.below; have hr4 := hro.later hg4.below; have o0 := hr4.cell (i := 0) rfl; have o1 := hr4.cell (i := 1) rfl; have o2 := hr4.cell (i := 2) rfl; have o3 := hr4.cell (i := 3) rfl; have M3 : Hid True := trivial)
                | (go_at_call 20; clear M2; go_must (refine (next_at hI4.lies p hI4.at_p bl N HNN.out).mono ?_); rintro e w' ⟨rfl, rfl⟩)
                | (go_at_call 21; go_must (refine (program_at hI4.lies p hI4.at_p o.block o.page x o.da o.dl o.dc o.data HDA.out.len_eq (barg_row HDA.out hI4.below) HDA.out.lt (barg_apart HDA.out hI4.lies) HOP.out).mono ?_); rintro e w6 ⟨rfl, hl6, hk6, _⟩; obtain ⟨hI6, hr6, hb6⟩ := after_op hIo hI4 hl6 HP6.out HC6.out hk6 hr4 hg4; have q0 := hr6.cell (i := 0) rfl; have q1 := hr6.cell (i := 1) rfl; have q2 := hr6.cell (i := 2) rfl)
                | (go_at_call 19; go_must (refine (hI6.read_at bl pg L X HRD2.out).mono ?_); rintro e w5 ⟨a5, m5, cap5, rfl, hg5⟩; have hI5 := hI6.later hg5.below; have hr5 := hr6.later hg5.below; have hb5 := hb6.later hg5.below; have v0 := hr5.cell (i := 0) rfl; have v1 := hr5.cell (i := 1) rfl; have v2 := hr5.cell (i := 2) rfl)
                | (go_at_call 22; go_must (refine (same_at _ hg4.len hg5.len HLT.out hb5 hg5.row).mono ?_); rintro e w' ⟨rfl, rfl⟩))
              all_goals go_quiet (first | fail | (go_at_call 20; exact (next_at (hI5.lies.drewN _) p hI5.at_p o.block (o.page + 1) HNX.out).mono (fun _ _ h => ⟨h.1, _, h.2.symm⟩)))
              all_goals go_wp2
              all_goals go_roundg (n - (k + 1))
              all_goals first
                | (show n - (k + 1) < n - k; omega)
                | exact ⟨k + 1, by omega, rfl, by simp, c6, hI5.later (below_drawn _ _)⟩
          · have b1 : (o.block == bl) = false := by simpa using hB
            have HRD2 : Hid (c6.read bl pg = (L, X)) := (hrd2 bl pg (fun q => hB q.1.symm)).trans HRD.out
            clear hx hrd2 hop hcalm hp6 k1 hN hB hnx hnx0 hbd
            go_wp2_with (first
              | (go_at_call 19; clear M1; go_must (refine (hIo.read_at bl pg L X HRD.out).mono ?_); rintro e w4 ⟨a4, m4, cap4, rfl, hg4⟩; have hI4 := hIo.later hg4.below; have hr4 := hro.later hg4.below; have o0 := hr4.cell (i := 0) rfl; have o1 := hr4.cell (i := 1) rfl; have o2 := hr4.cell (i := 2) rfl; have o3 := hr4.cell (i := 3) rfl; have M3 : Hid True := trivial)
              | (go_at_call 20; clear M2; go_must (refine (next_at hI4.lies p hI4.at_p bl N HNN.out).mono ?_); rintro e w' ⟨rfl, rfl⟩)
              | (go_at_call 21; go_must (refine (program_at hI4.lies p hI4.at_p o.block o.page x o.da o.dl o.dc o.data HDA.out.len_eq (barg_row HDA.out hI4.below) HDA.out.lt (barg_apart HDA.out hI4.lies) HOP.out).mono ?_); rintro e w6 ⟨rfl, hl6, hk6, _⟩; obtain ⟨hI6, hr6, hb6⟩ := after_op hIo hI4 hl6 HP6.out HC6.out hk6 hr4 hg4; have q0 := hr6.cell (i := 0) rfl; have q1 := hr6.cell (i := 1) rfl; have q2 := hr6.cell (i := 2) rfl)
              | (go_at_call 19; go_must (refine (hI6.read_at bl pg L X HRD2.out).mono ?_); rintro e w5 ⟨a5, m5, cap5, rfl, hg5⟩; have hI5 := hI6.later hg5.below; have hr5 := hr6.later hg5.below; have hb5 := hb6.later hg5.below; have v0 := hr5.cell (i := 0) rfl; have v1 := hr5.cell (i := 1) rfl; have v2 := hr5.cell (i := 2) rfl)
              | (go_at_call 22; go_must (refine (same_at _ hg4.len hg5.len HLT.out hb5 hg5.row).mono ?_); rintro e w' ⟨rfl, rfl⟩))
            all_goals go_quiet (first | fail | (go_at_call 20; exact (next_at (hI5.lies.drewN _) p hI5.at_p o.block (o.page + 1) HNX.out).mono (fun _ _ h => ⟨h.1, _, h.2.symm⟩)))
            all_goals go_wp2
            all_goals go_roundg (n - (k + 1))
            all_goals first
              | (show n - (k + 1) < n - k; omega)
              | exact ⟨k + 1, by omega, rfl, by simp, c6, hI5.later (below_drawn _ _)⟩
      · have e1 : (o.kind == 1) = false := by simpa using k1
        by_cases k2 : o.kind = 2
        · have e2 : (o.kind == 2) = true := by simpa using k2
          have e3 : (o.kind == 3) = false := by simp [k2]
          obtain ⟨x, c6, hop, hcalm, hp6, hcase⟩ := erase_calm hI.out.calm o.block
          have HOP : Hid (c.erase o.block = (x, c6)) := hop
          have HC6 : Hid (Calm c6) := hcalm
          have HP6 : Hid (c6.p = c.p) := hp6
          rcases hcase with ⟨hx, hrd2⟩ | ⟨hx, hnx, hrd2⟩
          · have HRD2 : Hid (c6.read bl pg = (L, X)) := (hrd2 bl pg).trans HRD.out
            have x0 : (x != 0) = true := by simpa using hx
            have x1 : (x == 0) = false := by simpa using hx
            clear hx hrd2 hop hcalm hp6 k1 k2 hN
            go_wp2_with (first
              | (go_at_call 19; clear M1; go_must (refine (hIo.read_at bl pg L X HRD.out).mono ?_); rintro e w4 ⟨a4, m4, cap4, rfl, hg4⟩; have hI4 := hIo.later hg4.below; have hr4 := hro.later hg4.below; have o0 := hr4.cell (i := 0) rfl; have o1 := hr4.cell (i := 1) rfl; have o2 := hr4.cell (i := 2) rfl; have o3 := hr4.cell (i := 3) rfl; have M3 : Hid True := trivial)
              | (go_at_call 20; clear M2; go_must (refine (next_at hI4.lies p hI4.at_p bl N HNN.out).mono ?_); rintro e w' ⟨rfl, rfl⟩)
              | (go_at_call 14; go_must (refine (erase_at hI4.lies p hI4.at_p o.block x HOP.out).mono ?_); rintro e w6 ⟨rfl, hl6, hk6, _⟩; obtain ⟨hI6, hr6, hb6⟩ := after_op hIo hI4 hl6 HP6.out HC6.out hk6 hr4 hg4; have q0 := hr6.cell (i := 0) rfl; have q1 := hr6.cell (i := 1) rfl; have q2 := hr6.cell (i := 2) rfl)
              | (go_at_call 19; go_must (refine (hI6.read_at bl pg L X HRD2.out).mono ?_); rintro e w5 ⟨a5, m5, cap5, rfl, hg5⟩; have hI5 := hI6.later hg5.below; have hr5 := hr6.later hg5.below; have hb5 := hb6.later hg5.below; have v0 := hr5.cell (i := 0) rfl; have v1 := hr5.cell (i := 1) rfl; have v2 := hr5.cell (i := 2) rfl)
              | (go_at_call 22; go_must (refine (same_at _ hg4.len hg5.len HLT.out hb5 hg5.row).mono ?_); rintro e w' ⟨rfl, rfl⟩))
            all_goals go_quiet (first | fail)
            all_goals go_wp2
            all_goals go_roundg (n - (k + 1))
            all_goals first
              | (show n - (k + 1) < n - k; omega)
              | exact ⟨k + 1, by omega, rfl, by simp, c6, hI5.later (below_drawn _ _)⟩
          · have x0 : (x != 0) = false := by simp [hx]
            have x1 : (x == 0) = true := by simp [hx]
            have HNX : Hid ((0 : Int) = match c6.at o.block with | none => 0 | some b => b.next) := next_map hnx
            by_cases hB : o.block = bl
            · have b1 : (o.block == bl) = true := by simpa using hB
              obtain ⟨L2, X2, hrd3⟩ : ∃ L2 X2, c6.read bl pg = (L2, X2) := ⟨_, _, rfl⟩
              have HRD2 : Hid (c6.read bl pg = (L2, X2)) := hrd3
              clear hx hrd2 hop hcalm hp6 k1 k2 hN hB hnx hrd3
              go_wp2_with (first
                | (go_at_call 19; clear M1; go_must (refine (hIo.read_at bl pg L X HRD.out).mono ?_); rintro e w4 ⟨a4, m4, cap4, rfl, hg4⟩; have hI4 := hIo.later hg4.below; have hr4 := hro.later hg4.below; have o0 := hr4.cell (i := 0) rfl; have o1 := hr4.cell (i := 1) rfl; have o2 := hr4.cell (i := 2) rfl; have o3 := hr4.cell (i := 3) rfl; have M3 : Hid True := trivial)
                | (go_at_call 20; clear M2; go_must (refine (next_at hI4.lies p hI4.at_p bl N HNN.out).mono ?_); rintro e w' ⟨rfl, rfl⟩)
                | (go_at_call 14; go_must (refine (erase_at hI4.lies p hI4.at_p o.block x HOP.out).mono ?_); rintro e w6 ⟨rfl, hl6, hk6, _⟩; obtain ⟨hI6, hr6, hb6⟩ := after_op hIo hI4 hl6 HP6.out HC6.out hk6 hr4 hg4; have q0 := hr6.cell (i := 0) rfl; have q1 := hr6.cell (i := 1) rfl; have q2 := hr6.cell (i := 2) rfl)
                | (go_at_call 19; go_must (refine (hI6.read_at bl pg L2 X2 HRD2.out).mono ?_); rintro e w5 ⟨a5, m5, cap5, rfl, hg5⟩; have hI5 := hI6.later hg5.below; have hr5 := hr6.later hg5.below; have hb5 := hb6.later hg5.below; have v0 := hr5.cell (i := 0) rfl; have v1 := hr5.cell (i := 1) rfl; have v2 := hr5.cell (i := 2) rfl)
                | (go_at_call 22; go_must (refine (same_at _ hg4.len hg5.len HLT.out hb5 hg5.row).mono ?_); rintro e w' ⟨rfl, rfl⟩))
              all_goals go_quiet (first | fail)
              all_goals go_wp2_with (first | (go_at_call 20; refine (next_at (hI5.lies.drewN _) p hI5.at_p o.block 0 HNX.out).mono ?_; rintro e w' ⟨rfl, rfl⟩))
              all_goals go_roundg (n - (k + 1))
              all_goals first
                | (show n - (k + 1) < n - k; omega)
                | exact ⟨k + 1, by omega, rfl, by simp, c6, hI5.later (below_drawn _ _)⟩
            · have b1 : (o.block == bl) = false := by simpa using hB
              have HRD2 : Hid (c6.read bl pg = (L, X)) := (hrd2 bl pg (fun q => hB q.symm)).trans HRD.out
              clear hx hrd2 hop hcalm hp6 k1 k2 hN hB hnx
              go_wp2_with (first
                | (go_at_call 19; clear M1; go_must (refine (hIo.read_at bl pg L X HRD.out).mono ?_); rintro e w4 ⟨a4, m4, cap4, rfl, hg4⟩; have hI4 := hIo.later hg4.below; have hr4 := hro.later hg4.below; have o0 := hr4.cell (i := 0) rfl; have o1 := hr4.cell (i := 1) rfl; have o2 := hr4.cell (i := 2) rfl; have o3 := hr4.cell (i := 3) rfl; have M3 : Hid True := trivial)
                | (go_at_call 20; clear M2; go_must (refine (next_at hI4.lies p hI4.at_p bl N HNN.out).mono ?_); rintro e w' ⟨rfl, rfl⟩)
                | (go_at_call 14; go_must (refine (erase_at hI4.lies p hI4.at_p o.block x HOP.out).mono ?_); rintro e w6 ⟨rfl, hl6, hk6, _⟩; obtain ⟨hI6, hr6, hb6⟩ := after_op hIo hI4 hl6 HP6.out HC6.out hk6 hr4 hg4; have q0 := hr6.cell (i := 0) rfl; have q1 := hr6.cell (i := 1) rfl; have q2 := hr6.cell (i := 2) rfl)
                | (go_at_call 19; go_must (refine (hI6.read_at bl pg L X HRD2.out).mono ?_); rintro e w5 ⟨a5, m5, cap5, rfl, hg5⟩; have hI5 := hI6.later hg5.below; have hr5 := hr6.later hg5.below; have hb5 := hb6.later hg5.below; have v0 := hr5.cell (i := 0) rfl; have v1 := hr5.cell (i := 1) rfl; have v2 := hr5.cell (i := 2) rfl)
                | (go_at_call 22; go_must (refine (same_at _ hg4.len hg5.len HLT.out hb5 hg5.row).mono ?_); rintro e w' ⟨rfl, rfl⟩))
              all_goals go_quiet (first | fail)
              all_goals go_wp2_with (first | (go_at_call 20; refine (next_at (hI5.lies.drewN _) p hI5.at_p o.block 0 HNX.out).mono ?_; rintro e w' ⟨rfl, rfl⟩))
              all_goals go_roundg (n - (k + 1))
              all_goals first
                | (show n - (k + 1) < n - k; omega)
                | exact ⟨k + 1, by omega, rfl, by simp, c6, hI5.later (below_drawn _ _)⟩
        · have e2 : (o.kind == 2) = false := by simpa using k2
          by_cases k3 : o.kind = 3
          · have e3 : (o.kind == 3) = true := by simpa using k3
            obtain ⟨x, c6, hop, hcalm, hp6, hrd2⟩ := mark_calm hI.out.calm o.block
            have HOP : Hid (c.mark o.block = (x, c6)) := hop
            have HC6 : Hid (Calm c6) := hcalm
            have HP6 : Hid (c6.p = c.p) := hp6
            have HRD2 : Hid (c6.read bl pg = (L, X)) := (hrd2 bl pg).trans HRD.out
            clear hrd2 hop hcalm hp6 k1 k2 k3 hN
            go_wp2_with (first
              | (go_at_call 19; clear M1; go_must (refine (hIo.read_at bl pg L X HRD.out).mono ?_); rintro e w4 ⟨a4, m4, cap4, rfl, hg4⟩; have hI4 := hIo.later hg4.below; have hr4 := hro.later hg4.below; have o0 := hr4.cell (i := 0) rfl; have o1 := hr4.cell (i := 1) rfl; have o2 := hr4.cell (i := 2) rfl; have o3 := hr4.cell (i := 3) rfl; have M3 : Hid True := trivial)
              | (go_at_call 20; clear M2; go_must (refine (next_at hI4.lies p hI4.at_p bl N HNN.out).mono ?_); rintro e w' ⟨rfl, rfl⟩)
              | (go_at_call 15; go_must (refine (mark_at hI4.lies p hI4.at_p o.block x HOP.out).mono ?_); rintro e w6 ⟨rfl, hl6, hk6, _⟩; obtain ⟨hI6, hr6, hb6⟩ := after_op hIo hI4 hl6 HP6.out HC6.out hk6 hr4 hg4; have q0 := hr6.cell (i := 0) rfl; have q1 := hr6.cell (i := 1) rfl; have q2 := hr6.cell (i := 2) rfl)
              | (go_at_call 19; go_must (refine (hI6.read_at bl pg L X HRD2.out).mono ?_); rintro e w5 ⟨a5, m5, cap5, rfl, hg5⟩; have hI5 := hI6.later hg5.below; have hr5 := hr6.later hg5.below; have hb5 := hb6.later hg5.below; have v0 := hr5.cell (i := 0) rfl; have v1 := hr5.cell (i := 1) rfl; have v2 := hr5.cell (i := 2) rfl)
              | (go_at_call 22; go_must (refine (same_at _ hg4.len hg5.len HLT.out hb5 hg5.row).mono ?_); rintro e w' ⟨rfl, rfl⟩))
            all_goals go_quiet (first | fail)
            all_goals go_wp2
            all_goals go_roundg (n - (k + 1))
            all_goals first
              | (show n - (k + 1) < n - k; omega)
              | exact ⟨k + 1, by omega, rfl, by simp, c6, hI5.later (below_drawn _ _)⟩
          · have e3 : (o.kind == 3) = false := by simpa using k3
            clear k1 k2 k3 hN
            go_wp2_with (first
              | (go_at_call 19; clear M1; go_must (refine (hIo.read_at bl pg L X HRD.out).mono ?_); rintro e w4 ⟨a4, m4, cap4, rfl, hg4⟩; have hI4 := hIo.later hg4.below; have hr4 := hro.later hg4.below; have o0 := hr4.cell (i := 0) rfl; have o1 := hr4.cell (i := 1) rfl; have o2 := hr4.cell (i := 2) rfl; have o3 := hr4.cell (i := 3) rfl; have M3 : Hid True := trivial)
              | (go_at_call 20; clear M2; go_must (refine (next_at hI4.lies p hI4.at_p bl N HNN.out).mono ?_); rintro e w' ⟨rfl, rfl⟩)
              | (go_at_call 19; go_must (refine (hI4.read_at bl pg L X HRD.out).mono ?_); rintro e w5 ⟨a5, m5, cap5, rfl, hg5⟩; have hI5 := hI4.later hg5.below; have hr5 := hr4.later hg5.below; have hb5 := hg4.row.later hg5.below; have v0 := hr5.cell (i := 0) rfl; have v1 := hr5.cell (i := 1) rfl; have v2 := hr5.cell (i := 2) rfl)
              | (go_at_call 22; go_must (refine (same_at _ hg4.len hg5.len HLT.out hb5 hg5.row).mono ?_); rintro e w' ⟨rfl, rfl⟩))
            all_goals go_quiet (first | fail)
            all_goals go_wp2
            all_goals go_roundg (n - (k + 1))
            all_goals first
              | (show n - (k + 1) < n - k; omega)
              | exact ⟨k + 1, by omega, rfl, by simp, c, hI5.later (below_drawn _ _)⟩
    · go_wp2
      go_ret
      exact ⟨rfl, hI.out.below⟩
set_option maxRecDepth 100000 in
theorem lifted (os : Os) (started : os.Started) (H : Type) (enc : TypeId × Value → H) :
    ReturnsInHanded {} Try.checked os 4 .any (Rows.nandOnceSpec.pre6 enc Try.prog Try.f4 Rows.nandOnceRow.domain false) (Rows.nandOnceSpec.post enc Try.prog Try.f4 false true false false) := by
  refine returnsInHanded_of_change (C := Try.checked) own started (by kernel_rfl) Try.func4
    (ChangeSpec.witness6 (enc := enc) (C := Try.checked) false ⟨#[], #[.slice none 0 0, .int .i64 0, .int .i64 0], []⟩ 8 (by kernel_rfl) (by kernel_rfl) (by kernel_rfl) (by kernel_rfl)) ?_
  intro W base args ds gs before hval0 hW hcnd _
  have hval : ∀ (j : Nat) t v, Try.f4.params[j]? = some t → args[j]? = some v → Value.okWide Try.prog W .any base t v := hval0
  have hW' := hW
  obtain ⟨p, q, hA0, hV, rfl, hfz, hnd⟩ := hW
  have hA : DataW.TrodAll enc Try.prog W 0 (fun _ => true) true Try.f4.params.toList args.toList ds p := hA0
  rw [Try.params4] at hA hval
  obtain ⟨v0, vs0, d0, ds0, p0, q0, hargs, rfl, rfl, h0, r0⟩ := trodAll_cons hA
  obtain ⟨v1, vs1, d1, ds1, p1, q1, rfl, rfl, rfl, h1, r1⟩ := trodAll_cons r0
  obtain ⟨v2, vs2, d2, ds2, p2, q2, rfl, rfl, rfl, h2, r2⟩ := trodAll_cons r1
  obtain ⟨rfl, rfl, rfl⟩ := trodAll_nil r2
  obtain rfl : args = #[v0, v1, v2] := by cases args; simp_all
  obtain ⟨rfl, rfl⟩ := trodVars_none hV
  obtain ⟨a0, len0, cap0, rfl⟩ := okWide_slice Try.underlying25 (hval 0 25 v0 rfl rfl)
  have k0 := h0
  have lt0 : ∀ x ∈ p0, x.block < W.heap.size := by obtain ⟨m, hm⟩ := k0; exact DataW.trod_lt m _ _ _ hm
  obtain ⟨l0, w0⟩ : ∃ l, OArg W a0 len0 cap0 l := by
    obtain ⟨fuel, hf⟩ := h0
    exact oarg_open hf
  obtain ⟨a1, rfl, rfl, rfl, w1⟩ := open_int Try.underlying3 (hval 1 3 v1 rfl rfl) h1
  obtain ⟨a2, rfl, rfl, rfl, w2⟩ := open_int Try.underlying3 (hval 2 3 v2 rfl rfl) h2
  clear hA0 hval0
  refine (walk a0 len0 cap0 l0 a1 a2 W w0 w1 w2).mono fun e W' ⟨he, bel⟩ => ?_
  subst he
  exact ⟨_, rfl, _, _, _, [], _, [], hW', trodAll_mk1 (shut_bool Try.underlying4 _), (trodAll_cons_mk (Below.trod laidOut (by kernel_rfl) (of_decide_eq_true (by kernel_rfl)) k0 bel lt0) (trodAll_cons_mk (shut_int Try.underlying3 w1) (trodAll_cons_mk (shut_int Try.underlying3 w2) trodAll_mk0))), rfl, bel.frame _, fun h => by cases h⟩

theorem over : Rows.nandOnceRow.holds Try.pinned (OpenSpec.ofChange Rows.nandOnceSpec) :=
  OpenClaim.holds_of_wide 4 Try.f4 rfl rfl rfl rfl rfl rfl rfl ⟨rfl, rfl, rfl, rfl, rfl⟩ rfl rfl rfl rfl rfl (by kernel_rfl) Try.func4 (by kernel_rfl)
    (of_decide_eq_true (by kernel_rfl)) (by unfold Func.isWrapper; first | (rw [if_pos (by decide +kernel)]; kernel_rfl) | (rw [if_neg (by decide +kernel)]; exact ⟨rfl, rfl⟩))
    (fun os started H enc _ => lifted os started H enc)
end Go.Proofs.Ytkjbnibcdmlmmaa.nandOnce

namespace Go.Proofs.Ytkjbnibcdmlmmaa
theorem nandOnce_holds : Rows.NandOnceSaid := nandOnce.over
#print axioms nandOnce_holds
end Go.Proofs.Ytkjbnibcdmlmmaa
