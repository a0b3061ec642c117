/-
  The document's manager: Change.
  The document's manager: Change, its loop.
-/
import Derived.Test.YtfcmkkkdccnhgaaGreatDoorPB
import Derived.Test.YtfcmkkkdccnhgaaGreatDoorKH
import Derived.Test.YtfcmkkkdccnhgaaGreatDoorKZ
import Derived.Deep.RegionLaw
import Derived.Deep.RegionHeld3
import Derived.Deep.LoopGhost
namespace Go.Proofs.YtfcmkkkdccnhgaaGreatDoor
open Go.RowKit
set_option maxRecDepth 10000

theorem dchange_none {base : Nat} {w : World} {gb gp gz gr : Nat} {d : DMg} (h : DMs base w gb gp gz gr d) (leb : Int) (a : Option Addr) (n cap : Nat) (hn : ¬ (0 ≤ leb ∧ leb < d.ls.length)) :
    Calls Tryz.prog 35 #[.pointer (some ⟨d.p, 0, none⟩), .int .i64 leb, .slice a n cap] w fun e w' => e = .returned (.int .i64 22) ∧ w = w' := by
  have k1 := dnone_any h leb
  rw [decide_eq_true hn] at k1
  clear h hn
  go_enter Tryz.func35, Tryz.ntmps35
  go_wp2_with (go_at_call 73; refine k1.mono ?_; rintro e w1 ⟨rfl, rfl⟩)
  go_ret
  exact ⟨rfl, rfl⟩
theorem dchange_many {base : Nat} {w : World} {gb gp gz gr : Nat} {d : DMg} (h : DMs base w gb gp gz gr d) (hp : 2 ≤ gp ∧ gp ≤ 64) (leb : Int) (a : Option Addr) (n cap : Nat) (hn : 0 ≤ leb ∧ leb < d.ls.length) (hm : gp < n + 2) :
    Calls Tryz.prog 35 #[.pointer (some ⟨d.p, 0, none⟩), .int .i64 leb, .slice a n cap] w fun e w' => e = .returned (.int .i64 22) ∧ w = w' := by
  have k1 := dnone_any h leb
  rw [decide_eq_false (by simpa using hn)] at k1
  have k2 := dmax_any h hp
  have hz2 : (gp : Int) - 2 < (n : Int) := by omega
  clear h hn hm hp
  go_enter Tryz.func35, Tryz.ntmps35
  go_wp2_with (first
    | (go_at_call 73; refine k1.mono ?_; rintro e w1 ⟨rfl, rfl⟩)
    | (go_at_call 39; refine k2.mono ?_; rintro e w1 ⟨rfl, rfl⟩))
  go_ret
  exact ⟨rfl, rfl⟩
/-- The logical block that is made: k pages of it. -/
structure Cg (w wr : World) (B gz k : Nat) (v : Value) (us : List Value) (L : List (List Nat)) : Prop where
  box : Row wr B [v, .bool false] 80
  dl : DL w.heap.size wr ⟨v, us, (L.take k).map (fun d => Hd.fillL d gz)⟩
  bel : Below w.heap.size w wr
  low : w.heap.size ≤ B
  kl : k ≤ L.length
theorem Cg.later {w wr W : World} {B gz k : Nat} {v : Value} {us : List Value} {L : List (List Nat)} (h : Cg w wr B gz k v us L) (hb : Below wr.heap.size wr W) : Cg w W B gz k v us L :=
  ⟨h.box.later hb, h.dl.kept (S := fun _ => False) (.of_below hb) (fun _ _ => id) (fun _ _ => id), Below.after h.bel hb, h.low, h.kl⟩
theorem Cg.len {w wr : World} {B gz k : Nat} {v : Value} {us : List Value} {L : List (List Nat)} (h : Cg w wr B gz k v us L) : ((L.take k).map (fun d => Hd.fillL d gz)).length = k := by
  rw [List.length_map, List.length_take]
  have := h.kl
  omega
theorem Cg.own {w wr : World} {B gz k : Nat} {v : Value} {us : List Value} {L : List (List Nat)} (h : Cg w wr B gz k v us L) : wr.ownsRow w.heap.size 36 1 v k us := by
  have := h.dl.own
  rwa [h.len] at this
theorem Cg.push {w W1 W2 : World} {B gz k : Nat} {v : Value} {us : List Value} {L : List (List Nat)} (h : Cg w W1 B gz k v us L) {u : Value} {dd : List Nat} (hd : L[k]? = some dd) (hu : DP w.heap.size W1 u (Hd.fillL dd gz)) {g cap : Nat}
    (hg : W1.grownBy W2 v.ownBlock) (hown : W2.ownsRow w.heap.size 36 1 (.slice (some ⟨g, 0, none⟩) (k + 1) cap) (k + 1) (us ++ [u])) :
    (W2.cell? ⟨B, 0, none⟩ = some v ∧ W2.frozen? ⟨B, 0, none⟩ = false) ∧ Cg w (W2.setCell ⟨B, 0, none⟩ (.slice (some ⟨g, 0, none⟩) (k + 1) cap)) B gz (k + 1) (.slice (some ⟨g, 0, none⟩) (k + 1) cap) (us ++ [u]) L := by
  have ho := h.own
  have hk1 := pgrown_kept hg
  have nB : ¬ (v.ownBlock = some B) := fun e => (pown_type ho e).ne h.box (by decide) rfl
  have hbox := h.box.kept hk1 nB
  have hkl := (List.getElem?_eq_some_iff.1 hd).1
  have htk : (L.take (k + 1)).map (fun d => Hd.fillL d gz) = (L.take k).map (fun d => Hd.fillL d gz) ++ [Hd.fillL dd gz] := by
    rw [List.take_add_one, hd]
    simp
  have hkS : Kept (fun q => q = B ∨ v.ownBlock = some q) W1 (W2.setCell ⟨B, 0, none⟩ (.slice (some ⟨g, 0, none⟩) (k + 1) cap)) := (hk1.mono fun _ e => .inr e).trans ((pset_kept W2 B 0 _).mono fun _ e => .inl e)
  have u8far : ∀ q, Row W1 q [] 5 → ¬ (q = B ∨ v.ownBlock = some q) := fun q hr => by
    rintro (e | e)
    · exact hr.ne h.box (by decide) e
    · exact hr.ne (pown_type ho e) (by decide) rfl
  have hgB : g ≠ B := fun e => (pown_type hown (k := g) rfl).ne hbox (by decide) e
  refine ⟨⟨hbox.cell (i := 0) rfl, hbox.frozen 0⟩, hbox.set (i := 0) _ (by simp), ⟨?_, ?_⟩, ?_, h.low, by omega⟩
  · have := pown_kept hown (pset_kept W2 B 0 (.slice (some ⟨g, 0, none⟩) (k + 1) cap)) (fun q hq e => by
      cases hq
      exact hgB e)
    rw [htk, List.length_append, h.len]
    exact this
  · intro j y dd' hy hd'
    have hl1 := ho.1
    have hlen := h.len
    rw [htk] at hd'
    by_cases hj : j < k
    · rw [List.getElem?_append_left (by omega)] at hy
      rw [List.getElem?_append_left (by omega)] at hd'
      exact (h.dl.each j y dd' hy hd').kept hkS u8far
    · have hje : j = k := by
        have := (List.getElem?_eq_some_iff.1 hd').1
        simp only [List.length_append, hlen, List.length_singleton] at this
        omega
      subst hje
      rw [List.getElem?_append_right (by omega)] at hy hd'
      rw [show j - us.length = 0 by omega] at hy
      rw [hlen, Nat.sub_self] at hd'
      simp at hy hd'
      subst hy hd'
      exact hu.kept hkS u8far
  · refine Below.trans h.bel ?_
    refine hkS.below h.bel.size ?_
    rintro q (e | e)
    · rw [e]; exact h.low
    · exact (ho.lt q e).1
/-- The logical block that was made takes its place. -/
theorem Cg.fin {base : Nat} {w wr : World} {gb gp gz gr : Nat} {d : DMg} {B : Nat} {v : Value} {us : List Value} {L : List (List Nat)} (h : DMs base w gb gp gz gr d) (hc : Cg w wr B gz L.length v us L) {i : Nat} {o : LB} (ho : d.ls[i]? = some o) :
    ∃ x : LB, x.pg = L.map (fun d => Hd.fillL d gz) ∧ DMs base (put2 wr d.q i v) gb gp gz gr (d.put i x) ∧ Kept (DFoot d) w (put2 wr d.q i v) := by
  have hw := h.later hc.bel
  have hbase : base ≤ w.heap.size := Nat.le_trans h.low.2 (Nat.le_of_lt h.row.lt)
  have hkq : Kept (fun k => k = d.q) wr (put2 wr d.q i v) := put2_kept _ _ _ _ _ rfl
  have hx : DL base (put2 wr d.q i v) ⟨v, us, L.map (fun d => Hd.fillL d gz)⟩ := by
    have hdl := hc.dl
    rw [List.take_length] at hdl
    refine ⟨?_, fun j y dd hy hd => ?_⟩
    · have := pown_kept hdl.own hkq (fun k hk e => (pown_type hdl.own hk).ne hw.row (by decide) e)
      refine ⟨this.1, ?_⟩
      rcases this.2 with e | ⟨g, cap, cur, e, hbg, rest⟩
      · exact .inl e
      · exact .inr ⟨g, cap, cur, e, Nat.le_trans hbase hbg, rest⟩
    · have hp := (hdl.each j y dd hy hd).kept hkq (fun k hr e => hr.ne hw.row (by decide) e)
      refine ⟨⟨hp.own.1, ?_⟩, hp.lt⟩
      rcases hp.own.2 with e | ⟨g, cap, cur, e, hbg, rest⟩
      · exact .inl e
      · exact .inr ⟨g, cap, cur, e, Nat.le_trans hbase hbg, rest⟩
  refine ⟨⟨v, us, L.map (fun d => Hd.fillL d gz)⟩, rfl, h.wrote ho (put2_row (x := ⟨v, us, L.map (fun d => Hd.fillL d gz)⟩) hw.row ho) hx (((Kept.of_below hc.bel).trans (hkq.mono fun _ e => .inl e))) (fun k hk => .inr (hc.own.lt k hk).1), (Kept.of_below hc.bel).trans (hkq.mono fun _ e => .inl e)⟩
end Go.Proofs.YtfcmkkkdccnhgaaGreatDoor
namespace Go.Proofs.YtfcmkkkdccnhgaaGreatDoor
open Go.RowKit
set_option maxRecDepth 10000

theorem qheap_new (w : World) (o : Obj) : (w.alloc o).heap[w.heap.size]? = some o := by show (w.heap.push o)[w.heap.size]? = _; simp
theorem qown_low {w : World} {base base' e size n : Nat} {v : Value} {xs : List Value} (h : w.ownsRow base' e size v n xs) (hb : base ≤ base') : w.ownsRow base e size v n xs := by
  refine ⟨h.1, ?_⟩
  rcases h.2 with e | ⟨g, cap, cur, e, hbg, rest⟩
  · exact .inl e
  · exact .inr ⟨g, cap, cur, e, Nat.le_trans hb hbg, rest⟩
theorem infoPgQ : (Tryz.prog.info? 36).map (fun i => (i.zero, i.size, i.bytes)) = some (some (.slice none 0 0), 1, 24) := by kernel_rfl
theorem barg_later {w W : World} {a : Option Addr} {n cap : Nat} {l : List Nat} (h : BArg w a n cap l) (hb : Below w.heap.size w W) : BArg W a n cap l := ⟨h.len_eq, h.le, h.max, h.lt, h.row.later hb, h.nil⟩
theorem qcell_far {W : World} {q p i j : Nat} {v : Value} (hne : p ≠ q) : (W.setCell ⟨q, i, none⟩ v).cell? ⟨p, j, none⟩ = W.cell? ⟨p, j, none⟩ := World.cell?_of_block (a := ⟨p, j, none⟩) (Below.heap_setCell _ _ _ p hne)
theorem qcell_drew (W : World) (a : Addr) : W.drew.cell? a = W.cell? a := rfl
theorem hidQ {p : Prop} (h : p) : Hid p := h
theorem parg_at {w W : World} {a : Option Addr} {n cap k : Nat} {L : List PgD} (h : PArg w a n cap L) (hb : Below w.heap.size w W) (hk : k < n) : ∃ o b off, L[k]? = some o ∧ a = some ⟨b, off, none⟩ ∧ W.cell? ⟨b, off + k, none⟩ = some (.slice o.a o.l o.c) ∧ BArg W o.a o.l o.c o.d := by
  have hkl : k < L.length := by rw [← h.len_eq]; exact hk
  have ho := List.getElem?_eq_getElem hkl
  have h' := h.later hb
  rcases h'.row with e | ⟨b, off, e, hc⟩
  · rw [e] at hkl; simp at hkl
  · exact ⟨_, b, off, ho, e, hc k _ ho, h'.each _ (List.mem_of_getElem? ho)⟩
theorem cg_form {w wr : World} {B gz k : Nat} {v : Value} {us : List Value} {L : List (List Nat)} (h : Cg w wr B gz k v us L) : ∃ av cv, v = .slice av k cv := by
  rcases h.own.2 with ⟨e, h0⟩ | ⟨g, cap, cur, e, _⟩
  · exact ⟨none, 0, by rw [e, h0]⟩
  · exact ⟨_, cap, e⟩
set_option maxHeartbeats 16000000 in
theorem dchange_any {base : Nat} {w : World} {gb gp gz gr : Nat} {d : DMg} (h : DMs base w gb gp gz gr d) (hp : 2 ≤ gp ∧ gp ≤ 64) (hgz : 1 ≤ gz ∧ gz ≤ 512) (i : Nat) (o : LB) (ho : d.ls[i]? = some o) (a : Option Addr) (n cap : Nat) (Lp : List PgD) (hB : PArg w a n cap Lp) (hm : n + 2 ≤ gp) :
    Calls Tryz.prog 35 #[.pointer (some ⟨d.p, 0, none⟩), .int .i64 (i : Nat), .slice a n cap] w fun e w' => (e = .returned (.int .i64 22) ∧ Below w.heap.size w w' ∧ ∃ dd ∈ Lp.map PgD.d, gz < dd.length) ∨ (e = .returned (.int .i64 0) ∧ (∀ dd ∈ Lp.map PgD.d, dd.length ≤ gz) ∧ ∃ x : LB, x.pg = (Lp.map PgD.d).map (fun d => Hd.fillL d gz) ∧ DMs base w' gb gp gz gr (d.put i x) ∧ Kept (DFoot d) w w') := by
  have hil := (List.getElem?_eq_some_iff.1 ho).1
  have k1 := dnone_any h (i : Nat)
  rw [decide_eq_false (by omega)] at k1
  have k2 := dmax_any h hp
  have hi1 : (i : Int) < (d.ls.length : Int) := by omega
  have hmi : ¬ (gp : Int) - 2 < (n : Int) := by omega
  have hn64 : (n : Int) ≤ 64 := by omega
  obtain ⟨L, hL⟩ : ∃ L, L = Lp.map PgD.d := ⟨_, rfl⟩
  have hLn : n = L.length := by rw [hL, List.length_map]; exact hB.len_eq
  have HL : Hid (L = Lp.map PgD.d ∧ n = L.length ∧ n ≤ 64) := ⟨hL, hLn, by omega⟩
  obtain ⟨i0, hinf, hz0, hz1, hz3⟩ := info_parts infoPgQ
  have HD : Hid (∀ X, Below w.heap.size w X → DMs base X gb gp gz gr d) := fun X hb => h.later hb
  have HBs : Hid (base ≤ w.heap.size) := (Nat.le_trans h.low.2 (Nat.le_of_lt h.row.lt) : base ≤ w.heap.size)
  have HP : Hid (PArg w a n cap Lp) := hB
  have HFn : Hid (∀ wr B v us, Cg w wr B gz L.length v us L → ∃ x : LB, x.pg = L.map (fun d => Hd.fillL d gz) ∧ DMs base (put2 wr d.q i v) gb gp gz gr (d.put i x) ∧ Kept (DFoot d) w (put2 wr d.q i v)) := fun wr B v us hc => Cg.fin h hc ho
  have HAt : Hid (∀ X, Below w.heap.size w X → ∃ v0, X.cell? ⟨d.q, i * 2, none⟩ = some v0 ∧ X.cell? ⟨d.q, i * 2 + 1, none⟩ = some (.bool false) ∧ (∀ j, X.frozen? ⟨d.q, j, none⟩ = false) ∧ X.cell? ⟨d.p, 4, none⟩ = some (.slice (some ⟨d.q, 0, none⟩) d.ls.length d.qc) ∧ X.cell? ⟨d.p, 2, none⟩ = some (.int .i64 gz)) := fun X hb => by
    have hX := h.later hb
    obtain ⟨q1, q2⟩ := hX.at ho
    exact ⟨_, q1, q2, hX.row.frozen, hX.cells.2.2.2.2, hX.cells.2.2.1⟩
  have HFi : Hid (∀ (X : World) (pa : Option Addr) (pl pc : Nat) (dd : List Nat), BArg X pa pl pc dd → pl ≤ gz → Calls Tryz.prog 74 #[.slice pa pl pc, .int .i64 gz] X fun e w' => ∃ a4 c4, e = .returned (.slice a4 gz c4) ∧ DP X.heap.size w' (.slice a4 gz c4) (Hd.fillL dd gz) ∧ Below X.heap.size X w') := fun X pa pl pc dd hB hl => by
    have := Hd.ref_fill pa pc dd gz (by omega) X (by have : (512 : Nat) ≤ maxLen := by decide
                                                     have := hB.len_eq
                                                     omega) hB.row
    rw [← hB.len_eq] at this
    refine Calls.mono this ?_
    rintro e w' ⟨v, rfl, hown, hb'⟩
    obtain ⟨a4, c4, e4, _⟩ := owns_row hown
    rw [Hd.fillL_length] at e4
    subst e4
    exact ⟨a4, c4, rfl, ⟨hown, fun y hy => by
      unfold Hd.fillL at hy
      rcases List.mem_append.1 hy with hy | hy
      · exact hB.lt y (List.mem_of_mem_take hy)
      · simp at hy; omega⟩, hb'⟩
  have HC0 : Hid (Cg w (w.alloc (.cells #[.slice none 0 0, .bool false] 80)) w.heap.size gz 0 (.slice none 0 0) [] L ∧ ∀ dd ∈ L.take 0, dd.length ≤ gz) := ⟨⟨Row.new w [_, _] _, ⟨World.ownsRow_nil _ _ _ _, fun j u dd hu _ => by simp at hu⟩, below_new w _, Nat.le_refl _, Nat.zero_le _⟩, by simp⟩
  clear h hil ho hp hB hm hL hgz hLn
  go_enter Tryz.func35, Tryz.ntmps35
  go_wp2_with (first
    | (go_at_call 73; refine k1.mono ?_; rintro e w1 ⟨rfl, rfl⟩)
    | (go_at_call 39; refine k2.mono ?_; rintro e w1 ⟨rfl, rfl⟩))
  clear k1 k2
  go_loopg [8] n (fun kx s8 wr => ∃ k : Nat, k + kx = n ∧ s8 = .int .i64 (k : Nat) ∧ Hid (∃ v us, Cg w wr w.heap.size gz k v us L ∧ ∀ dd ∈ L.take k, dd.length ≤ gz))
  case atStart => exact ⟨0, by omega, rfl, _, _, HC0.out⟩
  case round =>
    obtain ⟨k, hk, rfl, HK⟩ := hrel
    obtain ⟨v, us, hC, hfit⟩ := HK.out
    clear HK
    obtain ⟨av, cv, rfl⟩ := cg_form hC
    by_cases hlt : k < n
    · obtain ⟨pg, b, off, hpg, rfl, hcell, hpb⟩ := parg_at HP.out hC.bel hlt
      obtain ⟨pa, pl, pc, pd⟩ := pg
      dsimp only at hcell hpb
      have HG : Hid (Cg w wr w.heap.size gz k (.slice av k cv) us L ∧ ∀ dd ∈ L.take k, dd.length ≤ gz) := ⟨hC, hfit⟩
      have HPg : Hid (BArg wr pa pl pc pd ∧ L[k]? = some pd) := ⟨hpb, by rw [HL.out.1, List.getElem?_map, hpg]; rfl⟩
      have HMm : Hid (pd ∈ Lp.map PgD.d) := by rw [← HL.out.1]; exact List.mem_of_getElem? HPg.out.2
      have HCl : Hid (∀ X, Below wr.heap.size wr X → X.cell? ⟨b, off + k, none⟩ = some (.slice pa pl pc)) := fun X hb => (hb.cell (p := ⟨b, off + k, none⟩) (World.block_lt_of_cell? wr _ hcell)).trans hcell
      have HT : Hid (pl ≤ gz → ∀ dd ∈ L.take (k + 1), dd.length ≤ gz) := fun hz dd hd => by
        rw [List.take_add_one, HPg.out.2] at hd
        rcases List.mem_append.1 hd with hd | hd
        · exact hfit dd hd
        · simp at hd; subst hd; rw [← hpb.len_eq]; exact hz
      obtain ⟨v0, t0, t1, tf, t4, t2⟩ := HAt.out wr hC.bel
      have hlw := World.block_lt_of_cell? wr _ hcell
      have n1 : (k : Int) < (n : Int) := by omega
      have ne := Wd.non wr
      have z0 : ∀ p : Wd wr, p.v.cell? ⟨b, off + k, none⟩ = some (.slice pa pl pc) := fun p => (p.h.cell (p := ⟨b, off + k, none⟩) hlw).trans hcell
      have z2 : ∀ p : Wd wr, p.v.cell? ⟨d.p, 2, none⟩ = some (.int .i64 gz) := fun p => (p.h.cell (p := ⟨d.p, 2, none⟩) (World.block_lt_of_cell? wr _ t2)).trans t2
      clear hC hfit hpg hcell hpb t0 t1 tf t4 t2 hlw
      by_cases hlong : gz < pl
      · have g1 : (gz : Int) < (pl : Int) := by omega
        have HLg : Hid (gz < pl) := hlong
        clear hlong
        go_wp2
        have k0 : ¬ (k : Int) < 0 := by omega
        refine quiet_below (by kernel_rfl) ?_
        repeat (first | go_big_quiet_skip | go_big_quiet_step (fail))
        refine wpQuiet_nil ?_
        rintro _ ⟨p4, rfl⟩
        obtain ⟨w4, hw4⟩ : ∃ W, W = p4.v := ⟨_, rfl⟩
        have HB4 : Hid (Below w.heap.size w w4) := by rw [hw4]; exact Below.after HG.out.1.bel p4.h
        rw [← hw4]
        clear hw4
        clear p4 z0 z2 ne
        go_wp2
        go_ret
        exact .inl ⟨rfl, HB4.out, pd, by simpa using HMm.out, by have := HPg.out.1.len_eq; have := HLg.out; omega⟩
      · have g1 : ¬ (gz : Int) < (pl : Int) := by omega
        have HLg : Hid (pl ≤ gz) := (by omega : pl ≤ gz)
        clear hlong
        go_wp2
        have k0 : ¬ (k : Int) < 0 := by omega
        refine quiet_below (by kernel_rfl) ?_
        repeat (first | go_big_quiet_skip | go_big_quiet_step (fail))
        refine wpQuiet_nil ?_
        rintro _ ⟨p4, rfl⟩
        obtain ⟨w3, hw3⟩ : ∃ W, W = p4.v := ⟨_, rfl⟩
        have HG3 : Hid (Below wr.heap.size wr w3) := by rw [hw3]; exact p4.h
        have x0 : w3.cell? ⟨b, off + k, none⟩ = some (.slice pa pl pc) := by rw [hw3]; exact z0 p4
        have x2 : w3.cell? ⟨d.p, 2, none⟩ = some (.int .i64 gz) := by rw [hw3]; exact z2 p4
        rw [← hw3]
        clear hw3
        clear p4 z0 z2 ne
        have x1 : w3.cell? ⟨w.heap.size, 0, none⟩ = some (.slice av k cv) := (HG.out.1.later HG3.out).box.cell (i := 0) rfl
        go_wp2
        go_region_law (first
          | (refine step_append_lies _ (by rfl) _ _ _ (by rfl) w.heap.size 36 i0 _ 1 24 Tryz.underlying37 hinf hz0 hz1 hz3 rfl (by omega) (.slice av k cv) k us (by rfl) (HW4.out.1.later (below_new w4 _)).own ⟨w4.heap.size, 0, none⟩ 1 1 [.slice a4 gz c4] (by rfl) (by rfl) (World.news_of_block (cs := #[.slice a4 gz c4]) (t := 36) (fr := (0, 0)) (qheap_new w4 _)) (by simp [Value.oneCell']) (by omega) (by have := HL.out.2.2; unfold maxLen; omega) (by have := HL.out.2.2; omega) (by have := HW4.out.1.bel.size; simp; omega) (w4.heap.size + 1) (by simp) ?_; intro gg cc w5 hown5 hgrow hat hlt2; obtain ⟨⟨r0, r1⟩, hcg⟩ := (HW4.out.1.later (below_new w4 (.cells #[.slice a4 gz c4] 36))).push HPg.out.2 (HW4.out.2.kept (S := fun _ => False) (.of_below (below_new w4 _)) (fun _ _ => id)) hgrow hown5; have HCg := hidQ hcg; clear hown5 hgrow hat hlt2 hcg)
          | (go_simp; go_wp2_with (go_at_call 74; have hb3 := Below.after HG3.out (by first | exact below_drawn w3 1 | exact below_drew' w3); refine (HFi.out _ pa pl pc pd (barg_later HPg.out.1 hb3) HLg.out).mono ?_; rintro e w4 ⟨a4, c4, rfl, hdp, hb4⟩; have hbr := Below.after hb3 hb4; have hc4 := HG.out.1.later hbr; have hbn := below_new w4 (.cells #[.slice a4 gz c4] 36); have hc5 := hc4.later hbn; have q1 : w4.cell? ⟨w.heap.size, 0, none⟩ = some (.slice av k cv) := hc4.box.cell (i := 0) rfl; have q2 := (HD.out w4 hc4.bel).cells.2.2.1; have q0 := HCl.out w4 hbr; have q4 : (w4.alloc (.cells #[.slice a4 gz c4] 36)).cell? ⟨w.heap.size, 0, none⟩ = some (.slice av k cv) := hc5.box.cell (i := 0) rfl; have HW4 : Hid (Cg w w4 w.heap.size gz k (.slice av k cv) us L ∧ DP w.heap.size w4 (.slice a4 gz c4) (Hd.fillL pd gz)) := ⟨hc4, ⟨qown_low hdp.own (Nat.le_trans HG.out.1.bel.size hb3.size), hdp.lt⟩⟩; clear hdp hb4 hb3 hbr hc4 hc5 hbn)))
        all_goals
          have HT2 := hidQ (HT.out HLg.out)
          go_wp2
          go_roundg (n - (k + 1))
          case measure => omega
          case rel => exact ⟨k + 1, by omega, by go_num, _, _, HCg.out, HT2.out⟩
    · have hkn : k = n := by omega
      have hkL : k = L.length := by rw [hkn]; exact HL.out.2.1
      have HX : Hid (∃ x : LB, x.pg = (Lp.map PgD.d).map (fun d => Hd.fillL d gz) ∧ DMs base (put2 wr d.q i (.slice av k cv)).drew gb gp gz gr (d.put i x) ∧ Kept (DFoot d) w (put2 wr d.q i (.slice av k cv)).drew) := by
        obtain ⟨x, y1, y2, y3⟩ := HFn.out wr w.heap.size (.slice av k cv) us (hkL ▸ hC)
        rw [HL.out.1] at y1
        exact ⟨x, y1, y2.later (below_drew' _), y3.drew⟩
      have HAll : Hid (∀ dd ∈ Lp.map PgD.d, dd.length ≤ gz) := by
        rw [hkL, List.take_length] at hfit
        rw [← HL.out.1]
        exact hfit
      obtain ⟨v0, t0, t1, tf, t4, t2⟩ := HAt.out wr hC.bel
      have x1 : wr.cell? ⟨w.heap.size, 0, none⟩ = some (.slice av k cv) := hC.box.cell (i := 0) rfl
      have x2 : wr.cell? ⟨w.heap.size, 1, none⟩ = some (.bool false) := hC.box.cell (i := 1) rfl
      have HNe : Hid (d.p ≠ d.q ∧ w.heap.size ≠ d.q) := ⟨(HD.out wr hC.bel).box.ne (HD.out wr hC.bel).row (by decide), fun e => by
        have h1 := (HD.out w (Below.refl _ _)).row.lt
        omega⟩
      unfold put2 at HX
      have n1 : ¬ (k : Int) < (n : Int) := by omega
      clear hC hfit hkn hkL hlt hk
      go_wp2
      have i0' : ¬ (i : Int) < 0 := by omega
      go_region_held3 (fun w' => w'.cell? ⟨d.p, 4, none⟩ = some (.slice (some ⟨d.q, 0, none⟩) d.ls.length d.qc) ∧ w'.cell? ⟨w.heap.size, 0, none⟩ = some (.slice av k cv) ∧ w'.cell? ⟨w.heap.size, 1, none⟩ = some (.bool false)) (first | assumption | (go_split_ands; refine ⟨?_, ?_, ?_⟩ <;> (first | (rw [qcell_drew, qcell_far HNe.out.1, qcell_far HNe.out.1]; assumption) | (rw [qcell_drew, qcell_far HNe.out.2, qcell_far HNe.out.2]; assumption))) | (refine ⟨?_, ?_, ?_⟩ <;> (first | (rw [qcell_drew, qcell_far HNe.out.1, qcell_far HNe.out.1]; assumption) | (rw [qcell_drew, qcell_far HNe.out.2, qcell_far HNe.out.2]; assumption))) | go_keep) (fail)
      all_goals go_wp2
      all_goals go_ret
      all_goals obtain ⟨x, y1, y2, y3⟩ := HX.out
      all_goals exact .inr ⟨rfl, by simpa using HAll.out, x, by rw [y1]; simp, y2, y3⟩
end Go.Proofs.YtfcmkkkdccnhgaaGreatDoor
