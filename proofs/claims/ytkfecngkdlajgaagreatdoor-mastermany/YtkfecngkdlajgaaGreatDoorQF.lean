/-
  A manager beside a log; a log behind a settle.
  Append of a log, where there is room.
  Append where nothing is appended; Sync.
  Read of a log: a frame is searched for by its place.
-/
import Derived.Test.YtkfecngkdlajgaaGreatDoorQE
import Derived.Test.YtkfecngkdlajgaaGreatDoorCShelf
import Derived.Deep.RegionLaw
import Derived.Deep.AppendLies
namespace Go.Proofs.YtkfecngkdlajgaaGreatDoor
open Go.RowKit Go.Extern.Stop Go.Stop Go.Extern
set_option maxRecDepth 10000

/-- No block of a manager's. -/
def NoMg (t : TypeId) : Prop := t ≠ 70 ∧ t ≠ 156 ∧ t ≠ 77 ∧ t ≠ 108 ∧ t ≠ 251 ∧ t ≠ 66
theorem MLies.beside' {S : Nat → Prop} {base : Nat} {w w' : World} {m : Mg} {c : CS} (h : MLies base w m c) (hk : Kept S w w') (hS : ∀ k, S k → ∃ cs t, Row w k cs t ∧ NoMg t) : MLies base w' m c := by
  have n1 : ¬ S m.p := fun e => by
    obtain ⟨cs, t, hr, ht⟩ := hS _ e
    exact hr.ne h.box ht.1 rfl
  have n2 : ¬ S m.bb := fun e => by
    obtain ⟨cs, t, hr, ht⟩ := hS _ e
    exact hr.ne h.row ht.2.1 rfl
  refine ⟨h.box.kept hk n1, h.row.kept hk n2, h.chip.kept hk (fun k hf e => ?_) (fun b cs hb e => ?_), h.len, h.cap, h.low⟩
  · obtain ⟨cs, t, hr, ht⟩ := hS _ e
    exact h.chip.apart hr ht.2.2.1 ht.2.2.2.1 ht.2.2.2.2.1 hf
  · obtain ⟨cs', t, hr, ht⟩ := hS _ e
    exact hr.ne hb ht.2.2.2.2.2 rfl
theorem MLies.off' {base : Nat} {w : World} {m : Mg} {c : CS} (h : MLies base w m c) {k : Nat} {cs : List Value} {t : TypeId} (hr : Row w k cs t) (hn : NoMg t) : ¬ MFoot m c k := by
  rintro (e | e | e)
  · exact hr.ne h.box hn.1 e
  · exact hr.ne h.row hn.2.1 e
  · exact h.chip.apart hr hn.2.2.1 hn.2.2.2.1 hn.2.2.2.2.1 e
theorem Ms.beside {S : Nat → Prop} {base t : Nat} {w w' : World} {m : Mg} {c : CS} {P : List (List (List Nat))} (h : Ms base t w m c P) (hk : Kept S w w') (hS : ∀ k, S k → ∃ cs t, Row w k cs t ∧ NoMg t) (hl : ∀ k, S k → base ≤ k) : Ms base t w' m c P :=
  ⟨h.ml.beside' hk hS, h.rp, h.ty.keep hk (fun e => by have := hl _ e; have := h.gb; omega), h.gb, h.rt⟩
theorem LAt.datRow {w : World} {l : Lm} {d : List Nat} (h : LAt w l d) : ∃ cs, Row w l.db cs 5 := by
  rcases h.dat.2 with ⟨e, _⟩ | ⟨g, cap, cur, e, _, hg, _⟩
  · cases e
  · cases e; exact ⟨cur.toList, [], by simpa using hg⟩
theorem LAt.frsRow {w : World} {l : Lm} {d : List Nat} (h : LAt w l d) {k : Nat} (hk : l.fv.ownBlock = some k) : ∃ cs, Row w k cs 173 := by
  rcases h.frs.2 with ⟨e, _⟩ | ⟨g, cap, cur, e, _, hg, _⟩
  · rw [e] at hk; cases hk
  · rw [e] at hk; cases hk; exact ⟨cur.toList, [], by simpa using hg⟩
theorem LAt.typed {w : World} {l : Lm} {d : List Nat} (h : LAt w l d) : ∀ k, LFoot l k → ∃ cs t, Row w k cs t ∧ NoMg t := by
  rintro k (rfl | rfl | hk)
  · exact ⟨_, _, h.box, by decide, by decide, by decide, by decide, by decide, by decide⟩
  · obtain ⟨cs, hr⟩ := h.datRow
    exact ⟨_, _, hr, by decide, by decide, by decide, by decide, by decide, by decide⟩
  · obtain ⟨cs, hr⟩ := h.frsRow hk
    exact ⟨_, _, hr, by decide, by decide, by decide, by decide, by decide, by decide⟩
/-- A log of which N pages are written, with these bytes and frames. -/
def Lm.nu (l : Lm) (d : List Nat) (fs : List Fm) (fv : Value) (N : Nat) : Lm := ⟨l.p, l.mp, l.leb, l.db, l.dcap, fv, d, fs, N, l.sp⟩
theorem ML.after {base t : Nat} {w0 w w1 w' : World} {m m' : Mg} {c c' : CS} {P P' : List (List (List Nat))} {l : Lm} {d : List Nat} {fs : List Fm} {fv : Value} (h : ML base t w0 m c P l) (hsp : l.sp = false)
    (hs : Stl base t w m c P l d (d.length / c.gz - l.np) w1 m' c' P') (hd : ∃ r, d = l.data ++ r) (hmd : d.length % c.gz ≠ c.gz - 1) (hfr : FrOk d 0 d.length fs)
    (hms : Ms base (t + (d.length / c.gz - l.np)) w' m' c' P') (hla : LAt w' (l.nu d fs fv (d.length / c.gz)) d) (hge : ∀ k, LFoot (l.nu d fs fv (d.length / c.gz)) k → base ≤ k) :
    ML base (t + (d.length / c.gz - l.np)) w' m' c' P' (l.nu d fs fv (d.length / c.gz)) := by
  obtain ⟨r, hr⟩ := hd
  have hg := h.ms.rp.rb.geo
  have hlo := h.lo hsp
  have hld : l.data.length ≤ d.length := by rw [hr, List.length_append]; omega
  have hN : l.np ≤ d.length / c.gz := (Nat.le_div_iff_mul_le (by omega)).2 (by omega)
  have hdm := Nat.div_add_mod d.length c.gz
  have hml := Nat.mod_lt d.length (show 0 < c.gz by omega)
  refine ⟨hms, hla, h.mp.trans hs.p.symm, fun k hk => ?_, hge, ?_, ?_, ?_, ?_, fun _ => ?_, fun e => ?_, fun _ => ?_, hfr⟩
  · obtain ⟨cs, t', hrow, hn⟩ := hla.typed k hk
    exact hms.ml.off' hrow hn
  · rw [hs.gm.gr, hs.gm.gb]; exact h.leb
  · show l.dcap = _
    rw [hs.gm.gp, hs.gm.gz]; exact h.cap
  · show d.length / c.gz = ((cont m'.bl P' (l.leb : Nat)).getD []).length
    rw [hs.con, List.length_append, pgsL_length, ← h.np]; omega
  · show d.length % c'.gz ≠ c'.gz - 1
    rw [hs.gm.gz]; exact hmd
  · show d.length / c.gz * c'.gz ≤ d.length ∧ d.length < (d.length / c.gz + 1) * c'.gz
    rw [hs.gm.gz, Nat.add_mul, Nat.one_mul, Nat.mul_comm (d.length / c.gz)]
    omega
  · rw [show (l.nu d fs fv (d.length / c.gz)).sp = l.sp from rfl, hsp] at e; cases e
  · show ((cont m'.bl P' (l.leb : Nat)).getD []).flatten = d.take (d.length / c.gz * c'.gz)
    rw [hs.con, List.flatten_append, h.con hsp, hs.gm.gz]
    have e1 : l.data.take (l.np * c.gz) = d.take (l.np * c.gz) := by rw [hr, List.take_append_of_le_length (by omega)]
    rw [e1, pgsL_flat]
    congr 2
    omega
end Go.Proofs.YtkfecngkdlajgaaGreatDoor
namespace Go.Proofs.YtkfecngkdlajgaaGreatDoor
open Go.RowKit Go.Extern.Stop Go.Stop Go.Extern
set_option maxRecDepth 10000

theorem step_append_fits {P : Program} {w : World} {ops : Array Oper} {o : Oper} {a : Act} {K : Act → World → Prop} {Q : Exit → Act → World → Prop} {E : Prop} (hgd : o.guard = none) (s x : Operand) (t : TypeId)
    (ho : o.op = .call { callee := .builtin .append, args := #[s, x], argTypes := #[t, t] })
    (base : Nat) (e : TypeId) (i : TypeInfo) (size : Nat) (ht : P.underlying t = some (.slice e)) (hi : P.info? e = some i) (hsize : i.size = size)
    (g k cap : Nat) (xs : List Value) (hs : a.eval s = .slice (some ⟨g, 0, none⟩) k cap) (hown : w.ownsRow base e size (.slice (some ⟨g, 0, none⟩) k cap) k xs)
    (ad : Addr) (m c : Nat) (news : List Value) (hx : a.eval x = .slice (some ad) m c) (hl : news.length = m * size) (hnews : ∀ j u, news[j]? = some u → w.cell? (ad.add j) = some u) (h1 : ∀ u ∈ news, u.oneCell' = true) (hroom : k + m ≤ cap)
    (h : ∀ w', w'.ownsRow base e size (.slice (some ⟨g, 0, none⟩) (k + m) cap) (k + m) (xs ++ news) → w.grownBy w' (some g) → K (a.put o.dst (.slice (some ⟨g, 0, none⟩) (k + m) cap)) w') :
    if Region.wanted o (yielded ops a.tmps) = true then Oper.wp P o a w K Q else E := by
  have hw : Region.wanted o (yielded ops a.tmps) = true := by simp [Region.wanted, hgd]
  rw [if_pos hw]
  obtain ⟨w', hrun, r1, r2⟩ := run_append_fits (P := P) w base t o.type e i size ht hi hsize g k cap xs hown ad m c news hl hnews h1 hroom
  unfold Oper.wp
  simp [execOp, ho, resolve, invoke, builtin, hs, hx, hrun, Result.andThen]
  exact h w' r1 r2
/-- A log whose row of bytes was written behind its end. -/
structure LWr (base t : Nat) (w0 : World) (m : Mg) (c : CS) (P : List (List (List Nat))) (l : Lm) (d : List Nat) (w : World) : Prop where
  ms : Ms base t w m c P
  la : LAt w l d
  kp : Kept (LFoot l) w0 w
theorem LWr.later {base t : Nat} {w0 w w' : World} {m : Mg} {c : CS} {P : List (List (List Nat))} {l : Lm} {d : List Nat} (h : LWr base t w0 m c P l d w) (hb : Below w.heap.size w w') : LWr base t w0 m c P l d w' :=
  ⟨h.ms.later hb, h.la.later hb, h.kp.later hb⟩
theorem ML.wr {base t : Nat} {w w' : World} {m : Mg} {c : CS} {P : List (List (List Nat))} {l : Lm} (h : ML base t w m c P l) (hb : Below w.heap.size w w') : LWr base t w m c P l l.data w' :=
  ⟨h.ms.later hb, h.la.later hb, .of_below hb⟩
/-- .. more bytes behind it. -/
theorem LWr.more {base t : Nat} {w0 w w' : World} {m : Mg} {c : CS} {P : List (List (List Nat))} {l : Lm} {d d' : List Nat} (h : LWr base t w0 m c P l d w) (hge : ∀ k, LFoot l k → base ≤ k) (hk : Kept (fun k => k = l.db) w w')
    (hown : w'.ownsRow 0 5 1 (.slice (some ⟨l.db, 0, none⟩) d'.length l.dcap) d'.length (d'.map u8v)) (hlt : ∀ x ∈ d', x < 256) : LWr base t w0 m c P l d' w' := by
  obtain ⟨n1, n2⟩ := h.la.ne
  refine ⟨h.ms.beside hk (fun k e => by subst e; obtain ⟨cs, hr⟩ := h.la.datRow; exact ⟨_, _, hr, by decide, by decide, by decide, by decide, by decide, by decide⟩) (fun k e => by subst e; exact hge _ (.inr (.inl rfl))), ⟨h.la.box.kept hk n1, hown, owns_kept h.la.frs hk (fun g hg => (n2 g hg).2), hlt⟩, h.kp.trans (hk.mono fun k e => .inr (.inl e))⟩
theorem lheap_new (w : World) (o : Obj) : (w.alloc o).heap[w.heap.size]? = some o := by show (w.heap.push o)[w.heap.size]? = _; simp
theorem rise_len : ∀ {fs : List Fm} {lo hi : Nat}, fs.Pairwise (fun x y => x.1 < y.1) → (∀ x ∈ fs, lo ≤ x.1 ∧ x.1 < hi) → lo ≤ hi → fs.length + lo ≤ hi
  | [], _, _, _, _, h => by simpa using h
  | x :: r, lo, hi, hp, ha, h => by
    obtain ⟨p1, p2⟩ := List.pairwise_cons.1 hp
    have hx := ha x (List.mem_cons_self ..)
    have ih := rise_len (fs := r) (lo := x.1 + 1) (hi := hi) p2 (fun y hy => ⟨p1 y hy, (ha y (List.mem_cons_of_mem _ hy)).2⟩) (by omega)
    simp only [List.length_cons]
    omega
theorem FrOk.count {b : List Nat} {hi : Nat} {fs : List Fm} (h : FrOk b 0 hi fs) : fs.length ≤ hi := by
  have := rise_len (lo := 0) (hi := hi) h.rise (fun x hx => by have := h.at_ x hx; omega) (Nat.zero_le _)
  omega
/-- What Append leaves. -/
def AppP (base t : Nat) (w : World) (m : Mg) (c : CS) (P : List (List (List Nat))) (l : Lm) (d : List Nat) (fs : List Fm) (w' : World) : Prop :=
  ∃ m' c' P' fv, ML base (t + (d.length / c.gz - l.np)) w' m' c' P' (l.nu d fs fv (d.length / c.gz)) ∧ Gm c c' ∧ m'.p = m.p ∧ MFoot m' c' = MFoot m c ∧ Kept (fun k => MFoot m c k ∨ LFoot l k) w w' ∧
    (∀ o : Int, o ≠ (l.leb : Nat) → cont m'.bl P' o = cont m.bl P o) ∧ (∀ k, fv.ownBlock = some k → l.fv.ownBlock = some k ∨ w.heap.size ≤ k)
theorem infoFm : (Tryz.prog.info? 173).map (fun i => (i.zero, i.size, i.bytes)) = some (some (.agg #[.int .i64 0, .slice none 0 0]), 2, 32) := by kernel_rfl
theorem fCells_len (db : Nat) (x : Fm) : (fCells db x).length = 2 := rfl
/-- A log behind a settle, its frames as they were. -/
def SdP (base t : Nat) (w : World) (m : Mg) (c : CS) (P : List (List (List Nat))) (l : Lm) (d : List Nat) (N : Nat) (w9 : World) : Prop :=
  ∃ X wa m' c' P', Stl base t X m c P l d (N - l.np) wa m' c' P' ∧ Ms base (t + (N - l.np)) w9 m' c' P' ∧ LAt w9 (l.nu d l.fs l.fv N) d ∧ Kept (fun k => MFoot m c k ∨ LFoot l k) w w9
theorem LWr.settled {base t : Nat} {w X w9 : World} {m : Mg} {c : CS} {P : List (List (List Nat))} {l : Lm} {d : List Nat} {N : Nat} (h : LWr base t w m c P l d X) (hge : ∀ k, LFoot l k → base ≤ k) (hap : ∀ k, LFoot l k → ¬ MFoot m c k)
    (hst : Settled base t X m c P l d N d.length w9) : SdP base t w m c P l d N w9 := by
  obtain ⟨wa, m', c', P', hs, rfl⟩ := hst
  have hla : LAt wa l d := h.la.kept hs.kp hap
  have k2 : Kept (fun k => k = l.p) wa ((wa.setCell ⟨l.p, 2, none⟩ (.slice (some ⟨l.db, 0, none⟩) d.length l.dcap)).setCell ⟨l.p, 3, none⟩ (.int .i64 (N : Nat))) :=
    ((Kept.refl (fun k => k = l.p) wa).setCell (p := ⟨l.p, 2, none⟩) rfl _).setCell (p := ⟨l.p, 3, none⟩) rfl _
  obtain ⟨n1, n2⟩ := hla.ne
  refine ⟨X, wa, m', c', P', hs, hs.ms.beside k2 (fun k e => by subst e; exact ⟨_, _, hla.box, by decide, by decide, by decide, by decide, by decide, by decide⟩) (fun k e => by subst e; exact hge _ (.inl rfl)), ?_, ?_⟩
  · refine ⟨?_, owns_kept hla.dat k2 (fun g hg e => ?_), owns_kept hla.frs k2 (fun g hg e => (n2 g hg).1 e), hla.lt⟩
    · have := (hla.box.set (i := 2) (.slice (some ⟨l.db, 0, none⟩) d.length l.dcap) (by simp [lCells])).set (i := 3) (.int .i64 (N : Nat)) (by simp [lCells])
      exact this
    · cases hg; exact n1 e.symm
  · exact ((h.kp.mono fun _ e => .inr e).trans (hs.kp.mono fun _ e => .inl e)).trans (k2.mono fun k e => .inr (.inl e))
theorem SdP.later {base t : Nat} {w w9 w' : World} {m : Mg} {c : CS} {P : List (List (List Nat))} {l : Lm} {d : List Nat} {N : Nat} (h : SdP base t w m c P l d N w9) (hb : Below w9.heap.size w9 w') : SdP base t w m c P l d N w' := by
  obtain ⟨X, wa, m', c', P', h1, h2, h3, h4⟩ := h
  exact ⟨X, wa, m', c', P', h1, h2.later hb, h3.later hb, h4.later hb⟩
theorem SdP.la {base t : Nat} {w w9 : World} {m : Mg} {c : CS} {P : List (List (List Nat))} {l : Lm} {d : List Nat} {N : Nat} (h : SdP base t w m c P l d N w9) : LAt w9 (l.nu d l.fs l.fv N) d := by
  obtain ⟨X, wa, m', c', P', h1, h2, h3, h4⟩ := h
  exact h3
/-- .. with one frame more, put behind the others. -/
theorem SdP.done {base t : Nat} {w w9 w10 : World} {m : Mg} {c : CS} {P : List (List (List Nat))} {l : Lm} {d p : List Nat} {gg cc : Nat} (hM : ML base t w m c P l) (hsp : l.sp = false) (h : SdP base t w m c P l d (d.length / c.gz) w9)
    (hd : ∃ r, d = l.data ++ r) (hmd : d.length % c.gz ≠ c.gz - 1) (hfr : FrOk d 0 d.length (l.fs ++ [(l.data.length, p)]))
    (hown : w10.ownsRow 0 173 2 (.slice (some ⟨gg, 0, none⟩) (l.fs.length + 1) cc) (l.fs.length + 1) ((l.fs ++ [(l.data.length, p)]).flatMap (fCells l.db))) (hg : w9.grownBy w10 l.fv.ownBlock) (hat : l.fv.ownBlock = some gg ∨ w9.heap.size ≤ gg) :
    AppP base t w m c P l d (l.fs ++ [(l.data.length, p)]) (w10.setCell ⟨l.p, 4, none⟩ (.slice (some ⟨gg, 0, none⟩) (l.fs.length + 1) cc)) := by
  obtain ⟨X, wa, m', c', P', h1, h2, h3, h4⟩ := h
  obtain ⟨n1, n2⟩ := h3.ne
  have hlt9 : ∀ k, LFoot l k → k < w9.heap.size := fun k hk => by
    obtain ⟨cs, t', hr, _⟩ := h3.typed k hk
    exact hr.lt
  have kg : Kept (fun k => l.fv.ownBlock = some k) w9 w10 := ⟨hg.os, hg.tape, hg.output, hg.size, fun k hk hn => hg.block k hk (fun e => hn e.symm)⟩
  have hne : l.p ≠ gg := fun e => by
    rcases hat with q | q
    · exact (n2 gg q).1 e.symm
    · have := hlt9 l.p (.inl rfl); omega
  obtain ⟨W, hW⟩ : ∃ W, W = w10.setCell ⟨l.p, 4, none⟩ (.slice (some ⟨gg, 0, none⟩) (l.fs.length + 1) cc) := ⟨_, rfl⟩
  have ks : Kept (fun k => k = l.p) w10 W := by rw [hW]; exact (Kept.refl (fun k => k = l.p) w10).setCell (p := ⟨l.p, 4, none⟩) rfl _
  have ka : Kept (fun k => l.fv.ownBlock = some k ∨ k = l.p) w9 W := (kg.mono fun _ e => .inl e).trans (ks.mono fun _ e => .inr e)
  have hms : Ms base (t + (d.length / c.gz - l.np)) W m' c' P' := h2.beside ka (fun k e => h3.typed k (by rcases e with e | e; exact .inr (.inr e); exact .inl e)) (fun k e => hM.ge k (by rcases e with e | e; exact .inr (.inr e); exact .inl e))
  have hbox : Row W l.p (lCells (l.nu d (l.fs ++ [(l.data.length, p)]) (.slice (some ⟨gg, 0, none⟩) (l.fs.length + 1) cc) (d.length / c.gz))) 166 := by
    have b1 := h3.box.kept kg (fun e => (n2 l.p e).1 rfl)
    have b2 := b1.set (i := 4) (.slice (some ⟨gg, 0, none⟩) (l.fs.length + 1) cc) (by simp [lCells])
    rw [hW]
    exact b2
  have hla : LAt W (l.nu d (l.fs ++ [(l.data.length, p)]) (.slice (some ⟨gg, 0, none⟩) (l.fs.length + 1) cc) (d.length / c.gz)) d := by
    refine ⟨hbox, owns_kept h3.dat ka (fun g e => ?_), ?_, h3.lt⟩
    · cases e
      rintro (q | q)
      · exact (n2 _ q).2 rfl
      · exact n1 q.symm
    · have := owns_kept hown ks (fun g e q => by cases e; exact hne q.symm)
      rw [show (l.nu d (l.fs ++ [(l.data.length, p)]) (.slice (some ⟨gg, 0, none⟩) (l.fs.length + 1) cc) (d.length / c.gz)).fs.length = l.fs.length + 1 by simp [Lm.nu]]
      exact this
  have hw9 : base ≤ w9.heap.size := by have := h2.ml.low.1; have := h2.ml.box.lt; omega
  have hge : ∀ k, LFoot (l.nu d (l.fs ++ [(l.data.length, p)]) (.slice (some ⟨gg, 0, none⟩) (l.fs.length + 1) cc) (d.length / c.gz)) k → base ≤ k := by
    rintro k (e | e | e)
    · exact hM.ge k (.inl e)
    · exact hM.ge k (.inr (.inl e))
    · cases e
      rcases hat with q | q
      · exact hM.ge gg (.inr (.inr q))
      · show base ≤ gg
        omega
  rw [← hW]
  refine ⟨m', c', P', _, hM.after hsp h1 hd hmd hfr hms hla hge, h1.gm, h1.p, h1.ft, h4.trans (ka.mono fun k e => by rcases e with e | e; exact .inr (.inr (.inr e)); exact .inr (.inl e)), h1.els, fun k e => ?_⟩
  cases e
  rcases hat with q | q
  · exact .inl q
  · exact .inr (Nat.le_trans h4.size q)
set_option maxHeartbeats 8000000 in
theorem append_yes {base t : Nat} {w : World} {m : Mg} {c : CS} {P : List (List (List Nat))} {l : Lm} (h : ML base t w m c P l) (hsp : l.sp = false) (ht : t < 1900000000) (a : Option Addr) (cap : Nat) (p : List Nat) (hp : ∀ x ∈ p, x < 256) (hr : Hd.BRow w a p)
    (h1 : 1 ≤ p.length) (h2 : p.length ≤ 1024) (hroom : l.data.length + (6 + p.length) ≤ l.dcap) :
    Calls Tryz.prog 107 #[.pointer (some ⟨l.p, 0, none⟩), .slice a p.length cap] w fun e w' => e = .returned (.tuple #[.int .i64 (l.data.length : Nat), .int .i64 0]) ∧ AppP base t w m c P l (appD c.gz l.data p) (l.fs ++ [(l.data.length, p)]) w' := by
  have kF := Hd.frame_yes a cap p w h1 h2 hp hr
  obtain ⟨_, hd1, hd2, _⟩ := h.size
  have hg := h.ms.rp.rb.geo
  have HM : Hid (ML base t w m c P l) := h
  have HSp : Hid (∀ X, Below w.heap.size w X → Calls Tryz.prog 46 #[.pointer (some ⟨m.p, 0, none⟩)] X fun e w' => e = .returned (.bool false) ∧ Below X.heap.size X w') := fun X hb => by
    have := mspent_any (h.later hb).ms.ml
    rw [h.ms.spent] at this
    exact this
  have HRm : Hid (∀ X, Below w.heap.size w X → Calls Tryz.prog 146 #[.pointer (some ⟨l.p, 0, none⟩)] X fun e w' => e = .returned (.int .i64 (roomI l)) ∧ Below X.heap.size X w') := fun X hb => room_any (h.later hb)
  have HEn : Hid (∀ X, Below w.heap.size w X → Calls Tryz.prog 147 #[.pointer (some ⟨l.p, 0, none⟩)] X fun e w' => e = .returned (.int .i64 (l.data.length : Nat)) ∧ X = w') := fun X hb => end_any (h.later hb).la
  have HPg : Hid (∀ X d, LWr base t w m c P l d X → Calls Tryz.prog 67 #[.pointer (some ⟨m.p, 0, none⟩)] X fun e w' => e = .returned (.int .i64 (c.gz : Nat)) ∧ Below X.heap.size X w') := fun X d hb => mpage_any hb.ms.ml
  have hRn : ¬ roomI l < (p.length : Int) := by
    unfold roomI
    rw [hsp]
    simp only [Bool.false_eq_true, if_false]
    omega
  have HRn : Hid (∃ R : Int, R = roomI l) := ⟨_, rfl⟩
  obtain ⟨R, eR⟩ := HRn.out
  rw [← eR] at HRm hRn
  obtain ⟨i0, hi, hz0, hz1, hz2⟩ := info_parts info8
  obtain ⟨j0, hj, hy0, hy1, hy2⟩ := info_parts infoFm
  obtain ⟨n0, hn0⟩ : ∃ n, n = l.data.length := ⟨_, rfl⟩
  obtain ⟨n, hn⟩ : ∃ n, n = p.length := ⟨_, rfl⟩
  obtain ⟨gz, hgz⟩ : ∃ gz, gz = c.gz := ⟨_, rfl⟩
  have HN0 : Hid (n0 = l.data.length ∧ n = p.length ∧ gz = c.gz) := (⟨hn0, hn, hgz⟩ : _ ∧ _)
  have HP : Hid ((∀ x ∈ p, x < 256) ∧ 1 ≤ p.length ∧ p.length ≤ 1024) := (⟨hp, h1, h2⟩ : _ ∧ _)
  have hga : 64 ≤ gz ∧ gz ≤ 512 ∧ 8 ≤ c.gp ∧ c.gp ≤ 64 := by omega
  obtain ⟨e2, he2⟩ : ∃ e2, e2 = bgn gz (n0 + (6 + n)) := ⟨_, rfl⟩
  have hb1 := bgn_le gz (n0 + (6 + n))
  have hb2 : bgn gz (n0 + (6 + n)) ≤ gz * (c.gp - 2) := bgn_fit (by omega) (by rw [Nat.mul_comm, hgz, ← h.cap]; omega)
  have hcap : gz * (c.gp - 2) = l.dcap := by rw [h.cap, Nat.mul_comm, hgz]
  have HD : Hid (appD gz l.data p = (l.data ++ Hd.frameL p) ++ List.replicate (e2 - (n0 + (6 + n))) 255 ∧ (appD gz l.data p).length = e2 ∧ (l.data ++ Hd.frameL p).length = n0 + (6 + n)) := by
    refine (⟨?_, ?_, ?_⟩ : _ ∧ _ ∧ _)
    · unfold appD; rw [he2, hn0, hn, List.append_assoc]
    · rw [appD_length, he2, hn0, hn]
    · rw [List.length_append, Hd.frameL_length, hn0, hn]; omega
  rw [hcap, ← he2] at hb2
  rw [← he2] at hb1
  have HE : Hid (n0 + (6 + n) ≤ e2 ∧ e2 ≤ l.dcap ∧ l.dcap ≤ 31744 ∧ e2 = bgn gz (n0 + (6 + n))) := (⟨hb1.1, hb2, hd2, he2⟩ : _ ∧ _)
  have HFS : Hid (l.fs.length ≤ 31744) := by have := h.fr.count; show _ ≤ _; omega
  have hsz : (l.fs.flatMap (fCells l.db)).length = l.fs.length * 2 := flat_len (fCells l.db) 2 (fCells_len l.db) l.fs
  rw [← hn0] at HEn
  rw [← hn] at kF hRn
  rw [← hgz] at HPg
  have q1 : (n0 : Int) + (6 + (n : Int)) ≤ 31744 := by omega
  have q2 : (e2 : Int) ≤ 31744 := by omega
  have q3 : (n0 : Int) + (6 + (n : Int)) ≤ (l.dcap : Int) := by omega
  have q4 : (1 : Int) ≤ (n : Int) := by omega
  have HSP : Hid (l.sp = false) := hsp
  have HFl : Hid (∀ X, LWr base t w m c P l (l.data ++ Hd.frameL p) X → Calls Tryz.prog 148 #[.slice (some ⟨l.db, 0, none⟩) (n0 + (6 + n)) l.dcap, .int .i64 (e2 : Nat)] X fun e w' => e = .returned (.slice (some ⟨l.db, 0, none⟩) e2 l.dcap) ∧ LWr base t w m c P l (appD gz l.data p) w') := fun X hX => by
    have hll := HD.out.2.2
    have k := filled_any l.db l.dcap (l.data ++ Hd.frameL p) e2 X hX.la.dat (by rw [hll]; omega) hb2 (by omega)
    rw [hll] at k
    refine k.mono ?_
    rintro e w' ⟨rfl, ho, hk⟩
    refine ⟨rfl, hX.more HM.out.ge hk ?_ ?_⟩
    · rw [HD.out.2.1, HD.out.1]; exact ho
    · rw [HD.out.1]
      intro x hx
      rcases List.mem_append.1 hx with q | q
      · exact hX.la.lt x q
      · have := (List.mem_replicate.1 q).2; omega
  have HSt : Hid (∀ X, LWr base t w m c P l (appD gz l.data p) X → Calls Tryz.prog 150 #[.pointer (some ⟨l.p, 0, none⟩), .slice (some ⟨l.db, 0, none⟩) e2 l.dcap] X fun e w' => e = .returned (.int .i64 0) ∧ SdP base t w m c P l (appD gz l.data p) ((appD gz l.data p).length / c.gz) w') := fun X hX => by
    have hlo := HM.out.lo HSP.out
    have k := settle_any hX.ms hX.la HM.out.mp HM.out.ap HM.out.leb HM.out.cap HM.out.np (by rw [HD.out.2.1]; omega) ht
    rw [HD.out.2.1] at k
    refine k.mono ?_
    rintro e w' ⟨rfl, hs⟩
    refine ⟨rfl, hX.settled HM.out.ge HM.out.ap ?_⟩
    rw [HD.out.2.1]
    exact hs
  have kB : ∀ X, Calls Tryz.prog 149 #[.int .i64 ((n0 : Int) + (6 + (n : Int))), .int .i64 (gz : Nat)] X fun e w' => e = .returned (.int .i64 (e2 : Nat)) ∧ X = w' := fun X => by
    have k := begin_any (n0 + (6 + n)) gz X (by omega) (by omega) (by omega)
    rw [← he2, show (((n0 + (6 + n) : Nat)) : Int) = (n0 : Int) + (6 + (n : Int)) by omega] at k
    exact k
  have HLn : Hid (((Hd.frameL p).map u8v).length = (6 + n) * 1) := by show _ = _; rw [List.length_map, Hd.frameL_length]; omega
  have HLt : Hid (∀ x ∈ l.data ++ Hd.frameL p, x < 256) := fun x hx => by
    rcases List.mem_append.1 hx with q | q
    · exact HM.out.la.lt x q
    · exact Hd.frameL_lt HP.out.1 x q
  have hroom2 : n0 + (6 + n) ≤ l.dcap := by omega
  have HMP : Hid (l.mp = m.p) := h.mp
  clear h hp hr h1 h2 hroom hd1 hd2 hg eR hn0 hn hgz he2 hb1 hb2 hcap hga HRn hsp
  rw [← HN0.out.2.1]
  go_enter Tryz.func107, Tryz.ntmps107
  go_wp2_with (first
    | (go_at_call 104; refine kF.mono ?_; rintro e w1 ⟨rfl, ho1⟩; have HO1 : Hid (Hd.Own w w1 (.slice (some ⟨w.heap.size, 0, none⟩) (6 + n) (6 + n)) (Hd.frameL p)) := ho1; have c0 := (HM.out.later ho1.2).la.cells.1; rw [HMP.out] at c0; clear ho1)
    | (go_at_call 46; refine (HSp.out _ HO1.out.2).mono ?_; rintro e w2 ⟨rfl, hb2⟩; have B2 : Hid (Below w1.heap.size w1 w2) := hb2; clear hb2 c0)
    | (go_at_call 146; refine (HRm.out _ (Below.after HO1.out.2 B2.out)).mono ?_; rintro e w3 ⟨rfl, hb3⟩; have B3 : Hid (Below w1.heap.size w1 w3) := Below.after B2.out hb3; clear hb3)
    | (go_at_call 147; refine (HEn.out _ (Below.after HO1.out.2 B3.out)).mono ?_; rintro e w4 ⟨rfl, rfl⟩; have HW3 : Hid (LWr base t w m c P l l.data w3.drew) := HM.out.wr ((Below.after HO1.out.2 B3.out).drew); have b0 := (HM.out.later (Below.after HO1.out.2 B3.out)).la.cells.1; have b2 := (HM.out.later (Below.after HO1.out.2 B3.out)).la.cells.2.2.1; rw [HMP.out] at b0; rw [← HN0.out.1] at b2))
  have HCn : Hid (∀ j u, ((Hd.frameL p).map u8v)[j]? = some u → w3.drew.cell? ((⟨w.heap.size, 0, none⟩ : Addr).add j) = some u) := fun j u hu => by
    have h1 := HO1.out.1.cells (g := w.heap.size) rfl j u hu
    rw [B3.out.drew.cell (World.block_lt_of_cell? w1 _ h1)]
    exact h1
  have HOW : Hid (w3.drew.ownsRow 0 5 1 (.slice (some ⟨l.db, 0, none⟩) n0 l.dcap) n0 (l.data.map u8v)) := by rw [HN0.out.1]; exact HW3.out.la.dat
  go_region_held3 (fun w' => w'.cell? ⟨l.p, 0, none⟩ = some (.pointer (some ⟨m.p, 0, none⟩)) ∧ w'.cell? ⟨l.p, 2, none⟩ = some (.slice (some ⟨l.db, 0, none⟩) n0 l.dcap)) (first | assumption | go_keep) (first
    | (go_at_call 67; refine (HPg.out _ _ HW5.out).mono ?_; rintro e w6 ⟨rfl, hb6⟩; have HW6 : Hid (LWr base t w m c P l (l.data ++ Hd.frameL p) w6) := HW5.out.later hb6; have d0 := HW6.out.la.cells.1; have d2 := HW6.out.la.cells.2.2.1; rw [HMP.out] at d0; rw [← HN0.out.1] at d2; clear hb6)
    | (go_at_call 149; refine (kB _).mono ?_; rintro e w7 ⟨rfl, rfl⟩)
    | (go_at_call 148; refine (HFl.out _ HW6.out).mono ?_; rintro e w8 ⟨rfl, hw8⟩; have HW8 : Hid (LWr base t w m c P l (appD gz l.data p) w8) := hw8; have d0 := HW8.out.la.cells.1; have d2 := HW8.out.la.cells.2.2.1; rw [HMP.out] at d0; rw [← HN0.out.1] at d2; clear hw8)
    | (refine step_append_fits (by rfl) _ _ _ (by rfl) 0 5 i0 1 Tryz.underlying56 hi hz1 l.db n0 l.dcap (l.data.map u8v) (by rfl) HOW.out ⟨w.heap.size, 0, none⟩ (6 + n) (6 + n) ((Hd.frameL p).map u8v) (by rfl) HLn.out HCn.out (u8v_one _) hroom2 ?_; intro w5 hown5 hgrow5; have HW5 : Hid (LWr base t w m c P l (l.data ++ Hd.frameL p) w5) := HW3.out.more HM.out.ge (kept_grow1 hgrow5) (by rw [HD.out.2.2, List.map_append]; exact hown5) HLt.out; have d0 := HW5.out.la.cells.1; have d2 := HW5.out.la.cells.2.2.1; rw [HMP.out] at d0; rw [← HN0.out.1] at d2; clear hown5 hgrow5))
  go_wp2_with (go_at_call 150; refine (HSt.out _ HW8.out).mono ?_; rintro e w9 ⟨rfl, hs9⟩; have HS9 : Hid (SdP base t w m c P l (appD gz l.data p) ((appD gz l.data p).length / c.gz) w9) := hs9; clear hs9)
  have hla9 := HS9.out.la
  have hr9 := hla9.box
  have z4 : w9.cell? ⟨l.p, 4, none⟩ = some l.fv := hr9.cell (i := 4) rfl
  have HFin : Hid (∀ X Y gg cc, Below w9.heap.size w9 X → X.grownBy Y l.fv.ownBlock → Y.ownsRow 0 173 2 (.slice (some ⟨gg, 0, none⟩) (l.fs.length + 1) cc) (l.fs.length + 1) (l.fs.flatMap (fCells l.db) ++ [.int .i64 (n0 : Nat), .slice (some ⟨l.db, n0 + 6, none⟩) n n]) → (l.fv.ownBlock = some gg ∨ gg = X.heap.size) →
      Y.cell? ⟨l.p, 4, none⟩ = some l.fv ∧ Y.frozen? ⟨l.p, 4, none⟩ = false ∧ AppP base t w m c P l (appD gz l.data p) (l.fs ++ [(l.data.length, p)]) (Y.setCell ⟨l.p, 4, none⟩ (.slice (some ⟨gg, 0, none⟩) (l.fs.length + 1) cc))) := fun X Y gg cc hb hg hown hat => by
    have hX := HS9.out.later hb
    have hY := hX.la.box.kept (S := fun k => l.fv.ownBlock = some k) ⟨hg.os, hg.tape, hg.output, hg.size, fun k hk hn => hg.block k hk (fun e => hn e.symm)⟩ (fun e => (hX.la.ne.2 _ e).1 rfl)
    refine ⟨hY.cell (i := 4) rfl, hY.frozen 4, ?_⟩
    have egz := HN0.out.2.2
    refine SdP.done HM.out HSP.out hX ⟨_, by rw [HD.out.1, List.append_assoc]⟩ ?_ ?_ ?_ hg (hat.imp id fun e => by omega)
    · rw [HD.out.2.1, HE.out.2.2.2, ← egz]; exact bgn_mod (by have := HM.out.ms.rp.rb.geo; omega) _
    · exact FrOk.app HM.out.fr HP.out.2.1 HP.out.2.2
    · rw [List.flatMap_append, show [(l.data.length, p)].flatMap (fCells l.db) = [.int .i64 (n0 : Nat), .slice (some ⟨l.db, n0 + 6, none⟩) n n] by rw [HN0.out.1, HN0.out.2.1]; rfl]
      exact hown
  have HOF : Hid (∀ X, Below w9.heap.size w9 X → X.ownsRow 0 173 2 l.fv l.fs.length (l.fs.flatMap (fCells l.db))) := fun X hb => (hla9.later hb).frs
  have r1 : (6 : Int) + (n : Int) ≤ 31744 := by omega
  have r2 : ((n0 : Int) + (6 + (n : Int))) ≤ (l.dcap : Int) := q3
  have r3 : (0 : Int) ≤ (n0 : Int) + 6 := by omega
  have r4 : (n0 : Int) + 6 ≤ (n0 : Int) + (6 + (n : Int)) := by omega
  have r5 : ((n0 : Int) + 6).toNat = n0 + 6 := by omega
  have r6 : ((n0 : Int) + (6 + (n : Int))).toNat = n0 + 6 + n := by omega
  have r7 : n0 + 6 + n - (n0 + 6) = n := by omega
  have r8 : (0 : Int) ≤ (n0 : Int) + (6 + (n : Int)) := by omega
  have r9 : (n0 : Int) + (6 + (n : Int)) ≤ (n0 : Int) + 6 + (n : Int) := by omega
  have r10 : (n0 : Int) + 6 ≤ (n0 : Int) + 6 + (n : Int) := by omega
  have r11 : ¬ n0 + 6 + n = n0 + 6 := by omega
  have r12 : IntKind.i64.wrap ((n0 : Int) + 6) = (n0 : Int) + 6 := by rw [IntKind.wrap_i64]; omega
  have r13 : (n0 : Int) + 6 + (n : Int) ≤ (l.dcap : Int) := by omega
  have r14 : n ≠ 0 := by omega
  have ne9 : l.p < w9.heap.size := hr9.lt
  clear hla9 hr9
  go_wp2_with fail
  go_region_law (refine step_append_lies _ (by rfl) _ _ _ (by rfl) 0 173 j0 _ 2 32 Tryz.underlying122 hj hy0 hy1 hy2 rfl (by omega) l.fv l.fs.length (l.fs.flatMap (fCells l.db)) (by rfl) (HOF.out _ ((below_new w9 (.cells #[.int .i64 (n0 : Int), .slice (some ⟨l.db, n0 + 6, none⟩) n n] 173)).drew)) ⟨w9.heap.size, 0, none⟩ 1 1 [.int .i64 (n0 : Nat), .slice (some ⟨l.db, n0 + 6, none⟩) n n] (by rfl) (by rfl) (World.news_of_block (cs := #[.int .i64 (n0 : Nat), .slice (some ⟨l.db, n0 + 6, none⟩) n n]) (t := 173) (fr := (0, 0)) (lheap_new w9 _)) (by simp [Value.oneCell']) (by omega) (by have := HFS.out; unfold maxLen; omega) (by have := HFS.out; omega) (Nat.zero_le _) (w9.heap.size + 1) (by simp) ?_; intro gg cc w10 hown10 hgrow hat hlt2; obtain ⟨f1, f2, f3⟩ := HFin.out _ w10 gg cc ((below_new w9 (.cells #[.int .i64 (n0 : Int), .slice (some ⟨l.db, n0 + 6, none⟩) n n] 173)).drew) hgrow hown10 (hat.imp id fun e => by rw [e]; simp); have HAP : Hid (AppP base t w m c P l (appD gz l.data p) (l.fs ++ [(l.data.length, p)]) (w10.setCell ⟨l.p, 4, none⟩ (.slice (some ⟨gg, 0, none⟩) (l.fs.length + 1) cc))) := f3; clear f3 hown10 hgrow hat hlt2)
  all_goals
    go_wp2
    go_ret2
    refine ⟨by rw [← HN0.out.1]; rfl, ?_⟩
    rw [← HN0.out.2.2]
    exact HAP.out
end Go.Proofs.YtkfecngkdlajgaaGreatDoor
namespace Go.Proofs.YtkfecngkdlajgaaGreatDoor
open Go.RowKit Go.Extern.Stop Go.Stop Go.Extern
set_option maxRecDepth 10000

set_option maxHeartbeats 4000000 in
theorem append_full {base t : Nat} {w : World} {m : Mg} {c : CS} {P : List (List (List Nat))} {l : Lm} (h : ML base t w m c P l) (a : Option Addr) (cap : Nat) (p : List Nat) (hp : ∀ x ∈ p, x < 256) (hr : Hd.BRow w a p)
    (h1 : 1 ≤ p.length) (h2 : p.length ≤ 1024) (hroom : roomI l < (p.length : Int)) :
    Calls Tryz.prog 107 #[.pointer (some ⟨l.p, 0, none⟩), .slice a p.length cap] w fun e w' => e = .returned (.tuple #[.int .i64 0, .int .i64 28]) ∧ Below w.heap.size w w' := by
  have kF := Hd.frame_yes a cap p w h1 h2 hp hr
  have HM : Hid (ML base t w m c P l) := h
  have HSp : Hid (∀ X, Below w.heap.size w X → Calls Tryz.prog 46 #[.pointer (some ⟨m.p, 0, none⟩)] X fun e w' => e = .returned (.bool false) ∧ Below X.heap.size X w') := fun X hb => by
    have := mspent_any (h.later hb).ms.ml
    rw [h.ms.spent] at this
    exact this
  have HRm : Hid (∀ X, Below w.heap.size w X → Calls Tryz.prog 146 #[.pointer (some ⟨l.p, 0, none⟩)] X fun e w' => e = .returned (.int .i64 (roomI l)) ∧ Below X.heap.size X w') := fun X hb => room_any (h.later hb)
  have HMP : Hid (l.mp = m.p) := h.mp
  generalize roomI l = R at *
  obtain ⟨n, hn⟩ : ∃ n, n = p.length := ⟨_, rfl⟩
  rw [← hn] at kF hroom ⊢
  clear h hp hr h1 h2 hn
  go_enter Tryz.func107, Tryz.ntmps107
  go_wp2_with (first
    | (go_at_call 104; refine kF.mono ?_; rintro e w1 ⟨rfl, ho1⟩; have HO1 : Hid (Below w.heap.size w w1) := ho1.2; have c0 := (HM.out.later ho1.2).la.cells.1; rw [HMP.out] at c0; clear ho1)
    | (go_at_call 46; refine (HSp.out _ HO1.out).mono ?_; rintro e w2 ⟨rfl, hb2⟩; have B2 : Hid (Below w.heap.size w w2) := Below.after HO1.out hb2; clear hb2 c0)
    | (go_at_call 146; refine (HRm.out _ B2.out).mono ?_; rintro e w3 ⟨rfl, hb3⟩; have B3 : Hid (Below w.heap.size w w3) := Below.after B2.out hb3; clear hb3))
  go_ret2
  exact ⟨rfl, B3.out⟩
/-- How many bytes are kept. -/
def keptN (gz : Nat) (l : Lm) : Nat := l.data.length - min (l.np * gz) l.data.length
set_option maxHeartbeats 4000000 in
theorem kept_any {base t : Nat} {w : World} {m : Mg} {c : CS} {P : List (List (List Nat))} {l : Lm} (h : ML base t w m c P l) :
    Calls Tryz.prog 151 #[.pointer (some ⟨l.p, 0, none⟩)] w fun e w' => (∃ a k, e = .returned (.slice a (keptN c.gz l) k)) ∧ Below w.heap.size w w' := by
  obtain ⟨_, hd1, hd2, _⟩ := h.size
  have hg := h.ms.rp.rb.geo
  have HZ : Hid (∀ p : Wd w, p.v.cell? ⟨l.p, 0, none⟩ = some (.pointer (some ⟨m.p, 0, none⟩)) ∧ p.v.cell? ⟨l.p, 2, none⟩ = some (.slice (some ⟨l.db, 0, none⟩) l.data.length l.dcap) ∧ p.v.cell? ⟨l.p, 3, none⟩ = some (.int .i64 (l.np : Nat))) := fun p => by
    have := (h.later p.h).la.cells
    rw [h.mp] at this
    exact ⟨this.1, this.2.2.1, this.2.2.2.1⟩
  have c2 := h.la.cells.2.2.1
  have cP := fun p : Wd w => quiet_call p (mpage_any (h.later p.h).ms.ml)
  have hnp : l.np ≤ 62 := by
    rw [h.np]
    have := h.ms.page_le (l.leb : Nat)
    omega
  obtain ⟨n, hn⟩ : ∃ n, n = l.data.length := ⟨_, rfl⟩
  obtain ⟨lo, hlo⟩ : ∃ lo, lo = min (l.np * c.gz) l.data.length := ⟨_, rfl⟩
  have HK : Hid (keptN c.gz l = n - lo) := by show _ = _; unfold keptN; rw [hn, hlo]
  have hmul : l.np * c.gz ≤ 62 * 512 := Nat.mul_le_mul hnp (by omega)
  have e1 : (l.np : Int) * (c.gz : Int) = ((l.np * c.gz : Nat) : Int) := by simp
  have e2 : min ((l.np * c.gz : Nat) : Int) (n : Int) = (lo : Int) := by omega
  rw [← hn] at c2 HZ hd1
  have r0 : (0 : Int) ≤ (lo : Int) := by omega
  have r1 : (lo : Int) ≤ (n : Int) := by omega
  have r2 : (n : Int) ≤ (l.dcap : Int) := by omega
  have r3 : (l.dcap : Int) ≤ 31744 := by omega
  have r4 : (l.np : Int) * (c.gz : Int) ≤ 9223372036854775807 := by rw [e1]; omega
  have r5 : (0 : Int) ≤ (l.np : Int) * (c.gz : Int) := by rw [e1]; omega
  have w1 : IntKind.i64.wrap ((l.np : Int) * (c.gz : Int)) = (l.np : Int) * (c.gz : Int) := by rw [IntKind.wrap_i64]; omega
  have e3 : min ((l.np : Int) * (c.gz : Int)) (n : Int) = (lo : Int) := by rw [e1]; exact e2
  clear h hd1 hd2 hg hn hlo hnp hmul e1 e2
  go_enter Tryz.func151, Tryz.ntmps151
  go_wp2_with fail
  have ne := Wd.non w
  have z0 := fun p => (HZ.out p).1
  have z2 := fun p => (HZ.out p).2.1
  have z3 := fun p => (HZ.out p).2.2
  refine quiet_below (by kernel_rfl) ?_
  repeat (first | go_big_quiet_skip | go_big_quiet_step (first | (go_at_call 67; exact cP _)))
  refine wpQuiet_nil ?_
  rintro _ ⟨p4, rfl⟩
  have HB : Hid (Below w.heap.size w p4.v) := p4.h
  clear z0 z2 z3 ne cP
  go_wp2
  all_goals go_ret
  all_goals first
    | exact ⟨⟨_, _, by rw [HK.out, show n - lo = 0 by omega]; rfl⟩, HB.out⟩
    | exact ⟨⟨_, _, by rw [HK.out]; rfl⟩, HB.out⟩
end Go.Proofs.YtkfecngkdlajgaaGreatDoor
namespace Go.Proofs.YtkfecngkdlajgaaGreatDoor
open Go.RowKit Go.Extern.Stop Go.Stop Go.Extern
set_option maxRecDepth 10000

end Go.Proofs.YtkfecngkdlajgaaGreatDoor
