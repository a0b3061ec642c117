/-
  A log in memory; what it tells of itself: End, Broken, Room, kept.
  Room, kept, filled of a log.
  settle: the pages that are full are written.
-/
import Derived.Test.YtkfecngkdlajgaaGreatDoorQC
import Derived.Test.YtkfecngkdlajgaaGreatDoorKM
import Derived.Test.YtkfecngkdlajgaaGreatDoorGB
import Derived.Deep.RegionHeld3
namespace Go.Proofs.YtkfecngkdlajgaaGreatDoor
open Go.RowKit Go.Extern.Stop Go.Stop Go.Extern
set_option maxRecDepth 10000

/-- A log: its box, the manager's box, its logical block, its bytes' block and room, its frames' slice; its bytes, its frames, how many pages were written, is it spoilt? -/
structure Lm where
  p : Nat
  mp : Nat
  leb : Nat
  db : Nat
  dcap : Nat
  fv : Value
  data : List Nat
  fs : List Fm
  np : Nat
  sp : Bool
def lCells (l : Lm) : List Value := [.pointer (some ⟨l.mp, 0, none⟩), .int .i64 (l.leb : Nat), .slice (some ⟨l.db, 0, none⟩) l.data.length l.dcap, .int .i64 (l.np : Nat), l.fv, .bool l.sp]
def fCells (db : Nat) (x : Fm) : List Value := [.int .i64 (x.1 : Nat), .slice (some ⟨db, x.1 + 6, none⟩) x.2.length x.2.length]
/-- A log lies in memory; its row of bytes begins with d. -/
structure LAt (w : World) (l : Lm) (d : List Nat) : Prop where
  box : Row w l.p (lCells l) 166
  dat : w.ownsRow 0 5 1 (.slice (some ⟨l.db, 0, none⟩) d.length l.dcap) d.length (d.map u8v)
  frs : w.ownsRow 0 173 2 l.fv l.fs.length (l.fs.flatMap (fCells l.db))
  lt : ∀ x ∈ d, x < 256
/-- The blocks of a log. -/
def LFoot (l : Lm) (k : Nat) : Prop := k = l.p ∨ k = l.db ∨ l.fv.ownBlock = some k
theorem owns_kept {S : Nat → Prop} {w w' : World} {base e size n : Nat} {v : Value} {xs : List Value} (h : w.ownsRow base e size v n xs) (hk : Kept S w w') (hn : ∀ g, v.ownBlock = some g → ¬ S g) : w'.ownsRow base e size v n xs := by
  refine ⟨h.1, ?_⟩
  rcases h.2 with hz | ⟨g, cap, cur, rfl, hbg, hgg, rest⟩
  · exact .inl hz
  · refine .inr ⟨g, cap, cur, rfl, hbg, ?_, rest⟩
    rw [hk.block g (Array.getElem?_eq_some_iff.1 hgg).1 (hn g rfl)]
    exact hgg
theorem LAt.kept {S : Nat → Prop} {w w' : World} {l : Lm} {d : List Nat} (h : LAt w l d) (hk : Kept S w w') (hn : ∀ k, LFoot l k → ¬ S k) : LAt w' l d :=
  ⟨h.box.kept hk (hn _ (.inl rfl)), owns_kept h.dat hk (fun g hg => hn g (.inr (.inl (by cases hg; rfl)))), owns_kept h.frs hk (fun g hg => hn g (.inr (.inr hg))), h.lt⟩
theorem LAt.later {w w' : World} {l : Lm} {d : List Nat} (h : LAt w l d) (hb : Below w.heap.size w w') : LAt w' l d :=
  h.kept (S := fun _ => False) (.of_below hb) (fun _ _ e => e)
theorem LAt.cap {w : World} {l : Lm} {d : List Nat} (h : LAt w l d) : d.length ≤ l.dcap ∧ l.dcap ≤ maxLen := by
  rcases h.dat.2 with ⟨e, _⟩ | ⟨g, cap, cur, e, _, _, h1, h2, _⟩
  · cases e
  · cases e; exact ⟨h1, h2⟩
theorem LAt.cells {w : World} {l : Lm} {d : List Nat} (h : LAt w l d) : w.cell? ⟨l.p, 0, none⟩ = some (.pointer (some ⟨l.mp, 0, none⟩)) ∧ w.cell? ⟨l.p, 1, none⟩ = some (.int .i64 (l.leb : Nat)) ∧ w.cell? ⟨l.p, 2, none⟩ = some (.slice (some ⟨l.db, 0, none⟩) l.data.length l.dcap) ∧ w.cell? ⟨l.p, 3, none⟩ = some (.int .i64 (l.np : Nat)) ∧ w.cell? ⟨l.p, 4, none⟩ = some l.fv ∧ w.cell? ⟨l.p, 5, none⟩ = some (.bool l.sp) :=
  ⟨h.box.cell (i := 0) rfl, h.box.cell (i := 1) rfl, h.box.cell (i := 2) rfl, h.box.cell (i := 3) rfl, h.box.cell (i := 4) rfl, h.box.cell (i := 5) rfl⟩
theorem LAt.row {w : World} {l : Lm} {d : List Nat} (h : LAt w l d) : ∀ i, i < d.length → w.cell? ⟨l.db, i, none⟩ = some (.int .u8 ((d.getD i 0 : Nat) : Int)) := by
  intro i hi
  rw [h.dat.cellAt i (by simpa using hi)]
  simp [u8v, hi, List.getD]
theorem LAt.sub {w : World} {l : Lm} {d : List Nat} (h : LAt w l d) {S : Nat → Prop} (hn : ¬ S l.db) (i n : Nat) : Dt S w (some ⟨l.db, i, none⟩) ((d.drop i).take n) := by
  refine ⟨fun x hx => h.lt x (List.mem_of_mem_drop (List.mem_of_mem_take hx)), .inr ⟨l.db, i, rfl, hn, fun k hk => ?_⟩⟩
  simp only [List.length_take, List.length_drop] at hk
  rw [h.row (i + k) (by omega)]
  simp only [List.getD, List.getElem?_take, List.getElem?_drop]
  rw [if_pos (by omega)]
theorem LAt.ne {w : World} {l : Lm} {d : List Nat} (h : LAt w l d) : l.p ≠ l.db ∧ (∀ g, l.fv.ownBlock = some g → g ≠ l.p ∧ g ≠ l.db) := by
  obtain ⟨rest, hb⟩ := h.box
  have hd : ∃ cur : Array Value, w.heap[l.db]? = some (.cells cur 5 (0, 0)) := by
    rcases h.dat.2 with ⟨e, _⟩ | ⟨g, cap, cur, e, _, hg, _⟩
    · cases e
    · cases e; exact ⟨cur, hg⟩
  obtain ⟨cur, hd⟩ := hd
  refine ⟨fun e => ?_, fun g hg => ?_⟩
  · rw [e, hd] at hb; simp at hb
  · have hf : ∃ cur : Array Value, w.heap[g]? = some (.cells cur 173 (0, 0)) := by
      rcases h.frs.2 with ⟨e, _⟩ | ⟨g', cap, cur, e, _, hgg, _⟩
      · rw [e] at hg; cases hg
      · rw [e] at hg; cases hg; exact ⟨cur, hgg⟩
    obtain ⟨cf, hf⟩ := hf
    exact ⟨fun e => (by rw [← e, hf] at hb; simp at hb), fun e => (by rw [← e, hf] at hd; simp at hd)⟩
theorem ms_closed {base t : Nat} {w : World} {m : Mg} {c : CS} {P : List (List (List Nat))} (h : Ms base t w m c P) (leb : Int) : (homeB m.bl leb).closed = false := by
  rcases find_home h.rp leb with ⟨_, _, hz⟩ | ⟨i, x, p', hf, hx, h4, he, hpi, hc, hh, hu, hcl⟩
  · rw [hz]; rfl
  · rw [hh]; exact hcl
/-- A manager that is right, and a log of one of its logical blocks. -/
structure ML (base t : Nat) (w : World) (m : Mg) (c : CS) (P : List (List (List Nat))) (l : Lm) : Prop where
  ms : Ms base t w m c P
  la : LAt w l l.data
  mp : l.mp = m.p
  ap : ∀ k, LFoot l k → ¬ MFoot m c k
  ge : ∀ k, LFoot l k → base ≤ k
  leb : (l.leb : Int) + c.gr + 2 < c.gb
  cap : l.dcap = (c.gp - 2) * c.gz
  np : l.np = ((cont m.bl P l.leb).getD []).length
  md : l.data.length % c.gz ≠ c.gz - 1
  lo : l.sp = false → l.np * c.gz ≤ l.data.length ∧ l.data.length < (l.np + 1) * c.gz
  hi : l.sp = true → l.data.length ≤ l.np * c.gz
  con : l.sp = false → ((cont m.bl P l.leb).getD []).flatten = l.data.take (l.np * c.gz)
  fr : FrOk l.data 0 l.data.length l.fs
theorem ML.later {base t : Nat} {w w' : World} {m : Mg} {c : CS} {P : List (List (List Nat))} {l : Lm} (h : ML base t w m c P l) (hb : Below w.heap.size w w') : ML base t w' m c P l :=
  ⟨h.ms.later hb, h.la.later hb, h.mp, h.ap, h.ge, h.leb, h.cap, h.np, h.md, h.lo, h.hi, h.con, h.fr⟩
theorem end_any {w : World} {l : Lm} {d : List Nat} (h : LAt w l d) :
    Calls Tryz.prog 147 #[.pointer (some ⟨l.p, 0, none⟩)] w fun e w' => e = .returned (.int .i64 (l.data.length : Nat)) ∧ w = w' := by
  obtain ⟨_, _, c2, _⟩ := h.cells
  clear h
  go_enter Tryz.func147, Tryz.ntmps147
  go_wp2
  go_ret
  exact ⟨rfl, rfl⟩
set_option maxHeartbeats 1000000 in
theorem broken_any {base t : Nat} {w : World} {m : Mg} {c : CS} {P : List (List (List Nat))} {l : Lm} {d : List Nat} (h : Ms base t w m c P) (hl : LAt w l d) (hm : l.mp = m.p) :
    Calls Tryz.prog 188 #[.pointer (some ⟨l.p, 0, none⟩)] w fun e w' => e = .returned (.bool l.sp) ∧ Below w.heap.size w w' := by
  have ne := Wd.non w
  have z0 : ∀ p : Wd w, p.v.cell? ⟨l.p, 0, none⟩ = some (.pointer (some ⟨m.p, 0, none⟩)) := fun p => by rw [← hm]; exact (hl.later p.h).cells.1
  have z1 : ∀ p : Wd w, p.v.cell? ⟨l.p, 1, none⟩ = some (.int .i64 (l.leb : Nat)) := fun p => (hl.later p.h).cells.2.1
  have z5 : ∀ p : Wd w, p.v.cell? ⟨l.p, 5, none⟩ = some (.bool l.sp) := fun p => (hl.later p.h).cells.2.2.2.2.2
  have cC := fun p : Wd w => quiet_call p (by have := mclosed_any (h.later p.h).ml (l.leb : Nat); rw [ms_closed (h.later p.h)] at this; exact this)
  cases hsp : l.sp with
  | true =>
    rw [hsp] at z5
    clear h hl hm hsp
    go_enter Tryz.func188, Tryz.ntmps188
    go_wp2_with fail
    refine quiet_below (by kernel_rfl) ?_
    repeat (first | go_big_quiet_skip | go_big_quiet_step (first | (go_at_call 211; exact cC _)))
    refine wpQuiet_nil ?_
    rintro _ ⟨p4, rfl⟩
    obtain ⟨w4, hw4⟩ : ∃ W, W = p4.v := ⟨_, rfl⟩
    have HB4 : Hid (Below w.heap.size w w4) := by rw [hw4]; exact p4.h
    rw [← hw4]
    clear hw4
    clear p4
    go_wp2
    go_ret
    exact ⟨rfl, HB4.out⟩
  | false =>
    rw [hsp] at z5
    clear h hl hm hsp
    go_enter Tryz.func188, Tryz.ntmps188
    go_wp2_with fail
    refine quiet_below (by kernel_rfl) ?_
    repeat (first | go_big_quiet_skip | go_big_quiet_step (first | (go_at_call 211; exact cC _)))
    refine wpQuiet_nil ?_
    rintro _ ⟨p4, rfl⟩
    obtain ⟨w4, hw4⟩ : ∃ W, W = p4.v := ⟨_, rfl⟩
    have HB4 : Hid (Below w.heap.size w w4) := by rw [hw4]; exact p4.h
    rw [← hw4]
    clear hw4
    clear p4
    go_wp2
    go_ret
    exact ⟨rfl, HB4.out⟩
end Go.Proofs.YtkfecngkdlajgaaGreatDoor
namespace Go.Proofs.YtkfecngkdlajgaaGreatDoor
open Go.RowKit Go.Extern.Stop Go.Stop Go.Extern
set_option maxRecDepth 10000

/-- How many bytes the payload of one more frame may have. -/
def roomI (l : Lm) : Int := if l.sp then 0 else min (max ((l.dcap : Int) - (l.data.length : Nat) - 6) 0) 1024
theorem ML.size {base t : Nat} {w : World} {m : Mg} {c : CS} {P : List (List (List Nat))} {l : Lm} (h : ML base t w m c P l) : ((c.gp : Int) - 2) * (c.gz : Int) = (l.dcap : Int) ∧ l.data.length ≤ l.dcap ∧ l.dcap ≤ 31744 ∧ 384 ≤ l.dcap := by
  have hg := h.ms.rp.rb.geo
  have h1 := h.la.cap
  have h2 : (c.gp - 2) * c.gz ≤ 62 * 512 := Nat.mul_le_mul (by omega) (by omega)
  have h3 : 6 * 64 ≤ (c.gp - 2) * c.gz := Nat.mul_le_mul (by omega) (by omega)
  refine ⟨?_, h1.1, by rw [h.cap]; omega, by rw [h.cap]; omega⟩
  rw [h.cap]
  have : ((c.gp - 2 : Nat) : Int) = (c.gp : Int) - 2 := by omega
  rw [← this]
  simp
set_option maxHeartbeats 1000000 in
theorem room_any {base t : Nat} {w : World} {m : Mg} {c : CS} {P : List (List (List Nat))} {l : Lm} (h : ML base t w m c P l) :
    Calls Tryz.prog 146 #[.pointer (some ⟨l.p, 0, none⟩)] w fun e w' => e = .returned (.int .i64 (roomI l)) ∧ Below w.heap.size w w' := by
  have kB := broken_any h.ms h.la h.mp
  have HM : Hid (∀ X, Below w.heap.size w X → ML base t X m c P l) := fun X hb => h.later hb
  obtain ⟨hT, hd, hc, _⟩ := h.size
  have hg := h.ms.rp.rb.geo
  have HR : Hid (roomI l = if l.sp then 0 else min (max ((l.dcap : Int) - (l.data.length : Nat) - 6) 0) 1024) := rfl
  have HMP : Hid (l.mp = m.p) := h.mp
  obtain ⟨R, hR⟩ : ∃ R, R = roomI l := ⟨_, rfl⟩
  rw [← hR] at HR ⊢
  obtain ⟨D, hD⟩ : ∃ D, D = l.dcap := ⟨_, rfl⟩
  obtain ⟨n, hn⟩ : ∃ n, n = l.data.length := ⟨_, rfl⟩
  rw [← hD] at hT hd hc HR
  rw [← hn] at hd HR
  have HN : Hid (n = l.data.length) := hn
  have d1 : (n : Int) ≤ (D : Int) := by omega
  have d2 : (D : Int) ≤ 31744 := by omega
  have g1 : (8 : Int) ≤ (c.gp : Int) := by omega
  have g2 : (c.gp : Int) ≤ 64 := by omega
  have g3 : (c.gz : Int) ≤ 512 := by omega
  have HG : Hid (2 ≤ c.gp) := by show _ ≤ _; omega
  clear h hR hD hn hd hc hg
  cases hsp : l.sp with
  | true =>
    rw [hsp] at kB HR
    have HR0 : Hid (R = 0) := by rw [HR.out]; rfl
    clear hsp HR
    go_enter Tryz.func146, Tryz.ntmps146
    go_wp2_with (go_at_call 188; refine kB.mono ?_; rintro e w1 ⟨rfl, hb1⟩; have HB1 : Hid (Below w.heap.size w w1) := hb1; clear hb1)
    go_ret
    exact ⟨ret_int HR0.out.symm, HB1.out⟩
  | false =>
    rw [hsp] at kB HR
    have HR0 : Hid (R = min (max ((D : Int) - (n : Nat) - 6) 0) 1024) := by rw [HR.out]; rfl
    clear hsp HR
    go_enter Tryz.func146, Tryz.ntmps146
    go_wp2_with (go_at_call 188; refine kB.mono ?_; rintro e w1 ⟨rfl, hb1⟩; have HB1 : Hid (Below w.heap.size w w1) := hb1; clear hb1)
    have ne := Wd.non w1
    have z0 : ∀ p : Wd w1, p.v.cell? ⟨l.p, 0, none⟩ = some (.pointer (some ⟨m.p, 0, none⟩)) := fun p => by rw [← HMP.out]; exact (HM.out p.v (Below.after HB1.out p.h)).la.cells.1
    have cP := fun p : Wd w1 => quiet_call p (mpages_any (HM.out p.v (Below.after HB1.out p.h)).ms.ml HG.out)
    have cZ := fun p : Wd w1 => quiet_call p (mpage_any (HM.out p.v (Below.after HB1.out p.h)).ms.ml)
    have cE := fun p : Wd w1 => quiet_same p (by have := end_any (HM.out p.v (Below.after HB1.out p.h)).la; rw [← HN.out] at this; exact this)
    clear kB
    refine quiet_below (by kernel_rfl) ?_
    repeat (first | go_big_quiet_skip | go_big_quiet_step (first
      | (go_at_call 74; exact cP _)
      | (go_at_call 67; exact cZ _)
      | (go_at_call 147; exact cE _)))
    refine wpQuiet_nil ?_
    rintro _ ⟨p4, rfl⟩
    obtain ⟨w4, hw4⟩ : ∃ W, W = p4.v := ⟨_, rfl⟩
    have HB4 : Hid (Below w.heap.size w w4) := by rw [hw4]; exact Below.after HB1.out p4.h
    rw [← hw4]
    clear hw4
    clear p4
    go_wp2
    go_ret
    exact ⟨ret_int HR0.out.symm, HB4.out⟩
theorem kept_grow1 {w w' : World} {g : Nat} (h : w.grownBy w' (some g)) : Kept (fun k => k = g) w w' := ⟨h.os, h.tape, h.output, h.size, fun k hk hn => h.block k hk (fun e => hn (by cases e; rfl))⟩
theorem rep_fill (k : Nat) : Hd.fillL [] k = List.replicate k 255 := by simp [Hd.fillL]
set_option maxHeartbeats 1000000 in
theorem filled_any (db dcap : Nat) (d : List Nat) (to : Nat) (w : World) (hown : w.ownsRow 0 5 1 (.slice (some ⟨db, 0, none⟩) d.length dcap) d.length (d.map u8v)) (h1 : d.length ≤ to) (h2 : to ≤ dcap) (h3 : dcap ≤ 1048576) :
    Calls Tryz.prog 148 #[.slice (some ⟨db, 0, none⟩) d.length dcap, .int .i64 (to : Nat)] w fun e w' => e = .returned (.slice (some ⟨db, 0, none⟩) to dcap) ∧ w'.ownsRow 0 5 1 (.slice (some ⟨db, 0, none⟩) to dcap) to ((d ++ List.replicate (to - d.length) 255).map u8v) ∧ Kept (fun k => k = db) w w' := by
  obtain ⟨i0, hi, hz0, hz1, hz2⟩ := info_parts info8
  obtain ⟨k, hk⟩ : ∃ k, k = to - d.length := ⟨_, rfl⟩
  have kF := Hd.fill_any none 0 [] k (by omega) w (.inl rfl)
  rw [rep_fill] at kF
  simp only [List.length_nil] at kF
  obtain ⟨n, hn⟩ : ∃ n, n = d.length := ⟨_, rfl⟩
  rw [← hn] at hown h1 hk ⊢
  rw [← hk]
  have hk2 : (to : Int) - (n : Int) = (k : Int) := by omega
  have HO : Hid (w.ownsRow 0 5 1 (.slice (some ⟨db, 0, none⟩) n dcap) n (d.map u8v)) := hown
  have HL : Hid (n + k = to) := by show _ = _; omega
  have HF : Hid (n + k ≤ dcap) := by show _ ≤ _; omega
  have HLn : Hid (((List.replicate k 255).map u8v).length = k * 1) := by show _ = _; simp
  have t1 : (to : Int) ≤ 1048576 := by omega
  have t2 : (n : Int) ≤ 1048576 := by omega
  clear hown hn hk h1 h2 h3
  go_enter Tryz.func148, Tryz.ntmps148
  go_wp2_with (first
    | (go_at_call 189; refine kF.mono ?_; rintro e w1 ⟨rfl, ho1⟩; have HO1 : Hid (w1.ownsRow 0 5 1 (.slice (some ⟨db, 0, none⟩) n dcap) n (d.map u8v)) := owns_later HO.out ho1.2; have HC1 : Hid (∀ j u, ((List.replicate k 255).map u8v)[j]? = some u → w1.cell? ((⟨w.heap.size, 0, none⟩ : Addr).add j) = some u) := ho1.1.cells (g := w.heap.size) rfl; have HB1 : Hid (Below w.heap.size w w1) := ho1.2; clear ho1)
    | (at_builtin; refine wpList_append_fits _ rfl (.tmp 5) (.tmp 10) 56 rfl 0 5 i0 1 Tryz.underlying56 hi hz1 db n dcap _ rfl HO1.out ⟨w.heap.size, 0, none⟩ k k ((List.replicate k 255).map u8v) rfl HLn.out HC1.out (u8v_one _) HF.out ?_; intro w3 hown3 hgrow3; have HO3 : Hid (w3.ownsRow 0 5 1 (.slice (some ⟨db, 0, none⟩) (n + k) dcap) (n + k) (d.map u8v ++ (List.replicate k 255).map u8v)) := hown3; have HG3 : Hid (Kept (fun k => k = db) w w3) := (Kept.of_below HB1.out).trans (kept_grow1 hgrow3); clear hown3 hgrow3))
  go_ret
  refine ⟨?_, ?_, HG3.out⟩
  · have := HL.out
    rw [← this]; rfl
  · have := HO3.out
    rw [HL.out] at this
    rw [List.map_append]
    exact this
end Go.Proofs.YtkfecngkdlajgaaGreatDoor
namespace Go.Proofs.YtkfecngkdlajgaaGreatDoor
open Go.RowKit Go.Extern.Stop Go.Stop Go.Extern
set_option maxRecDepth 10000

/-- The pages of bytes, from one on, so many. -/
def pgsL (gz : Nat) (d : List Nat) (a : Nat) : Nat → List (List Nat)
  | 0 => []
  | n + 1 => pgsL gz d a n ++ [(d.drop ((a + n) * gz)).take gz]
theorem pgsL_length (gz : Nat) (d : List Nat) (a : Nat) : ∀ n, (pgsL gz d a n).length = n
  | 0 => rfl
  | n + 1 => by simp [pgsL, pgsL_length gz d a n]
theorem pgsL_flat (gz : Nat) (d : List Nat) (a : Nat) : ∀ n, d.take (a * gz) ++ (pgsL gz d a n).flatten = d.take ((a + n) * gz)
  | 0 => by simp [pgsL]
  | n + 1 => by
    rw [pgsL, List.flatten_append, ← List.append_assoc, pgsL_flat gz d a n]
    rw [show (a + (n + 1)) * gz = (a + n) * gz + gz by rw [← Nat.add_assoc, Nat.add_mul, Nat.one_mul]]
    rw [List.take_add]
    simp
/-- What settle leaves behind k pages. -/
structure Stl (base t : Nat) (w : World) (m : Mg) (c : CS) (P : List (List (List Nat))) (l : Lm) (d : List Nat) (k : Nat) (w' : World) (m' : Mg) (c' : CS) (P' : List (List (List Nat))) : Prop where
  ms : Ms base (t + k) w' m' c' P'
  gm : Gm c c'
  p : m'.p = m.p
  ft : MFoot m' c' = MFoot m c
  kp : Kept (MFoot m c) w w'
  els : ∀ o : Int, o ≠ (l.leb : Nat) → cont m'.bl P' o = cont m.bl P o
  con : (cont m'.bl P' (l.leb : Nat)).getD [] = (cont m.bl P (l.leb : Nat)).getD [] ++ pgsL c.gz d l.np k
theorem Stl.zero {base t : Nat} {w : World} {m : Mg} {c : CS} {P : List (List (List Nat))} {l : Lm} {d : List Nat} (h : Ms base t w m c P) : Stl base t w m c P l d 0 w m c P :=
  ⟨h, Gm.refl c, rfl, rfl, Kept.refl _ _, fun _ _ => rfl, by simp [pgsL]⟩
theorem Stl.later {base t k : Nat} {w w1 w2 : World} {m m' : Mg} {c c' : CS} {P P' : List (List (List Nat))} {l : Lm} {d : List Nat} (h : Stl base t w m c P l d k w1 m' c' P') (hb : Below w1.heap.size w1 w2) : Stl base t w m c P l d k w2 m' c' P' :=
  ⟨h.ms.later hb, h.gm, h.p, h.ft, h.kp.trans (.of_below hb), h.els, h.con⟩
theorem page_len {gz : Nat} {d : List Nat} {i : Nat} (h : (i + 1) * gz ≤ d.length) : ((d.drop (i * gz)).take gz).length = gz := by
  rw [Nat.add_mul, Nat.one_mul] at h
  simp
  omega
theorem Stl.write {base t k : Nat} {w w1 : World} {m m' : Mg} {c c' : CS} {P P' : List (List (List Nat))} {l : Lm} {d : List Nat} (h : Stl base t w m c P l d k w1 m' c' P') (hA : LAt w l d) (hap : ∀ k, LFoot l k → ¬ MFoot m c k)
    (hleb : (l.leb : Int) + c.gr + 2 < c.gb) (hnp : l.np = ((cont m.bl P (l.leb : Nat)).getD []).length) (hk : (l.np + k + 1) * c.gz ≤ d.length) (hgp : 2 + (l.np + k) < c.gp) (ht : t + k < 2000000000) :
    Calls Tryz.prog 190 #[.pointer (some ⟨m.p, 0, none⟩), .int .i64 (l.leb : Nat), .slice (some ⟨l.db, (l.np + k) * c.gz, none⟩) c.gz c.gz] w1 fun e w' => e = .returned (.int .i64 0) ∧ ∃ m2 c2 P2, Stl base t w m c P l d (k + 1) w' m2 c2 P2 := by
  have hA1 : LAt w1 l d := hA.kept h.kp hap
  have hdt := hA1.sub (S := MFoot m' c') (by rw [h.ft]; exact hap _ (.inr (.inl rfl))) ((l.np + k) * c.gz) c.gz
  have hlen := page_len hk
  have hgz := h.gm.gz
  have hlc : ((cont m'.bl P' (l.leb : Nat)).getD []).length = l.np + k := by rw [h.con, List.length_append, pgsL_length, ← hnp]
  have := write_go h.ms l.leb c.gz (some ⟨l.db, (l.np + k) * c.gz, none⟩) _ hdt (by rw [h.gm.gr, h.gm.gb]; exact hleb) (by rw [hlen, hgz]; exact Nat.le_refl _) (by rw [hlc, h.gm.gp]; exact hgp) (by omega)
  rw [hlen, h.p] at this
  refine this.mono ?_
  rintro e w' ⟨rfl, m2, c2, P2, h1, h2, h3, h4, h5, h6⟩
  refine ⟨rfl, m2, c2, P2, h1, h.gm.trans h3, h4.trans h.p, h5.trans h.ft, h.kp.trans (by rw [h.ft] at h6; exact h6), fun o ho => ?_, ?_⟩
  · have h7 := h2 o
    simp only [if_neg ho] at h7
    rw [h7]
    exact h.els o ho
  · have h7 := h2 (l.leb : Nat)
    simp only [if_true] at h7
    rw [h7, Option.getD_some, h.con, hgz, fillP_full hlen, List.append_assoc]
    rfl
/-- What settle leaves: N pages are written. -/
def Settled (base t : Nat) (w : World) (m : Mg) (c : CS) (P : List (List (List Nat))) (l : Lm) (d : List Nat) (N n : Nat) (w' : World) : Prop :=
  ∃ w1 m' c' P', Stl base t w m c P l d (N - l.np) w1 m' c' P' ∧ w' = (w1.setCell ⟨l.p, 2, none⟩ (.slice (some ⟨l.db, 0, none⟩) n l.dcap)).setCell ⟨l.p, 3, none⟩ (.int .i64 (N : Nat))
set_option maxHeartbeats 4000000 in
theorem settle_any {base t : Nat} {w : World} {m : Mg} {c : CS} {P : List (List (List Nat))} {l : Lm} {d : List Nat} (hM : Ms base t w m c P) (hA : LAt w l d) (hmp : l.mp = m.p) (hap : ∀ k, LFoot l k → ¬ MFoot m c k)
    (hleb : (l.leb : Int) + c.gr + 2 < c.gb) (hcap : l.dcap = (c.gp - 2) * c.gz) (hnp : l.np = ((cont m.bl P (l.leb : Nat)).getD []).length) (hlo : l.np * c.gz ≤ d.length) (ht : t < 1900000000) :
    Calls Tryz.prog 150 #[.pointer (some ⟨l.p, 0, none⟩), .slice (some ⟨l.db, 0, none⟩) d.length l.dcap] w fun e w' => e = .returned (.int .i64 0) ∧ Settled base t w m c P l d (d.length / c.gz) d.length w' := by
  have hg := hM.rp.rb.geo
  have hdl := hA.cap.1
  have h62 : (c.gp - 2) * c.gz ≤ 62 * 512 := Nat.mul_le_mul (by omega) (by omega)
  obtain ⟨N, hN⟩ : ∃ N, N = d.length / c.gz := ⟨_, rfl⟩
  have hdm := Nat.div_add_mod d.length c.gz
  have hml := Nat.mod_lt d.length (show 0 < c.gz by omega)
  rw [← hN] at hdm
  have hnN : l.np ≤ N := by rw [hN]; exact (Nat.le_div_iff_mul_le (by omega)).2 hlo
  have hNg : N ≤ c.gp - 2 := by
    rw [hN]
    have : d.length / c.gz ≤ (c.gp - 2) * c.gz / c.gz := Nat.div_le_div_right (by omega)
    rw [Nat.mul_div_cancel _ (by omega)] at this
    exact this
  have HW : Hid (∀ k w1 m' c' P', l.np + k < N → Stl base t w m c P l d k w1 m' c' P' → Calls Tryz.prog 190 #[.pointer (some ⟨m.p, 0, none⟩), .int .i64 (l.leb : Nat), .slice (some ⟨l.db, (l.np + k) * c.gz, none⟩) c.gz c.gz] w1 fun e w' => e = .returned (.int .i64 0) ∧ ∃ m2 c2 P2, Stl base t w m c P l d (k + 1) w' m2 c2 P2) := fun k w1 m' c' P' hk hs =>
    hs.write hA hap hleb hnp (by
      have : (l.np + k + 1) * c.gz ≤ N * c.gz := Nat.mul_le_mul_right _ (by omega)
      rw [Nat.mul_comm N c.gz] at this
      omega) (by omega) (by omega)
  have HA : Hid (∀ w1 m' c' P' k, Stl base t w m c P l d k w1 m' c' P' → LAt w1 l d) := fun w1 m' c' P' k hs => hA.kept hs.kp hap
  have HZ : Hid (Stl base t w m c P l d 0 w m c P) := Stl.zero hM
  have HPg : Hid (∀ X, Below w.heap.size w X → Calls Tryz.prog 67 #[.pointer (some ⟨m.p, 0, none⟩)] X fun e w' => e = .returned (.int .i64 c.gz) ∧ Below X.heap.size X w') := fun X hb => mpage_any (hM.later hb).ml
  have HMP : Hid (l.mp = m.p) := hmp
  obtain ⟨n, hn⟩ : ∃ n, n = d.length := ⟨_, rfl⟩
  obtain ⟨gz, hgz⟩ : ∃ gz, gz = c.gz := ⟨_, rfl⟩
  rw [← hn, ← hgz] at hdm hml hlo
  rw [← hN, ← hn]
  rw [← hgz] at hg HW HPg
  have HFR : Hid (∀ k, k + 1 ≤ N → (k + 1) * gz ≤ n) := fun k hk => by
    have : (k + 1) * gz ≤ N * gz := Nat.mul_le_mul_right _ hk
    rw [Nat.mul_comm N gz] at this
    omega
  have HFN : Hid (n < (N + 1) * gz) := by
    show _ < _
    rw [Nat.add_mul, Nat.one_mul, Nat.mul_comm N gz]
    omega
  have g1 : (64 : Int) ≤ (gz : Int) := by omega
  have g2 : (gz : Int) ≤ 512 := by omega
  have HNP : Hid (l.np ≤ N ∧ N ≤ 62 ∧ n ≤ l.dcap ∧ l.dcap ≤ 31744) := ⟨hnN, by omega, by omega, by omega⟩
  have e1 : (l.np : Int) ≤ 62 := by omega
  have e2 : (n : Int) ≤ (l.dcap : Int) := by omega
  have e3 : (l.dcap : Int) ≤ 31744 := by omega
  have HLA : Hid (LAt w l d) := hA
  have ne := Wd.non w
  have z0 : ∀ p : Wd w, p.v.cell? ⟨l.p, 0, none⟩ = some (.pointer (some ⟨m.p, 0, none⟩)) := fun p => by rw [← HMP.out]; exact (hA.later p.h).cells.1
  have z3 : ∀ p : Wd w, p.v.cell? ⟨l.p, 3, none⟩ = some (.int .i64 (l.np : Nat)) := fun p => (hA.later p.h).cells.2.2.2.1
  have cZ := fun p : Wd w => quiet_call p (HPg.out p.v p.h)
  obtain ⟨q0, hq0⟩ : ∃ q0, q0 = (l.np + 1) * gz := ⟨_, rfl⟩
  have e4 : ((l.np : Int) + 1) * (gz : Int) = (q0 : Int) := by rw [hq0]; simp
  have e5 : (q0 : Int) ≤ 32256 := by
    have : (l.np + 1) * gz ≤ 63 * 512 := Nat.mul_le_mul (by omega) (by omega)
    omega
  have HQ0 : Hid (q0 = (l.np + 1) * gz) := hq0
  clear hq0
  clear hM hA hmp hap hleb hcap hnp hlo ht hdl h62 hN hdm hml hnN hNg hn hgz hg
  go_enter Tryz.func150, Tryz.ntmps150
  go_wp2_with fail
  refine quiet_below (by kernel_rfl) ?_
  repeat (first | go_big_quiet_skip | go_big_quiet_step (first | (go_at_call 67; exact cZ _)))
  refine wpQuiet_nil ?_
  rintro _ ⟨p4, rfl⟩
  obtain ⟨w4, hw4⟩ : ∃ W, W = p4.v := ⟨_, rfl⟩
  have HS4 : Hid (Stl base t w m c P l d 0 w4 m c P) := by rw [hw4]; exact HZ.out.later p4.h
  rw [← hw4]
  clear hw4 z0 z3 cZ ne
  clear p4
  go_wp2
  clear e4 e5
  go_loopg [6, 7] (N - l.np) (fun kx s6 s7 wr => ∃ k m' c' P', l.np + k + kx = N ∧ s6 = .int .i64 ((l.np + k : Nat) : Int) ∧ s7 = .int .i64 (((l.np + k + 1) * gz : Nat) : Int) ∧ Hid (Stl base t w m c P l d k wr m' c' P'))
  case atStart => exact ⟨0, m, c, P, by have := HNP.out; omega, rfl, by rw [HQ0.out], HS4⟩
  case round =>
    obtain ⟨k, m', c', P', hk, rfl, rfl, HS⟩ := hrel
    obtain ⟨j, hj⟩ : ∃ j, j = l.np + k := ⟨_, rfl⟩
    rw [← hj] at hk ⊢
    have HJ : Hid (j = l.np + k) := hj
    obtain ⟨q, hq⟩ : ∃ q, q = (j + 1) * gz := ⟨_, rfl⟩
    rw [← hq]
    have HQ : Hid (q = (j + 1) * gz) := hq
    have hjN : j ≤ N := by omega
    have j1 : (j : Int) ≤ 62 := by have := HNP.out; omega
    have q5 : q ≤ 63 * 512 := by
      have := HNP.out
      rw [hq]; exact Nat.mul_le_mul (by omega) (by omega)
    have q6 : gz ≤ q := by rw [hq, Nat.add_mul, Nat.one_mul]; omega
    have q7 : q - gz = j * gz := by rw [hq, Nat.add_mul, Nat.one_mul]; omega
    by_cases hlt : j < N
    · have q8 : q ≤ n := by rw [hq]; exact HFR.out j (by omega)
      have kW := HW.out k wr m' c' P' (by rw [← hj]; exact hlt) HS.out
      rw [← hj, ← q7] at kW
      have hla := HA.out _ _ _ _ _ HS.out
      obtain ⟨c0, c1, c2, c3, c4, c5⟩ := hla.cells
      rw [HMP.out] at c0
      obtain ⟨y, hy⟩ : ∃ y, y = q - gz := ⟨_, rfl⟩
      rw [← hy] at kW q7
      have HY : Hid (y = j * gz) := q7
      have r1 : (q : Int) ≤ (n : Int) := by omega
      have r2 : (gz : Int) ≤ (q : Int) := by omega
      have r3 : (q : Int) ≤ 32256 := by omega
      have r4 : (q : Int) - (gz : Int) = (y : Int) := by omega
      have rw4 : IntKind.i64.wrap (y : Int) = (y : Int) := by rw [IntKind.wrap_i64]; omega
      have r5 : (y : Int) ≤ (q : Int) := by omega
      have r6 : (q : Int) ≤ (l.dcap : Int) := by omega
      have r0 : (0 : Int) ≤ (y : Int) := by omega
      have r7 : q - y = gz := by omega
      have r8 : ¬ q = y := by omega
      have r9 : ¬ gz = 0 := by omega
      clear hj hq q7 hla c2 c3 c4 c5 hy
      have kW' : Calls Tryz.prog 190 #[.pointer (some ⟨m.p, 0, none⟩), .int .i64 (l.leb : Nat), .slice (some ⟨l.db, y, none⟩) gz gz] wr.drew fun e w' => e = .returned (.int .i64 0) ∧ ∃ m2 c2 P2, Stl base t w m c P l d (k + 1) w' m2 c2 P2 := by
        have := HW.out k wr.drew m' c' P' (by rw [← HJ.out]; exact hlt) (HS.out.later (below_drew' wr))
        rw [← HJ.out, ← HY.out] at this
        exact this
      clear kW
      go_wp2
      go_region_held3 (fun w' => w'.cell? ⟨l.p, 0, none⟩ = some (.pointer (some ⟨m.p, 0, none⟩)) ∧ w'.cell? ⟨l.p, 1, none⟩ = some (.int .i64 (l.leb : Nat))) (first | assumption | go_keep) (first
        | (go_at_call 190; refine kW'.mono ?_; rintro e w5 ⟨rfl, m2, c2, P2, hs5⟩; have HS5 : Hid (Stl base t w m c P l d (k + 1) w5 m2 c2 P2) := hs5; have hl5 := HA.out _ _ _ _ _ hs5; have b0 := hl5.cells.1; have b1 := hl5.cells.2.1; rw [HMP.out] at b0; clear hs5 hl5))
      go_wp2
      go_roundg (N - (j + 1))
      case measure => omega
      case rel =>
        refine ⟨k + 1, m2, c2, P2, by have := HJ.out; omega, ?_, ?_, HS5⟩
        · have := HJ.out
          rw [show l.np + (k + 1) = j + 1 by omega]
          go_num
        · have := HJ.out
          rw [show l.np + (k + 1) + 1 = j + 1 + 1 by omega, Nat.add_mul (j + 1) 1, Nat.one_mul, ← HQ.out]
          go_num
    · have HJN : Hid (j = N) := by show _ = _; omega
      have q9 : ¬ (q : Int) ≤ (n : Int) := by
        have := HFN.out
        rw [HJN.out] at hq
        omega
      have hla := HA.out _ _ _ _ _ HS.out
      have hlp := hla.box.lt
      have f2 := hla.box.frozen 2
      have f3 := hla.box.frozen 3
      obtain ⟨c0, c1, c2, c3, c4, c5⟩ := hla.cells
      clear hj hq q7 hla
      go_wp2
      go_ret
      refine ⟨rfl, wr, m', c', P', ?_, ?_⟩
      · rw [show N - l.np = k by have := HJ.out; have := HJN.out; omega]
        exact HS.out
      · have := HJN.out
        rw [this]
end Go.Proofs.YtkfecngkdlajgaaGreatDoor
