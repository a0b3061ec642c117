/-
  Where a frame begins, Round, Fits: what they answer.
  The reader of a log's bytes: skip.
  The reader of a log's bytes: next.
  The reader of a log's bytes: next, where no frame stands.
-/
import Derived.Test.YtkfecngkdlajgaaGreatDoorQB
import Derived.Test.YtkfecngkdlajgaaGreatDoorKA
import Derived.Test.YtkfecngkdlajgaaGreatDoorGB
import Derived.Test.YtkfecngkdlajgaaGreatDoorKH
import Derived.Deep.RegionHeld3
import Derived.Laws.ResultCell
namespace Go.Proofs.YtkfecngkdlajgaaGreatDoor
open Go.RowKit
set_option maxRecDepth 10000

theorem bgn_yes {q page : Nat} (h : ((q : Int) % (page : Int) == (page : Int) - 1) = true) (hp : 1 ≤ page) : bgn page q = q + 1 := by
  have h1 : (q : Int) % (page : Int) = (page : Int) - 1 := eq_of_beq h
  unfold bgn
  rw [if_pos]
  have : ((q % page : Nat) : Int) = (q : Int) % (page : Int) := by simp
  omega
theorem bgn_no {q page : Nat} (h : ((q : Int) % (page : Int) == (page : Int) - 1) = false) (hp : 1 ≤ page) : bgn page q = q := by
  unfold bgn
  rw [if_neg]
  intro e
  have : ((q % page : Nat) : Int) = (q : Int) % (page : Int) := by simp
  have h1 : (q : Int) % (page : Int) = (page : Int) - 1 := by omega
  rw [h1] at h
  simp at h
set_option maxHeartbeats 400000 in
theorem begin_any (q page : Nat) (w : World) (hp : 1 ≤ page) (hp2 : page ≤ 1073741824) (hq : q ≤ 4294967296) :
    Calls Tryz.prog 149 #[.int .i64 (q : Nat), .int .i64 (page : Nat)] w fun e w' => e = .returned (.int .i64 (bgn page q : Nat)) ∧ w = w' := by
  have p1 : (1 : Int) ≤ (page : Int) := by omega
  have p2 : (page : Int) ≤ 1073741824 := by omega
  have q2 : (q : Int) ≤ 4294967296 := by omega
  have p3 : ¬ (page : Int) = 0 := by omega
  have HP : Hid (1 ≤ page) := hp
  clear hp hp2 hq
  go_enter Tryz.func149, Tryz.ntmps149
  go_wp2
  · go_ret
    exact ⟨ret_int (by rw [bgn_yes ‹_› HP.out]; omega), rfl⟩
  · go_ret
    exact ⟨ret_int (by rw [bgn_no ‹_› HP.out]), rfl⟩
theorem rup_yes {q page : Nat} (h : ((q : Int) % (page : Int) == 0) = true) : rup page q = q := by
  have h1 : (q : Int) % (page : Int) = 0 := eq_of_beq h
  unfold rup
  rw [if_pos]
  have : ((q % page : Nat) : Int) = (q : Int) % (page : Int) := by simp
  omega
theorem rup_no {q page : Nat} (h : ((q : Int) % (page : Int) == 0) = false) (hp : 1 ≤ page) : ((rup page q : Nat) : Int) = (q : Int) + ((page : Int) - (q : Int) % (page : Int)) := by
  have e : ((q % page : Nat) : Int) = (q : Int) % (page : Int) := by simp
  have hl := Nat.mod_lt q (show 0 < page by omega)
  unfold rup
  rw [if_neg]
  · omega
  · intro e2
    rw [← e, e2] at h
    simp at h
set_option maxHeartbeats 400000 in
theorem round_any (q page : Nat) (w : World) (hp : 1 ≤ page) (hp2 : page ≤ 1073741824) (hq : q ≤ 4294967296) :
    Calls Tryz.prog 152 #[.int .i64 (q : Nat), .int .i64 (page : Nat)] w fun e w' => e = .returned (.int .i64 (rup page q : Nat)) ∧ w = w' := by
  have p1 : (1 : Int) ≤ (page : Int) := by omega
  have p2 : (page : Int) ≤ 1073741824 := by omega
  have q2 : (q : Int) ≤ 4294967296 := by omega
  have p3 : ¬ (page : Int) = 0 := by omega
  have p4 : ¬ (page : Int) < 1 := by omega
  have q3 : ¬ (q : Int) < 0 := by omega
  have m1 : 0 ≤ (q : Int) % (page : Int) := Int.emod_nonneg _ p3
  have m2 : (q : Int) % (page : Int) < (page : Int) := Int.emod_lt_of_pos _ (by omega)
  have HP : Hid (1 ≤ page) := hp
  clear hp hp2 hq
  cases hz : ((q : Int) % (page : Int) == 0) with
  | true =>
    have HZ : Hid (rup page q = q) := rup_yes hz
    have hz2 : (q : Int) % (page : Int) = 0 := eq_of_beq hz
    clear hz
    go_enter Tryz.func152, Tryz.ntmps152
    go_wp2
    go_ret
    exact ⟨ret_int (by rw [HZ.out]), rfl⟩
  | false =>
    have HZ : Hid (((rup page q : Nat) : Int) = (q : Int) + ((page : Int) - (q : Int) % (page : Int))) := rup_no hz HP.out
    have hz2 : ¬ (q : Int) % (page : Int) = 0 := by intro e; rw [e] at hz; simp at hz
    obtain ⟨r, hr⟩ : ∃ r, r = (q : Int) % (page : Int) := ⟨_, rfl⟩
    rw [← hr] at m1 m2 hz2 HZ
    have hr2 : (q : Int) % (page : Int) = r := hr.symm
    clear hz hr
    go_enter Tryz.func152, Tryz.ntmps152
    go_wp2
    go_ret
    exact ⟨ret_int (by rw [HZ.out]), rfl⟩
end Go.Proofs.YtkfecngkdlajgaaGreatDoor
namespace Go.Proofs.YtkfecngkdlajgaaGreatDoor
open Go.RowKit Go.Extern.Stop Go.Stop Go.Extern
set_option maxRecDepth 10000

/-- A reader lies in memory: its bytes, the page's size, where it stands, whether it met something else. -/
structure Rdr (w : World) (Br g cap : Nat) (b : List Nat) (gz q : Nat) (sp : Bool) : Prop where
  box : Row w Br [.slice (some ⟨g, 0, none⟩) b.length cap, .int .i64 (gz : Nat), .int .i64 (q : Nat), .bool sp] 169
  dat : ∀ i, i < b.length → w.cell? ⟨g, i, none⟩ = some (.int .u8 ((b.getD i 0 : Nat) : Int))
  ne : g ≠ Br
theorem Rdr.holds {K : Nat → Prop} {w w' : World} {Br g cap : Nat} {b : List Nat} {gz q : Nat} {sp : Bool} (h : Rdr w Br g cap b gz q sp) (hk : Holds K w w') (h1 : K Br) (h2 : K g) : Rdr w' Br g cap b gz q sp :=
  ⟨h.box.same (hk _ h1), fun i hi => (World.cell?_of_block (a := ⟨g, i, none⟩) (hk _ h2)).trans (h.dat i hi), h.ne⟩
theorem Rdr.kept {S : Nat → Prop} {w w' : World} {Br g cap : Nat} {b : List Nat} {gz q : Nat} {sp : Bool} (h : Rdr w Br g cap b gz q sp) (hk : Kept S w w') (h1 : ¬ S Br) (h2 : ¬ S g) : Rdr w' Br g cap b gz q sp :=
  ⟨h.box.kept hk h1, fun i hi => (World.cell?_of_block (a := ⟨g, i, none⟩) (hk.block g (World.block_lt_of_cell? w _ (h.dat i hi)) h2)).trans (h.dat i hi), h.ne⟩
theorem Rdr.later {w w' : World} {Br g cap : Nat} {b : List Nat} {gz q : Nat} {sp : Bool} (h : Rdr w Br g cap b gz q sp) (hb : Below w.heap.size w w') : Rdr w' Br g cap b gz q sp :=
  h.kept (S := fun _ => False) (.of_below hb) (fun e => e) (fun e => e)
theorem Rdr.setAt {w : World} {Br g cap : Nat} {b : List Nat} {gz q : Nat} {sp : Bool} (h : Rdr w Br g cap b gz q sp) (k : Nat) : Rdr (w.setCell ⟨Br, 2, none⟩ (.int .i64 (k : Nat))) Br g cap b gz k sp :=
  ⟨h.box.set (i := 2) (.int .i64 (k : Nat)) (by simp), fun i hi => (World.cell?_of_block (a := ⟨g, i, none⟩) (Below.heap_setCell _ _ _ _ h.ne)).trans (h.dat i hi), h.ne⟩
theorem Rdr.setSp {w : World} {Br g cap : Nat} {b : List Nat} {gz q : Nat} {sp : Bool} (h : Rdr w Br g cap b gz q sp) (s : Bool) : Rdr (w.setCell ⟨Br, 3, none⟩ (.bool s)) Br g cap b gz q s :=
  ⟨h.box.set (i := 3) (.bool s) (by simp), fun i hi => (World.cell?_of_block (a := ⟨g, i, none⟩) (Below.heap_setCell _ _ _ _ h.ne)).trans (h.dat i hi), h.ne⟩
theorem Rdr.cells {w : World} {Br g cap : Nat} {b : List Nat} {gz q : Nat} {sp : Bool} (h : Rdr w Br g cap b gz q sp) : w.cell? ⟨Br, 0, none⟩ = some (.slice (some ⟨g, 0, none⟩) b.length cap) ∧ w.cell? ⟨Br, 1, none⟩ = some (.int .i64 (gz : Nat)) ∧ w.cell? ⟨Br, 2, none⟩ = some (.int .i64 (q : Nat)) ∧ w.cell? ⟨Br, 3, none⟩ = some (.bool sp) :=
  ⟨h.box.cell (i := 0) rfl, h.box.cell (i := 1) rfl, h.box.cell (i := 2) rfl, h.box.cell (i := 3) rfl⟩
theorem Rdr.piece {w : World} {Br g cap : Nat} {b : List Nat} {gz q : Nat} {sp : Bool} (h : Rdr w Br g cap b gz q sp) (i n : Nat) : Hd.BRow w (some ⟨g, i, none⟩) ((b.drop i).take n) := by
  refine .inr ⟨g, i, rfl, fun k hk => ?_⟩
  simp only [List.length_take, List.length_drop] at hk
  rw [h.dat (i + k) (by omega)]
  simp only [List.getD, List.getElem?_take, List.getElem?_drop]
  rw [if_pos (by omega)]
theorem Rdr.rest {w : World} {Br g cap : Nat} {b : List Nat} {gz q : Nat} {sp : Bool} (h : Rdr w Br g cap b gz q sp) (i : Nat) : Hd.BRow w (some ⟨g, i, none⟩) (b.drop i) := by
  have := h.piece i (b.length - i)
  rw [List.take_of_length_le (by simp)] at this
  exact this
/-- Is a piece of the bytes blank? -/
theorem Rdr.blank {w : World} {Br g cap : Nat} {b : List Nat} {gz q : Nat} {sp : Bool} (h : Rdr w Br g cap b gz q sp) (i n c : Nat) (hn : i + n ≤ b.length) (hb : b.length ≤ 31744) :
    Calls Tryz.prog 141 #[.slice (some ⟨g, i, none⟩) n c] w fun e w' => e = .returned (.bool (blk ((b.drop i).take n))) ∧ w = w' := by
  have hl : ((b.drop i).take n).length = n := by simp; omega
  have := Hd.blank_any (some ⟨g, i, none⟩) c ((b.drop i).take n) w (by rw [hl]; unfold maxLen; omega) (h.piece i n)
  rw [hl] at this
  exact this
set_option maxHeartbeats 2000000 in
theorem skip_any {w : World} {Br g cap : Nat} {b : List Nat} {gz q N : Nat} (h : Rdr w Br g cap b gz q false) (hgz : 64 ≤ gz ∧ gz ≤ 512) (hc : b.length ≤ cap ∧ cap ≤ 31744) (hN : b.length = gz * N) (hq : q < b.length) :
    Calls Tryz.prog 142 #[.pointer (some ⟨Br, 0, none⟩)] w fun e w' => e = .returned (.tuple #[]) ∧ Rdr w' Br g cap b gz (if okS gz b q then rup gz (q + 1) else q) (!okS gz b q) ∧ Kept (fun k => k = Br) w w' := by
  obtain ⟨e0, he0⟩ : ∃ e0, e0 = rup gz (q + 1) := ⟨_, rfl⟩
  have g1 := rup_ge (page := gz) (q + 1) (by omega)
  have g2 : rup gz (q + 1) ≤ gz * N := rup_fit (by omega) (by omega)
  rw [← hN] at g2
  have HO : Hid (okS gz b q = blk ((b.drop q).take (e0 - q))) := by show _ = _; unfold okS; rw [he0]
  rw [← he0] at g1 g2 ⊢
  obtain ⟨n, hn⟩ : ∃ n, n = b.length := ⟨_, rfl⟩
  have HN : Hid (n = b.length) := hn
  have HR : Hid (Rdr w Br g cap b gz q false) := h
  obtain ⟨R, hR⟩ : ∃ R, R = okS gz b q := ⟨_, rfl⟩
  rw [← hR] at HO ⊢
  rw [← hn] at hc hN hq g2
  have ne := Wd.non w
  have z1 : ∀ p : Wd w, p.v.cell? ⟨Br, 1, none⟩ = some (.int .i64 (gz : Nat)) := fun p => (HR.out.later p.h).cells.2.1
  have z2 : ∀ p : Wd w, p.v.cell? ⟨Br, 2, none⟩ = some (.int .i64 (q : Nat)) := fun p => (HR.out.later p.h).cells.2.2.1
  have cR := fun p : Wd w => quiet_same p (by have := round_any (q + 1) gz p.v (by omega) (by omega) (by omega); rw [← he0, show (((q + 1 : Nat)) : Int) = (q : Int) + 1 by omega] at this; exact this)
  have i1 : (q : Int) < (e0 : Int) := by omega
  have i2 : (e0 : Int) ≤ (n : Int) := by omega
  have i3 : (n : Int) ≤ (cap : Int) := by omega
  have i4 : (cap : Int) ≤ 31744 := by omega
  have i5 : ¬ cap = q := by omega
  have i6 : (q : Int) ≤ (e0 : Int) := by omega
  have HE : Hid (q + (e0 - q) ≤ b.length ∧ b.length ≤ 31744) := by show _ ∧ _; omega
  clear h hgz hc hN hq g1 g2 he0 hn hR
  go_enter Tryz.func142, Tryz.ntmps142
  go_wp2_with fail
  refine quiet_below (by kernel_rfl) ?_
  repeat (first | go_big_quiet_skip | go_big_quiet_step (first | (go_at_call 152; exact cR _)))
  refine wpQuiet_nil ?_
  rintro _ ⟨p4, rfl⟩
  obtain ⟨w4, hw4⟩ : ∃ W, W = p4.v := ⟨_, rfl⟩
  have HB4 : Hid (Below w.heap.size w w4) := by rw [hw4]; exact p4.h
  have HR4 : Hid (Rdr w4 Br g cap b gz q false) := HR.out.later HB4.out
  rw [← hw4]
  clear hw4 z1 z2 cR ne
  clear p4
  have ne := Wd.non w4
  have z0 : ∀ p : Wd w4, p.v.cell? ⟨Br, 0, none⟩ = some (.slice (some ⟨g, 0, none⟩) n cap) := fun p => by rw [HN.out]; exact (HR4.out.later p.h).cells.1
  have z2 : ∀ p : Wd w4, p.v.cell? ⟨Br, 2, none⟩ = some (.int .i64 (q : Nat)) := fun p => (HR4.out.later p.h).cells.2.2.1
  have cB := fun (p : Wd w4) (c : Nat) => quiet_same p (by have := (HR4.out.later p.h).blank q (e0 - q) c HE.out.1 HE.out.2; rw [← HO.out] at this; exact this)
  go_wp2_with fail
  refine quiet_below (by kernel_rfl) ?_
  repeat (first | go_big_quiet_skip | go_big_quiet_step (first | (go_at_call 141; exact cB _ _)))
  refine wpQuiet_nil ?_
  rintro _ ⟨p5, rfl⟩
  obtain ⟨w5, hw5⟩ : ∃ W, W = p5.v := ⟨_, rfl⟩
  have HB5 : Hid (Below w.heap.size w w5) := by rw [hw5]; exact Below.after HB4.out p5.h
  have HR5 : Hid (Rdr w5 Br g cap b gz q false) := HR.out.later HB5.out
  rw [← hw5]
  clear hw5 z0 z2 cB ne
  clear p5
  have c2 := HR5.out.cells.2.2.1
  have c3 := HR5.out.cells.2.2.2
  have f2 := HR5.out.box.frozen 2
  have f3 := HR5.out.box.frozen 3
  cases R with
  | true =>
    go_wp2
    go_end0
    exact ⟨rfl, HR5.out.setAt e0, Kept.setCell (S := fun k => k = Br) (Kept.of_below HB5.out) (p := ⟨Br, 2, none⟩) rfl _⟩
  | false =>
    go_wp2
    refine bodyPost_ret (results_none rfl _ _ _) rfl ?_
    exact ⟨rfl, HR5.out.setSp true, Kept.setCell (S := fun k => k = Br) (Kept.of_below HB5.out) (p := ⟨Br, 3, none⟩) rfl _⟩
end Go.Proofs.YtkfecngkdlajgaaGreatDoor
namespace Go.Proofs.YtkfecngkdlajgaaGreatDoor
open Go.RowKit Go.Extern.Stop Go.Stop Go.Extern
set_option maxRecDepth 10000

set_option maxHeartbeats 8000000 in
theorem next_yes {w : World} {Br g cap : Nat} {b : List Nat} {gz q N : Nat} (h : Rdr w Br g cap b gz q false) (hgz : 64 ≤ gz ∧ gz ≤ 512) (hc : b.length ≤ cap ∧ cap ≤ 31744) (hN : b.length = gz * N) (hq : q < b.length) (hlt : ∀ x ∈ b, x < 256) (hf : isF b q = true) :
    Calls Tryz.prog 143 #[.pointer (some ⟨Br, 0, none⟩)] w fun e w' => e = .returned (.tuple #[.agg #[.int .i64 (q : Nat), .slice (some ⟨g, q + 6, none⟩) (Hd.bodyL (b.drop q)).length (Hd.bodyL (b.drop q)).length], .bool true]) ∧ Rdr w' Br g cap b gz (bgn gz (fend b q)) (!okF gz b q) ∧ Kept (fun k => k = Br) w w' := by
  obtain ⟨a1, a2, a3, a4, a5⟩ := isF_facts hf
  have hF := (isF_iff b q).1 hf
  have hz0 : (Hd.bodyL (b.drop q)).length = Hd.sizeL (b.drop q) := by have : fend b q = q + (6 + Hd.sizeL (b.drop q)) := rfl; omega
  obtain ⟨z, hz⟩ : ∃ z, z = (Hd.bodyL (b.drop q)).length := ⟨_, rfl⟩
  rw [← hz] at a1 a4 a5 hz0 ⊢
  obtain ⟨n, hn⟩ : ∃ n, n = b.length := ⟨_, rfl⟩
  have HN : Hid (n = b.length) := hn
  obtain ⟨e1, he1⟩ : ∃ e1, e1 = fend b q := ⟨_, rfl⟩
  obtain ⟨e2, he2⟩ : ∃ e2, e2 = bgn gz (fend b q) := ⟨_, rfl⟩
  have hb := bgn_le gz (fend b q)
  have hb2 : bgn gz (fend b q) ≤ gz * N := bgn_fit (by omega) (by omega)
  rw [← hN] at hb2
  rw [← he2, ← he1] at hb
  rw [← he2] at hb2
  have HO : Hid (okF gz b q = blk ((b.drop e1).take (e2 - e1))) := by show _ = _; unfold okF; rw [he1, he2]
  obtain ⟨R, hR⟩ : ∃ R, R = okF gz b q := ⟨_, rfl⟩
  rw [← hR] at HO ⊢
  rw [← he2]
  have HR : Hid (∀ X, Below w.heap.size w X → Rdr X Br g cap b gz q false) := fun X hb => h.later hb
  have HU : Hid (∀ X, Below w.heap.size w X → Calls Tryz.prog 165 #[.slice (some ⟨g, q, none⟩) (n - q) (cap - q)] X fun e w' => e = .returned (.tuple #[.slice (some ⟨X.heap.size, 0, none⟩) z z, .int .i64 (6 + (z : Int)), .bool true]) ∧ Below X.heap.size X w') := fun X hb => by
    have hl : (b.drop q).length = n - q := by simp [hn]
    have := Hd.unframe_is (some ⟨g, q, none⟩) (cap - q) (b.drop q) X (by rw [hl]; omega) (by omega) (fun x hx => hlt x (List.mem_of_mem_drop hx)) ((h.later hb).rest q) hF
    rw [hl, ← hz0] at this
    exact this.mono fun e w' ⟨h1, h2⟩ => ⟨h1, h2.2⟩
  have kB : ∀ X, Calls Tryz.prog 149 #[.int .i64 ((q : Int) + (6 + (z : Int))), .int .i64 (gz : Nat)] X fun e w' => e = .returned (.int .i64 (e2 : Nat)) ∧ X = w' := fun X => by
    have k := begin_any (q + (6 + z)) gz X (by omega) (by omega) (by omega)
    rw [show q + (6 + z) = fend b q by omega, ← he2, show ((fend b q : Nat) : Int) = (q : Int) + (6 + (z : Int)) by omega] at k
    exact k
  have hee : e1 = q + 6 + z := by omega
  rw [← hn] at hc hN hq hb2
  have HE : Hid (e1 + (e2 - e1) ≤ b.length ∧ b.length ≤ 31744) := by show _ ∧ _; omega
  have HE1 : Hid ((e1 : Int) = (q : Int) + (6 + (z : Int))) := by show _ = _; omega
  have i1 : (q : Int) < (n : Int) := by omega
  have i2 : (n : Int) ≤ (cap : Int) := by omega
  have i3 : (cap : Int) ≤ 31744 := by omega
  have i4 : ¬ cap = q := by omega
  have i5 : (q : Int) ≤ (n : Int) := by omega
  have i6 : (1 : Int) ≤ (z : Int) := by omega
  have i7 : (z : Int) ≤ 1024 := by omega
  have i8 : (q : Int) + (6 + (z : Int)) ≤ (e2 : Int) := by omega
  have i9 : (e2 : Int) ≤ (n : Int) := by omega
  have j3 : (0 : Int) ≤ (q : Int) + 6 := by omega
  have j4 : (q : Int) + 6 ≤ (q : Int) + (6 + (z : Int)) := by omega
  have j5 : ((q : Int) + 6).toNat = q + 6 := by omega
  have j6 : ((q : Int) + (6 + (z : Int))).toNat = q + 6 + z := by omega
  have j7 : q + 6 + z - (q + 6) = z := by omega
  have j8 : (0 : Int) ≤ (q : Int) + (6 + (z : Int)) := by omega
  have j11 : ¬ q + 6 + z = q + 6 := by omega
  have j12 : IntKind.i64.wrap ((q : Int) + 6) = (q : Int) + 6 := by rw [IntKind.wrap_i64]; omega
  have j13 : IntKind.i64.wrap ((q : Int) + (6 + (z : Int))) = (q : Int) + (6 + (z : Int)) := by rw [IntKind.wrap_i64]; omega
  have j14 : z ≠ 0 := by omega
  have j15 : (q : Int) + (6 + (z : Int)) ≤ (cap : Int) := by omega
  have j16 : e2 - (q + 6 + z) = e2 - e1 := by omega
  have HB : Hid (∀ (X : World) (s : Bool) (k : Nat), Rdr X Br g cap b gz k s → ∀ a c, (e2 - e1 = 0 ∨ a = some ⟨g, q + 6 + z, none⟩) → Calls Tryz.prog 141 #[.slice a (e2 - e1) c] X fun e w' => e = .returned (.bool R) ∧ X = w') := fun X s k hX a c hac => by
    rw [HO.out]
    rcases hac with h0 | h0
    · have := Hd.blank_any a c [] X (by unfold maxLen; simp) (.inl rfl)
      rw [h0]
      exact this
    · subst h0
      rw [← hee]
      exact hX.blank e1 (e2 - e1) c HE.out.1 HE.out.2
  clear h hgz hc hN hq hlt hf a1 a2 a3 a4 a5 hF hz0 hz hn he1 he2 hb hb2 hR hee
  obtain ⟨W, hW⟩ : ∃ W, W = w.alloc (.cells #[.int .i64 0, .slice none 0 0] 173) := ⟨_, rfl⟩
  have HW : Hid (Below w.heap.size w W) := by rw [hW]; exact below_new w _
  have HQ : Hid (Row W w.heap.size [.int .i64 0, .slice none 0 0] 173) := by rw [hW]; exact Row.new w [.int .i64 0, .slice none 0 0] _
  have HNg : Hid (¬ g = w.heap.size) := by
    have h0 := (HR.out w (Below.refl _ _)).dat q (by have := HN.out; omega)
    have := World.block_lt_of_cell? w _ h0
    show ¬ _
    simp only at this
    omega
  have hz' : w.heap.size ≠ Br := by have := (HR.out w (Below.refl _ _)).box.lt; omega
  go_enter Tryz.func143, Tryz.ntmps143
  go_wp2_with fail
  rw [← hW]
  clear hW
  have c0 : W.cell? ⟨Br, 0, none⟩ = some (.slice (some ⟨g, 0, none⟩) n cap) := by rw [HN.out]; exact (HR.out W HW.out).cells.1
  have c2 : W.cell? ⟨Br, 2, none⟩ = some (.int .i64 (q : Nat)) := (HR.out W HW.out).cells.2.2.1
  go_wp2_with fail
  go_region_held3 (fun w' => w'.cell? ⟨Br, 0, none⟩ = some (.slice (some ⟨g, 0, none⟩) n cap) ∧ w'.cell? ⟨Br, 2, none⟩ = some (.int .i64 (q : Nat))) (first | exact ⟨by assumption, by assumption⟩ | go_keep) (first
    | (go_at_call 165; refine (HU.out _ HW.out.drew).mono ?_; rintro e w1 ⟨rfl, hb1⟩; have HW1 : Hid (Below w.heap.size w w1 ∧ Below W.heap.size W w1) := ⟨Below.after HW.out.drew hb1, Below.after (Below.refl _ W).drew hb1⟩; have d0 : w1.cell? ⟨Br, 0, none⟩ = some (.slice (some ⟨g, 0, none⟩) n cap) := (by rw [HN.out]; exact (HR.out w1 HW1.out.1).cells.1); have d2 : w1.cell? ⟨Br, 2, none⟩ = some (.int .i64 (q : Nat)) := (HR.out w1 HW1.out.1).cells.2.2.1; have d1 : w1.cell? ⟨Br, 1, none⟩ = some (.int .i64 (gz : Nat)) := (HR.out w1 HW1.out.1).cells.2.1; clear hb1))
  have HR1 : Hid (Rdr w1 Br g cap b gz q false) := HR.out w1 HW1.out.1
  have HQ1 : Hid (Row w1 w.heap.size [.int .i64 0, .slice none 0 0] 173) := HQ.out.later HW1.out.2
  have f2 := HR1.out.box.frozen 2
  clear c0 c2 HU
  go_wp2_with fail
  go_region
  have HR2 : Hid (Rdr (w1.setCell ⟨Br, 2, none⟩ (.int .i64 (e2 : Nat))).drew Br g cap b gz e2 false) := (HR1.out.setAt e2).later (Below.refl _ _).drew
  have HK2 : Hid (Kept (fun k => k = Br) w (w1.setCell ⟨Br, 2, none⟩ (.int .i64 (e2 : Nat))).drew) := (Kept.setCell (S := fun k => k = Br) (Kept.of_below HW1.out.1) (p := ⟨Br, 2, none⟩) rfl _).drew
  have HQ2 : Hid (Row (w1.setCell ⟨Br, 2, none⟩ (.int .i64 (e2 : Nat))).drew w.heap.size [.int .i64 0, .slice none 0 0] 173) := HQ1.out.kept (S := fun k => k = Br) (Kept.setCell (S := fun k => k = Br) (Kept.refl _ _) (p := ⟨Br, 2, none⟩) rfl _).drew hz'
  go_wp2_with (go_at_call 149; refine (kB _).mono ?_; rintro e w3 ⟨rfl, rfl⟩)
  obtain ⟨W2, hW2⟩ : ∃ W2, W2 = (w1.setCell ⟨Br, 2, none⟩ (.int .i64 (e2 : Nat))).drew := ⟨_, rfl⟩
  rw [← hW2] at HR2 HK2 HQ2 ⊢
  have hE1 := HE1.out
  rw [← hE1] at i8 j4 j6 j8 j13 j15 ⊢
  have k1 : e1 = q + 6 + z := by omega
  have k2 : e1 ≤ cap := by omega
  have k3 : e1 - (q + 6) = z := by omega
  have k4 : ¬ e1 = q + 6 := by omega
  have k5 : (e2 : Int) ≤ (cap : Int) := by omega
  have k6 : IntKind.i64.wrap (e1 : Int) = (e1 : Int) := by rw [IntKind.wrap_i64]; omega
  rw [← k1] at HB
  clear hW2 d0 d1 d2 f2 hE1 k1 j6 j7 j8 j11 j13 j16 kB
  have z0 : W2.cell? ⟨Br, 0, none⟩ = some (.slice (some ⟨g, 0, none⟩) n cap) := by rw [HN.out]; exact HR2.out.cells.1
  have z2 : W2.cell? ⟨Br, 2, none⟩ = some (.int .i64 (e2 : Nat)) := HR2.out.cells.2.2.1
  have z3 : W2.cell? ⟨Br, 3, none⟩ = some (.bool false) := HR2.out.cells.2.2.2
  have f3 := HR2.out.box.frozen 3
  have HC : Hid (cap = e1 → e2 - e1 = 0) := by show _ → _; intro h; omega
  have HR3 : Hid (Rdr W2.drew Br g cap b gz e2 false) := HR2.out.later (Below.refl _ _).drew
  have HX : Hid (Rdr (W2.setCell ⟨Br, 3, none⟩ (.bool (!R))).drew Br g cap b gz e2 (!R)) := (HR2.out.setSp (!R)).later (Below.refl _ _).drew
  have HKX : Hid (Kept (fun k => k = Br) w (W2.setCell ⟨Br, 3, none⟩ (.bool (!R))).drew) := (Kept.setCell (S := fun k => k = Br) HK2.out (p := ⟨Br, 3, none⟩) rfl _).drew
  have HQX : Hid (Row (W2.setCell ⟨Br, 3, none⟩ (.bool (!R))).drew w.heap.size [.int .i64 0, .slice none 0 0] 173) := HQ2.out.kept (S := fun k => k = Br) (Kept.setCell (S := fun k => k = Br) (Kept.refl _ _) (p := ⟨Br, 3, none⟩) rfl _).drew hz'
  have u0 : (W2.setCell ⟨Br, 3, none⟩ (.bool (!R))).drew.cell? ⟨Br, 0, none⟩ = some (.slice (some ⟨g, 0, none⟩) n cap) := by rw [HN.out]; exact HX.out.cells.1
  have u2 : (W2.setCell ⟨Br, 3, none⟩ (.bool (!R))).drew.cell? ⟨Br, 2, none⟩ = some (.int .i64 (e2 : Nat)) := HX.out.cells.2.2.1
  obtain ⟨Y, hY⟩ : ∃ Y, Y = (W2.setCell ⟨Br, 3, none⟩ (.bool (!R))).drew := ⟨_, rfl⟩
  have HY : Hid (Y = (W2.setCell ⟨Br, 3, none⟩ (.bool (!R))).drew) := hY
  rw [← hY] at HX HKX HQX
  clear hY
  have y0 := HQX.out.cell (i := 0) rfl
  have y1 := HQX.out.cell (i := 1) rfl
  have g0 := HQX.out.frozen 0
  have g1 := HQX.out.frozen 1
  have y2 : Y.cell? ⟨Br, 0, none⟩ = some (.slice (some ⟨g, 0, none⟩) n cap) := by rw [HN.out]; exact HX.out.cells.1
  have ylt := HQX.out.lt
  by_cases hce : cap = e1
  · have HB0 : Hid (∀ a c, Calls Tryz.prog 141 #[.slice a 0 c] W2.drew fun e w' => e = .returned (.bool R) ∧ W2.drew = w') := fun a c => by
      have h0 := HC.out hce
      have := HB.out _ _ _ HR3.out a c (.inl h0)
      rw [h0] at this
      exact this
    have he21 : e2 = cap := by omega
    clear HC HB HO HE HE1 HR
    subst hce
    subst he21
    go_region_held3 (fun w' => w'.cell? ⟨Br, 0, none⟩ = some (.slice (some ⟨g, 0, none⟩) n e2) ∧ w'.cell? ⟨Br, 2, none⟩ = some (.int .i64 (e2 : Nat))) (first | exact ⟨by assumption, by assumption⟩ | go_keep) (first
      | (go_at_call 141; refine (HB0.out _ _).mono ?_; rintro e w4 ⟨rfl, rfl⟩))
    rw [← HY.out]
    clear u0 u2 z0 z2 z3 f3
    go_wp2_with fail
    refine bodyPost_ret (v := .tuple #[.agg #[.int .i64 (q : Nat), .slice (some ⟨g, q + 6, none⟩) z z], .bool true]) ?_ rfl ⟨rfl, ?_, ?_⟩
    · rw [results_cell_tmp rfl]
      go_simp
    · exact HX.out.kept (S := fun k => k = w.heap.size) (Kept.setCell (S := fun k => k = w.heap.size) (Kept.setCell (S := fun k => k = w.heap.size) (Kept.refl _ _) (p := ⟨w.heap.size, 0, none⟩) rfl _) (p := ⟨w.heap.size, 1, none⟩) rfl _) (fun e => hz' e.symm) HNg.out
    · exact (HKX.out.setNew (p := ⟨w.heap.size, 0, none⟩) (Nat.le_refl _) _).setNew (p := ⟨w.heap.size, 1, none⟩) (Nat.le_refl _) _
  · go_region_held3 (fun w' => w'.cell? ⟨Br, 0, none⟩ = some (.slice (some ⟨g, 0, none⟩) n cap) ∧ w'.cell? ⟨Br, 2, none⟩ = some (.int .i64 (e2 : Nat))) (first | exact ⟨by assumption, by assumption⟩ | go_keep) (first
      | (go_at_call 141; refine (HB.out _ _ _ HR3.out _ _ (.inr rfl)).mono ?_; rintro e w4 ⟨rfl, rfl⟩))
    rw [← HY.out]
    clear u0 u2 z0 z2 z3 f3
    go_wp2_with fail
    refine bodyPost_ret (v := .tuple #[.agg #[.int .i64 (q : Nat), .slice (some ⟨g, q + 6, none⟩) z z], .bool true]) ?_ rfl ⟨rfl, ?_, ?_⟩
    · rw [results_cell_tmp rfl]
      go_simp
    · exact HX.out.kept (S := fun k => k = w.heap.size) (Kept.setCell (S := fun k => k = w.heap.size) (Kept.setCell (S := fun k => k = w.heap.size) (Kept.refl _ _) (p := ⟨w.heap.size, 0, none⟩) rfl _) (p := ⟨w.heap.size, 1, none⟩) rfl _) (fun e => hz' e.symm) HNg.out
    · exact (HKX.out.setNew (p := ⟨w.heap.size, 0, none⟩) (Nat.le_refl _) _).setNew (p := ⟨w.heap.size, 1, none⟩) (Nat.le_refl _) _
end Go.Proofs.YtkfecngkdlajgaaGreatDoor
namespace Go.Proofs.YtkfecngkdlajgaaGreatDoor
open Go.RowKit Go.Extern.Stop Go.Stop Go.Extern
set_option maxRecDepth 10000

set_option maxHeartbeats 8000000 in
theorem next_no {w : World} {Br g cap : Nat} {b : List Nat} {gz q : Nat} (h : Rdr w Br g cap b gz q false) (hgz : 64 ≤ gz ∧ gz ≤ 512) (hc : b.length ≤ cap ∧ cap ≤ 31744) (hq : q < b.length) (hmd : q % gz ≠ gz - 1) (hlt : ∀ x ∈ b, x < 256) (hf : isF b q = false) :
    Calls Tryz.prog 143 #[.pointer (some ⟨Br, 0, none⟩)] w fun e w' => e = .returned (.tuple #[.agg #[.int .i64 0, .slice none 0 0], .bool false]) ∧ Rdr w' Br g cap b gz q true ∧ Kept (fun k => k = Br) w w' := by
  have hF : ¬ Hd.isFrame (b.drop q) := fun e => by rw [(isF_iff b q).2 e] at hf; cases hf
  obtain ⟨n, hn⟩ : ∃ n, n = b.length := ⟨_, rfl⟩
  have HN : Hid (n = b.length) := hn
  have HR : Hid (∀ X, Below w.heap.size w X → Rdr X Br g cap b gz q false) := fun X hb => h.later hb
  have HU : Hid (∀ X, Below w.heap.size w X → Calls Tryz.prog 165 #[.slice (some ⟨g, q, none⟩) (n - q) (cap - q)] X fun e w' => e = .returned (.tuple #[.slice none 0 0, .int .i64 0, .bool false]) ∧ Below X.heap.size X w') := fun X hb => by
    have hl : (b.drop q).length = n - q := by simp [hn]
    have := Hd.unframe_not (some ⟨g, q, none⟩) (cap - q) (b.drop q) X (by rw [hl]; omega) (by omega) (fun x hx => hlt x (List.mem_of_mem_drop hx)) ((h.later hb).rest q) hF
    rw [hl] at this
    exact this
  have kB : ∀ X, Calls Tryz.prog 149 #[.int .i64 (q : Int), .int .i64 (gz : Nat)] X fun e w' => e = .returned (.int .i64 (q : Nat)) ∧ X = w' := fun X => by
    have k := begin_any q gz X (by omega) (by omega) (by omega)
    rw [show bgn gz q = q by unfold bgn; rw [if_neg hmd]] at k
    exact k
  rw [← hn] at hc hq
  have i1 : (q : Int) < (n : Int) := by omega
  have i2 : (n : Int) ≤ (cap : Int) := by omega
  have i3 : (cap : Int) ≤ 31744 := by omega
  have i4 : ¬ cap = q := by omega
  have i5 : (q : Int) ≤ (n : Int) := by omega
  have HNg : Hid (¬ g = w.heap.size) := by
    have h0 := h.dat q (by omega)
    have := World.block_lt_of_cell? w _ h0
    show ¬ _
    simp only at this
    omega
  clear h hgz hc hq hlt hf hF hn hmd
  obtain ⟨W, hW⟩ : ∃ W, W = w.alloc (.cells #[.int .i64 0, .slice none 0 0] 173) := ⟨_, rfl⟩
  have HW : Hid (Below w.heap.size w W) := by rw [hW]; exact below_new w _
  have HQ : Hid (Row W w.heap.size [.int .i64 0, .slice none 0 0] 173) := by rw [hW]; exact Row.new w [.int .i64 0, .slice none 0 0] _
  have hz' : w.heap.size ≠ Br := by have := (HR.out w (Below.refl _ _)).box.lt; omega
  go_enter Tryz.func143, Tryz.ntmps143
  go_wp2_with fail
  rw [← hW]
  clear hW
  have c0 : W.cell? ⟨Br, 0, none⟩ = some (.slice (some ⟨g, 0, none⟩) n cap) := by rw [HN.out]; exact (HR.out W HW.out).cells.1
  have c2 : W.cell? ⟨Br, 2, none⟩ = some (.int .i64 (q : Nat)) := (HR.out W HW.out).cells.2.2.1
  go_wp2_with fail
  go_region_held3 (fun w' => w'.cell? ⟨Br, 0, none⟩ = some (.slice (some ⟨g, 0, none⟩) n cap) ∧ w'.cell? ⟨Br, 2, none⟩ = some (.int .i64 (q : Nat))) (first | exact ⟨by assumption, by assumption⟩ | go_keep) (first
    | (go_at_call 165; refine (HU.out _ HW.out.drew).mono ?_; rintro e w1 ⟨rfl, hb1⟩; have HW1 : Hid (Below w.heap.size w w1 ∧ Below W.heap.size W w1) := ⟨Below.after HW.out.drew hb1, Below.after (Below.refl _ W).drew hb1⟩; have d0 : w1.cell? ⟨Br, 0, none⟩ = some (.slice (some ⟨g, 0, none⟩) n cap) := (by rw [HN.out]; exact (HR.out w1 HW1.out.1).cells.1); have d2 : w1.cell? ⟨Br, 2, none⟩ = some (.int .i64 (q : Nat)) := (HR.out w1 HW1.out.1).cells.2.2.1; have d1 : w1.cell? ⟨Br, 1, none⟩ = some (.int .i64 (gz : Nat)) := (HR.out w1 HW1.out.1).cells.2.1; clear hb1))
  have HR1 : Hid (Rdr w1 Br g cap b gz q false) := HR.out w1 HW1.out.1
  have HQ1 : Hid (Row w1 w.heap.size [.int .i64 0, .slice none 0 0] 173) := HQ.out.later HW1.out.2
  have f2 := HR1.out.box.frozen 2
  clear c0 c2 HU
  go_wp2_with fail
  go_region
  have HR2 : Hid (Rdr (w1.setCell ⟨Br, 2, none⟩ (.int .i64 (q : Nat))).drew Br g cap b gz q false) := (HR1.out.setAt q).later (Below.refl _ _).drew
  have HK2 : Hid (Kept (fun k => k = Br) w (w1.setCell ⟨Br, 2, none⟩ (.int .i64 (q : Nat))).drew) := (Kept.setCell (S := fun k => k = Br) (Kept.of_below HW1.out.1) (p := ⟨Br, 2, none⟩) rfl _).drew
  have HQ2 : Hid (Row (w1.setCell ⟨Br, 2, none⟩ (.int .i64 (q : Nat))).drew w.heap.size [.int .i64 0, .slice none 0 0] 173) := HQ1.out.kept (S := fun k => k = Br) (Kept.setCell (S := fun k => k = Br) (Kept.refl _ _) (p := ⟨Br, 2, none⟩) rfl _).drew hz'
  go_wp2_with (go_at_call 149; refine (kB _).mono ?_; rintro e w3 ⟨rfl, rfl⟩)
  obtain ⟨W2, hW2⟩ : ∃ W2, W2 = (w1.setCell ⟨Br, 2, none⟩ (.int .i64 (q : Nat))).drew := ⟨_, rfl⟩
  rw [← hW2] at HR2 HK2 HQ2 ⊢
  clear hW2 d0 d1 d2 f2 kB
  have z3 : W2.cell? ⟨Br, 3, none⟩ = some (.bool false) := HR2.out.cells.2.2.2
  have f3 := HR2.out.box.frozen 3
  have HX : Hid (Rdr (W2.setCell ⟨Br, 3, none⟩ (.bool true)).drew Br g cap b gz q true) := (HR2.out.setSp true).later (Below.refl _ _).drew
  have HKX : Hid (Kept (fun k => k = Br) w (W2.setCell ⟨Br, 3, none⟩ (.bool true)).drew) := (Kept.setCell (S := fun k => k = Br) HK2.out (p := ⟨Br, 3, none⟩) rfl _).drew
  have HQX : Hid (Row (W2.setCell ⟨Br, 3, none⟩ (.bool true)).drew w.heap.size [.int .i64 0, .slice none 0 0] 173) := HQ2.out.kept (S := fun k => k = Br) (Kept.setCell (S := fun k => k = Br) (Kept.refl _ _) (p := ⟨Br, 3, none⟩) rfl _).drew hz'
  go_region
  obtain ⟨Y, hY⟩ : ∃ Y, Y = (W2.setCell ⟨Br, 3, none⟩ (.bool true)).drew := ⟨_, rfl⟩
  rw [← hY] at HX HKX HQX ⊢
  clear hY z3 f3
  have y0 := HQX.out.cell (i := 0) rfl
  have y1 := HQX.out.cell (i := 1) rfl
  have g0 := HQX.out.frozen 0
  have g1 := HQX.out.frozen 1
  have ylt := HQX.out.lt
  go_wp2_with fail
  refine bodyPost_ret (v := .tuple #[.agg #[.int .i64 0, .slice none 0 0], .bool false]) ?_ rfl ⟨rfl, ?_, ?_⟩
  · rw [results_cell_tmp rfl]
    go_simp
  · exact HX.out.kept (S := fun k => k = w.heap.size) (Kept.setCell (S := fun k => k = w.heap.size) (Kept.setCell (S := fun k => k = w.heap.size) (Kept.refl _ _) (p := ⟨w.heap.size, 0, none⟩) rfl _) (p := ⟨w.heap.size, 1, none⟩) rfl _) (fun e => hz' e.symm) HNg.out
  · exact (HKX.out.setNew (p := ⟨w.heap.size, 0, none⟩) (Nat.le_refl _) _).setNew (p := ⟨w.heap.size, 1, none⟩) (Nat.le_refl _) _
end Go.Proofs.YtkfecngkdlajgaaGreatDoor
