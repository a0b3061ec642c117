/-
  The document's log in memory; what it tells of itself: most, Room, Sync; Open of no pages.
  Sync and Read of the document's log.
  Open of the document's log of no pages.
  Append of the document's log.
  Append of the document's log, where it is taken.
  Read of the document's log.
  A log of the code and one of the document stand alike.
-/
import Derived.Test.YteodcjbbkekidaaGreatDoorZQH
import Derived.Test.YteodcjbbkekidaaGreatDoorZQE
import Derived.Test.YteodcjbbkekidaaGreatDoorZGD
import Derived.Test.YteodcjbbkekidaaGreatDoorZKQ
import Derived.Test.YteodcjbbkekidaaGreatDoorZQF
import Derived.Test.YteodcjbbkekidaaGreatDoorZQL
namespace Go.Proofs.YteodcjbbkekidaaGreatDoor
open Go.RowKit Go.Extern.Stop Go.Stop Go.Extern
set_option maxRecDepth 10000

/-- The document's log: its box, bytes of a page, pages, its frames' slice and the frames, its end, is it broken? -/
structure Dl where
  p : Nat
  page : Nat
  pages : Nat
  fv : Value
  fs : List Fm
  e : Nat
  br : Bool
  no : Nat → Prop := fun _ => False
def dlCells (d : Dl) : List Value := [.int .i64 (d.page : Nat), .int .i64 (d.pages : Nat), d.fv, .int .i64 (d.e : Nat), .bool d.br]
/-- Frames of the document's that lie at base or above, their payloads too, and these in none of the blocks N. -/
def DBk (base : Nat) (N : Nat → Prop) (w : World) (v : Value) (fs : List Fm) : Prop :=
  ∃ vs : List Value, vs.length = fs.length ∧ w.ownsRow base 97 2 v fs.length ((fs.zip vs).flatMap fzCells) ∧ (∀ q ∈ fs.zip vs, w.ownsRow base 5 1 q.2 q.1.2.length (q.1.2.map u8v)) ∧ ∀ q ∈ fs.zip vs, ∀ g, q.2.ownBlock = some g → ¬ N g
theorem DBk.later {base : Nat} {N : Nat → Prop} {w w' : World} {v : Value} {fs : List Fm} (h : DBk base N w v fs) (hb : Below w.heap.size w w') : DBk base N w' v fs := by
  obtain ⟨vs, h1, h2, h3, h4⟩ := h
  exact ⟨vs, h1, owns_later h2 hb, fun q hq => owns_later (h3 q hq) hb, h4⟩
/-- The document's log as it lies. -/
structure DAt (base : Nat) (w : World) (d : Dl) : Prop where
  low : base ≤ d.p
  box : Row w d.p (dlCells d) 92
  frs : DBk base d.no w d.fv d.fs
  pg : 2 ≤ d.page ∧ d.page ≤ 512
  ps : d.pages ≤ 64
  en : d.e ≤ d.page * d.pages
  ct : d.fs.length * 7 ≤ d.e
theorem DAt.later {base : Nat} {w w' : World} {d : Dl} (h : DAt base w d) (hb : Below w.heap.size w w') : DAt base w' d :=
  ⟨h.low, h.box.later hb, h.frs.later hb, h.pg, h.ps, h.en, h.ct⟩
theorem DAt.cells {base : Nat} {w : World} {d : Dl} (h : DAt base w d) : w.cell? ⟨d.p, 0, none⟩ = some (.int .i64 (d.page : Nat)) ∧ w.cell? ⟨d.p, 1, none⟩ = some (.int .i64 (d.pages : Nat)) ∧ w.cell? ⟨d.p, 2, none⟩ = some d.fv ∧ w.cell? ⟨d.p, 3, none⟩ = some (.int .i64 (d.e : Nat)) ∧ w.cell? ⟨d.p, 4, none⟩ = some (.bool d.br) :=
  ⟨h.box.cell (i := 0) rfl, h.box.cell (i := 1) rfl, h.box.cell (i := 2) rfl, h.box.cell (i := 3) rfl, h.box.cell (i := 4) rfl⟩
theorem DAt.most_le {base : Nat} {w : World} {d : Dl} (h : DAt base w d) : d.page * d.pages ≤ 32768 := by
  have := Nat.mul_le_mul h.pg.2 h.ps
  omega
theorem dmost_any {base : Nat} {w : World} {d : Dl} (h : DAt base w d) (T : Nat) (hT : T = d.page * d.pages) : Calls Tryz.prog 49 #[.pointer (some ⟨d.p, 0, none⟩)] w fun e w' => e = .returned (.int .i64 (T : Nat)) ∧ Below w.heap.size w w' := by
  have ne := Wd.non w
  have z0 : ∀ p : Wd w, p.v.cell? ⟨d.p, 0, none⟩ = some (.int .i64 (d.page : Nat)) := fun p => (h.later p.h).cells.1
  have z1 : ∀ p : Wd w, p.v.cell? ⟨d.p, 1, none⟩ = some (.int .i64 (d.pages : Nat)) := fun p => (h.later p.h).cells.2.1
  have hm := h.most_le
  have HE : Hid (((d.page : Int) * (d.pages : Int)) = (T : Int)) := by show _ = _; rw [hT]; simp
  have h3 : ((d.page : Int) * (d.pages : Int)) ≤ 32768 := by rw [HE.out]; omega
  have h4 : 0 ≤ ((d.page : Int) * (d.pages : Int)) := by rw [HE.out]; omega
  clear h hm hT
  go_enter Tryz.func49, Tryz.ntmps49
  go_wp2
  refine quiet_below (by kernel_rfl) ?_
  repeat (first | go_big_quiet_skip | go_big_quiet_step (first | fail))
  refine wpQuiet_nil ?_
  rintro _ ⟨p4, rfl⟩
  obtain ⟨w4, hw4⟩ : ∃ W, W = p4.v := ⟨_, rfl⟩
  have HB4 : Hid (Below w.heap.size w w4) := by rw [hw4]; exact p4.h
  rw [← hw4]
  clear hw4
  clear p4
  go_wp2
  go_ret
  exact ⟨ret_int (by first | exact HE.out | (rw [IntKind.wrap_i64, HE.out]; omega)), HB4.out⟩
/-- What there is room for. -/
def Dl.room (d : Dl) : Int := if d.br then 0 else min (max ((d.page * d.pages : Nat) - (d.e : Nat) - 6 : Int) 0) 1024
set_option maxHeartbeats 1000000 in
theorem droom_any {base : Nat} {w : World} {d : Dl} (h : DAt base w d) : Calls Tryz.prog 52 #[.pointer (some ⟨d.p, 0, none⟩)] w fun e w' => e = .returned (.int .i64 d.room) ∧ Below w.heap.size w w' := by
  obtain ⟨T, hT⟩ : ∃ T, T = d.page * d.pages := ⟨_, rfl⟩
  have ne := Wd.non w
  have cM := fun p : Wd w => quiet_call p (dmost_any (h.later p.h) T hT)
  have z3 : ∀ p : Wd w, p.v.cell? ⟨d.p, 3, none⟩ = some (.int .i64 (d.e : Nat)) := fun p => (h.later p.h).cells.2.2.2.1
  have HC : Hid (∀ X, Below w.heap.size w X → X.cell? ⟨d.p, 4, none⟩ = some (.bool d.br)) := fun X hb => (h.later hb).cells.2.2.2.2
  have hm := h.most_le
  have he := h.en
  rw [← hT] at hm he
  have HR : Hid (d.room = if d.br then 0 else min (max ((T : Nat) - (d.e : Nat) - 6 : Int) 0) 1024) := by show _ = _; rw [hT]; rfl
  obtain ⟨R, hR⟩ : ∃ R, R = d.room := ⟨_, rfl⟩
  rw [← hR] at HR ⊢
  have e1 : (d.e : Int) ≤ (T : Int) := by omega
  have e2 : (T : Int) ≤ 32768 := by omega
  clear h hT hR hm he
  go_enter Tryz.func52, Tryz.ntmps52
  go_wp2
  refine quiet_below (by kernel_rfl) ?_
  repeat (first | go_big_quiet_skip | go_big_quiet_step (first | (go_at_call 49; exact cM _)))
  refine wpQuiet_nil ?_
  rintro _ ⟨p4, rfl⟩
  obtain ⟨w4, hw4⟩ : ∃ W, W = p4.v := ⟨_, rfl⟩
  have HB4 : Hid (Below w.heap.size w w4) := by rw [hw4]; exact p4.h
  rw [← hw4]
  clear hw4
  clear p4
  have c4 := HC.out w4 HB4.out
  cases hbr : d.br with
  | true =>
    rw [hbr] at c4 HR
    have HR0 : Hid (R = 0) := by rw [HR.out]; rfl
    clear HR hbr HC
    go_wp2
    go_ret
    exact ⟨ret_int HR0.out.symm, HB4.out⟩
  | false =>
    rw [hbr] at c4 HR
    have HR0 : Hid (R = min (max ((T : Nat) - (d.e : Nat) - 6 : Int) 0) 1024) := by rw [HR.out]; rfl
    clear HR hbr HC
    by_cases h1 : (T : Int) - (d.e : Int) - 6 < 1
    · have HR1 : Hid (R = 0) := by rw [HR0.out]; show _ = _; omega
      clear HR0
      go_wp2
      go_ret
      exact ⟨ret_int HR1.out.symm, HB4.out⟩
    · by_cases h2 : (1024 : Int) < (T : Int) - (d.e : Int) - 6
      · have HR1 : Hid (R = 1024) := by rw [HR0.out]; show _ = _; omega
        clear HR0
        go_wp2
        go_ret
        exact ⟨ret_int HR1.out.symm, HB4.out⟩
      · have HR1 : Hid (R = (T : Int) - (d.e : Int) - 6) := by rw [HR0.out]; show _ = _; omega
        clear HR0
        go_wp2
        go_ret
        exact ⟨ret_int HR1.out.symm, HB4.out⟩
end Go.Proofs.YteodcjbbkekidaaGreatDoor
namespace Go.Proofs.YteodcjbbkekidaaGreatDoor
open Go.RowKit Go.Extern.Stop Go.Stop Go.Extern
set_option maxRecDepth 10000

/-- The document's log with another end. -/
def Dl.at (d : Dl) (n : Nat) : Dl := { d with e := n }
theorem dbk_kept {base : Nat} {S N : Nat → Prop} {w w' : World} {v : Value} {fs : List Fm} (h : DBk base N w v fs) (hk : Kept S w w') (hn : ∀ b cs t, S b → Row w b cs t → t = 92) : DBk base N w' v fs := by
  obtain ⟨vs, h1, h2, h3, h4⟩ := h
  refine ⟨vs, h1, owns_kept h2 hk fun g hg hs => ?_, fun q hq => owns_kept (h3 q hq) hk fun g hg hs => ?_, h4⟩
  · obtain ⟨_, cs, hr⟩ := lown_row h2 hg
    exact absurd (hn g cs _ hs hr) (by decide)
  · obtain ⟨_, cs, hr⟩ := lown_row (h3 q hq) hg
    exact absurd (hn g cs _ hs hr) (by decide)
theorem row_type {W : World} {B : Nat} {cs ds : List Value} {t u : TypeId} (h : Row W B cs t) (g : Row W B ds u) : t = u := Classical.byContradiction fun hn => h.ne g hn rfl
theorem DAt.set {base : Nat} {w w' : World} {d : Dl} (h : DAt base w d) (n : Nat) (hn : n ≤ d.page * d.pages) (hc : d.e ≤ n) (hw : w' = w.setCell ⟨d.p, 3, none⟩ (.int .i64 (n : Nat))) : DAt base w' (d.at n) ∧ Kept (fun k => k = d.p) w w' := by
  subst hw
  have hk : Kept (fun k => k = d.p) w (w.setCell ⟨d.p, 3, none⟩ (.int .i64 (n : Nat))) := (Kept.refl (fun k => k = d.p) w).setCell (p := ⟨d.p, 3, none⟩) rfl _
  exact ⟨⟨h.low, h.box.set (i := 3) _ (by simp [dlCells]), dbk_kept h.frs hk (fun b cs t hb hr => by subst hb; exact row_type hr h.box), h.pg, h.ps, hn, Nat.le_trans h.ct hc⟩, hk⟩
theorem rup_most {q page m : Nat} (hp : 1 ≤ page) (h : q ≤ page * m) : rup page q ≤ page * m := by
  unfold rup
  split
  · rename_i h1
    omega
  · rename_i h1
    have e := Nat.div_add_mod q page
    have e2 := Nat.mod_lt q (show 0 < page by omega)
    have e3 : q / page < m := by
      rcases Nat.lt_or_ge (q / page) m with h3 | h3
      · exact h3
      · have := Nat.mul_le_mul_left page h3
        omega
    have e4 := Nat.mul_le_mul_left page (show q / page + 1 ≤ m by omega)
    rw [Nat.mul_add] at e4
    omega
set_option maxHeartbeats 1000000 in
theorem dsync_any {base : Nat} {w : World} {d : Dl} (h : DAt base w d) : Calls Tryz.prog 17 #[.pointer (some ⟨d.p, 0, none⟩)] w fun e w' => e = .returned (.tuple #[]) ∧ DAt base w' (d.at (rup d.page d.e)) ∧ Kept (fun k => k = d.p) w w' := by
  have hpg := h.pg
  have hm := h.most_le
  have he := h.en
  obtain ⟨c0, _, _, c3, _⟩ := h.cells
  have fz : w.frozen? ⟨d.p, 3, none⟩ = false := h.box.frozen 3
  have kR := fun W => rround_any d.e d.page W (by omega) (by omega) (by omega)
  have HS : Hid (∀ w', Below w.heap.size w w' → ∀ w2, w2 = w'.setCell ⟨d.p, 3, none⟩ (.int .i64 (rup d.page d.e : Nat)) → DAt base w2 (d.at (rup d.page d.e)) ∧ Kept (fun k => k = d.p) w w2) := fun w' hb w2 hw => by
    have := (h.later hb).set _ (rup_most (by omega) he) (by unfold rup; split <;> omega) hw
    exact ⟨this.1, (Kept.of_below hb).trans this.2⟩
  clear h hm he hpg
  go_enter Tryz.func17, Tryz.ntmps17
  go_wp2
  go_region_with (go_at_call 39; refine (kR _).mono ?_; rintro e w1 ⟨rfl, rfl⟩)
  all_goals
    refine bodyPost_end (results_none (by kernel_rfl) _ _ _) rfl ?_
    have hq := HS.out w (Below.refl _ _) _ rfl
    exact ⟨rfl, hq.1.later (below_drew' _), hq.2.later (below_drew' _)⟩
/-- The frame at a place. -/
def Dl.find (d : Dl) (q : Int) : Option Fm := d.fs.find? (fun x => decide ((x.1 : Int) = q))
end Go.Proofs.YteodcjbbkekidaaGreatDoor
namespace Go.Proofs.YteodcjbbkekidaaGreatDoor
open Go.RowKit Go.Extern.Stop Go.Stop Go.Extern
set_option maxRecDepth 10000

set_option maxHeartbeats 1000000 in
theorem dopen_nil (page pages : Nat) (w : World) (N : Nat → Prop) (hp : 2 ≤ page ∧ page ≤ 512) (hs : pages ≤ 64) : Calls Tryz.prog 14 #[.slice none 0 0, .bool false, .int .i64 (page : Nat), .int .i64 (pages : Nat)] w fun e w' => ∃ d, e = .returned (.pointer (some ⟨d.p, 0, none⟩)) ∧ d.page = page ∧ d.pages = pages ∧ d.fs = [] ∧ d.e = 0 ∧ d.br = false ∧ d.no = N ∧ DAt w.heap.size w' d ∧ Below w.heap.size w w' := by
  obtain ⟨W, hW⟩ : ∃ W, W = w.alloc (.cells #[.int .i64 (page : Nat), .int .i64 (pages : Nat), .slice none 0 0, .int .i64 0, .bool false] 92) := ⟨_, rfl⟩
  have hr : Row W w.heap.size [.int .i64 (page : Nat), .int .i64 (pages : Nat), .slice none 0 0, .int .i64 0, .bool false] 92 := by rw [hW]; exact Row.new w [_, _, _, _, _] _
  have hb : Below w.heap.size w W := by rw [hW]; exact below_new w _
  have c3 : W.cell? ⟨w.heap.size, 3, none⟩ = some (.int .i64 0) := hr.cell (i := 3) rfl
  have c4 : W.cell? ⟨w.heap.size, 4, none⟩ = some (.bool false) := hr.cell (i := 4) rfl
  have fz : W.frozen? ⟨w.heap.size, 4, none⟩ = false := hr.frozen 4
  have HF : Hid (∀ X, X = W.setCell ⟨w.heap.size, 4, none⟩ (.bool false) → DAt w.heap.size X ⟨w.heap.size, page, pages, .slice none 0 0, [], 0, false, N⟩ ∧ Below w.heap.size w X) := fun X hX => by
    subst hX
    refine ⟨⟨Nat.le_refl _, hr.set (i := 4) _ (by simp), ⟨[], rfl, ⟨rfl, .inl ⟨rfl, rfl⟩⟩, by simp, by simp⟩, hp, hs, Nat.zero_le _, Nat.zero_le _⟩, ?_⟩
    exact (Kept.setNew (S := fun _ => False) (.of_below hb) (p := ⟨w.heap.size, 4, none⟩) (Nat.le_refl _) _).below (Nat.le_refl _) (fun _ h => h.elim)
  clear hr hb hp hs
  go_enter Tryz.func14, Tryz.ntmps14
  go_wp2_with fail
  rw [← hW]
  clear hW
  go_loopg [10, 11] 0 (fun _ s10 s11 wr => s10 = .slice none 0 0 ∧ s11 = .int .i64 0 ∧ wr = W)
  case atStart => exact ⟨rfl, rfl, rfl⟩
  case round =>
    obtain ⟨rfl, rfl, rfl⟩ := hrel
    go_wp2_with fail
    go_loopg [] 0 (fun _ wv => wv = wr)
    case atStart => rfl
    case round =>
      subst hrel
      go_wp2_with fail
      go_ret
      have hq := HF.out _ rfl
      exact ⟨⟨w.heap.size, page, pages, .slice none 0 0, [], 0, false, N⟩, rfl, rfl, rfl, rfl, rfl, rfl, rfl, hq.1, hq.2⟩
end Go.Proofs.YteodcjbbkekidaaGreatDoor
namespace Go.Proofs.YteodcjbbkekidaaGreatDoor
open Go.RowKit Go.Extern.Stop Go.Stop Go.Extern
set_option maxRecDepth 10000

theorem dappend_bad (p : Nat) (a : Option Addr) (n cap : Nat) (w : World) (h : n = 0 ∨ 1024 < n) : Calls Tryz.prog 16 #[.pointer (some ⟨p, 0, none⟩), .slice a n cap] w fun e w' => e = .returned (.tuple #[.int .i64 0, .int .i64 22]) ∧ Below w.heap.size w w' := by
  have kF := Hd.rframe_no a cap n w h
  clear h
  go_enter Tryz.func16, Tryz.ntmps16
  go_wp2_with (go_at_call 48; refine kF.mono ?_; rintro e w1 ⟨rfl, rfl⟩)
  go_ret2
  exact ⟨rfl, Below.refl _ _⟩
theorem frame_len (l : List Nat) : (Hd.frameL l).length = 6 + l.length := by first | (rw [Hd.frameL_length]; omega)
set_option maxHeartbeats 1000000 in
theorem dappend_full {base : Nat} {w : World} {d : Dl} (h : DAt base w d) (a : Option Addr) (n cap : Nat) (l : List Nat) (hl : BArg w a n cap l) (h1 : 1 ≤ n) (h2 : n ≤ 1024) (hf : d.br = true ∨ d.page * d.pages < d.e + 6 + n) :
    Calls Tryz.prog 16 #[.pointer (some ⟨d.p, 0, none⟩), .slice a n cap] w fun e w' => e = .returned (.tuple #[.int .i64 0, .int .i64 28]) ∧ Below w.heap.size w w' := by
  have kF := Hd.rframe_yes a cap n l w hl.len_eq h1 h2 hl.lt hl.row hl.nil
  obtain ⟨T, hT⟩ : ∃ T, T = d.page * d.pages := ⟨_, rfl⟩
  have HD : Hid (∀ X, Below w.heap.size w X → DAt base X d) := fun X hb => h.later hb
  have HM : Hid (∀ X, Below w.heap.size w X → Calls Tryz.prog 49 #[.pointer (some ⟨d.p, 0, none⟩)] X fun e w' => e = .returned (.int .i64 (T : Nat)) ∧ Below X.heap.size X w') := fun X hb => dmost_any (h.later hb) T hT
  have hm := h.most_le
  have he := h.en
  have HL := hidW (show (Hd.frameL l).length = 6 + n by rw [frame_len, hl.len_eq])
  rw [← hT] at hm he hf
  have e1 : (d.e : Int) ≤ (T : Int) := by omega
  have e2 : (T : Int) ≤ 32768 := by omega
  have n1 : (n : Int) ≤ 1024 := by omega
  have HF := hidW hf
  clear h hT hm he hl h1 h2 hf
  go_enter Tryz.func16, Tryz.ntmps16
  go_wp2_with (go_at_call 48; refine kF.mono ?_; rintro e w1 ⟨v, rfl, ho⟩; obtain ⟨a1, c1, rfl, _⟩ := ho.row; rw [HL.out]; have HB1 := hidW ho.2; clear ho)
  have ne := Wd.non w1
  have z3 : ∀ p : Wd w1, p.v.cell? ⟨d.p, 3, none⟩ = some (.int .i64 (d.e : Nat)) := fun p => (HD.out p.v (Below.after HB1.out p.h)).cells.2.2.2.1
  have z4 : ∀ p : Wd w1, p.v.cell? ⟨d.p, 4, none⟩ = some (.bool d.br) := fun p => (HD.out p.v (Below.after HB1.out p.h)).cells.2.2.2.2
  have cM := fun p : Wd w1 => quiet_call p (HM.out p.v (Below.after HB1.out p.h))
  clear kF
  cases hbr : d.br with
  | true =>
    rw [hbr] at z4
    clear hbr HF
    refine quiet_below (by kernel_rfl) ?_
    repeat (first | go_big_quiet_skip | go_big_quiet_step (first | (go_at_call 49; exact cM _)))
    refine wpQuiet_nil ?_
    rintro _ ⟨p4, rfl⟩
    obtain ⟨w4, hw4⟩ : ∃ W, W = p4.v := ⟨_, rfl⟩
    have HB4 : Hid (Below w.heap.size w w4) := by rw [hw4]; exact Below.after HB1.out p4.h
    rw [← hw4]
    clear hw4
    clear p4
    go_wp2
    go_ret2
    exact ⟨rfl, HB4.out⟩
  | false =>
    have hc : (T : Int) - (d.e : Int) < 6 + (n : Int) := by
      have := HF.out
      rw [hbr] at this
      have : T < d.e + 6 + n := by simpa using this
      omega
    rw [hbr] at z4
    clear hbr HF
    refine quiet_below (by kernel_rfl) ?_
    repeat (first | go_big_quiet_skip | go_big_quiet_step (first | (go_at_call 49; exact cM _)))
    refine wpQuiet_nil ?_
    rintro _ ⟨p4, rfl⟩
    obtain ⟨w4, hw4⟩ : ∃ W, W = p4.v := ⟨_, rfl⟩
    have HB4 : Hid (Below w.heap.size w w4) := by rw [hw4]; exact Below.after HB1.out p4.h
    rw [← hw4]
    clear hw4
    clear p4
    go_wp2
    go_ret2
    exact ⟨rfl, HB4.out⟩
end Go.Proofs.YteodcjbbkekidaaGreatDoor
namespace Go.Proofs.YteodcjbbkekidaaGreatDoor
open Go.RowKit Go.Extern.Stop Go.Stop Go.Extern
set_option maxRecDepth 10000

theorem DBk.push {base : Nat} {N : Nat → Prop} {W3 w4 : World} {v v1 v' : Value} {fs : List Fm} {x : Fm} {vs : List Value} (h1 : vs.length = fs.length) (h2 : W3.ownsRow base 97 2 v fs.length ((fs.zip vs).flatMap fzCells)) (h3 : ∀ q ∈ fs.zip vs, W3.ownsRow base 5 1 q.2 q.1.2.length (q.1.2.map u8v)) (h4 : ∀ q ∈ fs.zip vs, ∀ g, q.2.ownBlock = some g → ¬ N g) (h5 : ∀ g, v1.ownBlock = some g → ¬ N g)
    (ho : W3.ownsRow base 5 1 v1 x.2.length (x.2.map u8v)) (hg : W3.grownBy w4 v.ownBlock) (hown : w4.ownsRow base 97 2 v' (fs.length + 1) ((fs.zip vs).flatMap fzCells ++ [.int .i64 (x.1 : Nat), v1])) : DBk base N w4 v' (fs ++ [x]) := by
  refine ⟨vs ++ [v1], by simp [h1], ?_, ?_, ?_⟩
  · rw [List.zip_append h1.symm, List.flatMap_append]
    simpa [fzCells] using hown
  · have hk : Kept (fun k => v.ownBlock = some k) W3 w4 := ⟨hg.os, hg.tape, hg.output, hg.size, fun k hk hn => hg.block k hk (fun e => hn e.symm)⟩
    have hne : ∀ {u : Value} {n : Nat} {ys : List Value}, W3.ownsRow base 5 1 u n ys → ∀ g, u.ownBlock = some g → ¬ v.ownBlock = some g := fun hu g e1 e2 => by
      obtain ⟨_, cs, r1⟩ := lown_row hu e1
      obtain ⟨_, ds, r2⟩ := lown_row h2 e2
      exact r1.ne r2 (by decide) rfl
    intro q hq
    rw [List.zip_append h1.symm] at hq
    rcases List.mem_append.1 hq with hq | hq
    · exact owns_kept (h3 q hq) hk (hne (h3 q hq))
    · have : q = (x, v1) := by simpa using hq
      subst this
      exact owns_kept ho hk (hne ho)
  · intro q hq
    rw [List.zip_append h1.symm] at hq
    rcases List.mem_append.1 hq with hq | hq
    · exact h4 q hq
    · have : q = (x, v1) := by simpa using hq
      subst this
      exact h5
/-- The document's log with one frame more. -/
theorem DAt.push {base : Nat} {X Y Z Z2 : World} {d : Dl} {gg cc n : Nat} {l : List Nat} {v1 : Value} {vs : List Value} (h : DAt base X d) (hn : n = l.length) (hn1 : 1 ≤ n) (hf : d.e + 6 + n ≤ d.page * d.pages)
    (h1 : vs.length = d.fs.length) (h2 : X.ownsRow base 97 2 d.fv d.fs.length ((d.fs.zip vs).flatMap fzCells)) (h3 : ∀ q ∈ d.fs.zip vs, X.ownsRow base 5 1 q.2 q.1.2.length (q.1.2.map u8v)) (h4 : ∀ q ∈ d.fs.zip vs, ∀ g, q.2.ownBlock = some g → ¬ d.no g) (h5 : ∀ g, v1.ownBlock = some g → ¬ d.no g)
    (ho : X.ownsRow base 5 1 v1 l.length (l.map u8v)) (hg : X.grownBy Y d.fv.ownBlock) (hown : Y.ownsRow base 97 2 (.slice (some ⟨gg, 0, none⟩) (d.fs.length + 1) cc) (d.fs.length + 1) ((d.fs.zip vs).flatMap fzCells ++ [.int .i64 (d.e : Nat), v1]))
    (hZ : Z = Y.setCell ⟨d.p, 2, none⟩ (.slice (some ⟨gg, 0, none⟩) (d.fs.length + 1) cc)) (hb2 : Below Z.heap.size Z Z2) :
    (Y.cell? ⟨d.p, 2, none⟩ = some d.fv ∧ Y.frozen? ⟨d.p, 2, none⟩ = false) ∧ (Z.cell? ⟨d.p, 0, none⟩ = some (.int .i64 (d.page : Nat)) ∧ Z.cell? ⟨d.p, 3, none⟩ = some (.int .i64 (d.e : Nat)) ∧ Z.frozen? ⟨d.p, 3, none⟩ = false) ∧
    DAt base (Z2.setCell ⟨d.p, 3, none⟩ (.int .i64 (bgn d.page (d.e + (6 + n)) : Nat))) { d with fv := .slice (some ⟨gg, 0, none⟩) (d.fs.length + 1) cc, fs := d.fs ++ [(d.e, l)], e := bgn d.page (d.e + (6 + n)) } ∧ Kept (fun k => k = d.p ∨ d.fv.ownBlock = some k) X (Z2.setCell ⟨d.p, 3, none⟩ (.int .i64 (bgn d.page (d.e + (6 + n)) : Nat))) := by
  have kg : Kept (fun k => d.fv.ownBlock = some k) X Y := ⟨hg.os, hg.tape, hg.output, hg.size, fun k hk hn => hg.block k hk (fun e => hn e.symm)⟩
  have hnp : ¬ d.fv.ownBlock = some d.p := fun e => by
    obtain ⟨_, cs, hr⟩ := lown_row h2 e
    exact hr.ne h.box (by decide) rfl
  have bY : Row Y d.p (dlCells d) 92 := h.box.kept kg hnp
  have bZ := bY.set (i := 2) (.slice (some ⟨gg, 0, none⟩) (d.fs.length + 1) cc) (by simp [dlCells])
  rw [← hZ] at bZ
  have fY : DBk base d.no Y (.slice (some ⟨gg, 0, none⟩) (d.fs.length + 1) cc) (d.fs ++ [(d.e, l)]) := DBk.push h1 h2 h3 h4 h5 ho hg hown
  have kZ : Kept (fun k => k = d.p) Y Z := by rw [hZ]; exact (Kept.refl (fun k => k = d.p) Y).setCell (p := ⟨d.p, 2, none⟩) rfl _
  have fZ := dbk_kept fY kZ (fun b cs t hb hr => by subst hb; exact row_type hr bY)
  have b2 := (bZ.later hb2).set (i := 3) (.int .i64 (bgn d.page (d.e + (6 + n)) : Nat)) (by simp [dlCells])
  have k2 : Kept (fun k => k = d.p) Z2 (Z2.setCell ⟨d.p, 3, none⟩ (.int .i64 (bgn d.page (d.e + (6 + n)) : Nat))) := (Kept.refl (fun k => k = d.p) Z2).setCell (p := ⟨d.p, 3, none⟩) rfl _
  have f2 := dbk_kept (fZ.later hb2) k2 (fun b cs t hb hr => by subst hb; exact row_type hr (bZ.later hb2))
  have q1 := (bgn_le d.page (d.e + (6 + n))).1
  refine ⟨⟨bY.cell (i := 2) rfl, bY.frozen 2⟩, ⟨bZ.cell (i := 0) rfl, bZ.cell (i := 3) rfl, bZ.frozen 3⟩, ⟨h.low, b2, f2, h.pg, h.ps, ?_, ?_⟩, ?_⟩
  · exact bgn_fit (n := d.pages) h.pg.1 (by omega)
  · have := h.ct
    simp only [List.length_append, List.length_singleton]
    omega
  · exact ((kg.mono fun _ e => .inr e).trans ((kZ.mono fun _ e => .inl e).trans (.of_below hb2))).trans (k2.mono fun _ e => .inl e)
theorem infoDf : (Tryz.prog.info? 97).map (fun i => (i.zero, i.size, i.bytes)) = some (some (.agg #[.int .i64 0, .slice none 0 0]), 2, 32) := by kernel_rfl
set_option maxHeartbeats 2000000 in
theorem dappend_yes {base : Nat} {w : World} {d : Dl} (h : DAt base w d) (a : Option Addr) (n cap : Nat) (l : List Nat) (hl : BArg w a n cap l) (h1 : 1 ≤ n) (h2 : n ≤ 1024) (hbr : d.br = false) (hf : d.e + 6 + n ≤ d.page * d.pages) (hN : ∀ k, d.no k → k < w.heap.size) :
    Calls Tryz.prog 16 #[.pointer (some ⟨d.p, 0, none⟩), .slice a n cap] w fun e w' => e = .returned (.tuple #[.int .i64 (d.e : Nat), .int .i64 0]) ∧ ∃ d', d'.p = d.p ∧ d'.page = d.page ∧ d'.pages = d.pages ∧ d'.no = d.no ∧ d'.br = false ∧ d'.fs = d.fs ++ [(d.e, l)] ∧ d'.e = bgn d.page (d.e + (6 + n)) ∧ DAt base w' d' ∧ Kept (fun k => k = d.p ∨ d.fv.ownBlock = some k) w w' ∧ (∀ k, d'.fv.ownBlock = some k → d.fv.ownBlock = some k ∨ w.heap.size ≤ k) := by
  have kF := Hd.rframe_yes a cap n l w hl.len_eq h1 h2 hl.lt hl.row hl.nil
  obtain ⟨T, hT⟩ : ∃ T, T = d.page * d.pages := ⟨_, rfl⟩
  have HD : Hid (∀ X, Below w.heap.size w X → DAt base X d) := fun X hb => h.later hb
  have HM : Hid (∀ X, Below w.heap.size w X → Calls Tryz.prog 49 #[.pointer (some ⟨d.p, 0, none⟩)] X fun e w' => e = .returned (.int .i64 (T : Nat)) ∧ Below X.heap.size X w') := fun X hb => dmost_any (h.later hb) T hT
  have hm := h.most_le
  have he := h.en
  have HL := hidW (show (Hd.frameL l).length = 6 + n by rw [frame_len, hl.len_eq])
  rw [← hT] at hm he hf
  have e1 : (d.e : Int) ≤ (T : Int) := by omega
  have e2 : (T : Int) ≤ 32768 := by omega
  have n1 : (n : Int) ≤ 1024 := by omega
  have hc : ¬ (T : Int) - (d.e : Int) < 6 + (n : Int) := by omega
  have HBR := hidW hbr
  obtain ⟨ad, rfl⟩ : ∃ ad, a = some ad := by
    cases a with
    | none => have := (hl.nil rfl).1; omega
    | some ad => exact ⟨ad, rfl⟩
  have HLN := hidW hl.len_eq
  have HRW : Hid (∀ X, Below w.heap.size w X → ∀ j u, (l.map u8v)[j]? = some u → X.cell? (ad.add j) = some u) := fun X hb => Hd.cells_any (l := l) (hl.row.later hb)
  obtain ⟨j0, hj, hy0, hy1, hy2⟩ := info_parts info8
  have HFT := hidW (show d.e + 6 + n ≤ d.page * d.pages by rw [← hT]; exact hf)
  clear hbr
  clear h hT hm he h2
  clear hf
  go_enter Tryz.func16, Tryz.ntmps16
  go_wp2_with (go_at_call 48; refine kF.mono ?_; rintro e w1 ⟨v, rfl, ho⟩; obtain ⟨a1, c1, rfl, _⟩ := ho.row; rw [HL.out]; have HB1 := hidW ho.2; clear ho)
  have ne := Wd.non w1
  have z3 : ∀ p : Wd w1, p.v.cell? ⟨d.p, 3, none⟩ = some (.int .i64 (d.e : Nat)) := fun p => (HD.out p.v (Below.after HB1.out p.h)).cells.2.2.2.1
  have z4 : ∀ p : Wd w1, p.v.cell? ⟨d.p, 4, none⟩ = some (.bool false) := fun p => by rw [← HBR.out]; exact (HD.out p.v (Below.after HB1.out p.h)).cells.2.2.2.2
  have cM := fun p : Wd w1 => quiet_call p (HM.out p.v (Below.after HB1.out p.h))
  clear kF
  refine quiet_below (by kernel_rfl) ?_
  repeat (first | go_big_quiet_skip | go_big_quiet_step (first | (go_at_call 49; exact cM _)))
  refine wpQuiet_nil ?_
  rintro _ ⟨p4, rfl⟩
  obtain ⟨w4, hw4⟩ : ∃ W, W = p4.v := ⟨_, rfl⟩
  have HB4 : Hid (Below w.heap.size w w4) := by rw [hw4]; exact Below.after HB1.out p4.h
  rw [← hw4]
  clear hw4
  clear p4
  clear z3 z4 cM ne
  have d3 : w4.cell? ⟨d.p, 3, none⟩ = some (.int .i64 (d.e : Nat)) :=  (HD.out _ HB4.out).cells.2.2.2.1
  have d2 := (HD.out _ HB4.out).cells.2.2.1
  have fz : w4.frozen? ⟨d.p, 2, none⟩ = false := (HD.out _ HB4.out).box.frozen 2
  have n0 : 0 < n := h1
  go_wp2_with fail
  have t1 : (w4.alloc (.cells #[] 5)).drew.ownsRow w4.heap.size 5 1 (.slice (some ⟨w4.heap.size, 0, none⟩) 0 0) 0 [] := owns_later (Hd.own_empty w4 w4.heap.size (Nat.le_refl _)) (below_drew' _)
  have t2 : (l.map u8v).length = n * 1 := by have := HLN.out; simp; omega
  have t3 : ∀ j u, (l.map u8v)[j]? = some u → (w4.alloc (.cells #[] 5)).drew.cell? (ad.add j) = some u := HRW.out _ (Below.after HB4.out (below_new w4 _).drew)
  have t4 : ∀ u ∈ l.map u8v, u.oneCell' = true := Hd.u8v_one _
  have t5 : 0 + n ≤ maxLen := by unfold maxLen; omega
  have t6 : (0 + n) * 1 ≤ 140737488355328 := by omega
  have t7 : (w4.alloc (.cells #[] 5)).drew.heap.size = w4.heap.size + 1 := by simp
  clear d3
  have dA := (HD.out (w4.alloc (.cells #[] 5)) (Below.after HB4.out (below_new w4 _))).cells.2.2.1
  obtain ⟨jf, hjf, hf0, hf1, hf2⟩ := info_parts infoDf
  obtain ⟨vs, hvs, hv2, hv3, hv4⟩ := (HD.out w4 HB4.out).frs
  have HV4 := hidW hv4
  have HNo := hidW hN
  have HVS := hidW (show vs.length = d.fs.length ∧ w4.ownsRow base 97 2 d.fv d.fs.length ((d.fs.zip vs).flatMap fzCells) ∧ (∀ q ∈ d.fs.zip vs, w4.ownsRow base 5 1 q.2 q.1.2.length (q.1.2.map u8v)) from ⟨hvs, hv2, hv3⟩)
  have hct := (HD.out w4 HB4.out).ct
  have hen := (HD.out w4 HB4.out).en
  have hmo := (HD.out w4 HB4.out).most_le
  have HCT : Hid (d.fs.length ≤ 5000) := by show _ ≤ _; omega
  have HBA : Hid (base ≤ w4.heap.size) := by
    have h1 := (HD.out w4 HB4.out).low
    have h2 := (HD.out w4 HB4.out).box.lt
    show _ ≤ _
    omega
  clear hvs hv2 hv3 hv4 hct hen hmo hN
  go_region_law (first
    | (refine step_append_lies _ (by rfl) _ _ _ (by rfl) w4.heap.size 5 j0 _ 1 1 Tryz.underlying39 hj hy0 hy1 hy2 rfl (by omega) (.slice (some ⟨w4.heap.size, 0, none⟩) 0 0) 0 [] (by rfl) t1 ad n cap (l.map u8v) (by rfl) t2 t3 t4 n0 t5 t6 (by simp) (w4.heap.size + 1) t7 ?_; intro g5 c5 w5 hown5 hgrow5 hat5 hlt5; have hb5 : Below w4.heap.size w4 w5 := ((below_new w4 (.cells #[] 5)).drew).grown hgrow5 (by simp) (fun k hk => by simp [Value.ownBlock] at hk; omega); have d5 := (HD.out w5 (Below.after HB4.out hb5)).cells.2.2.1; have d5a := (HD.out (w5.alloc (.cells #[.int .i64 (d.e : Nat), .slice (some ⟨g5, 0, none⟩) n c5] 97)) (Below.after (Below.after HB4.out hb5) (below_new w5 _))).cells.2.2.1; have HB5 := hidW hb5; have HO5 : Hid (w5.ownsRow w4.heap.size 5 1 (.slice (some ⟨g5, 0, none⟩) n c5) n (l.map u8v)) := (by have := hown5; simp only [Nat.zero_add, List.nil_append] at this; exact this); have HOF : Hid ((w5.alloc (.cells #[.int .i64 (d.e : Nat), .slice (some ⟨g5, 0, none⟩) n c5] 97)).ownsRow base 97 2 d.fv d.fs.length ((d.fs.zip vs).flatMap fzCells)) := owns_later (owns_later HVS.out.2.1 hb5) (below_new w5 _); clear hown5 hgrow5 hat5 hlt5 hb5)
    | (refine step_append_lies _ (by rfl) _ _ _ (by rfl) base 97 jf _ 2 32 Tryz.underlying90 hjf hf0 hf1 hf2 rfl (by omega) d.fv d.fs.length ((d.fs.zip vs).flatMap fzCells) (by rfl) HOF.out ⟨w5.heap.size, 0, none⟩ 1 1 [.int .i64 (d.e : Nat), .slice (some ⟨g5, 0, none⟩) n c5] (by rfl) (by rfl) (World.news_of_block (cs := #[.int .i64 (d.e : Nat), .slice (some ⟨g5, 0, none⟩) n c5]) (t := 97) (fr := (0, 0)) (lheap_new w5 _)) (by simp [Value.oneCell']) (by omega) (by have := HCT.out; unfold maxLen; omega) (by have := HCT.out; omega) (by have := HBA.out; have := HB5.out.size; simp; omega) (w5.heap.size + 1) (by simp) ?_; intro gg cc w6 hown6 hgrow6 hat6 hlt6; have hW5 : Below w.heap.size w (w5.alloc (.cells #[.int .i64 (d.e : Nat), .slice (some ⟨g5, 0, none⟩) n c5] 97)) := Below.after (Below.after HB4.out HB5.out) (below_new w5 _); have HP : Hid (∀ Z Z2, Z = w6.setCell ⟨d.p, 2, none⟩ (.slice (some ⟨gg, 0, none⟩) (d.fs.length + 1) cc) → Below Z.heap.size Z Z2 → _) := hidW (fun Z Z2 hZ hb2 => DAt.push (HD.out _ hW5) HLN.out h1 HFT.out HVS.out.1 HOF.out (fun q hq => owns_later (owns_later (HVS.out.2.2 q hq) HB5.out) (below_new w5 _)) HV4.out (fun k e q => by cases e; have h1 := HNo.out _ q; have h2 := (lown_row HO5.out rfl).1; have h3 := HB4.out.size; omega) (by rw [← HLN.out]; exact owns_later (lown_low HO5.out HBA.out) (below_new w5 _)) hgrow6 hown6 hZ hb2); have HW5 := hidW hW5; have c6 := (HP.out _ _ rfl (Below.refl _ _)).1.1; have f6 := (HP.out _ _ rfl (Below.refl _ _)).1.2; have HAT := hidW (show d.fv.ownBlock = some gg ∨ w.heap.size ≤ gg from hat6.imp id (fun e => by have := hW5.size; rw [e]; simpa using this)); clear hown6 hgrow6 hat6 hlt6 hW5))
  all_goals
    obtain ⟨Z, hZ⟩ : ∃ Z, Z = w6.setCell ⟨d.p, 2, none⟩ (.slice (some ⟨gg, 0, none⟩) (d.fs.length + 1) cc) := ⟨_, rfl⟩
    rw [← hZ]
    have HQ := hidW (fun Z2 => HP.out Z Z2 hZ)
    have y0 := (HQ.out Z (Below.refl _ _)).2.1.1
    have y3 := (HQ.out Z (Below.refl _ _)).2.1.2.1
    have yf := (HQ.out Z (Below.refl _ _)).2.1.2.2
    have kB : ∀ W, Calls Tryz.prog 42 #[.int .i64 ((d.e : Int) + (6 + (n : Int))), .int .i64 (d.page : Nat)] W fun e w' => e = .returned (.int .i64 (bgn d.page (d.e + (6 + n)) : Nat)) ∧ W = w' := fun W => by
      have hpg := (HD.out w (Below.refl _ _)).pg
      have := rbegin_any (d.e + (6 + n)) d.page W (by omega) (by omega) (by omega)
      rw [show (((d.e + (6 + n) : Nat)) : Int) = (d.e : Int) + (6 + (n : Int)) by omega] at this
      exact this
    clear hZ HP c6 f6
    go_wp2_with (go_at_call 42; refine (kB _).mono ?_; rintro e w7 ⟨rfl, rfl⟩)
    go_ret2
    have hq := (HQ.out Z (Below.refl _ _)).2.2
    exact ⟨rfl, ⟨d.p, d.page, d.pages, .slice (some ⟨gg, 0, none⟩) (d.fs.length + 1) cc, d.fs ++ [(d.e, l)], bgn d.page (d.e + (6 + n)), d.br, d.no⟩, rfl, rfl, rfl, rfl, HBR.out, rfl, rfl, hq.1, (Kept.of_below HW5.out).trans hq.2, fun k e => by cases e; exact HAT.out⟩
end Go.Proofs.YteodcjbbkekidaaGreatDoor
namespace Go.Proofs.YteodcjbbkekidaaGreatDoor
open Go.RowKit Go.Extern.Stop Go.Stop Go.Extern
set_option maxRecDepth 10000

theorem fz_len (q : Fm × Value) : (fzCells q).length = 2 := rfl
theorem dfr_at {base : Nat} {N : Nat → Prop} {w : World} {v : Value} {fs : List Fm} (h : DBk base N w v fs) :
    ∃ a cap, v = .slice a fs.length cap ∧ ∀ j x, fs[j]? = some x → ∃ g u, a = some ⟨g, 0, none⟩ ∧ w.cell? ⟨g, j * 2, none⟩ = some (.int .i64 (x.1 : Nat)) ∧ w.cell? ⟨g, j * 2 + 1, none⟩ = some u ∧ w.ownsRow base 5 1 u x.2.length (x.2.map u8v) := by
  obtain ⟨vs, h1, h2, h3, _⟩ := h
  have hzl : (fs.zip vs).length = fs.length := by simp [h1]
  have hl := flat_len fzCells 2 fz_len (fs.zip vs)
  rcases h2.2 with ⟨e, e2⟩ | ⟨g, cap, cur, e, hbg, hrow, rest⟩
  · refine ⟨none, 0, by rw [e, e2], fun j x hx => ?_⟩
    have := (List.getElem?_eq_some_iff.1 hx).1
    omega
  · refine ⟨some ⟨g, 0, none⟩, cap, e, fun j x hx => ?_⟩
    have hj := (List.getElem?_eq_some_iff.1 hx).1
    obtain ⟨u, hu⟩ : ∃ u, vs[j]? = some u := ⟨_, List.getElem?_eq_getElem (by omega)⟩
    have hz : (fs.zip vs)[j]? = some (x, u) := by rw [List.getElem?_zip_eq_some]; exact ⟨hx, hu⟩
    subst e
    refine ⟨g, u, rfl, ?_, ?_, h3 (x, u) (List.mem_of_getElem? hz)⟩
    · have k := flat_get fzCells 2 fz_len 0 (by omega) (fs.zip vs) j (x, u) hz
      rw [h2.cellAt (j * 2) (by omega)]
      exact k
    · have k := flat_get fzCells 2 fz_len 1 (by omega) (fs.zip vs) j (x, u) hz
      rw [h2.cellAt (j * 2 + 1) (by omega)]
      exact k
set_option maxHeartbeats 2000000 in
theorem dread_any {base : Nat} {w : World} {d : Dl} (h : DAt base w d) (pos : Int) :
    Calls Tryz.prog 21 #[.pointer (some ⟨d.p, 0, none⟩), .int .i64 pos] w fun e w' => Below w.heap.size w w' ∧ ((∃ (k : Nat) (x : Fm) (v : Value), d.fs[k]? = some x ∧ (x.1 : Int) = pos ∧ e = .returned (.tuple #[v, .int .i64 0]) ∧ w'.ownsRow base 5 1 v x.2.length (x.2.map u8v)) ∨ ((∀ x : Fm, x ∈ d.fs → (x.1 : Int) ≠ pos) ∧ e = .returned (.tuple #[.slice none 0 0, .int .i64 22]))) := by
  obtain ⟨a, cap, ev, _⟩ := dfr_at h.frs
  have HD : Hid (∀ X, Below w.heap.size w X → DAt base X d) := fun X hb => h.later hb
  have HC : Hid (∀ X, Below w.heap.size w X → X.cell? ⟨d.p, 2, none⟩ = some (.slice a d.fs.length cap) ∧ ∀ j x, d.fs[j]? = some x → ∃ g u, a = some ⟨g, 0, none⟩ ∧ X.cell? ⟨g, j * 2, none⟩ = some (.int .i64 (x.1 : Nat)) ∧ X.cell? ⟨g, j * 2 + 1, none⟩ = some u ∧ X.ownsRow base 5 1 u x.2.length (x.2.map u8v)) := fun X hb => by
    have hX := h.later hb
    obtain ⟨a', cap', ev', hc⟩ := dfr_at hX.frs
    have e : (Value.slice a d.fs.length cap) = .slice a' d.fs.length cap' := ev.symm.trans ev'
    cases e
    exact ⟨by rw [← ev']; exact hX.cells.2.2.1, hc⟩
  have hct := h.ct
  have hen := h.en
  have hmo := h.most_le
  obtain ⟨m, hm⟩ : ∃ m, m = d.fs.length := ⟨_, rfl⟩
  have HM := hidW hm
  rw [← hm] at HC hct
  have m1 : (m : Int) ≤ 5000 := by omega
  clear h ev hct hen hmo hm
  go_enter Tryz.func21, Tryz.ntmps21
  go_wp2_with fail
  go_loopg [6] m (fun kx s6 wr => ∃ k : Nat, k + kx = m ∧ s6 = .int .i64 (k : Nat) ∧ Hid (Below w.heap.size w wr ∧ ∀ (j : Nat) (x : Fm), j < k → d.fs[j]? = some x → (x.1 : Int) ≠ pos))
  case atStart => exact ⟨0, by omega, rfl, ⟨Below.refl _ _, fun j x h => by omega⟩⟩
  case round =>
    obtain ⟨k, hk, rfl, I⟩ := hrel
    obtain ⟨c2, hc⟩ := HC.out wr I.out.1
    by_cases hlt : k < m
    · obtain ⟨x, hx⟩ : ∃ x, d.fs[k]? = some x := ⟨_, List.getElem?_eq_getElem (by have := HM.out; omega)⟩
      obtain ⟨g, u, rfl, e0, e1, e2⟩ := hc k x hx
      have HO := hidW e2
      have HX := hidW hx
      obtain ⟨xp, hxp⟩ : ∃ xp, xp = x.1 := ⟨_, rfl⟩
      have HXP := hidW hxp
      rw [← hxp] at e0
      clear e2 hx hc hxp
      have hkm : (k : Int) < (m : Int) := by omega
      by_cases hp : (xp : Int) = pos
      · have b1 : ((xp : Int) == pos) = true := by simpa using hp
        have HP := hidW hp
        clear hp
        go_wp2_with fail
        go_ret2
        exact ⟨I.out.1, .inl ⟨k, x, u, HX.out, by rw [← HXP.out]; exact HP.out, rfl, HO.out⟩⟩
      · have b1 : ((xp : Int) == pos) = false := by simpa using hp
        have HP := hidW hp
        clear hp
        go_wp2_with fail
        go_roundg (m - (k + 1))
        case measure => omega
        case rel =>
          refine ⟨k + 1, by omega, by go_num, ⟨I.out.1, fun j y hj hy => ?_⟩⟩
          by_cases hjk : j = k
          · subst hjk
            have : y = x := Option.some.inj (hy.symm.trans HX.out)
            rw [this, ← HXP.out]
            exact HP.out
          · exact I.out.2 j y (by omega) hy
    · have hkm : k = m := by omega
      clear hc
      subst hkm
      go_wp2_with fail
      go_ret2
      refine ⟨I.out.1, .inr ⟨fun x hx => ?_, rfl⟩⟩
      obtain ⟨j, hj, e⟩ := List.mem_iff_getElem.1 hx
      exact I.out.2 j x (by have := HM.out; omega) (by rw [List.getElem?_eq_getElem hj, e])
end Go.Proofs.YteodcjbbkekidaaGreatDoor
namespace Go.Proofs.YteodcjbbkekidaaGreatDoor
open Go.RowKit Go.Extern.Stop Go.Stop Go.Extern
set_option maxRecDepth 10000

/-- A frame's cells, and the payload behind them. -/
theorem fbk_at {base : Nat} {w : World} {v : Value} {fs : List Fm} (h : FBk base w v fs) :
    ∃ a cap, v = .slice a fs.length cap ∧ ∀ j x, fs[j]? = some x → ∃ g u, a = some ⟨g, 0, none⟩ ∧ w.cell? ⟨g, j * 2, none⟩ = some (.int .i64 (x.1 : Nat)) ∧ w.cell? ⟨g, j * 2 + 1, none⟩ = some u ∧ w.ownsRow base 5 1 u x.2.length (x.2.map u8v) := by
  obtain ⟨vs, h1, h2, h3⟩ := h
  have hzl : (fs.zip vs).length = fs.length := by simp [h1]
  have hl := flat_len fzCells 2 fz_len (fs.zip vs)
  rcases h2.2 with ⟨e, e2⟩ | ⟨g, cap, cur, e, hbg, hrow, rest⟩
  · refine ⟨none, 0, by rw [e, e2], fun j x hx => ?_⟩
    have := (List.getElem?_eq_some_iff.1 hx).1
    omega
  · refine ⟨some ⟨g, 0, none⟩, cap, e, fun j x hx => ?_⟩
    have hj := (List.getElem?_eq_some_iff.1 hx).1
    obtain ⟨u, hu⟩ : ∃ u, vs[j]? = some u := ⟨_, List.getElem?_eq_getElem (by omega)⟩
    have hz : (fs.zip vs)[j]? = some (x, u) := by rw [List.getElem?_zip_eq_some]; exact ⟨hx, hu⟩
    subst e
    refine ⟨g, u, rfl, ?_, ?_, h3 (x, u) (List.mem_of_getElem? hz)⟩
    · have k := flat_get fzCells 2 fz_len 0 (by omega) (fs.zip vs) j (x, u) hz
      rw [h2.cellAt (j * 2) (by omega)]
      exact k
    · have k := flat_get fzCells 2 fz_len 1 (by omega) (fs.zip vs) j (x, u) hz
      rw [h2.cellAt (j * 2 + 1) (by omega)]
      exact k
/-- Both say the same. -/
structure Ali (l : Lm) (d : Dl) : Prop where
  fs : l.fs = d.fs
  en : l.data.length = d.e
  br : l.sp = d.br
  cap : l.dcap = d.page * d.pages
theorem Ali.room {l : Lm} {d : Dl} (h : Ali l d) : roomI l = d.room := by
  unfold roomI Dl.room
  rw [h.br, h.en, h.cap]
theorem ahdF_at {fs : List Fm} (hp : fs.Pairwise fun x y => x.1 < y.1) {k : Nat} {x : Fm} (hx : fs[k]? = some x) : ahdF (x.1 : Int) fs = k := by
  have hk := (List.getElem?_eq_some_iff.1 hx).1
  have h1 : ¬ k < ahdF (x.1 : Int) fs := fun h => by
    have := (ahdF_iff (x.1 : Int) hp hx).2 h
    omega
  rcases Nat.lt_or_ge (ahdF (x.1 : Int) fs) k with h2 | h2
  · obtain ⟨y, hy⟩ : ∃ y, fs[ahdF (x.1 : Int) fs]? = some y := ⟨_, List.getElem?_eq_getElem (by omega)⟩
    have h3 : y.1 < x.1 := by
      have e1 := (List.getElem?_eq_some_iff.1 hy)
      have e2 := (List.getElem?_eq_some_iff.1 hx)
      obtain ⟨l1, e1⟩ := e1
      obtain ⟨l2, e2⟩ := e2
      have h5 := List.pairwise_iff_getElem.1 hp _ _ l1 l2 h2
      have q1 := congrArg Prod.fst e1
      have q2 := congrArg Prod.fst e2
      omega
    have h4 := (ahdF_iff (x.1 : Int) hp hy).1 (by omega)
    omega
  · omega
set_option maxHeartbeats 4000000 in
theorem alike_any {base base' t : Nat} {w : World} {m : Mg} {c : CS} {P : List (List (List Nat))} {l : Lm} {d : Dl} (h : ML base t w m c P l) (hd : DAt base' w d) (ha : Ali l d) :
    Calls Tryz.prog 19 #[.pointer (some ⟨l.p, 0, none⟩), .pointer (some ⟨d.p, 0, none⟩)] w fun e w' => e = .returned (.bool true) ∧ Below w.heap.size w w' := by
  have HM : Hid (∀ X, Below w.heap.size w X → ML base t X m c P l) := fun X hb => h.later hb
  have HD : Hid (∀ X, Below w.heap.size w X → DAt base' X d) := fun X hb => hd.later hb
  have kF := frames_any h
  have hct := hd.ct
  have hen := hd.en
  have hmo := hd.most_le
  obtain ⟨n, hn⟩ : ∃ n, n = d.fs.length := ⟨_, rfl⟩
  obtain ⟨E, hE⟩ : ∃ E, E = d.e := ⟨_, rfl⟩
  obtain ⟨R, hR⟩ : ∃ R, R = d.room := ⟨_, rfl⟩
  obtain ⟨B, hB⟩ : ∃ B, B = d.br := ⟨_, rfl⟩
  have HN := hidW (show l.fs.length = n ∧ d.fs.length = n from ⟨by rw [ha.fs, hn], hn.symm⟩)
  have HV := hidW (show roomI l = R ∧ l.data.length = E ∧ l.sp = B from ⟨by rw [ha.room, hR], by rw [ha.en, hE], by rw [ha.br, hB]⟩)
  have HW := hidW (show d.room = R ∧ d.e = E ∧ d.br = B from ⟨hR.symm, hE.symm, hB.symm⟩)
  have HA := hidW ha
  have hn1 : (n : Int) ≤ 5000 := by omega
  have n1 : n ≤ 5000 := by omega
  have hE1 : (E : Int) ≤ 32768 := by omega
  clear h hd hct hen hmo hn hE hR hB ha
  go_enter Tryz.func19, Tryz.ntmps19
  go_wp2_with (first
    | (go_at_call 24; refine kF.mono ?_; rintro e w1 ⟨v1, rfl, hf1, hb1⟩; obtain ⟨a1, k1, rfl, hc1⟩ := fbk_at hf1; rw [HN.out.1]; have HC1 := hidW hc1; have HB1 := hidW hb1; clear hf1 hb1 hc1))
  obtain ⟨a2, k2, e2, _⟩ := dfr_at (HD.out w1 HB1.out).frs
  rw [HN.out.2] at e2
  have HE2 := hidW e2
  have ne := Wd.non w1
  have z2 : ∀ p : Wd w1, p.v.cell? ⟨d.p, 2, none⟩ = some (.slice a2 n k2) := fun p => by rw [← HE2.out]; exact (HD.out p.v (Below.after HB1.out p.h)).cells.2.2.1
  have z3 : ∀ p : Wd w1, p.v.cell? ⟨d.p, 3, none⟩ = some (.int .i64 (E : Nat)) := fun p => by rw [← HW.out.2.1]; exact (HD.out p.v (Below.after HB1.out p.h)).cells.2.2.2.1
  have z4 : ∀ p : Wd w1, p.v.cell? ⟨d.p, 4, none⟩ = some (.bool B) := fun p => by rw [← HW.out.2.2]; exact (HD.out p.v (Below.after HB1.out p.h)).cells.2.2.2.2
  have cA := fun p : Wd w1 => quiet_call p (by have := room_any (HM.out p.v (Below.after HB1.out p.h)); rw [HV.out.1] at this; exact this)
  have cB := fun p : Wd w1 => quiet_call p (by have := droom_any (HD.out p.v (Below.after HB1.out p.h)); rw [HW.out.1] at this; exact this)
  have cE := fun p : Wd w1 => quiet_same p (by have := end_any (HM.out p.v (Below.after HB1.out p.h)).la; rw [HV.out.2.1] at this; exact this)
  have cK := fun p : Wd w1 => quiet_call p (by have := broken_any (HM.out p.v (Below.after HB1.out p.h)).ms (HM.out p.v (Below.after HB1.out p.h)).la (HM.out p.v (Below.after HB1.out p.h)).mp; rw [HV.out.2.2] at this; exact this)
  clear e2 kF
  refine quiet_below (by kernel_rfl) ?_
  repeat (first | go_big_quiet_skip | go_big_quiet_step (first
    | (go_at_call 25; exact cA _)
    | (go_at_call 52; exact cB _)
    | (go_at_call 26; exact cE _)
    | (go_at_call 27; exact cK _)))
  refine wpQuiet_nil ?_
  rintro _ ⟨p4, rfl⟩
  obtain ⟨w4, hw4⟩ : ∃ W, W = p4.v := ⟨_, rfl⟩
  have HB4 : Hid (Below w1.heap.size w1 w4) := by rw [hw4]; exact p4.h
  rw [← hw4]
  clear hw4
  clear p4
  clear z2 z3 z4 cA cB cE cK ne
  go_wp2_with fail
  go_loopg [6] n (fun kx s6 wr => ∃ k : Nat, k + kx = n ∧ s6 = .int .i64 (k : Nat) ∧ Hid (Below w1.heap.size w1 wr))
  case atStart => exact ⟨0, by omega, rfl, HB4.out⟩
  case round =>
    obtain ⟨k, hk, rfl, I⟩ := hrel
    by_cases hlt : k < n
    · obtain ⟨x, hx⟩ : ∃ x, d.fs[k]? = some x := ⟨_, List.getElem?_eq_getElem (by have := HN.out.2; omega)⟩
      have hx2 : l.fs[k]? = some x := by rw [HA.out.fs]; exact hx
      obtain ⟨g1, u1, e1, e2, e3, e4⟩ := HC1.out k x hx2
      obtain ⟨b1, c1, rfl, hr1, _⟩ := owns_row e4
      obtain ⟨a2', k2', ev2, hc2⟩ := dfr_at (HD.out w1 HB1.out).frs
      rw [HN.out.2, HE2.out] at ev2
      cases ev2
      obtain ⟨g2, u2, f1, f2, f3, f4⟩ := hc2 k x hx
      obtain ⟨b2, c2, rfl, hr2, _⟩ := owns_row f4
      clear hc2 e4 f4
      have hxm := List.mem_of_getElem? hx2
      have hlt : ∀ z ∈ x.2, z < 256 := by
        have hML := HM.out w1 HB1.out
        obtain ⟨_, _, q3, _⟩ := hML.fr.at_ x hxm
        rw [← q3]
        exact fun z hz => hML.la.lt z (List.mem_of_mem_drop (List.mem_of_mem_take hz))
      have HRd : Hid (∀ X, Below w1.heap.size w1 X → Calls Tryz.prog 20 #[.pointer (some ⟨l.p, 0, none⟩), .int .i64 (x.1 : Nat)] X fun e w' => ∃ a c, e = .returned (.tuple #[.slice a x.2.length c, .int .i64 0]) ∧ BRow w' a x.2 ∧ Below X.heap.size X w') := fun X hb => by
        have hML := HM.out X (Below.after HB1.out hb)
        refine (read_yes hML (x.1 : Nat) x (by rw [ahdF_at hML.fr.rise hx2]; exact hx2) rfl).mono ?_
        rintro e w' ⟨v, rfl, ho⟩
        obtain ⟨a, c, rfl, hr, _⟩ := ho.row
        exact ⟨a, c, rfl, hr, ho.2⟩
      have HSa : Hid (∀ X a c a' c', BRow X a x.2 → BRow X a' x.2 → Calls Tryz.prog 53 #[.slice a x.2.length c, .slice a' x.2.length c'] X fun e w' => e = .returned (.bool true) ∧ X = w') := fun X a c a' c' h1 h2 => by
        have := Hd.same_any a c x.2 a' c' x.2 X hlt hlt h1 h2
        rw [show decide (x.2 = x.2) = true by simp] at this
        exact this
      have HR1 : Hid (∀ X, Below w1.heap.size w1 X → BRow X b1 x.2 ∧ BRow X b2 x.2) := fun X hb => ⟨hr1.later hb, hr2.later hb⟩
      obtain ⟨xp, hxp⟩ : ∃ xp, xp = x.1 := ⟨_, rfl⟩
      obtain ⟨xl, hxl⟩ : ∃ xl, xl = x.2.length := ⟨_, rfl⟩
      rw [← hxp] at e2 f2 HRd
      rw [← hxl] at e3 f3 HRd HSa
      subst e1 f1
      have ne := Wd.non wr
      have y0 : ∀ p : Wd wr, p.v.cell? ⟨g1, k * 2, none⟩ = some (.int .i64 (xp : Nat)) := fun p => ((Below.after I.out p.h).cell (p := ⟨g1, k * 2, none⟩) (World.block_lt_of_cell? w1 _ e2)).trans e2
      have y1 : ∀ p : Wd wr, p.v.cell? ⟨g1, k * 2 + 1, none⟩ = some (.slice b1 xl c1) := fun p => ((Below.after I.out p.h).cell (p := ⟨g1, k * 2 + 1, none⟩) (World.block_lt_of_cell? w1 _ e3)).trans e3
      have y2 : ∀ p : Wd wr, p.v.cell? ⟨g2, k * 2, none⟩ = some (.int .i64 (xp : Nat)) := fun p => ((Below.after I.out p.h).cell (p := ⟨g2, k * 2, none⟩) (World.block_lt_of_cell? w1 _ f2)).trans f2
      have y3 : ∀ p : Wd wr, p.v.cell? ⟨g2, k * 2 + 1, none⟩ = some (.slice b2 xl c2) := fun p => ((Below.after I.out p.h).cell (p := ⟨g2, k * 2 + 1, none⟩) (World.block_lt_of_cell? w1 _ f3)).trans f3
      have y4 : ∀ p : Wd wr, p.v.cell? ⟨d.p, 2, none⟩ = some (.slice (some ⟨g2, 0, none⟩) n k2) := fun p => by rw [← HE2.out]; exact (HD.out p.v (Below.after HB1.out (Below.after I.out p.h))).cells.2.2.1
      have cS := fun p : Wd wr => quiet_same p (HSa.out p.v b1 c1 b2 c2 (HR1.out _ (Below.after I.out p.h)).1 (HR1.out _ (Below.after I.out p.h)).2)
      have HE := hidW (show w1.cell? ⟨g1, k * 2, none⟩ = some (.int .i64 (xp : Nat)) ∧ w1.cell? ⟨g1, k * 2 + 1, none⟩ = some (.slice b1 xl c1) from ⟨e2, e3⟩)
      have hkm : (k : Int) < (n : Int) := by omega
      clear e2 e3 f2 f3 hr1 hr2 hx hx2 hxm hlt hxp hxl
      go_wp2_with fail
      refine quiet_below (by kernel_rfl) ?_
      repeat (first | go_big_quiet_skip | go_big_quiet_step (first
        | (go_at_call 53; exact cS _)))
      refine wpQuiet_nil ?_
      rintro _ ⟨p5, rfl⟩
      obtain ⟨w5, hw5⟩ : ∃ W, W = p5.v := ⟨_, rfl⟩
      have HB5 : Hid (Below w1.heap.size w1 w5) := by rw [hw5]; exact Below.after I.out p5.h
      have d0 := y0 p5
      have d1 := y1 p5
      rw [← hw5] at d0 d1 ⊢
      clear hw5
      clear p5
      clear y0 y1 y2 y3 y4 cS ne
      have M1 : Hid True := trivial
      go_wp2_with (first
        | (go_at_call 20; refine (HRd.out w5 HB5.out).mono ?_; rintro e w6 ⟨a6, c6, rfl, hr6, hb6⟩; have HB6 := hidW (Below.after HB5.out hb6); have d6 := ((Below.after HB5.out hb6).cell (p := ⟨g1, k * 2 + 1, none⟩) (World.block_lt_of_cell? w1 _ HE.out.2)).trans HE.out.2; have kS := HSa.out w6 a6 c6 b1 c1 hr6 (HR1.out _ (Below.after HB5.out hb6)).1; clear hr6 hb6)
        | (go_at_call 53; refine kS.mono ?_; rintro e w7 ⟨rfl, rfl⟩))
      go_roundg (n - (k + 1))
      case measure => omega
      case rel => exact ⟨k + 1, by omega, by go_num, HB6.out⟩
    · have hkm : k = n := by omega
      subst hkm
      go_wp2_with fail
      go_ret
      exact ⟨rfl, Below.after HB1.out I.out⟩
end Go.Proofs.YteodcjbbkekidaaGreatDoor
