/-
  What ParseMapping of package header answers.
-/
import Derived.Test.YtdhbhjfpjmmonaaDoorHParse
import Derived.Laws.ResultCell
namespace Go.Proofs.YtdhbhjfpjmmonaaDoor
open Go.RowKit Go.Extern.Stop Go.Stop Go.Extern M
variable {L : Nat}

/-- The three numbers of a mapping, and what is left behind them. -/
noncomputable def mV1 (l : List Nat) : Nat := numV 2 (openL 77 l)
noncomputable def mV2 (l : List Nat) : Nat := numV 8 (numS 2 (openL 77 l))
noncomputable def mV3 (l : List Nat) : Nat := numV 1 (numS 8 (numS 2 (openL 77 l)))
noncomputable def mS (l : List Nat) : Option (List Nat) := endS (numS 1 (numS 8 (numS 2 (openL 77 l))))
open Classical in
/-- What stands in the block, by the bytes l. -/
noncomputable def parseM (l : List Nat) : Option (Nat × Nat × Nat) := if mS l = some [] ∧ mV1 l ≤ 255 ∧ mV3 l ≤ 64 then some (mV1 l, mV2 l, mV3 l) else none
def MPost (w : World) (r : Option (Nat × Nat × Nat)) (e : Ending) (w' : World) : Prop :=
  e = .returned (.tuple #[mapV ((r.getD (0, 0, 0)).1 : Nat) ((r.getD (0, 0, 0)).2.1 : Nat) ((r.getD (0, 0, 0)).2.2 : Nat), .bool r.isSome]) ∧ Below w.heap.size w w'

/-- The reader, the boxed Map, and the result's box. -/
structure Pm (L : Nat) (W wr : World) (st : Option (List Nat)) (r0 bm : Nat) (ms : List Value) : Prop where
  opn : Opn L W wr st
  lb : L ≤ bm
  ne : bm ≠ W.heap.size
  big : W.heap.size ≤ bm
  mrow : Row wr bm ms 30
  res : Row wr r0 [.int .i64 0, .int .u64 0, .int .i64 0] 30
  r0lt : r0 < W.heap.size
theorem Pm.step {W wr w' : World} {s1 s2 : Option (List Nat)} {r0 bm : Nat} {ms : List Value} (h : Pm L W wr s1 r0 bm ms) (hp : RPost L wr W.heap.size s2 w') : Pm L W w' s2 r0 bm ms :=
  ⟨h.opn.step hp, h.lb, h.ne, h.big, h.mrow.kept hp.kept h.ne, h.res.kept hp.kept (Nat.ne_of_lt h.r0lt), h.r0lt⟩
theorem Pm.later {W wr w' : World} {s1 : Option (List Nat)} {r0 bm : Nat} {ms : List Value} (h : Pm L W wr s1 r0 bm ms) (hb : Below wr.heap.size wr w') : Pm L W w' s1 r0 bm ms :=
  ⟨h.opn.later hb, h.lb, h.ne, h.big, h.mrow.later hb, h.res.later hb, h.r0lt⟩
theorem Pm.start {W w1 : World} {s1 : Option (List Nat)} {r0 : Nat} (h : Opn w1.heap.size W w1 s1) (hr : Row W r0 [.int .i64 0, .int .u64 0, .int .i64 0] 30) (x y z : Value) :
    Pm w1.heap.size W (w1.alloc (.cells #[x, y, z] 30)) s1 r0 w1.heap.size [x, y, z] := by
  have hlt := h.rd.lt
  exact ⟨h.later (below_new _ _), Nat.le_refl _, by omega, by omega, Row.new w1 [_, _, _] _, (hr.later h.bel).alloc _, hr.lt⟩
/-- What the last looks see. -/
structure Seen (wr : World) (br bm : Nat) (x y z : Value) : Prop where
  m0 : wr.cell? ⟨bm, 0, none⟩ = some x
  m1 : wr.cell? ⟨bm, 1, none⟩ = some y
  m2 : wr.cell? ⟨bm, 2, none⟩ = some z
  f0 : wr.frozen? ⟨bm, 0, none⟩ = false
  f1 : wr.frozen? ⟨bm, 1, none⟩ = false
  f2 : wr.frozen? ⟨bm, 2, none⟩ = false
  r0 : wr.cell? ⟨br, 0, none⟩ = some (.int .i64 0)
  r1 : wr.cell? ⟨br, 1, none⟩ = some (.int .u64 0)
  r2 : wr.cell? ⟨br, 2, none⟩ = some (.int .i64 0)
  g0 : wr.frozen? ⟨br, 0, none⟩ = false
  g1 : wr.frozen? ⟨br, 1, none⟩ = false
  g2 : wr.frozen? ⟨br, 2, none⟩ = false
theorem Pm.seen {W wr : World} {s1 : Option (List Nat)} {r0 bm : Nat} {x y z : Value} (h : Pm L W wr s1 r0 bm [x, y, z]) : Seen wr r0 bm x y z :=
  ⟨h.mrow.cell (i := 0) rfl, h.mrow.cell (i := 1) rfl, h.mrow.cell (i := 2) rfl, h.mrow.frozen 0, h.mrow.frozen 1, h.mrow.frozen 2, h.res.cell (i := 0) rfl, h.res.cell (i := 1) rfl, h.res.cell (i := 2) rfl, h.res.frozen 0, h.res.frozen 1, h.res.frozen 2⟩
theorem below_store {w wr : World} (h : Below w.heap.size w wr) (x y z : Value) : Below w.heap.size w (((wr.setCell ⟨w.heap.size, 0, none⟩ x).setCell ⟨w.heap.size, 1, none⟩ y).setCell ⟨w.heap.size, 2, none⟩ z) :=
  ((h.setCell (Nat.le_refl _) _).setCell (Nat.le_refl _) _).setCell (Nat.le_refl _) _

set_option maxRecDepth 10000 in
set_option maxHeartbeats 4000000 in
theorem parseMapping_any (a : Option Addr) (n cap : Nat) (l : List Nat) (w : World) (hg : Glb w) (hl : n = l.length) (hc : n ≤ cap) (hm : cap ≤ maxLen) (h256 : ∀ x ∈ l, x < 256) (hr : BRow w a l) :
    Calls Tryd.prog 15 #[.slice a n cap] w (MPost w (parseM l)) := by
  obtain ⟨W, hW⟩ : ∃ W, W = w.alloc (.cells #[.int .i64 0, .int .u64 0, .int .i64 0] 30) := ⟨_, rfl⟩
  have hBW : Below w.heap.size w W := by rw [hW]; exact below_new _ _
  have HRES : Hid (Row W w.heap.size [.int .i64 0, .int .u64 0, .int .i64 0] 30) := by rw [hW]; exact Row.new w [_, _, _] _
  have cO := open_any a n cap 77 (by decide) l W (hg.later hBW) hl hc hm h256 (hr.later hBW)
  have HBW : Hid (Below w.heap.size w W) := hBW
  clear hBW
  have hb0 := openL_b (m := 77) h256
  have hz1 : mV1 l < 65536 := numV_lt hb0 2
  have hz2 : mV2 l < 18446744073709551616 := numV_lt (hb0.num 2) 8
  have hz3 : mV3 l < 256 := numV_lt ((hb0.num 2).num 8) 1
  have HP : Hid (parseM l = if mS l = some [] ∧ mV1 l ≤ 255 ∧ mV3 l ≤ 64 then some (mV1 l, mV2 l, mV3 l) else none) := by show _ = _; unfold parseM; congr
  have cN1 := fun (L : Nat) (w1 : World) (h : Opn L W w1 (openL 77 l)) => number_any W.heap.size 2 _ w1 h.rd (by decide) (by decide)
  have cN2 := fun (L : Nat) (w1 : World) (h : Opn L W w1 (numS 2 (openL 77 l))) => number_any W.heap.size 8 _ w1 h.rd (by decide) (by decide)
  have cN3 := fun (L : Nat) (w1 : World) (h : Opn L W w1 (numS 8 (numS 2 (openL 77 l)))) => number_any W.heap.size 1 _ w1 h.rd (by decide) (by decide)
  have cE := fun (L : Nat) (w1 : World) (h : Opn L W w1 (numS 1 (numS 8 (numS 2 (openL 77 l))))) => end_any W.heap.size _ w1 h.rd
  have hs2 : mS l = some [] ∨ mS l = none := endS_cases _
  change ∀ L w1, _ → Calls _ _ _ _ fun e w' => e = .returned (.int .u64 (mV1 l : Nat)) ∧ _ at cN1
  change ∀ L w1, _ → Calls _ _ _ _ fun e w' => e = .returned (.int .u64 (mV2 l : Nat)) ∧ _ at cN2
  change ∀ L w1, _ → Calls _ _ _ _ fun e w' => e = .returned (.int .u64 (mV3 l : Nat)) ∧ _ at cN3
  change ∀ L w1, _ → Calls _ _ _ _ fun e w' => e = .returned (.tuple #[]) ∧ RPost L w1 W.heap.size (mS l) w' at cE
  obtain ⟨z1, e1⟩ : ∃ z, z = mV1 l := ⟨_, rfl⟩
  obtain ⟨z2, e2⟩ : ∃ z, z = mV2 l := ⟨_, rfl⟩
  obtain ⟨z3, e3⟩ : ∃ z, z = mV3 l := ⟨_, rfl⟩
  obtain ⟨s4, e4⟩ : ∃ s, s = mS l := ⟨_, rfl⟩
  rw [← e1] at hz1 HP cN1
  rw [← e2] at hz2 HP cN2
  rw [← e3] at hz3 HP cN3
  rw [← e4] at HP cE hs2
  obtain ⟨s0, f0⟩ : ∃ s, s = openL 77 l := ⟨_, rfl⟩
  rw [← f0] at cO cN1 cN2 cN3 cE
  obtain ⟨s1, f1⟩ : ∃ s, s = numS 2 s0 := ⟨_, rfl⟩
  rw [← f1] at cN1 cN2 cN3 cE
  obtain ⟨s2, f2⟩ : ∃ s, s = numS 8 s1 := ⟨_, rfl⟩
  rw [← f2] at cN2 cN3 cE
  obtain ⟨s3, f3⟩ : ∃ s, s = numS 1 s2 := ⟨_, rfl⟩
  rw [← f3] at cN3 cE
  clear e1 e2 e3 e4 f0 f1 f2 f3 hb0 hg hl hc hm h256 hr
  have M1 : Hid True := trivial
  have M2 : Hid True := trivial
  by_cases hok : z1 ≤ 255 ∧ z3 ≤ 64
  · have HOK : Hid (lebOk z1 ∧ pagesOk z3) := by show (_ ∧ _) ∧ (_ ∧ _); omega
    have cM := map_ok z1 z2 z3
    unfold mapV at cM
    rcases hs2 with rfl | rfl
    · have hres : parseM l = some (z1, z2, z3) := by rw [HP.out, if_pos ⟨rfl, hok⟩]
      rw [hres]
      clear hres HP hok
      go_enter Tryd.func15, Tryd.ntmps15
      go_wp2_with fail
      rw [← hW]
      clear hW
      go_wp2_with (first
        | (go_at_call 26; refine cO.mono ?_; rintro e w1 ⟨rfl, ho⟩; have HO1 : Hid (Opn _ _ _ _) := ho; clear ho cO)
        | (go_at_call 27; clear M1; refine (cN1 _ _ HO1.out).mono ?_; rintro e w2 ⟨rfl, hp⟩; have HO2 : Hid (Opn _ _ _ _) := HO1.out.step hp; clear hp cN1)
        | (go_at_call 27; clear M2; refine (cN2 _ _ HO2.out).mono ?_; rintro e w3 ⟨rfl, hp⟩; have HO3 : Hid (Opn _ _ _ _) := HO2.out.step hp; clear hp cN2)
        | (go_at_call 27; refine (cN3 _ _ HO3.out).mono ?_; rintro e w4 ⟨rfl, hp⟩; have HP5 : Hid (Pm _ _ _ _ _ _ _) := Pm.start (HO3.out.step hp).tight HRES.out (.int .i64 z1) (.int .u64 z2) (.int .i64 z3); clear hp cN3)
        | (go_at_call 28; refine (cE _ _ HP5.out.opn).mono ?_; rintro e w6 ⟨rfl, hp⟩; have HP6 : Hid (Pm _ _ _ _ _ _ _) := HP5.out.step hp; obtain ⟨m0, m1, m2, f0, f1, f2, r0, r1, r2, g0, g1, g2⟩ := HP6.out.seen; clear hp cE)
        | (go_at_call 25; clear m0 m1 m2 f0 f1 f2 r0 r1 r2 g0 g1 g2; refine (cM _ HOK.out.1 HOK.out.2).mono ?_; rintro e w7 ⟨rfl, hb7⟩; have HP7 : Hid (Pm _ _ _ _ _ _ _) := HP6.out.later hb7; clear hb7)
        | (go_at_call 29; refine (note_nil _ _ [] _ HP7.out.opn.rd).mono ?_; rintro e w' ⟨rfl, rfl⟩; have y1 := HP7.out.opn.fine; obtain ⟨m0, m1, m2, f0, f1, f2, r0, r1, r2, g0, g1, g2⟩ := HP7.out.seen))
      (try simp only [Exit.inBlock, Exit.then])
      refine bodyPost_ret (v := .tuple #[.agg #[.int .i64 z1, .int .u64 z2, .int .i64 z3], .bool true]) ?_ rfl ⟨rfl, below_store (Below.after HBW.out HP7.out.opn.bel) _ _ _⟩
      rw [results_cell_tmp rfl]
      go_simp
    · have hres : parseM l = none := by rw [HP.out, if_neg (fun h => by cases h.1)]
      rw [hres]
      clear hres HP hok
      go_enter Tryd.func15, Tryd.ntmps15
      go_wp2_with fail
      rw [← hW]
      clear hW
      go_wp2_with (first
        | (go_at_call 26; refine cO.mono ?_; rintro e w1 ⟨rfl, ho⟩; have HO1 : Hid (Opn _ _ _ _) := ho; clear ho cO)
        | (go_at_call 27; clear M1; refine (cN1 _ _ HO1.out).mono ?_; rintro e w2 ⟨rfl, hp⟩; have HO2 : Hid (Opn _ _ _ _) := HO1.out.step hp; clear hp cN1)
        | (go_at_call 27; clear M2; refine (cN2 _ _ HO2.out).mono ?_; rintro e w3 ⟨rfl, hp⟩; have HO3 : Hid (Opn _ _ _ _) := HO2.out.step hp; clear hp cN2)
        | (go_at_call 27; refine (cN3 _ _ HO3.out).mono ?_; rintro e w4 ⟨rfl, hp⟩; have HP5 : Hid (Pm _ _ _ _ _ _ _) := Pm.start (HO3.out.step hp).tight HRES.out (.int .i64 z1) (.int .u64 z2) (.int .i64 z3); clear hp cN3)
        | (go_at_call 28; refine (cE _ _ HP5.out.opn).mono ?_; rintro e w6 ⟨rfl, hp⟩; have HP6 : Hid (Pm _ _ _ _ _ _ _) := HP5.out.step hp; obtain ⟨m0, m1, m2, f0, f1, f2, r0, r1, r2, g0, g1, g2⟩ := HP6.out.seen; clear hp cE)
        | (go_at_call 25; clear m0 m1 m2 f0 f1 f2 r0 r1 r2 g0 g1 g2; refine (cM _ HOK.out.1 HOK.out.2).mono ?_; rintro e w7 ⟨rfl, hb7⟩; have HP7 : Hid (Pm _ _ _ _ _ _ _) := HP6.out.later hb7; clear hb7)
        | (go_at_call 29; refine (note_bad _ _ _ (.inl rfl) _ HP7.out.opn.rd).mono ?_; rintro e w' ⟨rfl, rfl⟩; obtain ⟨yt, yx, y1⟩ := HP7.out.opn.err; obtain ⟨m0, m1, m2, f0, f1, f2, r0, r1, r2, g0, g1, g2⟩ := HP7.out.seen))
      (try simp only [Exit.inBlock, Exit.then])
      refine bodyPost_ret (v := .tuple #[.agg #[.int .i64 0, .int .u64 0, .int .i64 0], .bool false]) ?_ rfl ⟨rfl, below_store (Below.after HBW.out HP7.out.opn.bel) _ _ _⟩
      rw [results_cell_tmp rfl]
      go_simp
  · have HOK : Hid (¬ (lebOk z1 ∧ pagesOk z3)) := by show ¬ ((_ ∧ _) ∧ (_ ∧ _)); omega
    have cM := map_bad z1 z2 z3
    unfold mapV at cM
    have hres : parseM l = none := by rw [HP.out, if_neg (fun h => hok h.2)]
    rw [hres]
    clear hres HP hok hs2
    go_enter Tryd.func15, Tryd.ntmps15
    go_wp2_with fail
    rw [← hW]
    clear hW
    go_wp2_with (first
      | (go_at_call 26; refine cO.mono ?_; rintro e w1 ⟨rfl, ho⟩; have HO1 : Hid (Opn _ _ _ _) := ho; clear ho cO)
      | (go_at_call 27; clear M1; refine (cN1 _ _ HO1.out).mono ?_; rintro e w2 ⟨rfl, hp⟩; have HO2 : Hid (Opn _ _ _ _) := HO1.out.step hp; clear hp cN1)
      | (go_at_call 27; clear M2; refine (cN2 _ _ HO2.out).mono ?_; rintro e w3 ⟨rfl, hp⟩; have HO3 : Hid (Opn _ _ _ _) := HO2.out.step hp; clear hp cN2)
      | (go_at_call 27; refine (cN3 _ _ HO3.out).mono ?_; rintro e w4 ⟨rfl, hp⟩; have HP5 : Hid (Pm _ _ _ _ _ _ _) := Pm.start (HO3.out.step hp).tight HRES.out (.int .i64 z1) (.int .u64 z2) (.int .i64 z3); clear hp cN3)
      | (go_at_call 28; refine (cE _ _ HP5.out.opn).mono ?_; rintro e w6 ⟨rfl, hp⟩; have HP6 : Hid (Pm _ _ _ _ _ _ _) := HP5.out.step hp; obtain ⟨m0, m1, m2, f0, f1, f2, r0, r1, r2, g0, g1, g2⟩ := HP6.out.seen; clear hp cE)
      | (go_at_call 25; clear m0 m1 m2 f0 f1 f2 r0 r1 r2 g0 g1 g2; refine (cM _ HOK.out).mono ?_; rintro e w7 ⟨b7, rfl, _, hb7⟩; have HP7 : Hid (Pm _ _ _ _ _ _ _) := HP6.out.later hb7; clear hb7)
      | (go_at_call 29; refine (note_any _ _ _ (.inr ⟨_, _, rfl⟩) _ _ HP7.out.opn.rd).mono ?_; rintro e w8 ⟨rfl, hp⟩; have HP8 : Hid (Pm _ _ _ none _ _ _) := HP7.out.step hp; clear hp; obtain ⟨yt, yx, y1⟩ := HP8.out.opn.err; obtain ⟨m0, m1, m2, f0, f1, f2, r0, r1, r2, g0, g1, g2⟩ := HP8.out.seen))
    (try simp only [Exit.inBlock, Exit.then])
    refine bodyPost_ret (v := .tuple #[.agg #[.int .i64 0, .int .u64 0, .int .i64 0], .bool false]) ?_ rfl ⟨rfl, below_store (Below.after HBW.out HP8.out.opn.bel) _ _ _⟩
    rw [results_cell_tmp rfl]
    go_simp
end Go.Proofs.YtdhbhjfpjmmonaaDoor
