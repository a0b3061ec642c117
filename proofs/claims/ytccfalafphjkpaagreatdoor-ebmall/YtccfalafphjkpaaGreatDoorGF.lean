/-
  What ParseCount and ParseMapping of package header answer.
  What ParseMapping of package header answers.
  Images as lists: what was made is parsed as it was, never as the other kind; with a byte turned as nothing.
  The chapter's examples: the laws' alive answers true, and turns nothing that was there.
-/
import Derived.Test.YtccfalafphjkpaaGreatDoorGE
import Derived.Test.YtccfalafphjkpaaGreatDoorGB
import Derived.Laws.ResultCell
namespace Go.Proofs.YtccfalafphjkpaaGreatDoor.Hd
open Go.RowKit Go.Extern.Stop Go.Stop Go.Extern M
variable {L : Nat}

/-- All bytes of what is left are bytes. -/
def StB (st : Option (List Nat)) : Prop := ∀ l, st = some l → ∀ x ∈ l, x < 256
theorem StB.num {st : Option (List Nat)} (h : StB st) (k : Nat) : StB (numS k st) := by
  intro l hl x hx
  cases st with
  | none => cases hl
  | some t =>
    simp only [numS] at hl
    split at hl
    · cases hl
    · cases hl
      exact h t rfl x (List.mem_of_mem_drop hx)
theorem numV_lt {st : Option (List Nat)} (h : StB st) (k : Nat) : numV k st < 256 ^ k := by
  cases st with
  | none => exact Nat.pow_pos (by decide)
  | some t =>
    simp only [numV]
    split
    · exact Nat.pow_pos (by decide)
    · rename_i hk
      have := getL_lt (t.take k) (fun x hx => h t rfl x (List.mem_of_mem_take hx))
      rwa [List.length_take, Nat.min_eq_left (by omega)] at this
theorem openL_b {m : Nat} {l : List Nat} (h : ∀ x ∈ l, x < 256) : StB (openL m l) := by
  intro t ht
  by_cases hc : pageOk l.length ∧ isFrame l ∧ (restL l).all (· == 255) = true
  · rw [openL_yes hc.1 hc.2.1 hc.2.2] at ht
    unfold markS at ht
    split at ht
    · exact StB.num (st := some (bodyL l)) (fun l2 h2 => by cases h2; exact lt_of_sub h 6 _) 1 t ht
    · cases ht
  · rw [openL_no hc] at ht
    cases ht
theorem endS_cases (st : Option (List Nat)) : endS st = some [] ∨ endS st = none := by
  rcases st with _ | l
  · exact .inr rfl
  · cases l
    · exact .inl rfl
    · exact .inr rfl

open Classical in
/-- How often the block was erased, by the bytes l. -/
noncomputable def parseC (l : List Nat) : Option Nat := if endS (numS 4 (openL 69 l)) = some [] ∧ numV 4 (openL 69 l) ≤ 2147483647 then some (numV 4 (openL 69 l)) else none
def CPost (w : World) (r : Option Nat) (e : Ending) (w' : World) : Prop := e = .returned (.tuple #[.int .i64 (r.getD 0 : Nat), .bool r.isSome]) ∧ Below w.heap.size w w'

/-- What the last look at the reader sees. -/
theorem Opn.err {w wr : World} (h : Opn L w wr none) : ∃ t x, wr.cell? ⟨w.heap.size, 1, none⟩ = some (.iface t x) := by
  obtain ⟨a, n, c, t, x, hr, _⟩ := h.rd.bad
  exact ⟨t, x, hr.cell (i := 1) rfl⟩
theorem Opn.fine {w wr : World} {l : List Nat} (h : Opn L w wr (some l)) : wr.cell? ⟨w.heap.size, 1, none⟩ = some .nilIface := by
  obtain ⟨a, c, hr, _⟩ := h.rd.good
  exact hr.cell (i := 1) rfl
theorem noteS_true (st : Option (List Nat)) : noteS st true = none := rfl

set_option maxRecDepth 10000 in
set_option maxHeartbeats 4000000 in
theorem parseCount_any (a : Option Addr) (n cap : Nat) (l : List Nat) (w : World) (hg : Glb w) (hl : n = l.length) (hc : n ≤ cap) (hm : cap ≤ maxLen) (h256 : ∀ x ∈ l, x < 256) (hr : BRow w a l) :
    Calls Tryz.prog 64 #[.slice a n cap] w (CPost w (parseC l)) := by
  have cO := open_any a n cap 69 (by decide) l w hg hl hc hm h256 hr
  have hzl := numV_lt (openL_b (m := 69) h256) 4
  have HP : Hid (parseC l = if endS (numS 4 (openL 69 l)) = some [] ∧ numV 4 (openL 69 l) ≤ 2147483647 then some (numV 4 (openL 69 l)) else none) := by show _ = _; unfold parseC; congr
  obtain ⟨st, hst⟩ : ∃ st, st = openL 69 l := ⟨_, rfl⟩
  rw [← hst] at cO hzl HP
  clear hst hg hl hc hm h256 hr
  have cN := fun (L : Nat) (w1 : World) (h : Opn L w w1 st) => number_any w.heap.size 4 st w1 h.rd (by decide) (by decide)
  obtain ⟨z, hz⟩ : ∃ z, z = numV 4 st := ⟨_, rfl⟩
  obtain ⟨s1, hs1⟩ : ∃ s1, s1 = numS 4 st := ⟨_, rfl⟩
  rw [← hs1] at cN HP
  rw [← hz] at cN HP hzl
  clear hz hs1
  have cE := fun (L : Nat) (w1 : World) (h : Opn L w w1 s1) => end_any w.heap.size s1 w1 h.rd
  have hs2 := endS_cases s1
  obtain ⟨s2, hs2'⟩ : ∃ s2, s2 = endS s1 := ⟨_, rfl⟩
  rw [← hs2'] at cE HP hs2
  clear hs2'
  have hz2 : z < 4294967296 := hzl
  clear hzl
  by_cases hok : z ≤ 2147483647
  · have HOK : Hid (countOk z) := by show _ ∧ _; omega
    rcases hs2 with rfl | rfl
    · have hres : parseC l = some z := by rw [HP.out, if_pos ⟨rfl, hok⟩]
      rw [hres]
      clear hres HP hok
      go_enter Tryz.func64, Tryz.ntmps64
      go_wp2_with (first
        | (go_at_call 94; refine cO.mono ?_; rintro e w1 ⟨rfl, ho⟩; have HO1 : Hid (Opn _ _ _ _) := ho; clear ho cO)
        | (go_at_call 95; refine (cN _ _ HO1.out).mono ?_; rintro e w2 ⟨rfl, hp⟩; have HO2 : Hid (Opn _ _ _ _) := HO1.out.step hp; clear hp cN)
        | (go_at_call 96; refine (cE _ _ HO2.out).mono ?_; rintro e w3 ⟨rfl, hp⟩; have HO3 : Hid (Opn _ _ _ _) := HO2.out.step hp; clear hp cE)
        | (go_at_call 98; refine (count_ok _ _ HOK.out).mono ?_; rintro e w' ⟨rfl, rfl⟩)
        | (go_at_call 97; refine (note_nil _ _ [] _ HO3.out.rd).mono ?_; rintro e w' ⟨rfl, rfl⟩; have y1 := HO3.out.fine))
      go_ret2
      exact ⟨rfl, HO3.out.bel⟩
    · have hres : parseC l = none := by rw [HP.out, if_neg (fun h => by cases h.1)]
      rw [hres]
      clear hres HP hok
      go_enter Tryz.func64, Tryz.ntmps64
      go_wp2_with (first
        | (go_at_call 94; refine cO.mono ?_; rintro e w1 ⟨rfl, ho⟩; have HO1 : Hid (Opn _ _ _ _) := ho; clear ho cO)
        | (go_at_call 95; refine (cN _ _ HO1.out).mono ?_; rintro e w2 ⟨rfl, hp⟩; have HO2 : Hid (Opn _ _ _ _) := HO1.out.step hp; clear hp cN)
        | (go_at_call 96; refine (cE _ _ HO2.out).mono ?_; rintro e w3 ⟨rfl, hp⟩; have HO3 : Hid (Opn _ _ _ _) := HO2.out.step hp; clear hp cE)
        | (go_at_call 98; refine (count_ok _ _ HOK.out).mono ?_; rintro e w' ⟨rfl, rfl⟩)
        | (go_at_call 97; refine (note_bad _ _ _ (.inl rfl) _ HO3.out.rd).mono ?_; rintro e w' ⟨rfl, rfl⟩; obtain ⟨yt, yx, y1⟩ := HO3.out.err))
      go_ret2
      exact ⟨rfl, HO3.out.bel⟩
  · have HOK : Hid (¬ countOk z) := by show ¬ (_ ∧ _); omega
    have hres : parseC l = none := by rw [HP.out, if_neg (fun h => hok h.2)]
    rw [hres]
    clear hres HP hok hs2
    go_enter Tryz.func64, Tryz.ntmps64
    go_wp2_with (first
      | (go_at_call 94; refine cO.mono ?_; rintro e w1 ⟨rfl, ho⟩; have HO1 : Hid (Opn _ _ _ _) := ho; clear ho cO)
      | (go_at_call 95; refine (cN _ _ HO1.out).mono ?_; rintro e w2 ⟨rfl, hp⟩; have HO2 : Hid (Opn _ _ _ _) := HO1.out.step hp; clear hp cN)
      | (go_at_call 96; refine (cE _ _ HO2.out).mono ?_; rintro e w3 ⟨rfl, hp⟩; have HO3 : Hid (Opn _ _ _ _) := HO2.out.step hp; clear hp cE)
      | (go_at_call 98; refine (count_bad _ _ HOK.out).mono ?_; rintro e w4 ⟨b4, rfl, _, hb4⟩; have HO4 : Hid (Opn _ _ _ _) := HO3.out.later hb4; clear hb4)
      | (go_at_call 97; refine (note_any _ _ _ (.inr ⟨_, _, rfl⟩) _ _ HO4.out.rd).mono ?_; rintro e w5 ⟨rfl, hp⟩; have HO5 : Hid (Opn _ _ _ none) := HO4.out.step hp; clear hp; obtain ⟨yt, yx, y1⟩ := HO5.out.err))
    go_ret2
    exact ⟨rfl, HO5.out.bel⟩
end Go.Proofs.YtccfalafphjkpaaGreatDoor.Hd
namespace Go.Proofs.YtccfalafphjkpaaGreatDoor.Hd
open Go.RowKit Go.Extern.Stop Go.Stop Go.Extern M
variable {L : Nat}

/-- The three numbers of a mapping, and what is left behind them. -/
noncomputable def mV1 (l : List Nat) : Nat := numV 2 (openL 77 l)
noncomputable def mV2 (l : List Nat) : Nat := numV 8 (numS 2 (openL 77 l))
noncomputable def mV3 (l : List Nat) : Nat := numV 1 (numS 8 (numS 2 (openL 77 l)))
noncomputable def mS (l : List Nat) : Option (List Nat) := endS (numS 1 (numS 8 (numS 2 (openL 77 l))))
open Classical in
/-- What stands in the block, by the bytes l. -/
noncomputable def parseM (l : List Nat) : Option (Nat × Nat × Nat) := if mS l = some [] ∧ mV1 l ≤ 255 ∧ mV3 l ≤ 64 then some (mV1 l, mV2 l, mV3 l) else none
def MPost (w : World) (r : Option (Nat × Nat × Nat)) (e : Ending) (w' : World) : Prop :=
  e = .returned (.tuple #[mapV ((r.getD (0, 0, 0)).1 : Nat) ((r.getD (0, 0, 0)).2.1 : Nat) ((r.getD (0, 0, 0)).2.2 : Nat), .bool r.isSome]) ∧ Below w.heap.size w w'

/-- The reader, the boxed Map, and the result's box. -/
structure Pm (L : Nat) (W wr : World) (st : Option (List Nat)) (r0 bm : Nat) (ms : List Value) : Prop where
  opn : Opn L W wr st
  lb : L ≤ bm
  ne : bm ≠ W.heap.size
  big : W.heap.size ≤ bm
  mrow : Row wr bm ms 91
  res : Row wr r0 [.int .i64 0, .int .u64 0, .int .i64 0] 91
  r0lt : r0 < W.heap.size
theorem Pm.step {W wr w' : World} {s1 s2 : Option (List Nat)} {r0 bm : Nat} {ms : List Value} (h : Pm L W wr s1 r0 bm ms) (hp : RPost L wr W.heap.size s2 w') : Pm L W w' s2 r0 bm ms :=
  ⟨h.opn.step hp, h.lb, h.ne, h.big, h.mrow.kept hp.kept h.ne, h.res.kept hp.kept (Nat.ne_of_lt h.r0lt), h.r0lt⟩
theorem Pm.later {W wr w' : World} {s1 : Option (List Nat)} {r0 bm : Nat} {ms : List Value} (h : Pm L W wr s1 r0 bm ms) (hb : Below wr.heap.size wr w') : Pm L W w' s1 r0 bm ms :=
  ⟨h.opn.later hb, h.lb, h.ne, h.big, h.mrow.later hb, h.res.later hb, h.r0lt⟩
theorem Pm.start {W w1 : World} {s1 : Option (List Nat)} {r0 : Nat} (h : Opn w1.heap.size W w1 s1) (hr : Row W r0 [.int .i64 0, .int .u64 0, .int .i64 0] 91) (x y z : Value) :
    Pm w1.heap.size W (w1.alloc (.cells #[x, y, z] 91)) s1 r0 w1.heap.size [x, y, z] := by
  have hlt := h.rd.lt
  exact ⟨h.later (below_new _ _), Nat.le_refl _, by omega, by omega, Row.new w1 [_, _, _] _, (hr.later h.bel).alloc _, hr.lt⟩
/-- What the last looks see. -/
structure Seen (wr : World) (br bm : Nat) (x y z : Value) : Prop where
  m0 : wr.cell? ⟨bm, 0, none⟩ = some x
  m1 : wr.cell? ⟨bm, 1, none⟩ = some y
  m2 : wr.cell? ⟨bm, 2, none⟩ = some z
  f0 : wr.frozen? ⟨bm, 0, none⟩ = false
  f1 : wr.frozen? ⟨bm, 1, none⟩ = false
  f2 : wr.frozen? ⟨bm, 2, none⟩ = false
  r0 : wr.cell? ⟨br, 0, none⟩ = some (.int .i64 0)
  r1 : wr.cell? ⟨br, 1, none⟩ = some (.int .u64 0)
  r2 : wr.cell? ⟨br, 2, none⟩ = some (.int .i64 0)
  g0 : wr.frozen? ⟨br, 0, none⟩ = false
  g1 : wr.frozen? ⟨br, 1, none⟩ = false
  g2 : wr.frozen? ⟨br, 2, none⟩ = false
theorem Pm.seen {W wr : World} {s1 : Option (List Nat)} {r0 bm : Nat} {x y z : Value} (h : Pm L W wr s1 r0 bm [x, y, z]) : Seen wr r0 bm x y z :=
  ⟨h.mrow.cell (i := 0) rfl, h.mrow.cell (i := 1) rfl, h.mrow.cell (i := 2) rfl, h.mrow.frozen 0, h.mrow.frozen 1, h.mrow.frozen 2, h.res.cell (i := 0) rfl, h.res.cell (i := 1) rfl, h.res.cell (i := 2) rfl, h.res.frozen 0, h.res.frozen 1, h.res.frozen 2⟩
theorem below_store {w wr : World} (h : Below w.heap.size w wr) (x y z : Value) : Below w.heap.size w (((wr.setCell ⟨w.heap.size, 0, none⟩ x).setCell ⟨w.heap.size, 1, none⟩ y).setCell ⟨w.heap.size, 2, none⟩ z) :=
  ((h.setCell (Nat.le_refl _) _).setCell (Nat.le_refl _) _).setCell (Nat.le_refl _) _

set_option maxRecDepth 10000 in
set_option maxHeartbeats 4000000 in
theorem parseMapping_any (a : Option Addr) (n cap : Nat) (l : List Nat) (w : World) (hg : Glb w) (hl : n = l.length) (hc : n ≤ cap) (hm : cap ≤ maxLen) (h256 : ∀ x ∈ l, x < 256) (hr : BRow w a l) :
    Calls Tryz.prog 116 #[.slice a n cap] w (MPost w (parseM l)) := by
  obtain ⟨W, hW⟩ : ∃ W, W = w.alloc (.cells #[.int .i64 0, .int .u64 0, .int .i64 0] 91) := ⟨_, rfl⟩
  have hBW : Below w.heap.size w W := by rw [hW]; exact below_new _ _
  have HRES : Hid (Row W w.heap.size [.int .i64 0, .int .u64 0, .int .i64 0] 91) := by rw [hW]; exact Row.new w [_, _, _] _
  have cO := open_any a n cap 77 (by decide) l W (hg.later hBW) hl hc hm h256 (hr.later hBW)
  have HBW : Hid (Below w.heap.size w W) := hBW
  clear hBW
  have hb0 := openL_b (m := 77) h256
  have hz1 : mV1 l < 65536 := numV_lt hb0 2
  have hz2 : mV2 l < 18446744073709551616 := numV_lt (hb0.num 2) 8
  have hz3 : mV3 l < 256 := numV_lt ((hb0.num 2).num 8) 1
  have HP : Hid (parseM l = if mS l = some [] ∧ mV1 l ≤ 255 ∧ mV3 l ≤ 64 then some (mV1 l, mV2 l, mV3 l) else none) := by show _ = _; unfold parseM; congr
  have cN1 := fun (L : Nat) (w1 : World) (h : Opn L W w1 (openL 77 l)) => number_any W.heap.size 2 _ w1 h.rd (by decide) (by decide)
  have cN2 := fun (L : Nat) (w1 : World) (h : Opn L W w1 (numS 2 (openL 77 l))) => number_any W.heap.size 8 _ w1 h.rd (by decide) (by decide)
  have cN3 := fun (L : Nat) (w1 : World) (h : Opn L W w1 (numS 8 (numS 2 (openL 77 l)))) => number_any W.heap.size 1 _ w1 h.rd (by decide) (by decide)
  have cE := fun (L : Nat) (w1 : World) (h : Opn L W w1 (numS 1 (numS 8 (numS 2 (openL 77 l))))) => end_any W.heap.size _ w1 h.rd
  have hs2 : mS l = some [] ∨ mS l = none := endS_cases _
  change ∀ L w1, _ → Calls _ _ _ _ fun e w' => e = .returned (.int .u64 (mV1 l : Nat)) ∧ _ at cN1
  change ∀ L w1, _ → Calls _ _ _ _ fun e w' => e = .returned (.int .u64 (mV2 l : Nat)) ∧ _ at cN2
  change ∀ L w1, _ → Calls _ _ _ _ fun e w' => e = .returned (.int .u64 (mV3 l : Nat)) ∧ _ at cN3
  change ∀ L w1, _ → Calls _ _ _ _ fun e w' => e = .returned (.tuple #[]) ∧ RPost L w1 W.heap.size (mS l) w' at cE
  obtain ⟨z1, e1⟩ : ∃ z, z = mV1 l := ⟨_, rfl⟩
  obtain ⟨z2, e2⟩ : ∃ z, z = mV2 l := ⟨_, rfl⟩
  obtain ⟨z3, e3⟩ : ∃ z, z = mV3 l := ⟨_, rfl⟩
  obtain ⟨s4, e4⟩ : ∃ s, s = mS l := ⟨_, rfl⟩
  rw [← e1] at hz1 HP cN1
  rw [← e2] at hz2 HP cN2
  rw [← e3] at hz3 HP cN3
  rw [← e4] at HP cE hs2
  obtain ⟨s0, f0⟩ : ∃ s, s = openL 77 l := ⟨_, rfl⟩
  rw [← f0] at cO cN1 cN2 cN3 cE
  obtain ⟨s1, f1⟩ : ∃ s, s = numS 2 s0 := ⟨_, rfl⟩
  rw [← f1] at cN1 cN2 cN3 cE
  obtain ⟨s2, f2⟩ : ∃ s, s = numS 8 s1 := ⟨_, rfl⟩
  rw [← f2] at cN2 cN3 cE
  obtain ⟨s3, f3⟩ : ∃ s, s = numS 1 s2 := ⟨_, rfl⟩
  rw [← f3] at cN3 cE
  clear e1 e2 e3 e4 f0 f1 f2 f3 hb0 hg hl hc hm h256 hr
  have M1 : Hid True := trivial
  have M2 : Hid True := trivial
  by_cases hok : z1 ≤ 255 ∧ z3 ≤ 64
  · have HOK : Hid (lebOk z1 ∧ pagesOk z3) := by show (_ ∧ _) ∧ (_ ∧ _); omega
    have cM := map_ok z1 z2 z3
    unfold mapV at cM
    rcases hs2 with rfl | rfl
    · have hres : parseM l = some (z1, z2, z3) := by rw [HP.out, if_pos ⟨rfl, hok⟩]
      rw [hres]
      clear hres HP hok
      go_enter Tryz.func116, Tryz.ntmps116
      go_wp2_with fail
      rw [← hW]
      clear hW
      go_wp2_with (first
        | (go_at_call 94; refine cO.mono ?_; rintro e w1 ⟨rfl, ho⟩; have HO1 : Hid (Opn _ _ _ _) := ho; clear ho cO)
        | (go_at_call 95; clear M1; refine (cN1 _ _ HO1.out).mono ?_; rintro e w2 ⟨rfl, hp⟩; have HO2 : Hid (Opn _ _ _ _) := HO1.out.step hp; clear hp cN1)
        | (go_at_call 95; clear M2; refine (cN2 _ _ HO2.out).mono ?_; rintro e w3 ⟨rfl, hp⟩; have HO3 : Hid (Opn _ _ _ _) := HO2.out.step hp; clear hp cN2)
        | (go_at_call 95; refine (cN3 _ _ HO3.out).mono ?_; rintro e w4 ⟨rfl, hp⟩; have HP5 : Hid (Pm _ _ _ _ _ _ _) := Pm.start (HO3.out.step hp).tight HRES.out (.int .i64 z1) (.int .u64 z2) (.int .i64 z3); clear hp cN3)
        | (go_at_call 96; refine (cE _ _ HP5.out.opn).mono ?_; rintro e w6 ⟨rfl, hp⟩; have HP6 : Hid (Pm _ _ _ _ _ _ _) := HP5.out.step hp; obtain ⟨m0, m1, m2, f0, f1, f2, r0, r1, r2, g0, g1, g2⟩ := HP6.out.seen; clear hp cE)
        | (go_at_call 141; clear m0 m1 m2 f0 f1 f2 r0 r1 r2 g0 g1 g2; refine (cM _ HOK.out.1 HOK.out.2).mono ?_; rintro e w7 ⟨rfl, hb7⟩; have HP7 : Hid (Pm _ _ _ _ _ _ _) := HP6.out.later hb7; clear hb7)
        | (go_at_call 97; refine (note_nil _ _ [] _ HP7.out.opn.rd).mono ?_; rintro e w' ⟨rfl, rfl⟩; have y1 := HP7.out.opn.fine; obtain ⟨m0, m1, m2, f0, f1, f2, r0, r1, r2, g0, g1, g2⟩ := HP7.out.seen))
      (try simp only [Exit.inBlock, Exit.then])
      refine bodyPost_ret (v := .tuple #[.agg #[.int .i64 z1, .int .u64 z2, .int .i64 z3], .bool true]) ?_ rfl ⟨rfl, below_store (Below.after HBW.out HP7.out.opn.bel) _ _ _⟩
      rw [results_cell_tmp rfl]
      go_simp
    · have hres : parseM l = none := by rw [HP.out, if_neg (fun h => by cases h.1)]
      rw [hres]
      clear hres HP hok
      go_enter Tryz.func116, Tryz.ntmps116
      go_wp2_with fail
      rw [← hW]
      clear hW
      go_wp2_with (first
        | (go_at_call 94; refine cO.mono ?_; rintro e w1 ⟨rfl, ho⟩; have HO1 : Hid (Opn _ _ _ _) := ho; clear ho cO)
        | (go_at_call 95; clear M1; refine (cN1 _ _ HO1.out).mono ?_; rintro e w2 ⟨rfl, hp⟩; have HO2 : Hid (Opn _ _ _ _) := HO1.out.step hp; clear hp cN1)
        | (go_at_call 95; clear M2; refine (cN2 _ _ HO2.out).mono ?_; rintro e w3 ⟨rfl, hp⟩; have HO3 : Hid (Opn _ _ _ _) := HO2.out.step hp; clear hp cN2)
        | (go_at_call 95; refine (cN3 _ _ HO3.out).mono ?_; rintro e w4 ⟨rfl, hp⟩; have HP5 : Hid (Pm _ _ _ _ _ _ _) := Pm.start (HO3.out.step hp).tight HRES.out (.int .i64 z1) (.int .u64 z2) (.int .i64 z3); clear hp cN3)
        | (go_at_call 96; refine (cE _ _ HP5.out.opn).mono ?_; rintro e w6 ⟨rfl, hp⟩; have HP6 : Hid (Pm _ _ _ _ _ _ _) := HP5.out.step hp; obtain ⟨m0, m1, m2, f0, f1, f2, r0, r1, r2, g0, g1, g2⟩ := HP6.out.seen; clear hp cE)
        | (go_at_call 141; clear m0 m1 m2 f0 f1 f2 r0 r1 r2 g0 g1 g2; refine (cM _ HOK.out.1 HOK.out.2).mono ?_; rintro e w7 ⟨rfl, hb7⟩; have HP7 : Hid (Pm _ _ _ _ _ _ _) := HP6.out.later hb7; clear hb7)
        | (go_at_call 97; refine (note_bad _ _ _ (.inl rfl) _ HP7.out.opn.rd).mono ?_; rintro e w' ⟨rfl, rfl⟩; obtain ⟨yt, yx, y1⟩ := HP7.out.opn.err; obtain ⟨m0, m1, m2, f0, f1, f2, r0, r1, r2, g0, g1, g2⟩ := HP7.out.seen))
      (try simp only [Exit.inBlock, Exit.then])
      refine bodyPost_ret (v := .tuple #[.agg #[.int .i64 0, .int .u64 0, .int .i64 0], .bool false]) ?_ rfl ⟨rfl, below_store (Below.after HBW.out HP7.out.opn.bel) _ _ _⟩
      rw [results_cell_tmp rfl]
      go_simp
  · have HOK : Hid (¬ (lebOk z1 ∧ pagesOk z3)) := by show ¬ ((_ ∧ _) ∧ (_ ∧ _)); omega
    have cM := map_bad z1 z2 z3
    unfold mapV at cM
    have hres : parseM l = none := by rw [HP.out, if_neg (fun h => hok h.2)]
    rw [hres]
    clear hres HP hok hs2
    go_enter Tryz.func116, Tryz.ntmps116
    go_wp2_with fail
    rw [← hW]
    clear hW
    go_wp2_with (first
      | (go_at_call 94; refine cO.mono ?_; rintro e w1 ⟨rfl, ho⟩; have HO1 : Hid (Opn _ _ _ _) := ho; clear ho cO)
      | (go_at_call 95; clear M1; refine (cN1 _ _ HO1.out).mono ?_; rintro e w2 ⟨rfl, hp⟩; have HO2 : Hid (Opn _ _ _ _) := HO1.out.step hp; clear hp cN1)
      | (go_at_call 95; clear M2; refine (cN2 _ _ HO2.out).mono ?_; rintro e w3 ⟨rfl, hp⟩; have HO3 : Hid (Opn _ _ _ _) := HO2.out.step hp; clear hp cN2)
      | (go_at_call 95; refine (cN3 _ _ HO3.out).mono ?_; rintro e w4 ⟨rfl, hp⟩; have HP5 : Hid (Pm _ _ _ _ _ _ _) := Pm.start (HO3.out.step hp).tight HRES.out (.int .i64 z1) (.int .u64 z2) (.int .i64 z3); clear hp cN3)
      | (go_at_call 96; refine (cE _ _ HP5.out.opn).mono ?_; rintro e w6 ⟨rfl, hp⟩; have HP6 : Hid (Pm _ _ _ _ _ _ _) := HP5.out.step hp; obtain ⟨m0, m1, m2, f0, f1, f2, r0, r1, r2, g0, g1, g2⟩ := HP6.out.seen; clear hp cE)
      | (go_at_call 141; clear m0 m1 m2 f0 f1 f2 r0 r1 r2 g0 g1 g2; refine (cM _ HOK.out).mono ?_; rintro e w7 ⟨b7, rfl, _, hb7⟩; have HP7 : Hid (Pm _ _ _ _ _ _ _) := HP6.out.later hb7; clear hb7)
      | (go_at_call 97; refine (note_any _ _ _ (.inr ⟨_, _, rfl⟩) _ _ HP7.out.opn.rd).mono ?_; rintro e w8 ⟨rfl, hp⟩; have HP8 : Hid (Pm _ _ _ none _ _ _) := HP7.out.step hp; clear hp; obtain ⟨yt, yx, y1⟩ := HP8.out.opn.err; obtain ⟨m0, m1, m2, f0, f1, f2, r0, r1, r2, g0, g1, g2⟩ := HP8.out.seen))
    (try simp only [Exit.inBlock, Exit.then])
    refine bodyPost_ret (v := .tuple #[.agg #[.int .i64 0, .int .u64 0, .int .i64 0], .bool false]) ?_ rfl ⟨rfl, below_store (Below.after HBW.out HP8.out.opn.bel) _ _ _⟩
    rw [results_cell_tmp rfl]
    go_simp
end Go.Proofs.YtccfalafphjkpaaGreatDoor.Hd
namespace Go.Proofs.YtccfalafphjkpaaGreatDoor.Hd
open M

theorem img_eq (p : List Nat) (page : Nat) (h : p.length + 6 ≤ page) : imgL p page = frameL p ++ List.replicate (page - (p.length + 6)) 255 := by
  unfold imgL fillL
  rw [frameL_length, List.take_of_length_le (by rw [frameL_length]; exact h)]
theorem rest_frame (p m : List Nat) (h : p.length ≤ 1024) : restL (frameL p ++ m) = m := by
  unfold restL
  rw [size_frame p m h, List.drop_append, List.drop_eq_nil_of_le (by rw [frameL_length]; omega)]
  rw [frameL_length, List.nil_append, show 6 + p.length - (p.length + 6) = 0 by omega, List.drop_zero]
theorem all_255 (k : Nat) : (List.replicate k 255).all (· == 255) = true := by simp
theorem open_img (m : Nat) (p : List Nat) (page : Nat) (h1 : 1 ≤ p.length) (h2 : p.length ≤ 58) (h3 : 64 ≤ page) (h4 : page ≤ 512) : openL m (imgL p page) = markS m (some p) := by
  have hl : pageOk (imgL p page).length := by rw [imgL_length]; unfold pageOk; omega
  rw [img_eq p page (by omega)] at hl ⊢
  rw [openL_yes hl (frame_is p _ h1 (by omega)) (by rw [rest_frame p _ (by omega)]; exact all_255 _), body_frame p _ (by omega)]
theorem mark_yes (x : Nat) (t : List Nat) : markS x (some (x :: t)) = some t := by simp [markS, numV, numS, getL]
theorem mark_no (x y : Nat) (t : List Nat) (h : x ≠ y) : markS y (some (x :: t)) = none := by simp [markS, numV, getL, h]

theorem parseC_yes {l : List Nat} {z : Nat} (h1 : endS (numS 4 (openL 69 l)) = some []) (h2 : numV 4 (openL 69 l) = z) (h3 : z ≤ 2147483647) : parseC l = some z := by
  subst h2
  exact if_pos ⟨h1, h3⟩
theorem parseC_no {l : List Nat} (h : openL 69 l = none) : parseC l = none := by
  refine if_neg fun hh => ?_
  rw [h] at hh
  cases hh.1
theorem parseM_no {l : List Nat} (h : openL 77 l = none) : parseM l = none := by
  refine if_neg fun hh => ?_
  have := hh.1
  unfold mS at this
  rw [h] at this
  cases this
theorem back_c (n page : Nat) (h1 : n ≤ 2147483647) (h3 : 64 ≤ page) (h4 : page ≤ 512) : parseC (imgL (countL n) page) = some n := by
  have ho : openL 69 (imgL (countL n) page) = some (putL 4 n) := by
    rw [open_img 69 _ page (by rw [countL_length]; decide) (by rw [countL_length]; decide) h3 h4]
    exact mark_yes 69 _
  have hv : numV 4 (some (putL 4 n)) = n := by
    simp only [numV, putL_length]
    rw [if_neg (by decide), List.take_of_length_le (by rw [putL_length]; exact Nat.le_refl _), getL_putL]
    exact Nat.mod_eq_of_lt (by omega)
  have hs : numS 4 (some (putL 4 n)) = some [] := by
    simp only [numS, putL_length]
    rw [if_neg (by decide), List.drop_eq_nil_of_le (by rw [putL_length]; exact Nat.le_refl _)]
  exact parseC_yes (by rw [ho, hs]; rfl) (by rw [ho]; exact hv) h1
theorem cross_c (n page : Nat) (h3 : 64 ≤ page) (h4 : page ≤ 512) : parseM (imgL (countL n) page) = none := by
  refine parseM_no ?_
  rw [open_img 77 _ page (by rw [countL_length]; decide) (by rw [countL_length]; decide) h3 h4]
  exact mark_no 69 77 _ (by decide)
theorem cross_m (a b c page : Nat) (h3 : 64 ≤ page) (h4 : page ≤ 512) : parseC (imgL (mapL a b c) page) = none := by
  refine parseC_no ?_
  rw [open_img 69 _ page (by rw [mapL_length]; decide) (by rw [mapL_length]; decide) h3 h4]
  exact mark_no 77 69 _ (by decide)
theorem numV_put (k n : Nat) (m : List Nat) : numV k (some (putL k n ++ m)) = n % 256 ^ k := by
  simp only [numV, List.length_append, putL_length]
  rw [if_neg (by omega), List.take_append_of_le_length (by rw [putL_length]; exact Nat.le_refl _), List.take_of_length_le (by rw [putL_length]; exact Nat.le_refl _), getL_putL]
theorem numS_put (k n : Nat) (m : List Nat) : numS k (some (putL k n ++ m)) = some m := by
  simp only [numS, List.length_append, putL_length]
  rw [if_neg (by omega), List.drop_append, List.drop_eq_nil_of_le (by rw [putL_length]; exact Nat.le_refl _)]
  simp [putL_length]
theorem open_m (a b c page : Nat) (h3 : 64 ≤ page) (h4 : page ≤ 512) : openL 77 (imgL (mapL a b c) page) = some (putL 2 a ++ (putL 8 b ++ putL 1 c)) := by
  rw [open_img 77 _ page (by rw [mapL_length]; decide) (by rw [mapL_length]; decide) h3 h4]
  exact mark_yes 77 _
theorem back_m (a b c page : Nat) (h1 : a ≤ 255) (h2 : b < 18446744073709551616) (hc : c ≤ 64) (h3 : 64 ≤ page) (h4 : page ≤ 512) : parseM (imgL (mapL a b c) page) = some (a, b, c) := by
  have ho := open_m a b c page h3 h4
  have e1 : mV1 (imgL (mapL a b c) page) = a := by unfold mV1; rw [ho, numV_put]; exact Nat.mod_eq_of_lt (by omega)
  have e2 : mV2 (imgL (mapL a b c) page) = b := by unfold mV2; rw [ho, numS_put, numV_put]; exact Nat.mod_eq_of_lt (by omega)
  have e3 : mV3 (imgL (mapL a b c) page) = c := by
    unfold mV3
    rw [ho, numS_put, numS_put]
    have := numV_put 1 c []
    rw [List.append_nil] at this
    rw [this]
    exact Nat.mod_eq_of_lt (by omega)
  have e4 : mS (imgL (mapL a b c) page) = some [] := by
    unfold mS
    rw [ho, numS_put, numS_put]
    have := numS_put 1 c []
    rw [List.append_nil] at this
    rw [this]
    rfl
  unfold parseM
  rw [e1, e2, e3, e4, if_pos ⟨rfl, h1, hc⟩]

/-- What begins with a whole frame's bytes, and no frame stands in them. -/
theorem not_frame_more (f m : List Nat) (h6 : 6 ≤ f.length) (hs : sizeL f ≤ f.length - 6) (h : ¬ isFrame f) : ¬ isFrame (f ++ m) := by
  rintro ⟨_, g2, g3, _, g5⟩
  have e1 : sizeL (f ++ m) = sizeL f := by unfold sizeL; rw [List.take_append_of_le_length (by omega)]
  have e2 : bodyL (f ++ m) = bodyL f := by
    unfold bodyL
    rw [e1, List.drop_append_of_le_length h6, List.take_append_of_le_length (by simp; omega)]
  have e3 : toldL (f ++ m) = toldL f := by
    unfold toldL
    rw [List.drop_append_of_le_length (by omega), List.take_append_of_le_length (by simp; omega)]
  rw [e1] at g2 g3
  rw [e2, e3] at g5
  exact h ⟨h6, g2, g3, hs, g5⟩
theorem turned_c (n page k y : Nat) (h3 : 64 ≤ page) (h4 : page ≤ 512) (hk : 2 ≤ k) (hk2 : k < page) (hy : y < 256) (hne : y ≠ (imgL (countL n) page).getD k 0) : parseC ((imgL (countL n) page).set k y) = none := by
  refine parseC_no (openL_no ?_)
  rintro ⟨_, hf, hb⟩
  have hcl := countL_length n
  rw [img_eq (countL n) page (by omega)] at hf hb hne
  have hfl : (frameL (countL n)).length = 11 := by rw [frameL_length, hcl]
  by_cases hlt : k < 11
  · rw [List.set_append_left _ _ (by omega)] at hf
    refine not_frame_more _ _ (by simp; omega) ?_ (not_frame_turned (countL n) (countL_lt n) (by omega) k y hk (by omega) hy ?_) hf
    · have : sizeL ((frameL (countL n)).set k y) = 5 := by
        unfold sizeL
        rw [List.take_set_of_le hk]
        have := size_frame (countL n) [] (by omega)
        rw [List.append_nil, hcl] at this
        exact this
      rw [this]
      simp
      omega
    · intro e
      apply hne
      rw [e]
      simp [List.getD, List.getElem?_append_left (show k < (frameL (countL n)).length by omega)]
  · rw [List.set_append_right _ _ (by omega), rest_frame _ _ (by omega)] at hb
    rw [List.all_eq_true] at hb
    have hin : k - (frameL (countL n)).length < (List.replicate (page - ((countL n).length + 6)) 255).length := by simp; omega
    have := hb y (List.mem_set hin _)
    have hy5 : y = 255 := by simpa using this
    apply hne
    rw [hy5]
    have hin2 : k - 11 < page - ((countL n).length + 6) := by omega
    simp [List.getD, List.getElem?_append_right (show (frameL (countL n)).length ≤ k by omega), hfl, hin2]
end Go.Proofs.YtccfalafphjkpaaGreatDoor.Hd
namespace Go.Proofs.YtccfalafphjkpaaGreatDoor.Hd
open Go.RowKit Go.Extern.Stop Go.Stop Go.Extern M

theorem fillL_lt {l : List Nat} (h : ∀ x ∈ l, x < 256) (n : Nat) : ∀ x ∈ fillL l n, x < 256 := by
  intro x hx
  simp only [fillL, List.mem_append, List.mem_replicate] at hx
  rcases hx with hx | ⟨_, rfl⟩
  · exact h x (List.mem_of_mem_take hx)
  · decide
theorem imgL_lt {p : List Nat} (h : ∀ x ∈ p, x < 256) (page : Nat) : ∀ x ∈ imgL p page, x < 256 := fillL_lt (frameL_lt h) page

/-- Bytes that lie in memory. -/
structure Lies (w : World) (a : Option Addr) (n cap : Nat) (l : List Nat) : Prop where
  len : n = l.length
  le : n ≤ cap
  max : cap ≤ maxLen
  lt : ∀ x ∈ l, x < 256
  row : BRow w a l
theorem Lies.later {w w' : World} {a : Option Addr} {n cap : Nat} {l : List Nat} (h : Lies w a n cap l) (hb : Below w.heap.size w w') : Lies w' a n cap l := ⟨h.len, h.le, h.max, h.lt, h.row.later hb⟩
theorem lies_img {w w' : World} {g page : Nat} {p : List Nat} (ho : Own w w' (.slice (some ⟨g, 0, none⟩) page page) (imgL p page)) (hp : page ≤ 512) (h : ∀ x ∈ p, x < 256) : Lies w' (some ⟨g, 0, none⟩) page page (imgL p page) :=
  ⟨(imgL_length _ _).symm, Nat.le_refl _, by unfold maxLen; omega, imgL_lt h page, own_at ho⟩

theorem pc_some {w : World} {a : Option Addr} {n cap z : Nat} {l : List Nat} (hg : Glb w) (h : Lies w a n cap l) (hr : parseC l = some z) :
    Calls Tryz.prog 64 #[.slice a n cap] w fun e w' => e = .returned (.tuple #[.int .i64 (z : Int), .bool true]) ∧ Below w.heap.size w w' := by
  have := parseCount_any a n cap l w hg h.len h.le h.max h.lt h.row
  rw [hr] at this
  exact this
theorem pc_none {w : World} {a : Option Addr} {n cap : Nat} {l : List Nat} (hg : Glb w) (h : Lies w a n cap l) (hr : parseC l = none) :
    Calls Tryz.prog 64 #[.slice a n cap] w fun e w' => e = .returned (.tuple #[.int .i64 0, .bool false]) ∧ Below w.heap.size w w' := by
  have := parseCount_any a n cap l w hg h.len h.le h.max h.lt h.row
  rw [hr] at this
  exact this
theorem pm_some {w : World} {a : Option Addr} {n cap x y z : Nat} {l : List Nat} (hg : Glb w) (h : Lies w a n cap l) (hr : parseM l = some (x, y, z)) :
    Calls Tryz.prog 116 #[.slice a n cap] w fun e w' => e = .returned (.tuple #[.agg #[.int .i64 (x : Int), .int .u64 (y : Int), .int .i64 (z : Int)], .bool true]) ∧ Below w.heap.size w w' := by
  have := parseMapping_any a n cap l w hg h.len h.le h.max h.lt h.row
  rw [hr] at this
  exact this
theorem pm_none {w : World} {a : Option Addr} {n cap : Nat} {l : List Nat} (hg : Glb w) (h : Lies w a n cap l) (hr : parseM l = none) :
    Calls Tryz.prog 116 #[.slice a n cap] w fun e w' => e = .returned (.tuple #[.agg #[.int .i64 0, .int .u64 0, .int .i64 0], .bool false]) ∧ Below w.heap.size w w' := by
  have := parseMapping_any a n cap l w hg h.len h.le h.max h.lt h.row
  rw [hr] at this
  exact this
/-- Count and Mapping, with what is needed behind them. -/
def MadePost (w : World) (p : List Nat) (page : Nat) (e : Ending) (w' : World) : Prop :=
  ∃ g, e = .returned (.tuple #[.slice (some ⟨g, 0, none⟩) page page, .int .i64 0]) ∧ Lies w' (some ⟨g, 0, none⟩) page page (imgL p page) ∧ Below w.heap.size w w' ∧ Own w w' (.slice (some ⟨g, 0, none⟩) page page) (imgL p page)
theorem count_made (n page : Nat) (w : World) (h1 : n ≤ 2147483647) (h2 : 64 ≤ page) (h3 : page ≤ 512) : Calls Tryz.prog 133 #[.int .i64 n, .int .i64 page] w (MadePost w (countL n) page) := by
  refine (count_yes n page w h1 h2 h3).mono ?_
  rintro e w' ⟨g, rfl, ho⟩
  exact ⟨g, rfl, lies_img ho h3 (countL_lt n), ho.2, ho⟩
theorem map_made (leb seq pages page : Nat) (w : World) (h1 : leb ≤ 255) (h2 : pages ≤ 64) (hs : seq < 18446744073709551616) (h3 : 64 ≤ page) (h4 : page ≤ 512) :
    Calls Tryz.prog 166 #[.agg #[.int .i64 leb, .int .u64 seq, .int .i64 pages], .int .i64 page] w (MadePost w (mapL leb seq pages) page) := by
  refine (mapping_yes leb seq pages page w h1 h2 hs h3 h4).mono ?_
  rintro e w' ⟨g, rfl, ho⟩
  exact ⟨g, rfl, lies_img ho h4 (mapL_lt _ _ _), ho.2, ho⟩

theorem b7 : parseC (imgL (countL 7) 64) = some 7 := back_c 7 64 (by decide) (by decide) (by decide)
theorem b392 : parseM (imgL (mapL 3 9 2) 64) = some (3, 9, 2) := back_m 3 9 2 64 (by decide) (by decide) (by decide) (by decide) (by decide)
theorem x392 : parseC (imgL (mapL 3 9 2) 64) = none := cross_m 3 9 2 64 (by decide) (by decide)

end Go.Proofs.YtccfalafphjkpaaGreatDoor.Hd
