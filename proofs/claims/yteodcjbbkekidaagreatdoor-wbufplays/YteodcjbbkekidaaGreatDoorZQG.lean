/-
  A frame is searched for by its place.
  Read of a log.
-/
import Derived.Test.YteodcjbbkekidaaGreatDoorZQF
import Derived.Deep.LoopGhost
namespace Go.Proofs.YteodcjbbkekidaaGreatDoor
open Go.RowKit Go.Extern.Stop Go.Stop Go.Extern
set_option maxRecDepth 10000

/-- The cells of a row of frames. -/
theorem frs_at {w : World} {fv : Value} {db : Nat} {fs : List Fm} (h : w.ownsRow 0 89 2 fv fs.length (fs.flatMap (fCells db))) :
    ∃ a cap, fv = .slice a fs.length cap ∧ ∀ j x, fs[j]? = some x → ∃ g, a = some ⟨g, 0, none⟩ ∧ w.cell? ⟨g, j * 2, none⟩ = some (.int .i64 (x.1 : Nat)) ∧ w.cell? ⟨g, j * 2 + 1, none⟩ = some (.slice (some ⟨db, x.1 + 6, none⟩) x.2.length x.2.length) := by
  have hl := flat_len (fCells db) 2 (fCells_len db) fs
  rcases h.2 with ⟨e, e2⟩ | ⟨g, cap, cur, e, hbg, hrow, rest⟩
  · refine ⟨none, 0, by rw [e, e2], fun j x hx => ?_⟩
    have := (List.getElem?_eq_some_iff.1 hx).1
    omega
  · refine ⟨some ⟨g, 0, none⟩, cap, e, fun j x hx => ?_⟩
    have hj := (List.getElem?_eq_some_iff.1 hx).1
    subst e
    refine ⟨g, rfl, ?_, ?_⟩
    · have k := flat_get (fCells db) 2 (fCells_len db) 0 (by omega) fs j x hx
      rw [h.cellAt (j * 2) (by omega)]
      exact k
    · have k := flat_get (fCells db) 2 (fCells_len db) 1 (by omega) fs j x hx
      rw [h.cellAt (j * 2 + 1) (by omega)]
      exact k
/-- Does a frame begin at this place? -/
def isAt (pos : Int) (fs : List Fm) : Bool := match fs[ahdF pos fs]? with | some x => decide ((x.1 : Int) = pos) | none => false
set_option maxHeartbeats 4000000 in
theorem search_any {w : World} {fv : Value} {db : Nat} {fs : List Fm} (h : w.ownsRow 0 89 2 fv fs.length (fs.flatMap (fCells db))) (hp : fs.Pairwise (fun x y => x.1 < y.1)) (hn : fs.length ≤ 31744) (pos : Int) :
    Calls Tryz.prog 54 #[fv, .int .i64 pos, .func (.func 55) #[] #[]] w fun e w' => e = .returned (.tuple #[.int .i64 (ahdF pos fs : Nat), .bool (isAt pos fs)]) ∧ Below w.heap.size w w' := by
  obtain ⟨a, cap, rfl, hc⟩ := frs_at h
  have HC : Hid (∀ X, Below w.heap.size w X → ∀ j x, fs[j]? = some x → ∃ g, a = some ⟨g, 0, none⟩ ∧ X.cell? ⟨g, j * 2, none⟩ = some (.int .i64 (x.1 : Nat)) ∧ X.cell? ⟨g, j * 2 + 1, none⟩ = some (.slice (some ⟨db, x.1 + 6, none⟩) x.2.length x.2.length)) := fun X hb j x hx => by
    obtain ⟨g, e, h1, h2⟩ := hc j x hx
    refine ⟨g, e, ?_, ?_⟩
    · rw [hb.cell (World.block_lt_of_cell? w _ h1)]; exact h1
    · rw [hb.cell (World.block_lt_of_cell? w _ h2)]; exact h2
  have HI : Hid (∀ j x, fs[j]? = some x → ((x.1 : Int) < pos ↔ j < ahdF pos fs)) := fun j x hx => ahdF_iff pos hp hx
  have HG : Hid (∀ j, j < fs.length → ∃ x, fs[j]? = some x) := fun j hj => ⟨fs[j], List.getElem?_eq_getElem hj⟩
  have HA : Hid (ahdF pos fs ≤ fs.length) := ahdF_le pos fs
  have HT : Hid (isAt pos fs = match fs[ahdF pos fs]? with | some x => decide ((x.1 : Int) = pos) | none => false) := rfl
  obtain ⟨n, hn0⟩ : ∃ n, n = fs.length := ⟨_, rfl⟩
  have HN : Hid (fs[n]? = none) := by rw [hn0]; exact List.getElem?_eq_none (Nat.le_refl _)
  obtain ⟨A, hA⟩ : ∃ A, A = ahdF pos fs := ⟨_, rfl⟩
  obtain ⟨B, hB⟩ : ∃ B, B = isAt pos fs := ⟨_, rfl⟩
  rw [← hn0] at hn HG HA ⊢
  rw [← hA] at HI HA HT ⊢
  rw [← hB] at HT ⊢
  have n1 : (n : Int) ≤ 31744 := by omega
  clear h hp hc hn0 hA hB
  go_enter Tryz.func54, Tryz.ntmps54
  go_wp2_with fail
  go_loopg [9, 10] n (fun g s9 s10 wr => ∃ lo hi : Nat, s9 = .int .i64 lo ∧ s10 = .int .i64 hi ∧ lo ≤ hi ∧ hi ≤ n ∧ hi - lo ≤ g ∧ Hid ((lo ≤ A ∧ A ≤ hi) ∧ Below w.heap.size w wr))
  case atStart => exact ⟨0, n, rfl, rfl, Nat.zero_le _, Nat.le_refl _, by omega, (⟨⟨Nat.zero_le _, HA.out⟩, Below.refl _ _⟩ : _ ∧ _)⟩
  case round =>
    obtain ⟨lo, hi, rfl, rfl, hlh, hin, hg, I⟩ := hrel
    by_cases hlt : lo < hi
    · obtain ⟨x, hx⟩ := HG.out ((lo + hi) / 2) (by omega)
      obtain ⟨g1, rfl, cm0, cm1⟩ := HC.out wr I.out.2 _ x hx
      have kR := fun X => readCmp_any db x pos X
      have hci := (cmpI (x.1 : Nat) pos).1
      have hix := HI.out _ _ hx
      have hb2 : (lo + hi) / 2 < n := by omega
      generalize Lib.compareInt (x.1 : Nat) pos = r at kR hci
      unfold fmV at kR
      generalize x.1 = xa at *
      generalize x.2.length = xb at *
      clear hx
      by_cases hr : r < 0
      · have HR : Hid ((lo + hi) / 2 < A) := hix.1 (hci.1 hr)
        clear hci hix
        go_wp2_with (go_at_call 55; refine (kR _).mono ?_; rintro e w1 ⟨rfl, hb⟩; have B1 : Hid (Below w.heap.size w w1) := Below.after I.out.2 hb; clear hb)
        go_roundg (hi - ((lo + hi) / 2 + 1))
        case measure => omega
        case rel => exact ⟨(lo + hi) / 2 + 1, hi, by rw [show ((lo : Int) + (hi : Int)) / 2 + 1 = (((lo + hi) / 2 + 1 : Nat) : Int) by omega], rfl, by omega, hin, Nat.le_refl _, (⟨⟨HR.out, I.out.1.2⟩, B1.out⟩ : _ ∧ _)⟩
      · have HR : Hid (A ≤ (lo + hi) / 2) := by
          have : ¬ (lo + hi) / 2 < A := fun q => hr (hci.2 (hix.2 q))
          show _ ≤ _
          omega
        clear hci hix
        go_wp2_with (go_at_call 55; refine (kR _).mono ?_; rintro e w1 ⟨rfl, hb⟩; have B1 : Hid (Below w.heap.size w w1) := Below.after I.out.2 hb; clear hb)
        go_roundg ((lo + hi) / 2 - lo)
        case measure => omega
        case rel => exact ⟨lo, (lo + hi) / 2, rfl, by rw [show ((lo : Int) + (hi : Int)) / 2 = (((lo + hi) / 2 : Nat) : Int) by omega], by omega, by omega, Nat.le_refl _, (⟨⟨I.out.1.1, HR.out⟩, B1.out⟩ : _ ∧ _)⟩
    · have e1 : lo = hi := by omega
      have e2 : A = hi := by have := I.out.1; omega
      subst e1
      subst e2
      by_cases hn2 : A < n
      · obtain ⟨x, hx⟩ := HG.out A hn2
        obtain ⟨g1, rfl, cm0, cm1⟩ := HC.out wr I.out.2 _ x hx
        have kR := fun X => readCmp_any db x pos X
        have hci := (cmpI (x.1 : Nat) pos).2
        rw [hx] at HT
        have HT2 : Hid (B = decide ((x.1 : Int) = pos)) := HT.out
        generalize Lib.compareInt (x.1 : Nat) pos = r at kR hci
        unfold fmV at kR
        generalize x.1 = xa at *
        generalize x.2.length = xb at *
        clear hx HT HN
        have HD : Hid (decide (r = 0) = B) := by rw [HT2.out]; exact decide_eq_decide.2 hci
        clear hci
        go_wp2_with (go_at_call 55; refine (kR _).mono ?_; rintro e w1 ⟨rfl, hb⟩; have B1 : Hid (Below w.heap.size w w1) := Below.after I.out.2 hb; clear hb)
        go_ret2
        refine ⟨?_, B1.out⟩
        rw [← HD.out]
        rfl
      · have e3 : A = n := by omega
        subst e3
        rw [HN.out] at HT
        have HT2 : Hid (B = false) := HT.out
        clear HT HN
        go_wp2_with fail
        go_ret2
        refine ⟨?_, I.out.2⟩
        rw [HT2.out]
        rfl
end Go.Proofs.YteodcjbbkekidaaGreatDoor
namespace Go.Proofs.YteodcjbbkekidaaGreatDoor
open Go.RowKit Go.Extern.Stop Go.Stop Go.Extern
set_option maxRecDepth 10000

theorem lown_low {w : World} {base base' e size n : Nat} {v : Value} {xs : List Value} (h : w.ownsRow base' e size v n xs) (hb : base ≤ base') : w.ownsRow base e size v n xs := by
  refine ⟨h.1, ?_⟩
  rcases h.2 with e | ⟨g, cap, cur, e, hbg, rest⟩
  · exact .inl e
  · exact .inr ⟨g, cap, cur, e, Nat.le_trans hb hbg, rest⟩
theorem lown_from {w w1 w2 : World} {v : Value} {l : List Nat} (h : Below w.heap.size w w1) (ho : Own w1 w2 v l) : Own w w2 v l := ⟨lown_low ho.1 h.size, Below.after h ho.2⟩
theorem clone_any (db off n c : Nat) (p : List Nat) (w : World) (hl : p.length = n) (hb : n ≤ 140737488355328) (hc : ∀ i, i < n → w.cell? ⟨db, off + i, none⟩ = some (.int .u8 ((p.getD i 0 : Nat) : Int))) :
    Calls Tryz.prog 57 #[.slice (some ⟨db, off, none⟩) n c] w fun e w' => ∃ v', e = .returned v' ∧ Own w w' v' p := by
  refine (Tryz.bytes_Clone_at ⟨db, off, none⟩ n c (p.map fun x : Nat => (x : Int)) w (by simpa using hl) hb ?_).mono ?_
  · intro i hi
    rw [show ((⟨db, off, none⟩ : Addr).add i) = ⟨db, off + i, none⟩ by simp [Addr.add], hc i hi]
    simp [List.getD, show i < p.length by omega]
  · rintro e w' ⟨v', rfl, ho, hn, hb2⟩
    refine ⟨v', rfl, ?_, hb2⟩
    rw [hl]
    have : (p.map fun x : Nat => (x : Int)).map (Value.int .u8) = p.map u8v := by simp [u8v]
    rw [← this]
    exact ho
set_option maxHeartbeats 4000000 in
theorem read_no {base t : Nat} {w : World} {m : Mg} {c : CS} {P : List (List (List Nat))} {l : Lm} (h : ML base t w m c P l) (pos : Int) (hn : isAt pos l.fs = false) :
    Calls Tryz.prog 20 #[.pointer (some ⟨l.p, 0, none⟩), .int .i64 pos] w fun e w' => e = .returned (.tuple #[.slice none 0 0, .int .i64 22]) ∧ Below w.heap.size w w' := by
  have hct := h.fr.count
  have hd := h.size
  have k := search_any h.la.frs h.fr.rise (by omega) pos
  rw [hn] at k
  have c4 := h.la.cells.2.2.2.2.1
  clear h hn hct hd
  go_enter Tryz.func20, Tryz.ntmps20
  go_wp2_with (go_at_call 54; refine k.mono ?_; rintro e w1 ⟨rfl, hb⟩; have HB : Hid (Below w.heap.size w w1) := hb; clear hb)
  go_ret2
  exact ⟨rfl, HB.out⟩
set_option maxHeartbeats 4000000 in
theorem read_yes {base t : Nat} {w : World} {m : Mg} {c : CS} {P : List (List (List Nat))} {l : Lm} (h : ML base t w m c P l) (pos : Int) (x : Fm) (hx : l.fs[ahdF pos l.fs]? = some x) (he : (x.1 : Int) = pos) :
    Calls Tryz.prog 20 #[.pointer (some ⟨l.p, 0, none⟩), .int .i64 pos] w fun e w' => ∃ v, e = .returned (.tuple #[v, .int .i64 0]) ∧ Own w w' v x.2 := by
  have hct := h.fr.count
  have hd := h.size
  have k := search_any h.la.frs h.fr.rise (by omega) pos
  have hT : isAt pos l.fs = true := by unfold isAt; rw [hx]; exact decide_eq_true he
  rw [hT] at k
  have c4 := h.la.cells.2.2.2.2.1
  obtain ⟨a, cap, ev, hc⟩ := frs_at h.la.frs
  obtain ⟨g, rfl, cm0, cm1⟩ := hc _ _ hx
  have hAl := (List.getElem?_eq_some_iff.1 hx).1
  obtain ⟨f1, f2, f3, f4, f5⟩ := h.fr.at_ x (List.mem_of_getElem? hx)
  have HCl : Hid (∀ X, Below w.heap.size w X → Calls Tryz.prog 57 #[.slice (some ⟨l.db, x.1 + 6, none⟩) x.2.length x.2.length] X fun e w' => ∃ v', e = .returned v' ∧ Own X w' v' x.2) := fun X hb => clone_any l.db (x.1 + 6) x.2.length x.2.length x.2 X rfl (by omega) fun i hi => by
    rw [(h.later hb).la.row (x.1 + 6 + i) (by omega)]
    have : x.2.getD i 0 = l.data.getD (x.1 + 6 + i) 0 := by
      have f6 : x.2.getD i 0 = ((l.data.drop (x.1 + 6)).take x.2.length).getD i 0 := by rw [f3]
      rw [f6]
      simp only [List.getD, List.getElem?_take, List.getElem?_drop]
      rw [if_pos hi]
    rw [this]
  have HL : Hid (∀ X, Below w.heap.size w X → X.cell? ⟨l.p, 4, none⟩ = some l.fv ∧ X.cell? ⟨g, ahdF pos l.fs * 2 + 1, none⟩ = some (.slice (some ⟨l.db, x.1 + 6, none⟩) x.2.length x.2.length)) := fun X hb => ⟨(h.later hb).la.cells.2.2.2.2.1, by rw [hb.cell (World.block_lt_of_cell? w _ cm1)]; exact cm1⟩
  rw [ev] at k HL c4
  generalize ahdF pos l.fs = A at *
  generalize l.fs.length = n at *
  have n1 : (A : Int) < (n : Int) := by omega
  have n2 : (n : Int) ≤ 31744 := by omega
  generalize x.2.length = xn at *
  have HX : Hid (∃ xs, xs = x.2) := ⟨_, rfl⟩
  clear h hx hT hc cm0 cm1 f1 f2 f3 f4 f5 hct hd ev he HX
  go_enter Tryz.func20, Tryz.ntmps20
  go_wp2_with (first
    | (go_at_call 54; refine k.mono ?_; rintro e w1 ⟨rfl, hb⟩; have HB : Hid (Below w.heap.size w w1) := hb; have d4 := (HL.out _ hb).1; have dx := (HL.out _ hb).2; clear hb)
    | (go_at_call 57; refine (HCl.out _ HB.out).mono ?_; rintro e w2 ⟨v, rfl, ho⟩; have HO : Hid (Own w1 w2 v x.2) := ho; clear ho))
  go_ret2
  exact ⟨v, rfl, lown_from HB.out HO.out⟩
end Go.Proofs.YteodcjbbkekidaaGreatDoor
