/-
  Proved: the statement on whole scripts (NandPlays): for every geometry, plan and script; no condition.
-/
import Derived.Test.YtiejkbncpbhcdaaDScript
namespace Go.Proofs.Ytiejkbncpbhcdaa.nandPlays
open Go.ChangeShapes Go.WideShapes Go.ChangeAt Go.RowKit

set_option maxRecDepth 100000 in
theorem garg_open {H : Type} {enc : TypeId × Value → H} {w : World} {cs : Array Value} {fuel : Nat} {x : DataW H × List MemPlace} (hsz : cs.size = Try.prog.cellsOf 23)
    (hf : DataW.trod enc Try.prog w 0 (fun _ => true) true fuel 23 (Value.agg cs).cells.toList = some x) : ∃ b p z r, cs = #[.int .i64 b, .int .i64 p, .int .i64 z, .int .i64 r] := by
  rw [show Try.prog.cellsOf 23 = 4 by kernel_rfl] at hsz
  obtain ⟨xs, k, hk, hxy, _, hxl, hff⟩ := DataW.trod_struct Try.underlying23 hf
  obtain ⟨v0, v1, v2, v3, rfl⟩ : ∃ v0 v1 v2 v3, cs = #[v0, v1, v2, v3] := by
    obtain ⟨l⟩ := cs
    match l, hsz with
    | [v0, v1, v2, v3], _ => exact ⟨v0, v1, v2, v3, rfl⟩
  match xs, hxl with
  | [y0, y1, y2, y3], _ =>
    have g0 := hff 0 _ rfl
    have g1 := hff 1 _ rfl
    have g2 := hff 2 _ rfl
    have g3 := hff 3 _ rfl
    have ci : Try.prog.cellsOf 3 = 1 := by kernel_rfl
    simp [ci, Value.cells] at g0 g1 g2 g3
    obtain ⟨z0, e0, _, _⟩ := DataW.trod_int Try.underlying3 g0
    obtain ⟨z1, e1, _, _⟩ := DataW.trod_int Try.underlying3 g1
    obtain ⟨z2, e2, _, _⟩ := DataW.trod_int Try.underlying3 g2
    obtain ⟨z3, e3, _, _⟩ := DataW.trod_int Try.underlying3 g3
    simp at e0 e1 e2 e3
    exact ⟨z0, z1, z2, z3, by rw [e0, e1, e2, e3]⟩
theorem FArg.later {w W : World} {a : Option Addr} {n cap : Nat} {l : List Flt} (h : FArg w a n cap l) (hb : Below w.heap.size w W) : FArg W a n cap l := ⟨h.len_eq, h.le, h.max, frow_later h.row hb, h.nil⟩
theorem OArg.later {w W : World} {a : Option Addr} {n cap : Nat} {l : List OpD} (h : OArg w a n cap l) (hb : Below w.heap.size w W) : OArg W a n cap l := by
  refine ⟨h.len_eq, h.le, h.max, ?_, fun o ho => ?_⟩
  · rcases h.row with e | ⟨b, off, e, hc⟩
    · exact .inl e
    · refine .inr ⟨b, off, e, fun i o ho => ?_⟩
      obtain ⟨g0, g1, g2, g3, g4⟩ := hc i o ho
      have hbw : b < w.heap.size := World.block_lt_of_cell? w _ g0
      rw [hb.cell (p := ⟨b, off + i * 5, none⟩) hbw, hb.cell (p := ⟨b, off + i * 5 + 1, none⟩) hbw, hb.cell (p := ⟨b, off + i * 5 + 2, none⟩) hbw, hb.cell (p := ⟨b, off + i * 5 + 3, none⟩) hbw, hb.cell (p := ⟨b, off + i * 5 + 4, none⟩) hbw]
      exact ⟨g0, g1, g2, g3, g4⟩
  · obtain ⟨hd, hf⟩ := h.each o ho
    exact ⟨⟨hd.len_eq, hd.le, hd.max, hd.lt, hd.row.later hb, hd.nil⟩, FArg.later hf hb⟩
theorem right_nums {b p z r : Int} (h : rightB b p z r = true) : ∃ gb gp gz gr : Nat, b = gb ∧ p = gp ∧ z = gz ∧ r = gr ∧ 1 ≤ gb ∧ gb ≤ 256 ∧ 1 ≤ gp ∧ gp ≤ 64 ∧ 1 ≤ gz ∧ gz ≤ 512 := by
  unfold rightB at h
  simp only [Bool.and_eq_true, decide_eq_true_eq] at h
  obtain ⟨h1, h2, _, h3, _, _, h4⟩ := h
  exact ⟨b.toNat, p.toNat, z.toNat, r.toNat, by omega, by omega, by omega, by omega, by omega, by omega, by omega, by omega, by omega, by omega⟩
/-- New, where all is right. -/
theorem new_d {W0 w1 : World} (gb gp gz gr : Nat) (a : Option Addr) (m cap : Nat) (l : List Flt) (ha : FArg W0 a m cap l) (h : m ≤ 256 ∧ planOk l) (hg : rightB gb gp gz gr = true) (g1 : 1 ≤ gb) (g2 : gb ≤ 256) (g3 : 1 ≤ gp) (g4 : gp ≤ 64) (g5 : 1 ≤ gz) (g6 : gz ≤ 512)
    (p q : Nat) (s : List Flt) (rs : List Nat) (hrs : rs.length = gb) (hp : s.Perm l) (hs : s.Pairwise (fun x y => x.num < y.num)) (hl : Lies W0.heap.size w1 (newC gb gp gz gr p q s rs)) (hb : Below W0.heap.size W0 w1) :
    Calls Try.prog 6 #[.agg #[.int .i64 gb, .int .i64 gp, .int .i64 gz, .int .i64 gr], .slice a m cap] w1 fun e w' => ∃ (P : Nat) (c : CS) (d : DS), e = .returned (.tuple #[.pointer (some ⟨P, 0, none⟩), .int .i64 0]) ∧ Hid (St W0 w' p P 0 c d) := by
  refine (d_new_go gb gp gz gr a m cap l w1 ha.len_eq (frow_later ha.row hb) h hg g1 g2 g3 g4 g5 g6).mono ?_
  rintro e w' ⟨P, q2, qc, rs2, rfl, h2, hd, hb2⟩
  refine ⟨P, _, _, rfl, ⟨⟨hl.later hb2, hd.lower hb.size, Rel.new gb gp gz gr p q s l rs rs2 P q2 qc a m cap hrs h2 hp hs h.2 (by rw [← ha.len_eq]; exact h.1), ?_⟩, rfl, rfl, Below.after hb hb2⟩⟩
  intro b o e hne
  left
  rcases ha.row with e2 | ⟨b2, off2, e2, hc⟩
  · exact absurd e2 hne
  · have e3 : a = some ⟨b, o, none⟩ := e
    rw [e2] at e3
    obtain ⟨rfl, rfl⟩ : b2 = b ∧ off2 = o := by simpa using e3
    cases hl2 : l with
    | nil => exact absurd hl2 hne
    | cons f t => exact World.block_lt_of_cell? W0 _ (hc 0 f (by rw [hl2]; rfl)).1
/-- A clone beside the chip that it is of. -/
structure Tw (W0 W1 w6 : World) (p p6 P k : Nat) (c c6 : CS) (d : DS) : Prop where
  old : Lies W0.heap.size w6 c
  oldp : c.p = p
  new : St W0 w6 p6 P k c6 d
  apart : ∀ x, c6.foot x → ¬ c.foot x
  ops : OpKept W1 w6
theorem clone1 {W0 W1 : World} {p P k : Nat} {c : CS} {d : DS} (h : St W0 W1 p P k c d) :
    Calls Try.prog 10 #[.pointer (some ⟨p, 0, none⟩)] W1 fun e w6 => ∃ p6 c6, e = .returned (.pointer (some ⟨p6, 0, none⟩)) ∧ Hid (Tw W0 W1 w6 p p6 P k c c6 d) := by
  refine (clone_any h.duo.cl p h.p h.duo.rel.short).mono ?_
  rintro e w6 ⟨c6, rfl, t⟩
  have hD := h.duo.later t.bel
  refine ⟨c6.p, c6, rfl, ⟨hD.cl, h.p, ⟨⟨t.lies.lower h.duo.cl.size, hD.dl, h.duo.rel.twin t, hD.pat⟩, rfl, h.q, Below.after h.below t.bel⟩, ?_, .later t.bel⟩⟩
  intro x h1 h2
  have := t.lies.low x h1
  have := h.duo.cl.foot_lt h2
  omega
theorem Tw.step {W0 W1 w6 w7 : World} {p p6 P k : Nat} {c c' c6 : CS} {d : DS} (h : Tw W0 W1 w6 p p6 P k c c6 d) (hl : Lies W0.heap.size w7 c') (hk : Kept c.foot w6 w7) (hf : c'.foot = c.foot) (hp : c'.p = c.p) : Tw W0 W1 w7 p p6 P k c' c6 d := by
  obtain ⟨a1, a2, a3, a4⟩ := d_keeps h.old h.new.duo.dl h.new.duo.pat hk
  exact ⟨hl, hp.trans h.oldp, ⟨⟨h.new.duo.cl.kept hk h.apart (fun b cs hr => h.old.foot_not hr (by decide) (by decide) (by decide)), a1, h.new.duo.rel, a2⟩, h.new.p, h.new.q, h.new.below.trans a4⟩, by rw [hf]; exact h.apart, h.ops.trans a3⟩
theorem Tw.era {W0 W1 w6 : World} {p p6 P k : Nat} {c c6 : CS} {d : DS} (h : Tw W0 W1 w6 p p6 P k c c6 d) (b : Int) :
    Calls Try.prog 11 #[.pointer (some ⟨p, 0, none⟩), .int .i64 b] w6 fun e w7 => ∃ x c', e = .returned (.int .i64 x) ∧ Hid (Tw W0 W1 w7 p p6 P k c' c6 d) := by
  have hp := h.oldp
  rw [← hp]
  refine (erase_all h.old b).mono ?_
  rintro e w7 ⟨rfl, hl, hk, hf⟩
  exact ⟨_, _, rfl, by have := h.step hl hk hf (CS.erase_p _ _); rw [hp]; exact this⟩
theorem Tw.mar {W0 W1 w6 : World} {p p6 P k : Nat} {c c6 : CS} {d : DS} (h : Tw W0 W1 w6 p p6 P k c c6 d) (b : Int) :
    Calls Try.prog 12 #[.pointer (some ⟨p, 0, none⟩), .int .i64 b] w6 fun e w7 => ∃ x c', e = .returned (.int .i64 x) ∧ Hid (Tw W0 W1 w7 p p6 P k c' c6 d) := by
  have hp := h.oldp
  rw [← hp]
  refine (mark_any h.old b).mono ?_
  rintro e w7 ⟨rfl, hl, hk, hf⟩
  exact ⟨_, _, rfl, by have := h.step hl hk hf (CS.mark_p _ _); rw [hp]; exact this⟩
/-- New, where something is wrong. -/
theorem new_wrong (b p z r : Int) (a : Option Addr) (m cap : Nat) (l : List Flt) (w : World) (ha : FArg w a m cap l) (h : ¬ (rightB b p z r = true ∧ m ≤ 256 ∧ planOk l)) :
    Calls Try.prog 5 #[.agg #[.int .i64 b, .int .i64 p, .int .i64 z, .int .i64 r], .slice a m cap] w fun e w' => e = .returned (.tuple #[.pointer none, .int .i64 22]) ∧ Below w.heap.size w w' := by
  by_cases h2 : m ≤ 256 ∧ planOk l
  · exact new_shape b p z r a m cap l w ha.len_eq ha.row h2 (by cases e : rightB b p z r with | false => rfl | true => exact absurd ⟨e, h2⟩ h)
  · exact new_plan b p z r a m cap l w ha.len_eq ha.row h2
set_option maxRecDepth 20000 in
set_option maxHeartbeats 8000000 in
theorem walk_no (b p z r : Int) (a : Option Addr) (m cap : Nat) (l : List Flt) (a2 : Option Addr) (n2 cap2 : Nat) (w : World) (ha : FArg w a m cap l) (h : ¬ (rightB b p z r = true ∧ m ≤ 256 ∧ planOk l)) :
    Calls Try.prog 3 #[.agg #[.int .i64 b, .int .i64 p, .int .i64 z, .int .i64 r], .slice a m cap, .slice a2 n2 cap2] w fun e w' => e = .returned (.bool true) ∧ Below w.heap.size w w' := by
  obtain ⟨W0, hW0⟩ : ∃ W, W = w.alloc (.cells #[.int .i64 b, .int .i64 p, .int .i64 z, .int .i64 r] 23) := ⟨_, rfl⟩
  have hb0 : Below w.heap.size w W0 := by rw [hW0]; exact below_new w _
  have hG0 : Row W0 w.heap.size [.int .i64 b, .int .i64 p, .int .i64 z, .int .i64 r] 23 := by rw [hW0]; exact Row.new w _ _
  have HG : Hid (∀ W, Below W0.heap.size W0 W → W.cell? ⟨w.heap.size, 0, none⟩ = some (.int .i64 b) ∧ W.cell? ⟨w.heap.size, 1, none⟩ = some (.int .i64 p) ∧ W.cell? ⟨w.heap.size, 2, none⟩ = some (.int .i64 z) ∧ W.cell? ⟨w.heap.size, 3, none⟩ = some (.int .i64 r)) := fun W hb => ⟨(hG0.later hb).cell (i := 0) rfl, (hG0.later hb).cell (i := 1) rfl, (hG0.later hb).cell (i := 2) rfl, (hG0.later hb).cell (i := 3) rfl⟩
  have HB0 : Hid (Below w.heap.size w W0) := hb0
  have kN := new_wrong b p z r a m cap l W0 (FArg.later ha hb0) h
  have kD := fun W (hb : Below W0.heap.size W0 W) => d_new_no b p z r a m cap l W ha.len_eq (by have := ha.le; have := ha.max; unfold maxLen at this; omega) (frow_later ha.row (Below.after hb0 hb)) h
  have HKD : Hid _ := kD
  obtain ⟨R, hR⟩ : ∃ R, R = rightB b p z r := ⟨_, rfl⟩
  have kR := fun W => right_any b p z r W
  have kQ := fun W => d_right b p z r W
  rw [← hR] at kR kQ
  rw [hW0] at kN
  clear ha h hG0 hb0 kD hR
  go_enter Try.func3, Try.ntmps3
  go_wp2_with (first
    | (go_at_call 5; refine kN.mono ?_; rintro e w1 ⟨rfl, hb1⟩; rw [← hW0] at hb1; have HB1 : Hid (Below _ _ _) := hb1; obtain ⟨c0, c1, c2, c3⟩ := HG.out w1 hb1; clear hb1)
    | (go_at_call 6; refine (HKD.out w1 HB1.out).mono ?_; rintro e w2 ⟨rfl, hb2⟩; have HB2 : Hid (Below W0.heap.size W0 w2) := Below.after HB1.out hb2; have hS2 := HG.out w2 HB2.out; clear hb2))
  clear kN HKD HB1 c0 c1 c2 c3
  go_region_held3 (fun w' => w'.cell? ⟨w.heap.size, 0, none⟩ = some (.int .i64 b) ∧ w'.cell? ⟨w.heap.size, 1, none⟩ = some (.int .i64 p) ∧ w'.cell? ⟨w.heap.size, 2, none⟩ = some (.int .i64 z) ∧ w'.cell? ⟨w.heap.size, 3, none⟩ = some (.int .i64 r)) (first | assumption | go_keep)
    (first
    | (go_at_call 7; refine (kR _).mono ?_; rintro e w3 ⟨rfl, hb3⟩; have HB3 : Hid (Below W0.heap.size W0 w3) := Below.after HB2.out.drew hb3; have hS3 := HG.out w3 HB3.out; clear hb3)
    | (go_at_call 8; refine (kQ _).mono ?_; rintro e w4 ⟨rfl, hb4⟩; have HB4 : Hid (Below W0.heap.size W0 w4) := Below.after HB3.out hb4; have hS4 := HG.out w4 HB4.out; clear hb4)
    | (go_at_call 9; refine (alive_any _).mono ?_; rintro e w5 ⟨rfl, hb5⟩; have HB5 : Hid (Below W0.heap.size W0 w5) := Below.after HB4.out hb5; have hS5 := HG.out w5 HB5.out; clear hb5))
  all_goals go_wp2
  all_goals go_ret
  all_goals exact ⟨rfl, Below.after HB0.out HB5.out⟩
set_option maxRecDepth 20000 in
set_option maxHeartbeats 16000000 in
theorem walk_go (gb gp gz gr : Nat) (a : Option Addr) (m cap : Nat) (l : List Flt) (a2 : Option Addr) (n2 cap2 : Nat) (l2 : List OpD) (w : World) (ha : FArg w a m cap l) (ha2 : OArg w a2 n2 cap2 l2) (h : m ≤ 256 ∧ planOk l) (hg : rightB gb gp gz gr = true) (g1 : 1 ≤ gb) (g2 : gb ≤ 256) (g3 : 1 ≤ gp) (g4 : gp ≤ 64) (g5 : 1 ≤ gz) (g6 : gz ≤ 512) :
    Calls Try.prog 3 #[.agg #[.int .i64 gb, .int .i64 gp, .int .i64 gz, .int .i64 gr], .slice a m cap, .slice a2 n2 cap2] w fun e w' => e = .returned (.bool true) ∧ Below w.heap.size w w' := by
  obtain ⟨W0, hW0⟩ : ∃ W, W = w.alloc (.cells #[.int .i64 gb, .int .i64 gp, .int .i64 gz, .int .i64 gr] 23) := ⟨_, rfl⟩
  have hb0 : Below w.heap.size w W0 := by rw [hW0]; exact below_new w _
  have hG0 : Row W0 w.heap.size [.int .i64 gb, .int .i64 gp, .int .i64 gz, .int .i64 gr] 23 := by rw [hW0]; exact Row.new w _ _
  have HG : Hid (∀ W, Below W0.heap.size W0 W → W.cell? ⟨w.heap.size, 0, none⟩ = some (.int .i64 gb) ∧ W.cell? ⟨w.heap.size, 1, none⟩ = some (.int .i64 gp) ∧ W.cell? ⟨w.heap.size, 2, none⟩ = some (.int .i64 gz) ∧ W.cell? ⟨w.heap.size, 3, none⟩ = some (.int .i64 gr)) := fun W hb => ⟨(hG0.later hb).cell (i := 0) rfl, (hG0.later hb).cell (i := 1) rfl, (hG0.later hb).cell (i := 2) rfl, (hG0.later hb).cell (i := 3) rfl⟩
  have HB0 : Hid (Below w.heap.size w W0) := hb0
  have HF0 : Hid (FArg W0 a m cap l) := FArg.later ha hb0
  have HO0 : Hid (OArg W0 a2 n2 cap2 l2) := OArg.later ha2 hb0
  have kN := new_go gb gp gz gr a m cap l W0 HF0.out.len_eq HF0.out.row h hg g1 g2 g3 g4 g5 g6
  have HH : Hid (m ≤ 256 ∧ planOk l) := h
  have HHG : Hid (rightB gb gp gz gr = true) := hg
  have kR := fun W => right_any gb gp gz gr W
  have kQ := fun W => d_right gb gp gz gr W
  rw [hg] at kR kQ
  rw [hW0] at kN
  have hnm2 : n2 ≤ 9223372036854775807 := by have := ha2.le; have := ha2.max; unfold maxLen at this; omega
  have HN2 : Hid (n2 = l2.length) := ha2.len_eq
  clear ha ha2 h hG0 hb0 hg
  go_enter Try.func3, Try.ntmps3
  go_wp2_with (first
    | (go_at_call 5; refine kN.mono ?_; rintro e w1 ⟨p, q, s, rs, rfl, hrs, hpm, hso, hl1, hb1⟩; rw [← hW0] at hb1 hl1; have HB1 : Hid (Below _ _ _) := hb1; have HL1 : Hid (Lies _ _ _) := hl1; have HRS : Hid (rs.length = gb) := hrs; have HPM : Hid (s.Perm l) := hpm; have HSO : Hid (s.Pairwise (fun x y => x.num < y.num)) := hso; obtain ⟨c0, c1, c2, c3⟩ := HG.out w1 hb1; clear hb1 hl1 hrs hpm hso)
    | (go_at_call 6; refine (new_d (W0 := W0) (w1 := w1) gb gp gz gr a m cap l HF0.out HH.out HHG.out g1 g2 g3 g4 g5 g6 p q s rs HRS.out HPM.out HSO.out HL1.out HB1.out).mono ?_; rintro e w2 ⟨P, c2', d2, rfl, HS2⟩; have hS2 := HG.out w2 HS2.out.below))
  clear kN HB1 HL1 HRS HPM HSO c0 c1 c2 c3
  go_region_held3 (fun w' => w'.cell? ⟨w.heap.size, 0, none⟩ = some (.int .i64 gb) ∧ w'.cell? ⟨w.heap.size, 1, none⟩ = some (.int .i64 gp) ∧ w'.cell? ⟨w.heap.size, 2, none⟩ = some (.int .i64 gz) ∧ w'.cell? ⟨w.heap.size, 3, none⟩ = some (.int .i64 gr)) (first | assumption | go_keep)
    (first
    | (go_at_call 7; refine (kR _).mono ?_; rintro e w3 ⟨rfl, hb3⟩; have HS3 : Hid (St W0 w3 p P 0 c2' d2) := (HS2.out.later (below_drawn w2 1)).later hb3; have hS3 := HG.out w3 HS3.out.below; clear hb3)
    | (go_at_call 8; refine (kQ _).mono ?_; rintro e w4 ⟨rfl, hb4⟩; have HS4 : Hid (St W0 w4 p P 0 c2' d2) := HS3.out.later hb4; have hS4 := HG.out w4 HS4.out.below; clear hb4)
    | (go_at_call 9; refine (alive_any _).mono ?_; rintro e w5 ⟨rfl, hb5⟩; have HS5 : Hid (St W0 w5 p P 0 c2' d2) := HS4.out.later hb5; have hS5 := HG.out w5 HS5.out.below; clear hb5))
  all_goals go_wp2
  clear HS2 HS3 HS4 hS2 hS3 hS4 hS5 kR kQ hW0
  go_loopg [7, 11] n2 (fun gm cp i wr => ∃ k p : Nat, k ≤ n2 ∧ gm = n2 - k ∧ cp = .pointer (some ⟨p, 0, none⟩) ∧ i = .int .i64 k ∧ ∃ c d, Hid (St W0 wr p P k c d))
  case atStart => exact ⟨0, p, by omega, by omega, rfl, rfl, _, _, HS5⟩
  case round =>
    obtain ⟨k, p', hk, rfl, rfl, rfl, c, d, hI⟩ := hrel
    clear HS5
    by_cases hlt : k < n2
    · obtain ⟨o, ho⟩ : ∃ o, l2[k]? = some o := ⟨_, List.getElem?_eq_getElem (by rw [← HN2.out]; exact hlt)⟩
      obtain ⟨b, off, rfl, hbw, hcs⟩ := op_cells HO0.out ho
      obtain ⟨q0, q1, q2, q3, q4⟩ := hcs wr hI.out.below
      have HBr : Hid (∀ W, Below W0.heap.size W0 W → Brings W0.heap.size W o) := fun W hW => brings_of HO0.out (List.mem_of_getElem? ho) hW
      have hki : (k : Int) < (n2 : Int) := by omega
      have hk63 : k < 9223372036854775807 := by omega
      have hbr : b < wr.heap.size := Nat.lt_of_lt_of_le hbw hI.out.below.size
      clear hcs ho
      have HIo : Hid (St W0 (wr.alloc (.cells #[.int .i64 o.kind, .int .i64 o.block, .int .i64 o.page, .slice o.da o.dl o.dc, .slice o.pa o.pl o.pc] 37)) p' P k c d) := hI.out.later (below_new wr _)
      have HRo : Hid (Row (wr.alloc (.cells #[.int .i64 o.kind, .int .i64 o.block, .int .i64 o.page, .slice o.da o.dl o.dc, .slice o.pa o.pl o.pc] 37)) wr.heap.size [.int .i64 o.kind, .int .i64 o.block, .int .i64 o.page, .slice o.da o.dl o.dc, .slice o.pa o.pl o.pc] 37) := Row.new wr _ _
      by_cases k7 : o.kind = 7
      · have e7 : (o.kind == 7) = true := by simpa using k7
        clear k7
        go_wp2_with (first
          | (go_at_call 10; refine (clone1 HIo.out).mono ?_; rintro e w6 ⟨pc, cc, rfl, HT6⟩; have hr6 := HT6.out.ops _ _ HRo.out; have s1 := hr6.cell (i := 1) rfl; clear hr6)
          | (go_at_call 11; refine (HT6.out.era o.block).mono ?_; rintro e w7 ⟨x7, c7, rfl, HT7⟩; have hr7 := HT7.out.ops _ _ HRo.out; have s1 := hr7.cell (i := 1) rfl; clear hr7)
          | (go_at_call 12; refine (HT7.out.mar o.block).mono ?_; rintro e wc ⟨x8, c8, rfl, HT8⟩; have HST : Hid (St W0 wc pc P k cc d) := HT8.out.new; have hr8 := HT8.out.ops _ _ HRo.out; have HRO : Hid (Row _ _ _ _) := hr8; have t0 := hr8.cell (i := 0) rfl; have t1 := hr8.cell (i := 1) rfl; have t2 := hr8.cell (i := 2) rfl; have t3 := hr8.cell (i := 3) rfl; have t4 := hr8.cell (i := 4) rfl; clear hr8)
          | (go_at_call 13; refine (does_any HST.out.duo hk63 o (HBr.out _ HST.out.below) pc P HST.out.p HST.out.q).mono ?_; rintro e w9 ⟨rfl, c9, d9, hw9⟩; have HS9 : Hid (St W0 w9 pc P (k + 1) c9 d9) := HST.out.went hw9; have hr9 := hw9.ops _ _ HRO.out; have HR9 : Hid (Row _ _ _ _) := hr9; have v1 := hr9.cell (i := 1) rfl; have v2 := hr9.cell (i := 2) rfl; clear hw9 hr9)
          | (go_at_call 14; refine (looks_any HS9.out.duo pc P HS9.out.p HS9.out.q o.block o.page).mono ?_; rintro e wq ⟨rfl, hbq⟩; have HSQ : Hid (St W0 wq pc P (k + 1) c9 d9) := HS9.out.later hbq; have HRQ : Hid (Row _ _ _ _) := HR9.out.later hbq; clear hbq v1 v2 HS9 HR9))
        clear HST HRO
        go_loopg [14] gp (fun gm i wr4 => ∃ y : Nat, y ≤ gp ∧ gm = gp - y ∧ i = .int .i64 y ∧ Hid (Below wq.heap.size wq wr4))
        case atStart => exact ⟨0, by omega, by omega, rfl, Below.refl _ _⟩
        case round =>
          obtain ⟨y, hy, rfl, rfl, HY⟩ := hrel
          obtain ⟨wr4, hwr4⟩ : ∃ x, x = wr := ⟨_, rfl⟩
          subst hwr4
          have HS4 : Hid (St W0 wr4 pc P (k + 1) c9 d9) := HSQ.out.later HY.out
          have hr4 := HRQ.out.later HY.out
          have v1 := hr4.cell (i := 1) rfl
          obtain ⟨x0, x1, x2, x3⟩ := HG.out wr4 HS4.out.below
          clear hr4
          by_cases hin : y < gp ∧ 0 ≤ o.block ∧ o.block < (gb : Int)
          · obtain ⟨i1, i2, i3⟩ := hin
            have hyi : (y : Int) < (gp : Int) := by omega
            go_wp2_with (go_at_call 14; refine (looks_any HS4.out.duo pc P HS4.out.p HS4.out.q o.block (y : Int)).mono ?_; rintro e w8 ⟨rfl, hb8⟩; have HY8 : Hid (Below wq.heap.size wq w8) := Below.after HY.out hb8; clear hb8)
            go_roundg (gp - (y + 1))
            case measure => omega
            case rel => exact ⟨y + 1, by omega, rfl, by simp, HY8⟩
          · by_cases i1 : y < gp
            · have hyi : (y : Int) < (gp : Int) := by omega
              by_cases i2 : 0 ≤ o.block
              · have i3 : ¬ o.block < (gb : Int) := fun q => hin ⟨i1, i2, q⟩
                go_wp2
                go_roundg (n2 - (k + 1))
                case measure => omega
                case rel => exact ⟨k + 1, pc, by omega, rfl, rfl, by simp, c9, d9, HS4⟩
              · go_wp2
                go_roundg (n2 - (k + 1))
                case measure => omega
                case rel => exact ⟨k + 1, pc, by omega, rfl, rfl, by simp, c9, d9, HS4⟩
            · have hyi : ¬ (y : Int) < (gp : Int) := by omega
              go_wp2
              go_roundg (n2 - (k + 1))
              case measure => omega
              case rel => exact ⟨k + 1, pc, by omega, rfl, rfl, by simp, c9, d9, HS4⟩
      · have e7 : (o.kind == 7) = false := by simpa using k7
        clear k7
        obtain ⟨pc, hpc⟩ : ∃ x, x = p' := ⟨_, rfl⟩
        subst hpc
        have HST : Hid (St W0 (wr.alloc (.cells #[.int .i64 o.kind, .int .i64 o.block, .int .i64 o.page, .slice o.da o.dl o.dc, .slice o.pa o.pl o.pc] 37)) pc P k c d) := HIo
        have HRO : Hid (Row _ _ _ _) := HRo
        go_wp2_with (first
          | (go_at_call 13; refine (does_any HST.out.duo hk63 o (HBr.out _ HST.out.below) pc P HST.out.p HST.out.q).mono ?_; rintro e w9 ⟨rfl, c9, d9, hw9⟩; have HS9 : Hid (St W0 w9 pc P (k + 1) c9 d9) := HST.out.went hw9; have hr9 := hw9.ops _ _ HRO.out; have HR9 : Hid (Row _ _ _ _) := hr9; have v1 := hr9.cell (i := 1) rfl; have v2 := hr9.cell (i := 2) rfl; clear hw9 hr9)
          | (go_at_call 14; refine (looks_any HS9.out.duo pc P HS9.out.p HS9.out.q o.block o.page).mono ?_; rintro e wq ⟨rfl, hbq⟩; have HSQ : Hid (St W0 wq pc P (k + 1) c9 d9) := HS9.out.later hbq; have HRQ : Hid (Row _ _ _ _) := HR9.out.later hbq; clear hbq v1 v2 HS9 HR9))
        clear HST HRO
        go_loopg [14] gp (fun gm i wr4 => ∃ y : Nat, y ≤ gp ∧ gm = gp - y ∧ i = .int .i64 y ∧ Hid (Below wq.heap.size wq wr4))
        case atStart => exact ⟨0, by omega, by omega, rfl, Below.refl _ _⟩
        case round =>
          obtain ⟨y, hy, rfl, rfl, HY⟩ := hrel
          obtain ⟨wr4, hwr4⟩ : ∃ x, x = wr := ⟨_, rfl⟩
          subst hwr4
          have HS4 : Hid (St W0 wr4 pc P (k + 1) c9 d9) := HSQ.out.later HY.out
          have hr4 := HRQ.out.later HY.out
          have v1 := hr4.cell (i := 1) rfl
          obtain ⟨x0, x1, x2, x3⟩ := HG.out wr4 HS4.out.below
          clear hr4
          by_cases hin : y < gp ∧ 0 ≤ o.block ∧ o.block < (gb : Int)
          · obtain ⟨i1, i2, i3⟩ := hin
            have hyi : (y : Int) < (gp : Int) := by omega
            go_wp2_with (go_at_call 14; refine (looks_any HS4.out.duo pc P HS4.out.p HS4.out.q o.block (y : Int)).mono ?_; rintro e w8 ⟨rfl, hb8⟩; have HY8 : Hid (Below wq.heap.size wq w8) := Below.after HY.out hb8; clear hb8)
            go_roundg (gp - (y + 1))
            case measure => omega
            case rel => exact ⟨y + 1, by omega, rfl, by simp, HY8⟩
          · by_cases i1 : y < gp
            · have hyi : (y : Int) < (gp : Int) := by omega
              by_cases i2 : 0 ≤ o.block
              · have i3 : ¬ o.block < (gb : Int) := fun q => hin ⟨i1, i2, q⟩
                go_wp2
                go_roundg (n2 - (k + 1))
                case measure => omega
                case rel => exact ⟨k + 1, pc, by omega, rfl, rfl, by simp, c9, d9, HS4⟩
              · go_wp2
                go_roundg (n2 - (k + 1))
                case measure => omega
                case rel => exact ⟨k + 1, pc, by omega, rfl, rfl, by simp, c9, d9, HS4⟩
            · have hyi : ¬ (y : Int) < (gp : Int) := by omega
              go_wp2
              go_roundg (n2 - (k + 1))
              case measure => omega
              case rel => exact ⟨k + 1, pc, by omega, rfl, rfl, by simp, c9, d9, HS4⟩
    · have hki : ¬ (k : Int) < (n2 : Int) := by omega
      go_wp2
      go_ret
      exact ⟨rfl, Below.after HB0.out hI.out.below⟩
theorem walk (b p z r : Int) (a : Option Addr) (m cap : Nat) (l : List Flt) (a2 : Option Addr) (n2 cap2 : Nat) (l2 : List OpD) (w : World) (ha : FArg w a m cap l) (ha2 : OArg w a2 n2 cap2 l2) :
    Calls Try.prog 3 #[.agg #[.int .i64 b, .int .i64 p, .int .i64 z, .int .i64 r], .slice a m cap, .slice a2 n2 cap2] w fun e w' => e = .returned (.bool true) ∧ Below w.heap.size w w' := by
  by_cases h : rightB b p z r = true ∧ m ≤ 256 ∧ planOk l
  · obtain ⟨hg, h2⟩ := h
    obtain ⟨gb, gp, gz, gr, rfl, rfl, rfl, rfl, g1, g2, g3, g4, g5, g6⟩ := right_nums hg
    exact walk_go gb gp gz gr a m cap l a2 n2 cap2 l2 w ha ha2 h2 hg g1 g2 g3 g4 g5 g6
  · exact walk_no b p z r a m cap l a2 n2 cap2 w ha h
set_option maxRecDepth 100000 in
theorem lifted (os : Os) (started : os.Started) (H : Type) (enc : TypeId × Value → H) :
    ReturnsInHanded {} Try.checked os 3 .any (Rows.nandPlaysSpec.pre6 enc Try.prog Try.f3 Rows.nandPlaysRow.domain false) (Rows.nandPlaysSpec.post enc Try.prog Try.f3 false true false false) := by
  refine returnsInHanded_of_change (C := Try.checked) own started (by kernel_rfl) Try.func3
    (ChangeSpec.witness6 (enc := enc) (C := Try.checked) false ⟨#[], #[.agg #[.int .i64 0, .int .i64 0, .int .i64 0, .int .i64 0], .slice none 0 0, .slice none 0 0], []⟩ 8 (by kernel_rfl) (by kernel_rfl) (by kernel_rfl) (by kernel_rfl)) ?_
  intro W base args ds gs before hval0 hW hcnd _
  have hval : ∀ (j : Nat) t v, Try.f3.params[j]? = some t → args[j]? = some v → Value.okWide Try.prog W .any base t v := hval0
  have hW' := hW
  obtain ⟨p, q, hA0, hV, rfl, hfz, hnd⟩ := hW
  have hA : DataW.TrodAll enc Try.prog W 0 (fun _ => true) true Try.f3.params.toList args.toList ds p := hA0
  rw [Try.params3] at hA hval
  obtain ⟨v0, vs0, d0, ds0, p0, q0, hargs, rfl, rfl, h0, r0⟩ := trodAll_cons hA
  obtain ⟨v1, vs1, d1, ds1, p1, q1, rfl, rfl, rfl, h1, r1⟩ := trodAll_cons r0
  obtain ⟨v2, vs2, d2, ds2, p2, q2, rfl, rfl, rfl, h2, r2⟩ := trodAll_cons r1
  obtain ⟨rfl, rfl, rfl⟩ := trodAll_nil r2
  obtain rfl : args = #[v0, v1, v2] := by cases args; simp_all
  obtain ⟨rfl, rfl⟩ := trodVars_none hV
  obtain ⟨cs0, rfl, sz0⟩ := okWide_struct Try.underlying23 (hval 0 23 v0 rfl rfl)
  have k0 := h0
  have lt0 : ∀ x ∈ p0, x.block < W.heap.size := by obtain ⟨m, hm⟩ := k0; exact DataW.trod_lt m _ _ _ hm
  obtain ⟨gb0, gp0, gz0, gr0, rfl⟩ : ∃ b p z r, cs0 = #[.int .i64 b, .int .i64 p, .int .i64 z, .int .i64 r] := by
    obtain ⟨fuel, hf⟩ := h0
    exact garg_open sz0 hf
  obtain ⟨a1, len1, cap1, rfl⟩ := okWide_slice Try.underlying24 (hval 1 24 v1 rfl rfl)
  have k1 := h1
  have lt1 : ∀ x ∈ p1, x.block < W.heap.size := by obtain ⟨m, hm⟩ := k1; exact DataW.trod_lt m _ _ _ hm
  obtain ⟨l1, w1⟩ : ∃ l, FArg W a1 len1 cap1 l := by
    obtain ⟨fuel, hf⟩ := h1
    exact farg_open hf
  obtain ⟨a2, len2, cap2, rfl⟩ := okWide_slice Try.underlying25 (hval 2 25 v2 rfl rfl)
  have k2 := h2
  have lt2 : ∀ x ∈ p2, x.block < W.heap.size := by obtain ⟨m, hm⟩ := k2; exact DataW.trod_lt m _ _ _ hm
  obtain ⟨l2, w2⟩ : ∃ l, OArg W a2 len2 cap2 l := by
    obtain ⟨fuel, hf⟩ := h2
    exact oarg_open hf
  clear hA0 hval0
  refine (walk gb0 gp0 gz0 gr0 a1 len1 cap1 l1 a2 len2 cap2 l2 W w1 w2).mono fun e W' ⟨he, bel⟩ => ?_
  subst he
  exact ⟨_, rfl, _, _, _, [], _, [], hW', trodAll_mk1 (shut_bool Try.underlying4 _), (trodAll_cons_mk (Below.trod laidOut (by kernel_rfl) (of_decide_eq_true (by kernel_rfl)) k0 bel lt0) (trodAll_cons_mk (Below.trod laidOut (by kernel_rfl) (of_decide_eq_true (by kernel_rfl)) k1 bel lt1) (trodAll_cons_mk (Below.trod laidOut (by kernel_rfl) (of_decide_eq_true (by kernel_rfl)) k2 bel lt2) trodAll_mk0))), rfl, bel.frame _, fun h => by cases h⟩

theorem over : Rows.nandPlaysRow.holds Try.pinned (OpenSpec.ofChange Rows.nandPlaysSpec) :=
  OpenClaim.holds_of_wide 3 Try.f3 rfl rfl rfl rfl rfl rfl rfl ⟨rfl, rfl, rfl, rfl, rfl⟩ rfl rfl rfl rfl rfl (by kernel_rfl) Try.func3 (by kernel_rfl)
    (of_decide_eq_true (by kernel_rfl)) (by unfold Func.isWrapper; first | (rw [if_pos (by decide +kernel)]; kernel_rfl) | (rw [if_neg (by decide +kernel)]; exact ⟨rfl, rfl⟩))
    (fun os started H enc _ => lifted os started H enc)
end Go.Proofs.Ytiejkbncpbhcdaa.nandPlays

namespace Go.Proofs.Ytiejkbncpbhcdaa
theorem nandPlays_holds : Rows.NandPlaysSaid := nandPlays.over
#print axioms nandPlays_holds
end Go.Proofs.Ytiejkbncpbhcdaa
