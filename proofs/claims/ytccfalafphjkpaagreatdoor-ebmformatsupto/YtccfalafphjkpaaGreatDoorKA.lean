/-
  A manager of logical blocks: how it lies; what it tells of itself.
  A manager's blocks: where a logical block stands, what is told of it; is the manager spent?
  What a manager writes: of itself, and one of its blocks.
-/
import Derived.Test.YtccfalafphjkpaaGreatDoorGO
import Derived.Test.YtccfalafphjkpaaGreatDoorGL
import Derived.Test.YtccfalafphjkpaaGreatDoorGQ
namespace Go.Proofs.YtccfalafphjkpaaGreatDoor
open Go.RowKit
set_option maxRecDepth 10000

/-- A manager: its box, its blocks, the last Seq, was the power lost? -/
structure Mg where
  p : Nat
  bb : Nat
  bcap : Nat
  bl : List Bl
  seq : Nat
  lost : Bool
def mgCells (m : Mg) (cp : Nat) : List Value := [.pointer (some ⟨cp, 0, none⟩), .slice (some ⟨m.bb, 0, none⟩) m.bl.length m.bcap, .int .u64 (m.seq : Int), .bool m.lost]
structure MLies (base : Nat) (w : World) (m : Mg) (c : CS) : Prop where
  box : Row w m.p (mgCells m c.p) 84
  row : Row w m.bb (m.bl.flatMap blCells) 51
  chip : Lies base w c
  len : m.bl.length = c.gb
  cap : m.bl.length ≤ m.bcap ∧ m.bcap ≤ maxLen
  low : base ≤ m.p ∧ base ≤ m.bb
theorem MLies.later {base : Nat} {w w' : World} {m : Mg} {c : CS} (h : MLies base w m c) (hb : Below w.heap.size w w') : MLies base w' m c :=
  ⟨h.box.later hb, h.row.later hb, h.chip.later hb, h.len, h.cap, h.low⟩
theorem MLies.cells {base : Nat} {w : World} {m : Mg} {c : CS} (h : MLies base w m c) : w.cell? ⟨m.p, 0, none⟩ = some (.pointer (some ⟨c.p, 0, none⟩)) ∧ w.cell? ⟨m.p, 1, none⟩ = some (.slice (some ⟨m.bb, 0, none⟩) m.bl.length m.bcap) ∧ w.cell? ⟨m.p, 2, none⟩ = some (.int .u64 (m.seq : Int)) ∧ w.cell? ⟨m.p, 3, none⟩ = some (.bool m.lost) :=
  ⟨h.box.cell (i := 0) rfl, h.box.cell (i := 1) rfl, h.box.cell (i := 2) rfl, h.box.cell (i := 3) rfl⟩
theorem MLies.blAt {base : Nat} {w : World} {m : Mg} {c : CS} (h : MLies base w m c) {i : Nat} {x : Bl} (hx : m.bl[i]? = some x) : BlAt w m.bb (i * 6) x := by
  have g : ∀ k, k < 6 → ∀ u, (blCells x)[k]? = some u → w.cell? ⟨m.bb, i * 6 + k, none⟩ = some u := fun k hk u hu =>
    h.row.cell (by rw [flat_get blCells 6 bl_len k hk m.bl i x hx]; exact hu)
  exact ⟨g 0 (by omega) _ rfl, g 1 (by omega) _ rfl, g 2 (by omega) _ rfl, g 3 (by omega) _ rfl, g 4 (by omega) _ rfl, g 5 (by omega) _ rfl⟩
theorem MLies.lrow {base : Nat} {w : World} {m : Mg} {c : CS} (h : MLies base w m c) : LRow w (some ⟨m.bb, 0, none⟩) m.bl :=
  .inr ⟨m.bb, 0, rfl, fun i x hx => by rw [Nat.zero_add]; exact h.blAt hx⟩
theorem geo0 (a b c d : Value) (W : World) : (Instr.field 23 (.agg #[a, b, c, d]) 0).run Tryz.prog W = .ok a W := by kernel_rfl
theorem geo1 (a b c d : Value) (W : World) : (Instr.field 23 (.agg #[a, b, c, d]) 1).run Tryz.prog W = .ok b W := by kernel_rfl
theorem geo2 (a b c d : Value) (W : World) : (Instr.field 23 (.agg #[a, b, c, d]) 2).run Tryz.prog W = .ok c W := by kernel_rfl
theorem mchip_any {base : Nat} {w : World} {m : Mg} {c : CS} (h : MLies base w m c) :
    Calls Tryz.prog 30 #[.pointer (some ⟨m.p, 0, none⟩)] w fun e w' => e = .returned (.pointer (some ⟨c.p, 0, none⟩)) ∧ w = w' := by
  obtain ⟨c0, _, _, _⟩ := h.cells
  clear h
  go_enter Tryz.func30, Tryz.ntmps30
  go_wp2
  go_ret
  exact ⟨rfl, rfl⟩
theorem mchip_nil (w : World) : Calls Tryz.prog 30 #[.pointer none] w fun e w' => e = .returned (.pointer none) ∧ w = w' := by
  go_enter Tryz.func30, Tryz.ntmps30
  go_wp2
  go_ret
  exact ⟨rfl, rfl⟩
theorem mpage_any {base : Nat} {w : World} {m : Mg} {c : CS} (h : MLies base w m c) :
    Calls Tryz.prog 41 #[.pointer (some ⟨m.p, 0, none⟩)] w fun e w' => e = .returned (.int .i64 c.gz) ∧ Below w.heap.size w w' := by
  have k1 := mchip_any h
  have k2 := geometry_any h.chip
  have fB := geo2
  clear h
  go_enter Tryz.func41, Tryz.ntmps41
  go_wp2_with (first
    | (go_at_call 30; refine k1.mono ?_; rintro e w1 ⟨rfl, rfl⟩)
    | (go_at_call 31; refine k2.mono ?_; rintro e w1 ⟨rfl, hb⟩))
  go_ret
  exact ⟨rfl, hb⟩
theorem mpages_any {base : Nat} {w : World} {m : Mg} {c : CS} (h : MLies base w m c) (h2 : 2 ≤ c.gp) :
    Calls Tryz.prog 8 #[.pointer (some ⟨m.p, 0, none⟩)] w fun e w' => e = .returned (.int .i64 ((c.gp : Int) - 2)) ∧ Below w.heap.size w w' := by
  have k1 := mchip_any h
  have k2 := geometry_any h.chip
  have fB := geo1
  have hg := h.chip.good.gs
  have g1 : (2 : Int) ≤ (c.gp : Int) := by omega
  have g2 : (c.gp : Int) ≤ 64 := by omega
  have g3 : max ((c.gp : Int) - 2) 0 = (c.gp : Int) - 2 := by omega
  clear h hg
  go_enter Tryz.func8, Tryz.ntmps8
  go_wp2_with (first
    | (go_at_call 30; refine k1.mono ?_; rintro e w1 ⟨rfl, rfl⟩)
    | (go_at_call 31; refine k2.mono ?_; rintro e w1 ⟨rfl, hb⟩))
  go_ret
  exact ⟨ret_int (by omega), hb⟩
theorem mlebs_any {base : Nat} {w : World} {m : Mg} {c : CS} (h : MLies base w m c) :
    Calls Tryz.prog 9 #[.pointer (some ⟨m.p, 0, none⟩)] w fun e w' => e = .returned (.int .i64 (lebsI c.gb c.gp c.gz c.gr)) ∧ Below w.heap.size w w' := by
  have k1 := mchip_any h
  have k2 := geometry_any h.chip
  have k3 := fun W => lebs_any (c.gb : Nat) (c.gp : Nat) (c.gz : Nat) (c.gr : Nat) W
  clear h
  go_enter Tryz.func9, Tryz.ntmps9
  go_wp2_with (first
    | (go_at_call 30; refine k1.mono ?_; rintro e w1 ⟨rfl, rfl⟩)
    | (go_at_call 31; refine k2.mono ?_; rintro e w1 ⟨rfl, hb⟩)
    | (go_at_call 32; refine (k3 _).mono ?_; rintro e w2 ⟨rfl, hb2⟩))
  go_ret
  exact ⟨rfl, Below.after hb hb2⟩
/-- How many blocks are not bad. -/
def goodN (l : List Bk) : Nat := (l.filter fun b => !b.bad).length
theorem goodN_take {l : List Bk} {k : Nat} {b : Bk} (h : l[k]? = some b) : goodN (l.take (k + 1)) = goodN (l.take k) + (if b.bad then 0 else 1) := by
  unfold goodN
  rw [List.take_add_one, h]
  cases hb : b.bad <;> simp [hb]
theorem goodN_le (l : List Bk) : goodN l ≤ l.length := List.length_filter_le _ _
set_option maxHeartbeats 2000000 in
theorem mgood_any {base : Nat} {w : World} {m : Mg} {c : CS} (h : MLies base w m c) :
    Calls Tryz.prog 63 #[.pointer (some ⟨m.p, 0, none⟩)] w fun e w' => e = .returned (.int .i64 (goodN c.bks : Nat)) ∧ Below w.heap.size w w' := by
  have k1 := mchip_any h
  have k2 := geometry_any h.chip
  have fB := geo0
  have hgs := h.chip.good.gs
  have HL : Hid (c.bks.length = c.gb) := h.chip.good.len
  have HC : Hid (∀ W, Below w.heap.size w W → W.cell? ⟨m.p, 0, none⟩ = some (.pointer (some ⟨c.p, 0, none⟩)) ∧ ∀ n : Int, Calls Tryz.prog 93 #[.pointer (some ⟨c.p, 0, none⟩), .int .i64 n] W fun e w' => e = .returned (.bool (match c.at n with | none => false | some b => b.bad)) ∧ W = w') := fun W hb => ⟨(h.later hb).cells.1, fun n => bad_any (h.chip.later hb) n⟩
  have hgb : c.gb ≤ 256 := by omega
  clear h hgs
  go_enter Tryz.func63, Tryz.ntmps63
  go_wp2_with (first
    | (go_at_call 30; refine k1.mono ?_; rintro e w1 ⟨rfl, rfl⟩)
    | (go_at_call 31; refine k2.mono ?_; rintro e w1 ⟨rfl, hb⟩; have HB : Hid (Below w.heap.size w w1) := hb; clear hb))
  obtain ⟨c0, hbad⟩ := HC.out w1 HB.out
  have HBad : Hid (∀ n : Int, Calls Tryz.prog 93 #[.pointer (some ⟨c.p, 0, none⟩), .int .i64 n] w1 fun e w' => e = .returned (.bool (match c.at n with | none => false | some b => b.bad)) ∧ w1 = w') := hbad
  clear k1 k2 HC hbad
  go_loopg [3, 9] c.gb (fun kx s3 s9 wr => ∃ k : Nat, k + kx = c.gb ∧ s3 = .int .i64 (goodN (c.bks.take k) : Nat) ∧ s9 = .int .i64 (k : Nat) ∧ wr = w1)
  case atStart => exact ⟨0, by omega, rfl, rfl, rfl⟩
  case round =>
    obtain ⟨k, hk, rfl, rfl, rfl⟩ := hrel
    by_cases hlt : k < c.gb
    · obtain ⟨b, hb⟩ : ∃ b, c.bks[k]? = some b := ⟨_, List.getElem?_eq_getElem (by have := HL.out; omega)⟩
      have e1 : c.at (k : Nat) = some b := by unfold CS.at; rw [if_neg (by omega)]; simpa using hb
      have kb := HBad.out (k : Nat)
      rw [e1] at kb
      have HG : Hid (goodN (c.bks.take (k + 1)) = goodN (c.bks.take k) + (if b.bad then 0 else 1)) := goodN_take hb
      have hle : goodN (c.bks.take k) ≤ 256 := by have := goodN_le (c.bks.take k); rw [List.length_take] at this; omega
      obtain ⟨G, hG⟩ : ∃ G, G = goodN (c.bks.take k) := ⟨_, rfl⟩
      rw [← hG] at HG hle ⊢
      have hk1 : (k : Int) < (c.gb : Int) := by omega
      clear hG e1 hb
      cases hbb : b.bad with
      | true =>
        have kb' : Calls Tryz.prog 93 #[.pointer (some ⟨c.p, 0, none⟩), .int .i64 (k : Int)] wr fun e w' => e = .returned (.bool true) ∧ wr = w' := by rw [← hbb]; exact kb
        have HG2 : Hid (goodN (c.bks.take (k + 1)) = G) := by have := HG.out; rw [hbb] at this; exact this
        clear kb
        go_wp2_with (go_at_call 93; refine kb'.mono ?_; rintro e w2 ⟨rfl, rfl⟩)
        go_roundg (c.gb - (k + 1))
        case measure => omega
        case rel => exact ⟨k + 1, by omega, by rw [HG2.out], by go_num, rfl⟩
      | false =>
        have kb' : Calls Tryz.prog 93 #[.pointer (some ⟨c.p, 0, none⟩), .int .i64 (k : Int)] wr fun e w' => e = .returned (.bool false) ∧ wr = w' := by rw [← hbb]; exact kb
        have HG2 : Hid (goodN (c.bks.take (k + 1)) = G + 1) := by have := HG.out; rw [hbb] at this; exact this
        clear kb
        go_wp2_with (go_at_call 93; refine kb'.mono ?_; rintro e w2 ⟨rfl, rfl⟩)
        go_roundg (c.gb - (k + 1))
        case measure => omega
        case rel => exact ⟨k + 1, by omega, by rw [HG2.out]; go_num, by go_num, rfl⟩
    · have hkl : k = c.gb := by omega
      have HT : Hid (c.bks.take k = c.bks) := List.take_of_length_le (by have := HL.out; omega)
      subst hkl
      go_wp2
      go_ret
      exact ⟨ret_int (by rw [HT.out]), HB.out⟩
end Go.Proofs.YtccfalafphjkpaaGreatDoor
namespace Go.Proofs.YtccfalafphjkpaaGreatDoor
open Go.RowKit
set_option maxRecDepth 10000

def zeroB : Bl := ⟨0, 0, 0, 0, 0, false⟩
/-- The block in which a logical block stands. -/
def homeB (l : List Bl) (leb : Int) : Bl := if findI l leb < 0 then zeroB else (l[(findI l leb).toNat]?).getD zeroB
theorem homeB_none {l : List Bl} {leb : Int} (h : findI l leb = -1) : homeB l leb = zeroB := by unfold homeB; rw [if_pos (by omega)]
theorem homeB_some {l : List Bl} {leb : Int} {i : Nat} {o : Bl} (h : findI l leb = i) (ho : l[i]? = some o) : homeB l leb = o := by
  unfold homeB
  rw [if_neg (by omega), h, Int.toNat_natCast, ho]
  rfl
theorem blf3 (a b c d e f : Value) (W : World) : (Instr.field 51 (.agg #[a, b, c, d, e, f]) 3).run Tryz.prog W = .ok d W := by kernel_rfl
theorem blf5 (a b c d e f : Value) (W : World) : (Instr.field 51 (.agg #[a, b, c, d, e, f]) 5).run Tryz.prog W = .ok f W := by kernel_rfl
theorem mhome_nil (leb : Int) (w : World) : Calls Tryz.prog 38 #[.pointer none, .int .i64 leb] w fun e w' => e = .returned (blV zeroB) ∧ Below w.heap.size w w' := by
  go_enter Tryz.func38, Tryz.ntmps38
  go_wp2
  refine bodyPost_ret (v := blV zeroB) ?_ rfl ⟨rfl, below_new w _⟩
  simp [results, Tryz.f38, go_sem, blV, zeroB]
set_option maxHeartbeats 2000000 in
theorem mhome_any {base : Nat} {w : World} {m : Mg} {c : CS} (h : MLies base w m c) (leb : Int) :
    Calls Tryz.prog 38 #[.pointer (some ⟨m.p, 0, none⟩), .int .i64 leb] w fun e w' => e = .returned (blV (homeB m.bl leb)) ∧ Below w.heap.size w w' := by
  obtain ⟨W, hW⟩ : ∃ W, W = w.alloc (.cells #[.int .i64 0, .int .i64 0, .int .i64 0, .int .i64 0, .int .u64 0, .bool false] 51) := ⟨_, rfl⟩
  have HR : Hid (Row W w.heap.size (blCells zeroB) 51) := by rw [hW]; exact Row.new w (blCells zeroB) _
  have HBW : Hid (Below w.heap.size w W) := by rw [hW]; exact below_new w _
  have hm := h.later HBW.out
  obtain ⟨_, c1, _, _⟩ := hm.cells
  have hgs := h.chip.good.gs
  have hlen := h.len
  have k1 := find_any m.bl.length m.bcap m.bl (some ⟨m.bb, 0, none⟩) leb rfl (by omega) W hm.lrow
  have HL : Hid (∀ X, Below W.heap.size W X → MLies base X m c) := fun X hb => hm.later hb
  rcases find_cases m.bl leb with h0 | ⟨i, o, h0, ho, -⟩
  · rw [homeB_none h0]
    rw [h0] at k1
    clear h hgs h0 hm hlen
    go_enter Tryz.func38, Tryz.ntmps38
    have c1' := c1
    rw [hW] at c1'
    go_wp2_with fail
    rw [← hW]
    clear hW c1'
    go_wp2_with (go_at_call 43; refine k1.mono ?_; rintro e w1 ⟨rfl, hb⟩; have hR1 := HR.out.later hb; have r0 : w1.cell? ⟨w.heap.size, 0, none⟩ = some (.int .i64 0) := hR1.cell (i := 0) rfl; have r1 : w1.cell? ⟨w.heap.size, 1, none⟩ = some (.int .i64 0) := hR1.cell (i := 1) rfl; have r2 : w1.cell? ⟨w.heap.size, 2, none⟩ = some (.int .i64 0) := hR1.cell (i := 2) rfl; have r3 : w1.cell? ⟨w.heap.size, 3, none⟩ = some (.int .i64 0) := hR1.cell (i := 3) rfl; have r4 : w1.cell? ⟨w.heap.size, 4, none⟩ = some (.int .u64 0) := hR1.cell (i := 4) rfl; have r5 : w1.cell? ⟨w.heap.size, 5, none⟩ = some (.bool false) := hR1.cell (i := 5) rfl; have fz := hR1.frozen; have HB : Hid (Below w.heap.size w w1) := Below.after HBW.out hb; clear hb c1 k1 hR1)
    refine bodyPost_ret (v := blV zeroB) ?_ rfl ⟨rfl, ?_⟩
    · simp [results, Tryz.f38, go_sem, blV, zeroB, r0, r1, r2, r3, r4, r5]
    · exact ((((((HB.out.setCell (Nat.le_refl _) _).setCell (Nat.le_refl _) _).setCell (Nat.le_refl _) _).setCell (Nat.le_refl _) _).setCell (Nat.le_refl _) _).setCell (Nat.le_refl _) _)
  · rw [homeB_some h0 ho]
    rw [h0] at k1
    have hi := (List.getElem?_eq_some_iff.1 ho).1
    have n0 : ¬ (i : Int) < 0 := by omega
    have n1 : (i : Int) < (m.bl.length : Int) := by omega
    have HO : Hid (m.bl[i]? = some o) := ho
    clear h hgs h0 ho hm hlen
    go_enter Tryz.func38, Tryz.ntmps38
    have c1' := c1
    rw [hW] at c1'
    go_wp2_with fail
    rw [← hW]
    clear hW c1'
    go_wp2_with (go_at_call 43; refine k1.mono ?_; rintro e w1 ⟨rfl, hb⟩; have hR1 := HR.out.later hb; have r0 : w1.cell? ⟨w.heap.size, 0, none⟩ = some (.int .i64 0) := hR1.cell (i := 0) rfl; have r1 : w1.cell? ⟨w.heap.size, 1, none⟩ = some (.int .i64 0) := hR1.cell (i := 1) rfl; have r2 : w1.cell? ⟨w.heap.size, 2, none⟩ = some (.int .i64 0) := hR1.cell (i := 2) rfl; have r3 : w1.cell? ⟨w.heap.size, 3, none⟩ = some (.int .i64 0) := hR1.cell (i := 3) rfl; have r4 : w1.cell? ⟨w.heap.size, 4, none⟩ = some (.int .u64 0) := hR1.cell (i := 4) rfl; have r5 : w1.cell? ⟨w.heap.size, 5, none⟩ = some (.bool false) := hR1.cell (i := 5) rfl; have fz := hR1.frozen; have d1 := (HL.out w1 hb).cells.2.1; obtain ⟨g0, g1, g2, g3, g4, g5⟩ := (HL.out w1 hb).blAt HO.out; have HB : Hid (Below w.heap.size w w1) := Below.after HBW.out hb; clear hb c1 k1 hR1)
    refine bodyPost_ret (v := blV o) ?_ rfl ⟨rfl, ?_⟩
    · simp [results, Tryz.f38, go_sem, blV, r0, r1, r2, r3, r4, r5]
    · exact ((((((HB.out.setCell (Nat.le_refl _) _).setCell (Nat.le_refl _) _).setCell (Nat.le_refl _) _).setCell (Nat.le_refl _) _).setCell (Nat.le_refl _) _).setCell (Nat.le_refl _) _)
theorem mused_any {base : Nat} {w : World} {m : Mg} {c : CS} (h : MLies base w m c) (leb : Int) :
    Calls Tryz.prog 11 #[.pointer (some ⟨m.p, 0, none⟩), .int .i64 leb] w fun e w' => e = .returned (.int .i64 (homeB m.bl leb).used) ∧ Below w.heap.size w w' := by
  have k1 := mhome_any h leb
  have f3 := blf3
  unfold blV at k1
  clear h
  go_enter Tryz.func11, Tryz.ntmps11
  go_wp2_with (go_at_call 38; refine k1.mono ?_; rintro e w1 ⟨rfl, hb⟩)
  go_ret
  exact ⟨rfl, hb⟩
theorem mclosed_any {base : Nat} {w : World} {m : Mg} {c : CS} (h : MLies base w m c) (leb : Int) :
    Calls Tryz.prog 17 #[.pointer (some ⟨m.p, 0, none⟩), .int .i64 leb] w fun e w' => e = .returned (.bool (homeB m.bl leb).closed) ∧ Below w.heap.size w w' := by
  have k1 := mhome_any h leb
  have f5 := blf5
  unfold blV at k1
  clear h
  go_enter Tryz.func17, Tryz.ntmps17
  go_wp2_with (go_at_call 38; refine k1.mono ?_; rintro e w1 ⟨rfl, hb⟩)
  go_ret
  exact ⟨rfl, hb⟩
/-- How many blocks may go bad yet; are too many? -/
def spareI (c : CS) : Int := max ((goodN c.bks : Int) - lebsI c.gb c.gp c.gz c.gr - 2) 0
def spentB (c : CS) : Bool := decide ((goodN c.bks : Int) < lebsI c.gb c.gp c.gz c.gr + 2)
theorem lebs_small {base : Nat} {w : World} {c : CS} (h : Lies base w c) : 0 ≤ lebsI c.gb c.gp c.gz c.gr ∧ lebsI c.gb c.gp c.gz c.gr ≤ 256 := by
  have hg := h.good.gs
  unfold lebsI
  split
  · rename_i hr
    simp [rightB] at hr
    have e : wrap64 ((c.gb : Int) / 4) = (c.gb : Int) / 4 := by unfold wrap64; omega
    rw [e] at hr
    omega
  · omega
theorem good_small {base : Nat} {w : World} {c : CS} (h : Lies base w c) : goodN c.bks ≤ 256 := by
  have hg := h.good.gs
  have := goodN_le c.bks
  have := h.good.len
  omega
theorem mspent_nil (w : World) : Calls Tryz.prog 26 #[.pointer none] w fun e w' => e = .returned (.bool false) ∧ w = w' := by
  go_enter Tryz.func26, Tryz.ntmps26
  go_wp2
  go_ret
  exact ⟨rfl, rfl⟩
theorem mspent_any {base : Nat} {w : World} {m : Mg} {c : CS} (h : MLies base w m c) :
    Calls Tryz.prog 26 #[.pointer (some ⟨m.p, 0, none⟩)] w fun e w' => e = .returned (.bool (spentB c)) ∧ Below w.heap.size w w' := by
  have k1 := mgood_any h
  have k2 : ∀ W, Below w.heap.size w W → _ := fun W hb => mlebs_any (h.later hb)
  have hl := lebs_small h.chip
  have hg := good_small h.chip
  have HS : Hid (spentB c = decide ((goodN c.bks : Int) < lebsI c.gb c.gp c.gz c.gr + 2)) := rfl
  obtain ⟨G, hG⟩ : ∃ G, G = goodN c.bks := ⟨_, rfl⟩
  obtain ⟨L, hL⟩ : ∃ L, L = lebsI c.gb c.gp c.gz c.gr := ⟨_, rfl⟩
  rw [← hG] at k1 hg HS
  simp only [← hL] at k2 hl HS
  clear h hG hL
  go_enter Tryz.func26, Tryz.ntmps26
  go_wp2_with (first
    | (go_at_call 63; refine k1.mono ?_; rintro e w1 ⟨rfl, hb⟩)
    | (go_at_call 9; refine (k2 _ hb).mono ?_; rintro e w2 ⟨rfl, hb2⟩))
  go_ret
  exact ⟨by rw [HS.out]; rfl, Below.after hb hb2⟩
/-- Is there such a logical block? -/
def hasB (c : CS) (leb : Int) : Bool := decide (0 ≤ leb) && decide (leb < lebsI c.gb c.gp c.gz c.gr)
theorem mhas_any {base : Nat} {w : World} {m : Mg} {c : CS} (h : MLies base w m c) (leb : Int) :
    Calls Tryz.prog 33 #[.pointer (some ⟨m.p, 0, none⟩), .int .i64 leb] w fun e w' => e = .returned (.bool (hasB c leb)) ∧ Below w.heap.size w w' := by
  have k1 := mlebs_any h
  have HS : Hid (hasB c leb = (decide (0 ≤ leb) && decide (leb < lebsI c.gb c.gp c.gz c.gr))) := rfl
  obtain ⟨L, hL⟩ : ∃ L, L = lebsI c.gb c.gp c.gz c.gr := ⟨_, rfl⟩
  rw [← hL] at k1 HS
  clear h hL
  by_cases h0 : 0 ≤ leb
  · go_enter Tryz.func33, Tryz.ntmps33
    go_wp2_with (go_at_call 9; refine k1.mono ?_; rintro e w1 ⟨rfl, hb⟩)
    go_ret
    exact ⟨by rw [HS.out]; simp [h0], hb⟩
  · go_enter Tryz.func33, Tryz.ntmps33
    go_wp2_with (go_at_call 9; refine k1.mono ?_; rintro e w1 ⟨rfl, hb⟩)
    go_ret
    exact ⟨by rw [HS.out]; simp; omega, Below.refl _ _⟩
end Go.Proofs.YtccfalafphjkpaaGreatDoor
namespace Go.Proofs.YtccfalafphjkpaaGreatDoor
open Go.RowKit
set_option maxRecDepth 10000

/-- A block of another type is none of the chip's. -/
theorem Lies.apart {base : Nat} {w : World} {c : CS} (h : Lies base w c) {B : Nat} {cs : List Value} {t : TypeId} (hr : Row w B cs t) (h1 : t ≠ 61) (h2 : t ≠ 66) (h3 : t ≠ 166) : ¬ c.foot B := by
  rintro (rfl | rfl | hk)
  · obtain ⟨fa, fc, g, _⟩ := h.chip; exact hr.ne g h1 rfl
  · exact hr.ne h.bks h2 rfl
  · obtain ⟨b, hb, rfl⟩ := List.mem_map.1 hk; exact hr.ne (h.pgs b hb) h3 rfl
theorem Lies.wrote {base : Nat} {w w' : World} {c : CS} (h : Lies base w c) {B : Nat} {cs : List Value} {t : TypeId} (hr : Row w B cs t) (h1 : t ≠ 61) (h2 : t ≠ 66) (h3 : t ≠ 166) (h4 : 103 ≠ t) (hk : Kept (fun k => k = B) w w') : Lies base w' c :=
  h.kept hk (fun _ hf e => h.apart hr h1 h2 h3 (e ▸ hf)) (fun _ _ g e => g.ne hr h4 e)
/-- What the manager may write. -/
def MFoot (m : Mg) (c : CS) (k : Nat) : Prop := k = m.p ∨ k = m.bb ∨ c.foot k
theorem MLies.ne {base : Nat} {w : World} {m : Mg} {c : CS} (h : MLies base w m c) : m.p ≠ m.bb := h.box.ne h.row (by decide)
/-- The manager's own cells were written. -/
theorem MLies.wroteP {base : Nat} {w w' : World} {m m' : Mg} {c : CS} (h : MLies base w m c) (hk : Kept (fun k => k = m.p) w w') (hp : m'.p = m.p) (hb : m'.bb = m.bb) (hc : m'.bcap = m.bcap) (hl : m'.bl = m.bl) (hr : Row w' m.p (mgCells m' c.p) 84) : MLies base w' m' c :=
  ⟨by rw [hp]; exact hr, by rw [hb, hl]; exact h.row.kept hk (fun e => h.ne e.symm), h.chip.wrote h.box (by decide) (by decide) (by decide) (by decide) hk, by rw [hl]; exact h.len, by rw [hl, hc]; exact h.cap, by rw [hp, hb]; exact h.low⟩
/-- The blocks' row was written. -/
theorem MLies.wroteB {base : Nat} {w w' : World} {m m' : Mg} {c : CS} (h : MLies base w m c) (hk : Kept (fun k => k = m.bb) w w') (hp : m'.p = m.p) (hb : m'.bb = m.bb) (hc : m'.bcap = m.bcap) (hs : m'.seq = m.seq) (ho : m'.lost = m.lost) (hl : m'.bl.length = m.bl.length) (hr : Row w' m.bb (m'.bl.flatMap blCells) 51) : MLies base w' m' c := by
  refine ⟨?_, by rw [hb]; exact hr, h.chip.wrote h.row (by decide) (by decide) (by decide) (by decide) hk, by rw [hl]; exact h.len, by rw [hl, hc]; exact h.cap, by rw [hp, hb]; exact h.low⟩
  have e : mgCells m' c.p = mgCells m c.p := by unfold mgCells; rw [hb, hl, hc, hs, ho]
  rw [hp, e]
  exact h.box.kept hk (fun e => h.ne e)
/-- The chip was written. -/
theorem MLies.chipped {base : Nat} {w w' : World} {m : Mg} {c c' : CS} (h : MLies base w m c) (hl : Lies base w' c') (hk : Kept c.foot w w') (hp : c'.p = c.p) (hg : c'.gb = c.gb) : MLies base w' m c' :=
  ⟨by rw [hp]; exact h.box.kept hk (h.chip.apart h.box (by decide) (by decide) (by decide)), h.row.kept hk (h.chip.apart h.row (by decide) (by decide) (by decide)), hl, by rw [hg]; exact h.len, h.cap, h.low⟩
/-- The manager with its power lost or not. -/
def Mg.off (m : Mg) (c : CS) : Mg := { m with lost := m.lost || !c.on }
theorem off_any {base : Nat} {w : World} {m : Mg} {c : CS} (h : MLies base w m c) :
    Calls Tryz.prog 39 #[.pointer (some ⟨m.p, 0, none⟩)] w fun e w' => e = .returned (.bool (m.lost || !c.on)) ∧ MLies base w' (m.off c) c ∧ Kept (fun k => k = m.p) w w' := by
  obtain ⟨c0, _, _, c3⟩ := h.cells
  have fz := h.box.frozen
  have k1 := on_any h.chip
  have HK : Hid (∀ v, Kept (fun k => k = m.p) w (w.setCell ⟨m.p, 3, none⟩ v)) := fun v => (Kept.refl (fun k => k = m.p) w).setCell (p := ⟨m.p, 3, none⟩) rfl v
  have HM : Hid (∀ b, (m.lost || !c.on) = b → MLies base (w.setCell ⟨m.p, 3, none⟩ (.bool b)) (m.off c) c) := fun b hb => h.wroteP (HK.out _) rfl rfl rfl rfl (by
    have := h.box.set (i := 3) (.bool b) (by simp [mgCells])
    have e : mgCells (m.off c) c.p = (mgCells m c.p).set 3 (.bool b) := by unfold mgCells Mg.off; simp [hb]
    rw [e]; exact this)
  clear h
  cases hl : m.lost with
  | true =>
    rw [hl] at c3 HM
    go_enter Tryz.func39, Tryz.ntmps39
    go_wp2_with (go_at_call 45; refine k1.mono ?_; rintro e w1 ⟨rfl, rfl⟩)
    go_ret
    exact ⟨rfl, HM.out true rfl, HK.out _⟩
  | false =>
    rw [hl] at c3 HM
    go_enter Tryz.func39, Tryz.ntmps39
    go_wp2_with (go_at_call 45; refine k1.mono ?_; rintro e w1 ⟨rfl, rfl⟩)
    go_ret
    exact ⟨by simp, HM.out (!c.on) (by simp), HK.out _⟩
end Go.Proofs.YtccfalafphjkpaaGreatDoor
