/-
  A manager of logical blocks: how it lies; what it tells of itself.
  A manager's blocks: where a logical block stands, what is told of it; is the manager spent?
  What a manager writes: of itself, and one of its blocks.
  A manager's errors, and its operations on the chip.
  A manager's operations on the chip.
  A block that goes bad for good; the block that is taken.
-/
import Derived.Test.YtkfecngkdlajgaaGreatDoorGO
import Derived.Test.YtkfecngkdlajgaaGreatDoorGL
import Derived.Test.YtkfecngkdlajgaaGreatDoorGQ
import Derived.Test.YtkfecngkdlajgaaGreatDoorGK
import Derived.Test.YtkfecngkdlajgaaGreatDoorGR
namespace Go.Proofs.YtkfecngkdlajgaaGreatDoor
open Go.RowKit
set_option maxRecDepth 10000

/-- A manager: its box, its blocks, the last Seq, was the power lost? -/
structure Mg where
  p : Nat
  bb : Nat
  bcap : Nat
  bl : List Bl
  seq : Nat
  lost : Bool
def mgCells (m : Mg) (cp : Nat) : List Value := [.pointer (some ⟨cp, 0, none⟩), .slice (some ⟨m.bb, 0, none⟩) m.bl.length m.bcap, .int .u64 (m.seq : Int), .bool m.lost]
structure MLies (base : Nat) (w : World) (m : Mg) (c : CS) : Prop where
  box : Row w m.p (mgCells m c.p) 70
  row : Row w m.bb (m.bl.flatMap blCells) 156
  chip : Lies base w c
  len : m.bl.length = c.gb
  cap : m.bl.length ≤ m.bcap ∧ m.bcap ≤ maxLen
  low : base ≤ m.p ∧ base ≤ m.bb
theorem MLies.later {base : Nat} {w w' : World} {m : Mg} {c : CS} (h : MLies base w m c) (hb : Below w.heap.size w w') : MLies base w' m c :=
  ⟨h.box.later hb, h.row.later hb, h.chip.later hb, h.len, h.cap, h.low⟩
theorem MLies.cells {base : Nat} {w : World} {m : Mg} {c : CS} (h : MLies base w m c) : w.cell? ⟨m.p, 0, none⟩ = some (.pointer (some ⟨c.p, 0, none⟩)) ∧ w.cell? ⟨m.p, 1, none⟩ = some (.slice (some ⟨m.bb, 0, none⟩) m.bl.length m.bcap) ∧ w.cell? ⟨m.p, 2, none⟩ = some (.int .u64 (m.seq : Int)) ∧ w.cell? ⟨m.p, 3, none⟩ = some (.bool m.lost) :=
  ⟨h.box.cell (i := 0) rfl, h.box.cell (i := 1) rfl, h.box.cell (i := 2) rfl, h.box.cell (i := 3) rfl⟩
theorem MLies.blAt {base : Nat} {w : World} {m : Mg} {c : CS} (h : MLies base w m c) {i : Nat} {x : Bl} (hx : m.bl[i]? = some x) : BlAt w m.bb (i * 6) x := by
  have g : ∀ k, k < 6 → ∀ u, (blCells x)[k]? = some u → w.cell? ⟨m.bb, i * 6 + k, none⟩ = some u := fun k hk u hu =>
    h.row.cell (by rw [flat_get blCells 6 bl_len k hk m.bl i x hx]; exact hu)
  exact ⟨g 0 (by omega) _ rfl, g 1 (by omega) _ rfl, g 2 (by omega) _ rfl, g 3 (by omega) _ rfl, g 4 (by omega) _ rfl, g 5 (by omega) _ rfl⟩
theorem MLies.lrow {base : Nat} {w : World} {m : Mg} {c : CS} (h : MLies base w m c) : LRow w (some ⟨m.bb, 0, none⟩) m.bl :=
  .inr ⟨m.bb, 0, rfl, fun i x hx => by rw [Nat.zero_add]; exact h.blAt hx⟩
theorem geo0 (a b c d : Value) (W : World) : (Instr.field 23 (.agg #[a, b, c, d]) 0).run Tryz.prog W = .ok a W := by kernel_rfl
theorem geo1 (a b c d : Value) (W : World) : (Instr.field 23 (.agg #[a, b, c, d]) 1).run Tryz.prog W = .ok b W := by kernel_rfl
theorem geo2 (a b c d : Value) (W : World) : (Instr.field 23 (.agg #[a, b, c, d]) 2).run Tryz.prog W = .ok c W := by kernel_rfl
theorem mchip_any {base : Nat} {w : World} {m : Mg} {c : CS} (h : MLies base w m c) :
    Calls Tryz.prog 9 #[.pointer (some ⟨m.p, 0, none⟩)] w fun e w' => e = .returned (.pointer (some ⟨c.p, 0, none⟩)) ∧ w = w' := by
  obtain ⟨c0, _, _, _⟩ := h.cells
  clear h
  go_enter Tryz.func9, Tryz.ntmps9
  go_wp2
  go_ret
  exact ⟨rfl, rfl⟩
theorem mpage_any {base : Nat} {w : World} {m : Mg} {c : CS} (h : MLies base w m c) :
    Calls Tryz.prog 67 #[.pointer (some ⟨m.p, 0, none⟩)] w fun e w' => e = .returned (.int .i64 c.gz) ∧ Below w.heap.size w w' := by
  have k1 := mchip_any h
  have k2 := geometry_any h.chip
  have fB := geo2
  clear h
  go_enter Tryz.func67, Tryz.ntmps67
  go_wp2_with (first
    | (go_at_call 9; refine k1.mono ?_; rintro e w1 ⟨rfl, rfl⟩)
    | (go_at_call 59; refine k2.mono ?_; rintro e w1 ⟨rfl, hb⟩))
  go_ret
  exact ⟨rfl, hb⟩
theorem mpages_any {base : Nat} {w : World} {m : Mg} {c : CS} (h : MLies base w m c) (h2 : 2 ≤ c.gp) :
    Calls Tryz.prog 74 #[.pointer (some ⟨m.p, 0, none⟩)] w fun e w' => e = .returned (.int .i64 ((c.gp : Int) - 2)) ∧ Below w.heap.size w w' := by
  have k1 := mchip_any h
  have k2 := geometry_any h.chip
  have fB := geo1
  have hg := h.chip.good.gs
  have g1 : (2 : Int) ≤ (c.gp : Int) := by omega
  have g2 : (c.gp : Int) ≤ 64 := by omega
  have g3 : max ((c.gp : Int) - 2) 0 = (c.gp : Int) - 2 := by omega
  clear h hg
  go_enter Tryz.func74, Tryz.ntmps74
  go_wp2_with (first
    | (go_at_call 9; refine k1.mono ?_; rintro e w1 ⟨rfl, rfl⟩)
    | (go_at_call 59; refine k2.mono ?_; rintro e w1 ⟨rfl, hb⟩))
  go_ret
  exact ⟨ret_int (by omega), hb⟩
theorem mlebs_any {base : Nat} {w : World} {m : Mg} {c : CS} (h : MLies base w m c) :
    Calls Tryz.prog 73 #[.pointer (some ⟨m.p, 0, none⟩)] w fun e w' => e = .returned (.int .i64 (lebsI c.gb c.gp c.gz c.gr)) ∧ Below w.heap.size w w' := by
  have k1 := mchip_any h
  have k2 := geometry_any h.chip
  have k3 := fun W => lebs_any (c.gb : Nat) (c.gp : Nat) (c.gz : Nat) (c.gr : Nat) W
  clear h
  go_enter Tryz.func73, Tryz.ntmps73
  go_wp2_with (first
    | (go_at_call 9; refine k1.mono ?_; rintro e w1 ⟨rfl, rfl⟩)
    | (go_at_call 59; refine k2.mono ?_; rintro e w1 ⟨rfl, hb⟩)
    | (go_at_call 110; refine (k3 _).mono ?_; rintro e w2 ⟨rfl, hb2⟩))
  go_ret
  exact ⟨rfl, Below.after hb hb2⟩
/-- How many blocks are not bad. -/
def goodN (l : List Bk) : Nat := (l.filter fun b => !b.bad).length
theorem goodN_take {l : List Bk} {k : Nat} {b : Bk} (h : l[k]? = some b) : goodN (l.take (k + 1)) = goodN (l.take k) + (if b.bad then 0 else 1) := by
  unfold goodN
  rw [List.take_add_one, h]
  cases hb : b.bad <;> simp [hb]
theorem goodN_le (l : List Bk) : goodN l ≤ l.length := List.length_filter_le _ _
set_option maxHeartbeats 2000000 in
theorem mgood_any {base : Nat} {w : World} {m : Mg} {c : CS} (h : MLies base w m c) :
    Calls Tryz.prog 84 #[.pointer (some ⟨m.p, 0, none⟩)] w fun e w' => e = .returned (.int .i64 (goodN c.bks : Nat)) ∧ Below w.heap.size w w' := by
  have k1 := mchip_any h
  have k2 := geometry_any h.chip
  have fB := geo0
  have hgs := h.chip.good.gs
  have HL : Hid (c.bks.length = c.gb) := h.chip.good.len
  have HC : Hid (∀ W, Below w.heap.size w W → W.cell? ⟨m.p, 0, none⟩ = some (.pointer (some ⟨c.p, 0, none⟩)) ∧ ∀ n : Int, Calls Tryz.prog 121 #[.pointer (some ⟨c.p, 0, none⟩), .int .i64 n] W fun e w' => e = .returned (.bool (match c.at n with | none => false | some b => b.bad)) ∧ W = w') := fun W hb => ⟨(h.later hb).cells.1, fun n => bad_any (h.chip.later hb) n⟩
  have hgb : c.gb ≤ 256 := by omega
  clear h hgs
  go_enter Tryz.func84, Tryz.ntmps84
  go_wp2_with (first
    | (go_at_call 9; refine k1.mono ?_; rintro e w1 ⟨rfl, rfl⟩)
    | (go_at_call 59; refine k2.mono ?_; rintro e w1 ⟨rfl, hb⟩; have HB : Hid (Below w.heap.size w w1) := hb; clear hb))
  obtain ⟨c0, hbad⟩ := HC.out w1 HB.out
  have HBad : Hid (∀ n : Int, Calls Tryz.prog 121 #[.pointer (some ⟨c.p, 0, none⟩), .int .i64 n] w1 fun e w' => e = .returned (.bool (match c.at n with | none => false | some b => b.bad)) ∧ w1 = w') := hbad
  clear k1 k2 HC hbad
  go_loopg [3, 9] c.gb (fun kx s3 s9 wr => ∃ k : Nat, k + kx = c.gb ∧ s3 = .int .i64 (goodN (c.bks.take k) : Nat) ∧ s9 = .int .i64 (k : Nat) ∧ wr = w1)
  case atStart => exact ⟨0, by omega, rfl, rfl, rfl⟩
  case round =>
    obtain ⟨k, hk, rfl, rfl, rfl⟩ := hrel
    by_cases hlt : k < c.gb
    · obtain ⟨b, hb⟩ : ∃ b, c.bks[k]? = some b := ⟨_, List.getElem?_eq_getElem (by have := HL.out; omega)⟩
      have e1 : c.at (k : Nat) = some b := by unfold CS.at; rw [if_neg (by omega)]; simpa using hb
      have kb := HBad.out (k : Nat)
      rw [e1] at kb
      have HG : Hid (goodN (c.bks.take (k + 1)) = goodN (c.bks.take k) + (if b.bad then 0 else 1)) := goodN_take hb
      have hle : goodN (c.bks.take k) ≤ 256 := by have := goodN_le (c.bks.take k); rw [List.length_take] at this; omega
      obtain ⟨G, hG⟩ : ∃ G, G = goodN (c.bks.take k) := ⟨_, rfl⟩
      rw [← hG] at HG hle ⊢
      have hk1 : (k : Int) < (c.gb : Int) := by omega
      clear hG e1 hb
      cases hbb : b.bad with
      | true =>
        have kb' : Calls Tryz.prog 121 #[.pointer (some ⟨c.p, 0, none⟩), .int .i64 (k : Int)] wr fun e w' => e = .returned (.bool true) ∧ wr = w' := by rw [← hbb]; exact kb
        have HG2 : Hid (goodN (c.bks.take (k + 1)) = G) := by have := HG.out; rw [hbb] at this; exact this
        clear kb
        go_wp2_with (go_at_call 121; refine kb'.mono ?_; rintro e w2 ⟨rfl, rfl⟩)
        go_roundg (c.gb - (k + 1))
        case measure => omega
        case rel => exact ⟨k + 1, by omega, by rw [HG2.out], by go_num, rfl⟩
      | false =>
        have kb' : Calls Tryz.prog 121 #[.pointer (some ⟨c.p, 0, none⟩), .int .i64 (k : Int)] wr fun e w' => e = .returned (.bool false) ∧ wr = w' := by rw [← hbb]; exact kb
        have HG2 : Hid (goodN (c.bks.take (k + 1)) = G + 1) := by have := HG.out; rw [hbb] at this; exact this
        clear kb
        go_wp2_with (go_at_call 121; refine kb'.mono ?_; rintro e w2 ⟨rfl, rfl⟩)
        go_roundg (c.gb - (k + 1))
        case measure => omega
        case rel => exact ⟨k + 1, by omega, by rw [HG2.out]; go_num, by go_num, rfl⟩
    · have hkl : k = c.gb := by omega
      have HT : Hid (c.bks.take k = c.bks) := List.take_of_length_le (by have := HL.out; omega)
      subst hkl
      go_wp2
      go_ret
      exact ⟨ret_int (by rw [HT.out]), HB.out⟩
end Go.Proofs.YtkfecngkdlajgaaGreatDoor
namespace Go.Proofs.YtkfecngkdlajgaaGreatDoor
open Go.RowKit
set_option maxRecDepth 10000

def zeroB : Bl := ⟨0, 0, 0, 0, 0, false⟩
/-- The block in which a logical block stands. -/
def homeB (l : List Bl) (leb : Int) : Bl := if findI l leb < 0 then zeroB else (l[(findI l leb).toNat]?).getD zeroB
theorem homeB_none {l : List Bl} {leb : Int} (h : findI l leb = -1) : homeB l leb = zeroB := by unfold homeB; rw [if_pos (by omega)]
theorem homeB_some {l : List Bl} {leb : Int} {i : Nat} {o : Bl} (h : findI l leb = i) (ho : l[i]? = some o) : homeB l leb = o := by
  unfold homeB
  rw [if_neg (by omega), h, Int.toNat_natCast, ho]
  rfl
theorem blf3 (a b c d e f : Value) (W : World) : (Instr.field 156 (.agg #[a, b, c, d, e, f]) 3).run Tryz.prog W = .ok d W := by kernel_rfl
theorem blf5 (a b c d e f : Value) (W : World) : (Instr.field 156 (.agg #[a, b, c, d, e, f]) 5).run Tryz.prog W = .ok f W := by kernel_rfl
set_option maxHeartbeats 2000000 in
theorem mhome_any {base : Nat} {w : World} {m : Mg} {c : CS} (h : MLies base w m c) (leb : Int) :
    Calls Tryz.prog 139 #[.pointer (some ⟨m.p, 0, none⟩), .int .i64 leb] w fun e w' => e = .returned (blV (homeB m.bl leb)) ∧ Below w.heap.size w w' := by
  obtain ⟨W, hW⟩ : ∃ W, W = w.alloc (.cells #[.int .i64 0, .int .i64 0, .int .i64 0, .int .i64 0, .int .u64 0, .bool false] 156) := ⟨_, rfl⟩
  have HR : Hid (Row W w.heap.size (blCells zeroB) 156) := by rw [hW]; exact Row.new w (blCells zeroB) _
  have HBW : Hid (Below w.heap.size w W) := by rw [hW]; exact below_new w _
  have hm := h.later HBW.out
  obtain ⟨_, c1, _, _⟩ := hm.cells
  have hgs := h.chip.good.gs
  have hlen := h.len
  have k1 := find_any m.bl.length m.bcap m.bl (some ⟨m.bb, 0, none⟩) leb rfl (by omega) W hm.lrow
  have HL : Hid (∀ X, Below W.heap.size W X → MLies base X m c) := fun X hb => hm.later hb
  rcases find_cases m.bl leb with h0 | ⟨i, o, h0, ho, -⟩
  · rw [homeB_none h0]
    rw [h0] at k1
    clear h hgs h0 hm hlen
    go_enter Tryz.func139, Tryz.ntmps139
    have c1' := c1
    rw [hW] at c1'
    go_wp2_with fail
    rw [← hW]
    clear hW c1'
    go_wp2_with (go_at_call 77; refine k1.mono ?_; rintro e w1 ⟨rfl, hb⟩; have hR1 := HR.out.later hb; have r0 : w1.cell? ⟨w.heap.size, 0, none⟩ = some (.int .i64 0) := hR1.cell (i := 0) rfl; have r1 : w1.cell? ⟨w.heap.size, 1, none⟩ = some (.int .i64 0) := hR1.cell (i := 1) rfl; have r2 : w1.cell? ⟨w.heap.size, 2, none⟩ = some (.int .i64 0) := hR1.cell (i := 2) rfl; have r3 : w1.cell? ⟨w.heap.size, 3, none⟩ = some (.int .i64 0) := hR1.cell (i := 3) rfl; have r4 : w1.cell? ⟨w.heap.size, 4, none⟩ = some (.int .u64 0) := hR1.cell (i := 4) rfl; have r5 : w1.cell? ⟨w.heap.size, 5, none⟩ = some (.bool false) := hR1.cell (i := 5) rfl; have fz := hR1.frozen; have HB : Hid (Below w.heap.size w w1) := Below.after HBW.out hb; clear hb c1 k1 hR1)
    refine bodyPost_ret (v := blV zeroB) ?_ rfl ⟨rfl, ?_⟩
    · simp [results, Tryz.f139, go_sem, blV, zeroB, r0, r1, r2, r3, r4, r5]
    · exact ((((((HB.out.setCell (Nat.le_refl _) _).setCell (Nat.le_refl _) _).setCell (Nat.le_refl _) _).setCell (Nat.le_refl _) _).setCell (Nat.le_refl _) _).setCell (Nat.le_refl _) _)
  · rw [homeB_some h0 ho]
    rw [h0] at k1
    have hi := (List.getElem?_eq_some_iff.1 ho).1
    have n0 : ¬ (i : Int) < 0 := by omega
    have n1 : (i : Int) < (m.bl.length : Int) := by omega
    have HO : Hid (m.bl[i]? = some o) := ho
    clear h hgs h0 ho hm hlen
    go_enter Tryz.func139, Tryz.ntmps139
    have c1' := c1
    rw [hW] at c1'
    go_wp2_with fail
    rw [← hW]
    clear hW c1'
    go_wp2_with (go_at_call 77; refine k1.mono ?_; rintro e w1 ⟨rfl, hb⟩; have hR1 := HR.out.later hb; have r0 : w1.cell? ⟨w.heap.size, 0, none⟩ = some (.int .i64 0) := hR1.cell (i := 0) rfl; have r1 : w1.cell? ⟨w.heap.size, 1, none⟩ = some (.int .i64 0) := hR1.cell (i := 1) rfl; have r2 : w1.cell? ⟨w.heap.size, 2, none⟩ = some (.int .i64 0) := hR1.cell (i := 2) rfl; have r3 : w1.cell? ⟨w.heap.size, 3, none⟩ = some (.int .i64 0) := hR1.cell (i := 3) rfl; have r4 : w1.cell? ⟨w.heap.size, 4, none⟩ = some (.int .u64 0) := hR1.cell (i := 4) rfl; have r5 : w1.cell? ⟨w.heap.size, 5, none⟩ = some (.bool false) := hR1.cell (i := 5) rfl; have fz := hR1.frozen; have d1 := (HL.out w1 hb).cells.2.1; obtain ⟨g0, g1, g2, g3, g4, g5⟩ := (HL.out w1 hb).blAt HO.out; have HB : Hid (Below w.heap.size w w1) := Below.after HBW.out hb; clear hb c1 k1 hR1)
    refine bodyPost_ret (v := blV o) ?_ rfl ⟨rfl, ?_⟩
    · simp [results, Tryz.f139, go_sem, blV, r0, r1, r2, r3, r4, r5]
    · exact ((((((HB.out.setCell (Nat.le_refl _) _).setCell (Nat.le_refl _) _).setCell (Nat.le_refl _) _).setCell (Nat.le_refl _) _).setCell (Nat.le_refl _) _).setCell (Nat.le_refl _) _)
theorem mused_any {base : Nat} {w : World} {m : Mg} {c : CS} (h : MLies base w m c) (leb : Int) :
    Calls Tryz.prog 95 #[.pointer (some ⟨m.p, 0, none⟩), .int .i64 leb] w fun e w' => e = .returned (.int .i64 (homeB m.bl leb).used) ∧ Below w.heap.size w w' := by
  have k1 := mhome_any h leb
  have f3 := blf3
  unfold blV at k1
  clear h
  go_enter Tryz.func95, Tryz.ntmps95
  go_wp2_with (go_at_call 139; refine k1.mono ?_; rintro e w1 ⟨rfl, hb⟩)
  go_ret
  exact ⟨rfl, hb⟩
theorem mclosed_any {base : Nat} {w : World} {m : Mg} {c : CS} (h : MLies base w m c) (leb : Int) :
    Calls Tryz.prog 211 #[.pointer (some ⟨m.p, 0, none⟩), .int .i64 leb] w fun e w' => e = .returned (.bool (homeB m.bl leb).closed) ∧ Below w.heap.size w w' := by
  have k1 := mhome_any h leb
  have f5 := blf5
  unfold blV at k1
  clear h
  go_enter Tryz.func211, Tryz.ntmps211
  go_wp2_with (go_at_call 139; refine k1.mono ?_; rintro e w1 ⟨rfl, hb⟩)
  go_ret
  exact ⟨rfl, hb⟩
def spentB (c : CS) : Bool := decide ((goodN c.bks : Int) < lebsI c.gb c.gp c.gz c.gr + 2)
theorem lebs_small {base : Nat} {w : World} {c : CS} (h : Lies base w c) : 0 ≤ lebsI c.gb c.gp c.gz c.gr ∧ lebsI c.gb c.gp c.gz c.gr ≤ 256 := by
  have hg := h.good.gs
  unfold lebsI
  split
  · rename_i hr
    simp [rightB] at hr
    have e : wrap64 ((c.gb : Int) / 4) = (c.gb : Int) / 4 := by unfold wrap64; omega
    rw [e] at hr
    omega
  · omega
theorem good_small {base : Nat} {w : World} {c : CS} (h : Lies base w c) : goodN c.bks ≤ 256 := by
  have hg := h.good.gs
  have := goodN_le c.bks
  have := h.good.len
  omega
theorem mspent_any {base : Nat} {w : World} {m : Mg} {c : CS} (h : MLies base w m c) :
    Calls Tryz.prog 46 #[.pointer (some ⟨m.p, 0, none⟩)] w fun e w' => e = .returned (.bool (spentB c)) ∧ Below w.heap.size w w' := by
  have k1 := mgood_any h
  have k2 : ∀ W, Below w.heap.size w W → _ := fun W hb => mlebs_any (h.later hb)
  have hl := lebs_small h.chip
  have hg := good_small h.chip
  have HS : Hid (spentB c = decide ((goodN c.bks : Int) < lebsI c.gb c.gp c.gz c.gr + 2)) := rfl
  obtain ⟨G, hG⟩ : ∃ G, G = goodN c.bks := ⟨_, rfl⟩
  obtain ⟨L, hL⟩ : ∃ L, L = lebsI c.gb c.gp c.gz c.gr := ⟨_, rfl⟩
  rw [← hG] at k1 hg HS
  simp only [← hL] at k2 hl HS
  clear h hG hL
  go_enter Tryz.func46, Tryz.ntmps46
  go_wp2_with (first
    | (go_at_call 84; refine k1.mono ?_; rintro e w1 ⟨rfl, hb⟩)
    | (go_at_call 73; refine (k2 _ hb).mono ?_; rintro e w2 ⟨rfl, hb2⟩))
  go_ret
  exact ⟨by rw [HS.out]; rfl, Below.after hb hb2⟩
/-- Is there such a logical block? -/
def hasB (c : CS) (leb : Int) : Bool := decide (0 ≤ leb) && decide (leb < lebsI c.gb c.gp c.gz c.gr)
theorem mhas_any {base : Nat} {w : World} {m : Mg} {c : CS} (h : MLies base w m c) (leb : Int) :
    Calls Tryz.prog 39 #[.pointer (some ⟨m.p, 0, none⟩), .int .i64 leb] w fun e w' => e = .returned (.bool (hasB c leb)) ∧ Below w.heap.size w w' := by
  have k1 := mlebs_any h
  have HS : Hid (hasB c leb = (decide (0 ≤ leb) && decide (leb < lebsI c.gb c.gp c.gz c.gr))) := rfl
  obtain ⟨L, hL⟩ : ∃ L, L = lebsI c.gb c.gp c.gz c.gr := ⟨_, rfl⟩
  rw [← hL] at k1 HS
  clear h hL
  by_cases h0 : 0 ≤ leb
  · go_enter Tryz.func39, Tryz.ntmps39
    go_wp2_with (go_at_call 73; refine k1.mono ?_; rintro e w1 ⟨rfl, hb⟩)
    go_ret
    exact ⟨by rw [HS.out]; simp [h0], hb⟩
  · go_enter Tryz.func39, Tryz.ntmps39
    go_wp2_with (go_at_call 73; refine k1.mono ?_; rintro e w1 ⟨rfl, hb⟩)
    go_ret
    exact ⟨by rw [HS.out]; simp; omega, Below.refl _ _⟩
end Go.Proofs.YtkfecngkdlajgaaGreatDoor
namespace Go.Proofs.YtkfecngkdlajgaaGreatDoor
open Go.RowKit
set_option maxRecDepth 10000

/-- A block of another type is none of the chip's. -/
theorem Lies.apart {base : Nat} {w : World} {c : CS} (h : Lies base w c) {B : Nat} {cs : List Value} {t : TypeId} (hr : Row w B cs t) (h1 : t ≠ 77) (h2 : t ≠ 108) (h3 : t ≠ 251) : ¬ c.foot B := by
  rintro (rfl | rfl | hk)
  · obtain ⟨fa, fc, g, _⟩ := h.chip; exact hr.ne g h1 rfl
  · exact hr.ne h.bks h2 rfl
  · obtain ⟨b, hb, rfl⟩ := List.mem_map.1 hk; exact hr.ne (h.pgs b hb) h3 rfl
theorem Lies.wrote {base : Nat} {w w' : World} {c : CS} (h : Lies base w c) {B : Nat} {cs : List Value} {t : TypeId} (hr : Row w B cs t) (h1 : t ≠ 77) (h2 : t ≠ 108) (h3 : t ≠ 251) (h4 : 66 ≠ t) (hk : Kept (fun k => k = B) w w') : Lies base w' c :=
  h.kept hk (fun _ hf e => h.apart hr h1 h2 h3 (e ▸ hf)) (fun _ _ g e => g.ne hr h4 e)
/-- What the manager may write. -/
def MFoot (m : Mg) (c : CS) (k : Nat) : Prop := k = m.p ∨ k = m.bb ∨ c.foot k
theorem MLies.ne {base : Nat} {w : World} {m : Mg} {c : CS} (h : MLies base w m c) : m.p ≠ m.bb := h.box.ne h.row (by decide)
/-- The manager's own cells were written. -/
theorem MLies.wroteP {base : Nat} {w w' : World} {m m' : Mg} {c : CS} (h : MLies base w m c) (hk : Kept (fun k => k = m.p) w w') (hp : m'.p = m.p) (hb : m'.bb = m.bb) (hc : m'.bcap = m.bcap) (hl : m'.bl = m.bl) (hr : Row w' m.p (mgCells m' c.p) 70) : MLies base w' m' c :=
  ⟨by rw [hp]; exact hr, by rw [hb, hl]; exact h.row.kept hk (fun e => h.ne e.symm), h.chip.wrote h.box (by decide) (by decide) (by decide) (by decide) hk, by rw [hl]; exact h.len, by rw [hl, hc]; exact h.cap, by rw [hp, hb]; exact h.low⟩
/-- The blocks' row was written. -/
theorem MLies.wroteB {base : Nat} {w w' : World} {m m' : Mg} {c : CS} (h : MLies base w m c) (hk : Kept (fun k => k = m.bb) w w') (hp : m'.p = m.p) (hb : m'.bb = m.bb) (hc : m'.bcap = m.bcap) (hs : m'.seq = m.seq) (ho : m'.lost = m.lost) (hl : m'.bl.length = m.bl.length) (hr : Row w' m.bb (m'.bl.flatMap blCells) 156) : MLies base w' m' c := by
  refine ⟨?_, by rw [hb]; exact hr, h.chip.wrote h.row (by decide) (by decide) (by decide) (by decide) hk, by rw [hl]; exact h.len, by rw [hl, hc]; exact h.cap, by rw [hp, hb]; exact h.low⟩
  have e : mgCells m' c.p = mgCells m c.p := by unfold mgCells; rw [hb, hl, hc, hs, ho]
  rw [hp, e]
  exact h.box.kept hk (fun e => h.ne e)
/-- The chip was written. -/
theorem MLies.chipped {base : Nat} {w w' : World} {m : Mg} {c c' : CS} (h : MLies base w m c) (hl : Lies base w' c') (hk : Kept c.foot w w') (hp : c'.p = c.p) (hg : c'.gb = c.gb) : MLies base w' m c' :=
  ⟨by rw [hp]; exact h.box.kept hk (h.chip.apart h.box (by decide) (by decide) (by decide)), h.row.kept hk (h.chip.apart h.row (by decide) (by decide) (by decide)), hl, by rw [hg]; exact h.len, h.cap, h.low⟩
/-- The manager with its power lost or not. -/
def Mg.off (m : Mg) (c : CS) : Mg := { m with lost := m.lost || !c.on }
theorem off_any {base : Nat} {w : World} {m : Mg} {c : CS} (h : MLies base w m c) :
    Calls Tryz.prog 75 #[.pointer (some ⟨m.p, 0, none⟩)] w fun e w' => e = .returned (.bool (m.lost || !c.on)) ∧ MLies base w' (m.off c) c ∧ Kept (fun k => k = m.p) w w' := by
  obtain ⟨c0, _, _, c3⟩ := h.cells
  have fz := h.box.frozen
  have k1 := on_any h.chip
  have HK : Hid (∀ v, Kept (fun k => k = m.p) w (w.setCell ⟨m.p, 3, none⟩ v)) := fun v => (Kept.refl (fun k => k = m.p) w).setCell (p := ⟨m.p, 3, none⟩) rfl v
  have HM : Hid (∀ b, (m.lost || !c.on) = b → MLies base (w.setCell ⟨m.p, 3, none⟩ (.bool b)) (m.off c) c) := fun b hb => h.wroteP (HK.out _) rfl rfl rfl rfl (by
    have := h.box.set (i := 3) (.bool b) (by simp [mgCells])
    have e : mgCells (m.off c) c.p = (mgCells m c.p).set 3 (.bool b) := by unfold mgCells Mg.off; simp [hb]
    rw [e]; exact this)
  clear h
  cases hl : m.lost with
  | true =>
    rw [hl] at c3 HM
    go_enter Tryz.func75, Tryz.ntmps75
    go_wp2_with (go_at_call 111; refine k1.mono ?_; rintro e w1 ⟨rfl, rfl⟩)
    go_ret
    exact ⟨rfl, HM.out true rfl, HK.out _⟩
  | false =>
    rw [hl] at c3 HM
    go_enter Tryz.func75, Tryz.ntmps75
    go_wp2_with (go_at_call 111; refine k1.mono ?_; rintro e w1 ⟨rfl, rfl⟩)
    go_ret
    exact ⟨by simp, HM.out (!c.on) (by simp), HK.out _⟩
end Go.Proofs.YtkfecngkdlajgaaGreatDoor
namespace Go.Proofs.YtkfecngkdlajgaaGreatDoor
open Go.RowKit
set_option maxRecDepth 10000

/-- An error of the manager that tells of an errno; none, if it is 0. -/
def ErrV (w : World) (v : Value) (x : Int) : Prop :=
  (x = 0 ∧ v = .nilIface) ∨ (x ≠ 0 ∧ ∃ B what block, v = .iface 283 (.pointer (some ⟨B, 0, none⟩)) ∧ Row w B [.string what, .int .i64 block, .iface 30 (.int .i64 x)] 285)
theorem failed_any (what : ByteArray) (block x : Int) (w : World) :
    Calls Tryz.prog 155 #[.string what, .int .i64 block, .int .i64 x] w fun e w' => ∃ v, e = .returned v ∧ ErrV w' v x ∧ Below w.heap.size w w' := by
  by_cases hx : x = 0
  · subst hx
    go_enter Tryz.func155, Tryz.ntmps155
    go_wp2
    go_ret
    exact ⟨_, rfl, .inl ⟨rfl, rfl⟩, Below.refl _ _⟩
  · have hx2 : (x == 0) = false := by simp [hx]
    have HX : Hid (x ≠ 0) := hx
    have HR : Hid (Row (w.alloc (.cells #[.string what, .int .i64 block, .iface 30 (.int .i64 x)] 285)) w.heap.size [.string what, .int .i64 block, .iface 30 (.int .i64 x)] 285) := Row.new w [_, _, _] _
    have HB : Hid (Below w.heap.size w (w.alloc (.cells #[.string what, .int .i64 block, .iface 30 (.int .i64 x)] 285))) := below_new w _
    go_enter Tryz.func155, Tryz.ntmps155
    go_wp2
    go_ret
    exact ⟨_, rfl, .inr ⟨HX.out, _, _, _, rfl, HR.out⟩, HB.out⟩
end Go.Proofs.YtkfecngkdlajgaaGreatDoor
namespace Go.Proofs.YtkfecngkdlajgaaGreatDoor
open Go.RowKit
set_option maxRecDepth 10000

def CS.badB (c : CS) (n : Int) : Bool := match c.at n with | none => false | some b => b.bad
def CS.nextI (c : CS) (n : Int) : Int := match c.at n with | none => 0 | some b => b.next
/-- What erase and program of the manager do. -/
def CS.eraseM (c : CS) (n : Int) : Int × CS := if c.badB n then (5, c) else c.erase n
def CS.programM (c : CS) (n page : Int) (l : List Nat) : Int × CS := if c.badB n then (5, c) else if c.nextI n ≠ page then (6, c) else c.program n page l
theorem CS.erase_same (c : CS) (b : Int) : (c.erase b).2.p = c.p ∧ (c.erase b).2.gb = c.gb := by
  unfold CS.erase
  repeat' split
  all_goals exact ⟨rfl, rfl⟩
theorem CS.program_same (c : CS) (b p : Int) (l : List Nat) : (c.program b p l).2.p = c.p ∧ (c.program b p l).2.gb = c.gb := by
  unfold CS.program
  repeat' split
  all_goals exact ⟨rfl, rfl⟩
theorem CS.mark_same (c : CS) (b : Int) : (c.mark b).2.p = c.p ∧ (c.mark b).2.gb = c.gb := by
  unfold CS.mark
  repeat' split
  all_goals exact ⟨rfl, rfl⟩
/-- The chip is c' now; the manager's own memory is as it was; an error tells x. -/
def DoPost (base : Nat) (w : World) (m : Mg) (c : CS) (r : Int × CS) (e : Ending) (w' : World) : Prop :=
  ∃ v, e = .returned v ∧ ErrV w' v r.1 ∧ MLies base w' m r.2 ∧ Kept c.foot w w' ∧ r.2.foot = c.foot
set_option maxHeartbeats 1000000 in
theorem merase_any {base : Nat} {w : World} {m : Mg} {c : CS} (h : MLies base w m c) (n : Int) :
    Calls Tryz.prog 130 #[.pointer (some ⟨m.p, 0, none⟩), .int .i64 n] w (DoPost base w m c (c.eraseM n)) := by
  obtain ⟨c0, _, _, _⟩ := h.cells
  have kb : Calls Tryz.prog 121 #[.pointer (some ⟨c.p, 0, none⟩), .int .i64 n] w fun e w' => e = .returned (.bool (c.badB n)) ∧ w = w' := bad_any h.chip n
  have ke := erase_all h.chip n
  have kf := failed_any
  have HM : Hid (MLies base w m c) := h
  cases hb : c.badB n with
  | true =>
    have e : c.eraseM n = (5, c) := by unfold CS.eraseM; rw [hb]; rfl
    rw [hb] at kb
    rw [e]
    clear h ke e hb
    go_enter Tryz.func130, Tryz.ntmps130
    go_wp2_with (first
      | (go_at_call 121; refine kb.mono ?_; rintro e w1 ⟨rfl, rfl⟩)
      | (go_at_call 155; refine (kf _ _ _ _).mono ?_; rintro e w2 ⟨v, rfl, he, hb2⟩))
    go_ret
    exact ⟨v, rfl, he, HM.out.later hb2, .of_below hb2, rfl⟩
  | false =>
    have e : c.eraseM n = c.erase n := by unfold CS.eraseM; rw [hb]; rfl
    rw [hb] at kb
    rw [e]
    have hs := c.erase_same n
    obtain ⟨r, hr⟩ : ∃ r, r = c.erase n := ⟨_, rfl⟩
    rw [← hr] at ke hs ⊢
    clear h e hb hr
    have HS : Hid (r.2.p = c.p ∧ r.2.gb = c.gb) := hs
    clear hs
    obtain ⟨x, c'⟩ := r
    go_enter Tryz.func130, Tryz.ntmps130
    go_wp2_with (first
      | (go_at_call 121; refine kb.mono ?_; rintro e w1 ⟨rfl, rfl⟩)
      | (go_at_call 168; refine ke.mono ?_; rintro e w1 ⟨rfl, hl1, hk1, hf1⟩; have HK : Hid (Kept c.foot w w1 ∧ c'.foot = c.foot) := ⟨hk1, hf1⟩; have HL : Hid (MLies base w1 m c') := HM.out.chipped hl1 hk1 HS.out.1 HS.out.2; clear hl1 hk1 hf1)
      | (go_at_call 155; refine (kf _ _ _ _).mono ?_; rintro e w2 ⟨v, rfl, he, hb2⟩))
    go_ret
    exact ⟨v, rfl, he, HL.out.later hb2, HK.out.1.later hb2, HK.out.2⟩
set_option maxHeartbeats 1000000 in
theorem mprogram_any {base : Nat} {w : World} {m : Mg} {c : CS} (h : MLies base w m c) (n page : Int) (a : Option Addr) (k dc : Nat) (data : List Nat) (hm : k = data.length) (hd : BRow w a data) (hd2 : ∀ x ∈ data, x < 256) (hdne : data = [] ∨ ∀ b o, a = some ⟨b, o, none⟩ → ¬ c.foot b) :
    Calls Tryz.prog 170 #[.pointer (some ⟨m.p, 0, none⟩), .int .i64 n, .int .i64 page, .slice a k dc] w (DoPost base w m c (c.programM n page data)) := by
  obtain ⟨c0, _, _, _⟩ := h.cells
  have kb : Calls Tryz.prog 121 #[.pointer (some ⟨c.p, 0, none⟩), .int .i64 n] w fun e w' => e = .returned (.bool (c.badB n)) ∧ w = w' := bad_any h.chip n
  have kn : Calls Tryz.prog 193 #[.pointer (some ⟨c.p, 0, none⟩), .int .i64 n] w fun e w' => e = .returned (.int .i64 (c.nextI n)) ∧ w = w' := next_any h.chip n
  have ke := program_all h.chip n page a k dc data hm hd hd2 hdne
  have kf := failed_any
  have HM : Hid (MLies base w m c) := h
  cases hb : c.badB n with
  | true =>
    have e : c.programM n page data = (5, c) := by unfold CS.programM; rw [hb]; rfl
    rw [hb] at kb
    rw [e]
    clear h ke e hb kn hm hd hd2 hdne
    go_enter Tryz.func170, Tryz.ntmps170
    go_wp2_with (first
      | (go_at_call 121; refine kb.mono ?_; rintro e w1 ⟨rfl, rfl⟩)
      | (go_at_call 155; refine (kf _ _ _ _).mono ?_; rintro e w2 ⟨v, rfl, he, hb2⟩))
    go_ret
    exact ⟨v, rfl, he, HM.out.later hb2, .of_below hb2, rfl⟩
  | false =>
    rw [hb] at kb
    by_cases hn : c.nextI n = page
    · have e : c.programM n page data = c.program n page data := by unfold CS.programM; rw [hb, if_neg (by simp), if_neg (by simp [hn])]
      rw [e]
      rw [hn] at kn
      have hs := c.program_same n page data
      obtain ⟨r, hr⟩ : ∃ r, r = c.program n page data := ⟨_, rfl⟩
      rw [← hr] at ke hs ⊢
      clear h e hb hr hm hd hd2 hdne hn
      have HS : Hid (r.2.p = c.p ∧ r.2.gb = c.gb) := hs
      clear hs
      obtain ⟨x, c'⟩ := r
      go_enter Tryz.func170, Tryz.ntmps170
      go_wp2_with (first
        | (go_at_call 121; refine kb.mono ?_; rintro e w1 ⟨rfl, rfl⟩)
        | (go_at_call 193; refine kn.mono ?_; rintro e w1 ⟨rfl, rfl⟩)
        | (go_at_call 201; refine ke.mono ?_; rintro e w1 ⟨rfl, hl1, hk1, hf1⟩; have HK : Hid (Kept c.foot w w1 ∧ c'.foot = c.foot) := ⟨hk1, hf1⟩; have HL : Hid (MLies base w1 m c') := HM.out.chipped hl1 hk1 HS.out.1 HS.out.2; clear hl1 hk1 hf1)
        | (go_at_call 155; refine (kf _ _ _ _).mono ?_; rintro e w2 ⟨v, rfl, he, hb2⟩))
      go_ret
      exact ⟨v, rfl, he, HL.out.later hb2, HK.out.1.later hb2, HK.out.2⟩
    · have e : c.programM n page data = (6, c) := by unfold CS.programM; rw [hb, if_neg (by simp), if_pos hn]
      rw [e]
      obtain ⟨y, hy⟩ : ∃ y, y = c.nextI n := ⟨_, rfl⟩
      rw [← hy] at kn hn
      have hn1 : (y == page) = false := by simp [hn]
      clear h ke e hb hm hd hd2 hdne hy
      go_enter Tryz.func170, Tryz.ntmps170
      go_wp2_with (first
        | (go_at_call 121; refine kb.mono ?_; rintro e w1 ⟨rfl, rfl⟩)
        | (go_at_call 193; refine kn.mono ?_; rintro e w1 ⟨rfl, rfl⟩)
        | (go_at_call 155; refine (kf _ _ _ _).mono ?_; rintro e w2 ⟨v, rfl, he, hb2⟩))
      go_ret
      exact ⟨v, rfl, he, HM.out.later hb2, .of_below hb2, rfl⟩
/-- The manager with one of its blocks changed. -/
def Mg.put (m : Mg) (i : Nat) (b : Bl) : Mg := { m with bl := m.bl.set i b }
/-- Six cells of the blocks' row. -/
def put6 (w : World) (B i : Nat) (b : Bl) : World := (((((w.setCell ⟨B, i * 6, none⟩ (.int .i64 b.st)).setCell ⟨B, i * 6 + 1, none⟩ (.int .i64 b.cnt)).setCell ⟨B, i * 6 + 2, none⟩ (.int .i64 b.leb)).setCell ⟨B, i * 6 + 3, none⟩ (.int .i64 b.used)).setCell ⟨B, i * 6 + 4, none⟩ (.int .u64 b.seq)).setCell ⟨B, i * 6 + 5, none⟩ (.bool b.closed)
theorem kept6 (w : World) (B i : Nat) (b : Bl) : Kept (fun k => k = B) w (put6 w B i b) := by
  unfold put6
  exact ((((((Kept.refl (fun k => k = B) w).setCell (p := ⟨B, i * 6, none⟩) rfl _).setCell (p := ⟨B, i * 6 + 1, none⟩) rfl _).setCell (p := ⟨B, i * 6 + 2, none⟩) rfl _).setCell (p := ⟨B, i * 6 + 3, none⟩) rfl _).setCell (p := ⟨B, i * 6 + 4, none⟩) rfl _).setCell (p := ⟨B, i * 6 + 5, none⟩) rfl _
theorem row6 {w : World} {B i : Nat} {l : List Bl} {o : Bl} (hi : l[i]? = some o) (b : Bl) (h : Row w B (l.flatMap blCells) 156) : Row (put6 w B i b) B ((l.set i b).flatMap blCells) 156 := by
  have hil := (List.getElem?_eq_some_iff.1 hi).1
  have hlen : ∀ l : List Bl, (l.flatMap blCells).length = l.length * 6 := fun l => by
    induction l with
    | nil => rfl
    | cons x r ih => rw [List.flatMap_cons, List.length_append, ih, bl_len, List.length_cons]; omega
  have h0 := h.set (i := i * 6 + 0) (.int .i64 b.st) (by rw [hlen]; omega)
  rw [flat_set blCells 6 bl_len 0 (by omega) (.int .i64 b.st) ⟨b.st, o.cnt, o.leb, o.used, o.seq, o.closed⟩ l i o hi rfl] at h0
  have h1 := h0.set (i := i * 6 + 1) (.int .i64 b.cnt) (by rw [hlen, List.length_set]; omega)
  rw [flat_set blCells 6 bl_len 1 (by omega) (.int .i64 b.cnt) ⟨b.st, b.cnt, o.leb, o.used, o.seq, o.closed⟩ _ i ⟨b.st, o.cnt, o.leb, o.used, o.seq, o.closed⟩ (List.getElem?_set_self hil) rfl, List.set_set] at h1
  have h2 := h1.set (i := i * 6 + 2) (.int .i64 b.leb) (by rw [hlen, List.length_set]; omega)
  rw [flat_set blCells 6 bl_len 2 (by omega) (.int .i64 b.leb) ⟨b.st, b.cnt, b.leb, o.used, o.seq, o.closed⟩ _ i ⟨b.st, b.cnt, o.leb, o.used, o.seq, o.closed⟩ (List.getElem?_set_self hil) rfl, List.set_set] at h2
  have h3 := h2.set (i := i * 6 + 3) (.int .i64 b.used) (by rw [hlen, List.length_set]; omega)
  rw [flat_set blCells 6 bl_len 3 (by omega) (.int .i64 b.used) ⟨b.st, b.cnt, b.leb, b.used, o.seq, o.closed⟩ _ i ⟨b.st, b.cnt, b.leb, o.used, o.seq, o.closed⟩ (List.getElem?_set_self hil) rfl, List.set_set] at h3
  have h4 := h3.set (i := i * 6 + 4) (.int .u64 b.seq) (by rw [hlen, List.length_set]; omega)
  rw [flat_set blCells 6 bl_len 4 (by omega) (.int .u64 b.seq) ⟨b.st, b.cnt, b.leb, b.used, b.seq, o.closed⟩ _ i ⟨b.st, b.cnt, b.leb, b.used, o.seq, o.closed⟩ (List.getElem?_set_self hil) rfl, List.set_set] at h4
  have h5 := h4.set (i := i * 6 + 5) (.bool b.closed) (by rw [hlen, List.length_set]; omega)
  rw [flat_set blCells 6 bl_len 5 (by omega) (.bool b.closed) b _ i ⟨b.st, b.cnt, b.leb, b.used, b.seq, o.closed⟩ (List.getElem?_set_self hil) rfl, List.set_set] at h5
  exact h5
theorem MLies.put {base : Nat} {w : World} {m : Mg} {c : CS} (h : MLies base w m c) {i : Nat} {o : Bl} (hi : m.bl[i]? = some o) (b : Bl) : MLies base (put6 w m.bb i b) (m.put i b) c :=
  h.wroteB (kept6 w m.bb i b) rfl rfl rfl rfl rfl (by simp [Mg.put]) (row6 hi b h.row)
end Go.Proofs.YtkfecngkdlajgaaGreatDoor
namespace Go.Proofs.YtkfecngkdlajgaaGreatDoor
open Go.RowKit
set_option maxRecDepth 10000

def badBl : Bl := ⟨1, 0, 0, 0, 0, false⟩
set_option maxHeartbeats 1000000 in
theorem mretire_any {base : Nat} {w : World} {m : Mg} {c : CS} (h : MLies base w m c) (i : Nat) (hi : i < m.bl.length) :
    Calls Tryz.prog 132 #[.pointer (some ⟨m.p, 0, none⟩), .int .i64 (i : Nat)] w fun e w' => e = .returned (.tuple #[]) ∧ MLies base w' (m.put i badBl) (c.mark i).2 ∧ Kept (MFoot m c) w w' ∧ (c.mark i).2.foot = c.foot := by
  obtain ⟨c0, _, _, _⟩ := h.cells
  obtain ⟨o, ho⟩ : ∃ o, m.bl[i]? = some o := ⟨_, List.getElem?_eq_getElem hi⟩
  have HO : Hid (m.bl[i]? = some o) := ho
  have n0 : ¬ (i : Int) < 0 := by omega
  have n1 : (i : Int) < (m.bl.length : Int) := by omega
  have ke := mark_any h.chip (i : Int)
  have hs := c.mark_same i
  have HM : Hid (MLies base w m c) := h
  obtain ⟨r, hr⟩ : ∃ r, r = c.mark i := ⟨_, rfl⟩
  rw [← hr] at ke hs ⊢
  have HS : Hid (r.2.p = c.p ∧ r.2.gb = c.gb) := hs
  clear h ho hs hr
  obtain ⟨x, c'⟩ := r
  go_enter Tryz.func132, Tryz.ntmps132
  go_wp2_with (go_at_call 171; refine ke.mono ?_; rintro e w1 ⟨rfl, hl1, hk1, hf1⟩; have HK : Hid (Kept c.foot w w1 ∧ c'.foot = c.foot) := ⟨hk1, hf1⟩; have hL := HM.out.chipped hl1 hk1 HS.out.1 HS.out.2; have HL : Hid (MLies base w1 m c') := hL; have d1 := hL.cells.2.1; have fz := hL.row.frozen; obtain ⟨g0, g1, g2, g3, g4, g5⟩ := hL.blAt HO.out; clear hl1 hk1 hf1 hL ke)
  have HP : Hid (MLies base (put6 w1 m.bb i badBl) (m.put i badBl) c' ∧ Kept (MFoot m c) w (put6 w1 m.bb i badBl)) := ⟨HL.out.put HO.out badBl, (HK.out.1.mono (fun _ hk => .inr (.inr hk))).trans ((kept6 w1 m.bb i badBl).mono (fun _ hk => .inr (.inl hk)))⟩
  simp only [put6, badBl] at HP
  go_end0
  exact ⟨rfl, HP.out.1, HP.out.2, HK.out.2⟩
theorem mtake_none {base : Nat} {w : World} {m : Mg} {c : CS} (h : MLies base w m c) (hl : leastI m.bl < 0) :
    Calls Tryz.prog 113 #[.pointer (some ⟨m.p, 0, none⟩)] w fun e w' => ∃ v, e = .returned (.tuple #[.int .i64 (leastI m.bl), v]) ∧ ErrV w' v 30 ∧ Below w.heap.size w w' := by
  obtain ⟨_, c1, _, _⟩ := h.cells
  have hgs := h.chip.good.gs
  have hlen := h.len
  have k1 := least_any m.bl.length m.bcap m.bl (some ⟨m.bb, 0, none⟩) rfl (by omega) w h.lrow
  have kf := failed_any
  obtain ⟨L, hL⟩ : ∃ L, L = leastI m.bl := ⟨_, rfl⟩
  rw [← hL] at k1 hl ⊢
  clear h hgs hlen hL
  go_enter Tryz.func113, Tryz.ntmps113
  go_wp2_with (first
    | (go_at_call 154; refine k1.mono ?_; rintro e w1 ⟨rfl, hb⟩)
    | (go_at_call 155; refine (kf _ _ _ _).mono ?_; rintro e w2 ⟨v, rfl, he, hb2⟩))
  refine bodyPost_ret (v := .tuple #[.int .i64 L, v]) ?_ rfl ⟨v, rfl, he, Below.after hb hb2⟩
  simp [results, Tryz.f113, go_sem]
theorem mtake_any {base : Nat} {w : World} {m : Mg} {c : CS} (h : MLies base w m c) (hl : ¬ leastI m.bl < 0) :
    Calls Tryz.prog 113 #[.pointer (some ⟨m.p, 0, none⟩)] w fun e w' => e = .returned (.tuple #[.int .i64 (leastI m.bl), .nilIface]) ∧ Below w.heap.size w w' := by
  obtain ⟨_, c1, _, _⟩ := h.cells
  have hgs := h.chip.good.gs
  have hlen := h.len
  have k1 := least_any m.bl.length m.bcap m.bl (some ⟨m.bb, 0, none⟩) rfl (by omega) w h.lrow
  obtain ⟨L, hL⟩ : ∃ L, L = leastI m.bl := ⟨_, rfl⟩
  rw [← hL] at k1 hl ⊢
  clear h hgs hlen hL
  go_enter Tryz.func113, Tryz.ntmps113
  go_wp2_with (go_at_call 154; refine k1.mono ?_; rintro e w1 ⟨rfl, hb⟩)
  refine bodyPost_ret (v := .tuple #[.int .i64 L, .nilIface]) ?_ rfl ⟨rfl, hb⟩
  simp [results, Tryz.f113, go_sem]
end Go.Proofs.YtkfecngkdlajgaaGreatDoor
