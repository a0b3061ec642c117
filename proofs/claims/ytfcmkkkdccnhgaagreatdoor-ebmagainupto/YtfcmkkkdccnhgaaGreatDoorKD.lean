/-
  A manager over a chip as it is.
  A block that is not needed any more.
  Drafts: what is to stand in a block.
  A page that is to be copied.
  A draft in a Free block.
-/
import Derived.Test.YtfcmkkkdccnhgaaGreatDoorKC
import Derived.Test.YtfcmkkkdccnhgaaGreatDoorGQ
namespace Go.Proofs.YtfcmkkkdccnhgaaGreatDoor
open Go.RowKit
set_option maxRecDepth 10000

theorem over_off {base : Nat} {w : World} {c : CS} (h : Lies base w c) (hon : c.on = false) :
    Calls Tryz.prog 28 #[.pointer (some ⟨c.p, 0, none⟩)] w fun e w' => e = .returned (.tuple #[.pointer none, .int .i64 6]) ∧ Below w.heap.size w w' := by
  have k1 := scan_off h c.p rfl hon
  clear h hon
  go_enter Tryz.func28, Tryz.ntmps28
  go_wp2_with (go_at_call 67; refine k1.mono ?_; rintro e w1 ⟨rfl, rfl⟩)
  refine bodyPost_ret (v := .tuple #[.pointer none, .int .i64 6]) ?_ rfl ⟨rfl, Below.refl _ _⟩
  simp [results, Tryz.f28, go_sem]
/-- The greatest Seq. -/
def maxS (l : List Bl) : Int := l.foldl (fun a b => max a b.seq) 0
theorem maxS_take {l : List Bl} {k : Nat} {b : Bl} (h : l[k]? = some b) : maxS (l.take (k + 1)) = max (maxS (l.take k)) b.seq := by
  unfold maxS
  rw [List.take_add_one, h]
  simp
def mgRow (cp g n cap : Nat) (s : Int) : List Value := [.pointer (some ⟨cp, 0, none⟩), .slice (some ⟨g, 0, none⟩) n cap, .int .u64 s, .bool false]
theorem maxS_ge (l : List Bl) : 0 ≤ maxS l := by
  have : ∀ (l : List Bl) (a : Int), 0 ≤ a → 0 ≤ l.foldl (fun a b => max a b.seq) a := by
    intro l
    induction l with
    | nil => intro a h; exact h
    | cons x r ih => intro a h; exact ih _ (by show 0 ≤ max a x.seq; omega)
  exact this l 0 (by omega)
theorem maxS_nat (l : List Bl) : ((maxS l).toNat : Int) = maxS l := Int.toNat_of_nonneg (maxS_ge l)
theorem below_drew' (w : World) : Below w.heap.size w w.drew := (Below.refl _ _).drew
theorem Lies.later' {base : Nat} {w w' : World} {c : CS} (h : Lies base w c) (hb : Below w.heap.size w w') : Lies base w' c := h.later hb
/-- While the blocks are looked at. -/
structure Ov (w1 W : World) (cp g n cap : Nat) (s : Int) : Prop where
  box : Row W w1.heap.size (mgRow cp g n cap s) 91
  bel : Below w1.heap.size w1 W
set_option maxHeartbeats 2000000 in
theorem over_on {base : Nat} {w : World} {c : CS} (h : Lies base w c) (hon : c.on = true) (hg : Hd.Glb w) :
    Calls Tryz.prog 28 #[.pointer (some ⟨c.p, 0, none⟩)] w fun e w' => ∃ m : Mg, e = .returned (.tuple #[.pointer (some ⟨m.p, 0, none⟩), .int .i64 0]) ∧ MLies base w' m c ∧ m.bl = scanV c.vw ∧ (m.seq : Int) = maxS (scanV c.vw) ∧ m.lost = false ∧ Below w.heap.size w w' := by
  have k1 := scan_on h c.p rfl hon hg
  have HLI : Hid (Lies base w c) := h
  have hgb := h.chip
  clear hon hgb
  have hgs := h.good.gs
  have HLen : Hid ((scanV c.vw).length = c.gb) := scanV_length c.vw
  obtain ⟨l, hl⟩ : ∃ l, l = scanV c.vw := ⟨_, rfl⟩
  rw [← hl] at k1 HLen ⊢
  have hb1 : 1 ≤ c.gb := hgs.1
  have hb2 : c.gb ≤ 256 := hgs.2.1
  clear hl h hg hgs
  go_enter Tryz.func28, Tryz.ntmps28
  go_wp2_with (go_at_call 67; refine k1.mono ?_; rintro e w1 ⟨g, cap, rfl, ho, hb⟩; have HO : Hid (OwnL w.heap.size w1 g c.gb cap l) := ho; have HB : Hid (Below w.heap.size w w1) := hb; clear ho hb)
  go_loopg [23] c.gb (fun kx s23 wr => ∃ k : Nat, k + kx = c.gb ∧ s23 = .int .i64 (k : Nat) ∧ Hid (Ov w1 wr c.p g c.gb cap (maxS (l.take k))))
  case atStart => exact ⟨0, by omega, rfl, ⟨Row.new w1 [_, _, _, _] _, below_new w1 _⟩⟩
  case round =>
    obtain ⟨k, hk, rfl, HV⟩ := hrel
    by_cases hlt : k < c.gb
    · obtain ⟨b, hb⟩ : ∃ b, l[k]? = some b := ⟨_, List.getElem?_eq_getElem (by have := HLen.out; omega)⟩
      have HS : Hid (maxS (l.take (k + 1)) = max (maxS (l.take k)) b.seq) := maxS_take hb
      have hA : BlAt wr g (k * 6) b := by
        rcases (HO.out.later HV.out.bel).row with e | ⟨b', off, e, hx⟩
        · rw [e] at hb; simp at hb
        · cases e
          have := hx k b hb
          rwa [Nat.zero_add] at this
      obtain ⟨g0, g1, g2, g3, g4, g5⟩ := hA
      obtain ⟨S, hS⟩ : ∃ S, S = maxS (l.take k) := ⟨_, rfl⟩
      rw [← hS] at HV HS
      clear hS hb
      have c2 : wr.cell? ⟨w1.heap.size, 2, none⟩ = some (.int .u64 S) := HV.out.box.cell (i := 2) rfl
      have n0 : ¬ (k : Int) < 0 := by omega
      have n1 : (k : Int) < (c.gb : Int) := by omega
      have hw : w1.heap.size < wr.heap.size := HV.out.box.lt
      have fz := HV.out.box.frozen
      go_wp2
      have HV2 : Hid (Ov w1 (wr.alloc (.cells #[.int .i64 b.st, .int .i64 b.cnt, .int .i64 b.leb, .int .i64 b.used, .int .u64 b.seq, .bool b.closed] 94)) c.p g c.gb cap S) := ⟨HV.out.box.later (below_new _ _), Below.after HV.out.bel (below_new _ _)⟩
      have hR : Row (wr.alloc (.cells #[.int .i64 b.st, .int .i64 b.cnt, .int .i64 b.leb, .int .i64 b.used, .int .u64 b.seq, .bool b.closed] 94)) wr.heap.size (blCells b) 94 := Row.new wr (blCells b) _
      obtain ⟨W2, hW2⟩ : ∃ W2, W2 = wr.alloc (.cells #[.int .i64 b.st, .int .i64 b.cnt, .int .i64 b.leb, .int .i64 b.used, .int .u64 b.seq, .bool b.closed] 94) := ⟨_, rfl⟩
      rw [← hW2] at HV2 hR ⊢
      clear hW2 g0 g1 g2 g3 g4 g5 c2 fz HV
      have d2 : W2.cell? ⟨w1.heap.size, 2, none⟩ = some (.int .u64 S) := HV2.out.box.cell (i := 2) rfl
      have d4 : W2.cell? ⟨wr.heap.size, 4, none⟩ = some (.int .u64 b.seq) := hR.cell (i := 4) rfl
      have fz := HV2.out.box.frozen
      clear hR
      go_region
      have HV3 : Hid (Ov w1 (W2.setCell ⟨w1.heap.size, 2, none⟩ (.int .u64 (max S b.seq))).drew c.p g c.gb cap (max S b.seq)) := ⟨(HV2.out.box.set (i := 2) (.int .u64 (max S b.seq)) (by simp [mgRow])).later (below_drew' _), (HV2.out.bel.setCell (Nat.le_refl _) _).drew⟩
      go_wp2
      go_roundg (c.gb - (k + 1))
      case measure => omega
      case rel => exact ⟨k + 1, by omega, by go_num, by rw [HS.out]; exact HV3⟩
    · have hkl : k = c.gb := by omega
      have HT : Hid (l.take k = l) := List.take_of_length_le (by have := HLen.out; omega)
      rw [HT.out] at HV
      clear HT
      go_wp2
      refine bodyPost_ret (v := .tuple #[.pointer (some ⟨w1.heap.size, 0, none⟩), .int .i64 0]) ?_ rfl ⟨⟨w1.heap.size, g, cap, l, (maxS l).toNat, false⟩, rfl, ?_, rfl, maxS_nat l, rfl, Below.after HB.out HV.out.bel⟩
      · simp [results, Tryz.f28, go_sem]
      · obtain ⟨g', cap', e, q1, q2, q3, hr⟩ := Row.of_owns (HO.out.later HV.out.bel).2 hb1
        simp only [Value.slice.injEq, Option.some.injEq, Addr.mk.injEq] at e
        obtain rfl := e.1.1
        obtain rfl := e.2.2
        have hbs : base ≤ w.heap.size := Nat.le_trans (HLI.out.low _ (.inl rfl)) (Nat.le_of_lt (HLI.out.foot_lt (.inl rfl)))
        refine ⟨?_, hr, (HLI.out.later HB.out).later' HV.out.bel, HLen.out, ⟨by show l.length ≤ _; rw [HLen.out]; exact q1, q2⟩, ⟨Nat.le_trans hbs HB.out.size, Nat.le_trans hbs q3⟩⟩
        have := HV.out.box
        unfold mgRow at this
        unfold mgCells
        simp only [HLen.out, maxS_nat]
        exact this
end Go.Proofs.YtfcmkkkdccnhgaaGreatDoor
namespace Go.Proofs.YtfcmkkkdccnhgaaGreatDoor
open Go.RowKit
set_option maxRecDepth 10000

theorem mdrop_none {base : Nat} {w : World} {m : Mg} {c : CS} (h : MLies base w m c) (n : Int) (hn : n < 0) :
    Calls Tryz.prog 57 #[.pointer (some ⟨m.p, 0, none⟩), .int .i64 n] w (FPost base w m c (0, m, c)) := by
  have HM : Hid (MLies base w m c) := h
  clear h
  go_enter Tryz.func57, Tryz.ntmps57
  go_wp2
  go_ret
  exact ⟨_, rfl, .inl ⟨rfl, rfl⟩, HM.out, Kept.refl _ _, rfl⟩
theorem mdrop_some {base : Nat} {w : World} {m : Mg} {c : CS} (h : MLies base w m c) (i q : Nat) (o : Bl) (ho : m.bl[i]? = some o) (hq : o.cnt = q) (hq2 : q ≤ 2147483647) (hz : 64 ≤ c.gz) :
    Calls Tryz.prog 57 #[.pointer (some ⟨m.p, 0, none⟩), .int .i64 (i : Nat)] w (FPost base w m c (freeM m c i q)) := by
  have k1 := mfree_any h i q o ho hq hq2 hz
  obtain ⟨r, hr⟩ : ∃ r, r = freeM m c i q := ⟨_, rfl⟩
  rw [← hr] at k1 ⊢
  have n0 : ¬ (i : Int) < 0 := by omega
  clear h ho hq hq2 hz hr
  go_enter Tryz.func57, Tryz.ntmps57
  go_wp2_with (go_at_call 70; refine k1.mono ?_; rintro e w1 ⟨v, rfl, he, hl, hk, hf⟩)
  go_ret
  exact ⟨v, rfl, he, hl, hk, hf⟩
end Go.Proofs.YtfcmkkkdccnhgaaGreatDoor
namespace Go.Proofs.YtfcmkkkdccnhgaaGreatDoor
open Go.RowKit
set_option maxRecDepth 10000

@[local go_sem] theorem run_store_func (P : Program) (w : World) (a : Addr) (m : Mode) (f : Fn) (x y : Array Value) : (store a (.func f x y) m).run P w = stored P w a (.func f x y) m := run_store P w a _ m rfl
theorem grown_any (leb : Int) (a : Option Addr) (n cap : Nat) (w : World) :
    Calls Tryz.prog 79 #[.int .i64 leb, .slice a n cap] w fun e w' => ∃ B, e = .returned (.agg #[.int .i64 leb, .int .i64 1, .int .i64 0, .func (.func 117) #[] #[.pointer (some ⟨B, 0, none⟩)]]) ∧ w'.cell? ⟨B, 0, none⟩ = some (.slice a n cap) ∧ Below w.heap.size w w' := by
  go_enter Tryz.func79, Tryz.ntmps79
  go_wp2
  refine bodyPost_ret (v := .agg #[.int .i64 leb, .int .i64 1, .int .i64 0, .func (.func 117) #[] #[.pointer (some ⟨w.heap.size, 0, none⟩)]]) ?_ rfl ⟨w.heap.size, rfl, ?_, Below.after (below_new w _) (below_new _ _)⟩
  · simp [results, Tryz.f79, go_sem]
  · exact ((Row.new w [.slice a n cap] 36).later (below_new _ _)).cell (i := 0) rfl
theorem grown1_any (B : Nat) (i : Int) (a : Option Addr) (n cap : Nat) (w : World) (h : w.cell? ⟨B, 0, none⟩ = some (.slice a n cap)) :
    Calls Tryz.prog 117 #[.int .i64 i, .pointer (some ⟨B, 0, none⟩)] w fun e w' => e = .returned (.tuple #[.slice a n cap, .nilIface]) ∧ w = w' := by
  go_enter Tryz.func117, Tryz.ntmps117
  go_wp2
  refine bodyPost_ret (v := .tuple #[.slice a n cap, .nilIface]) ?_ rfl ⟨rfl, rfl⟩
  simp [results, Tryz.f117, go_sem]
set_option maxHeartbeats 1000000 in
theorem transfer_grown {base : Nat} {w : World} {m : Mg} {c : CS} (h : MLies base w m c) (n B i : Nat) (hi : i ≤ 64) (leb p q : Int) (a : Option Addr) (k cap : Nat) (data : List Nat) (hB : w.cell? ⟨B, 0, none⟩ = some (.slice a k cap)) (hm : k = data.length) (hd : BRow w a data) (hd2 : ∀ x ∈ data, x < 256) (hdne : data = [] ∨ ∀ b o, a = some ⟨b, o, none⟩ → ¬ c.foot b) :
    Calls Tryz.prog 179 #[.pointer (some ⟨m.p, 0, none⟩), .int .i64 (n : Nat), .int .i64 (i : Nat), .agg #[.int .i64 leb, .int .i64 p, .int .i64 q, .func (.func 117) #[] #[.pointer (some ⟨B, 0, none⟩)]]] w (DoPost base w m c (c.programM n (2 + (i : Int)) data)) := by
  obtain ⟨W, hW⟩ : ∃ W, W = w.alloc (.cells #[.int .i64 leb, .int .i64 p, .int .i64 q, .func (.func 117) #[] #[.pointer (some ⟨B, 0, none⟩)]] 119) := ⟨_, rfl⟩
  have HBW : Hid (Below w.heap.size w W) := by rw [hW]; exact below_new w _
  have k1 : ∀ j : Int, Calls Tryz.prog 117 #[.int .i64 j, .pointer (some ⟨B, 0, none⟩)] W fun e w' => e = .returned (.tuple #[.slice a k cap, .nilIface]) ∧ W = w' := fun j => grown1_any B j a k cap W (by rw [HBW.out.cell (p := ⟨B, 0, none⟩) (World.block_lt_of_cell? w _ hB)]; exact hB)
  have k2 := mprogram_any (h.later HBW.out) (n : Nat) (2 + (i : Int)) a k cap data hm (hd.later HBW.out) hd2 hdne
  obtain ⟨r, hr⟩ : ∃ r, r = c.programM n (2 + (i : Int)) data := ⟨_, rfl⟩
  rw [← hr] at k2 ⊢
  have i0 : (0 : Int) ≤ (i : Int) := by omega
  have i1 : (i : Int) ≤ 64 := by omega
  clear h hB hm hd hd2 hdne hr hi
  go_enter Tryz.func179, Tryz.ntmps179
  go_wp2_with fail
  rw [← hW]
  clear hW
  go_wp2_with (first
    | (go_at_call 117; refine (k1 _).mono ?_; rintro e w1 ⟨rfl, rfl⟩)
    | (go_at_call 81; refine k2.mono ?_; rintro e w2 ⟨v, rfl, he, hl, hk, hf⟩))
  go_ret
  exact ⟨v, rfl, he, hl, (Kept.of_below HBW.out).trans hk, hf⟩
end Go.Proofs.YtfcmkkkdccnhgaaGreatDoor
namespace Go.Proofs.YtfcmkkkdccnhgaaGreatDoor
open Go.RowKit
set_option maxRecDepth 10000

theorem mread_ok {base : Nat} {w : World} {m : Mg} {c : CS} (h : MLies base w m c) (n i : Nat) (hi : i ≤ 64) (l : List Nat) (hr : c.read n (2 + (i : Int)) = (l, 0)) :
    Calls Tryz.prog 155 #[.pointer (some ⟨m.p, 0, none⟩), .int .i64 (n : Nat), .int .i64 (i : Nat)] w fun e w' => ∃ a k cap, e = .returned (.tuple #[.slice a k cap, .nilIface]) ∧ Got w w' l a k cap := by
  obtain ⟨c0, _, _, _⟩ := h.cells
  have k1 := read_any h.chip (n : Nat) (2 + (i : Int))
  rw [hr] at k1
  have i0 : (0 : Int) ≤ (i : Int) := by omega
  have i1 : (i : Int) ≤ 64 := by omega
  clear h hr hi
  go_enter Tryz.func155, Tryz.ntmps155
  go_wp2_with (go_at_call 50; refine k1.mono ?_; rintro e w1 ⟨a, k, cap, rfl, hg⟩; have HG : Hid (Got w w1 l a k cap) := hg; clear hg)
  refine bodyPost_ret (v := .tuple #[.slice a k cap, .nilIface]) ?_ rfl ⟨a, k, cap, rfl, HG.out⟩
  simp [results, Tryz.f155, go_sem]
theorem mread_no {base : Nat} {w : World} {m : Mg} {c : CS} (h : MLies base w m c) (n i : Nat) (hi : i ≤ 64) (hr : (c.read n (2 + (i : Int))).2 ≠ 0) :
    Calls Tryz.prog 155 #[.pointer (some ⟨m.p, 0, none⟩), .int .i64 (n : Nat), .int .i64 (i : Nat)] w fun e w' => ∃ v, e = .returned (.tuple #[.slice none 0 0, v]) ∧ ErrV w' v 6 ∧ Below w.heap.size w w' := by
  obtain ⟨c0, _, _, _⟩ := h.cells
  have k1 := read_any h.chip (n : Nat) (2 + (i : Int))
  obtain ⟨r, hr1⟩ : ∃ r, r = c.read n (2 + (i : Int)) := ⟨_, rfl⟩
  rw [← hr1] at k1 hr
  obtain ⟨l, x⟩ := r
  have kf := failed_any
  have hx : (x == 0) = false := by simpa using hr
  have i0 : (0 : Int) ≤ (i : Int) := by omega
  have i1 : (i : Int) ≤ 64 := by omega
  have hx2 : ¬ x = 0 := hr
  clear h hr hr1 hi
  go_enter Tryz.func155, Tryz.ntmps155
  go_wp2_with (first
    | (go_at_call 50; refine k1.mono ?_; rintro e w1 ⟨a, k, cap, rfl, hg⟩; have HG : Hid (Got w w1 l a k cap) := hg; clear hg)
    | (go_at_call 80; refine (kf _ _ _ _).mono ?_; rintro e w2 ⟨v, rfl, he, hb2⟩))
  refine bodyPost_ret (v := .tuple #[.slice none 0 0, v]) ?_ rfl ⟨v, rfl, he, Below.after HG.out.below hb2⟩
  simp [results, Tryz.f155, go_sem]
end Go.Proofs.YtfcmkkkdccnhgaaGreatDoor
namespace Go.Proofs.YtfcmkkkdccnhgaaGreatDoor
open Go.RowKit
set_option maxRecDepth 10000

def Mg.next (m : Mg) : Mg := { m with seq := m.seq + 1 }
/-- Pages, one behind the other, from page i on. -/
def pagesM (c : CS) (n : Int) : Nat → List (List Nat) → Int × CS
  | _, [] => (0, c)
  | i, d :: r => if (c.programM n (2 + (i : Int)) d).1 = 0 then pagesM (c.programM n (2 + (i : Int)) d).2 n (i + 1) r else c.programM n (2 + (i : Int)) d
theorem MLies.next {base : Nat} {w : World} {m : Mg} {c : CS} (h : MLies base w m c) : MLies base (w.setCell ⟨m.p, 2, none⟩ (.int .u64 ((m.seq : Int) + 1))) m.next c :=
  h.wroteP ((Kept.refl (fun k => k = m.p) w).setCell (p := ⟨m.p, 2, none⟩) rfl _) rfl rfl rfl rfl (by
    have := h.box.set (i := 2) (.int .u64 ((m.seq : Int) + 1)) (by simp [mgCells])
    have e : mgCells m.next c.p = (mgCells m c.p).set 2 (.int .u64 ((m.seq : Int) + 1)) := by unfold mgCells Mg.next; simp
    rw [e]; exact this)
end Go.Proofs.YtfcmkkkdccnhgaaGreatDoor
