/-
  Proved: the statement on what a power cut leaves of a program or an erase (NandTorn): for every number of pages, list of bytes, kind of cut, of a program or an erase; no condition.
-/
import Derived.Test.YtkjbnibcdmlmmaaCTorn
import Derived.Test.YtkjbnibcdmlmmaaCArg
namespace Go.Proofs.Ytkjbnibcdmlmmaa.nandTorn
open Go.ChangeShapes Go.WideShapes Go.ChangeAt Go.RowKit

/-- What is kept through the calls: the chip's place, and all that is not its own since W1. -/
structure St (w W1 W : World) (F : Nat → Prop) (p : Nat) (c : CS) : Prop where
  lies : Lies w.heap.size W c
  at_p : c.p = p
  foot : c.foot = F
  kept : Kept F W1 W
  below : Below w.heap.size w W
theorem St.later {w W1 W W' : World} {F : Nat → Prop} {p : Nat} {c : CS} (h : St w W1 W F p c) (hb : Below W.heap.size W W') : St w W1 W' F p c :=
  ⟨h.lies.later hb, h.at_p, h.foot, h.kept.later hb, Below.after h.below hb⟩
theorem St.step {w W1 W W' : World} {F : Nat → Prop} {p : Nat} {c c' : CS} (h : St w W1 W F p c) (hl : Lies w.heap.size W' c') (hp : c'.p = p) (hk : Kept c.foot W W') (hf : c'.foot = c.foot) : St w W1 W' F p c' :=
  ⟨hl, hp, hf.trans h.foot, h.kept.trans (by rw [← h.foot]; exact hk), h.below.trans (hk.low h.lies h.below.size)⟩
theorem St.fresh {w W1 W : World} {F : Nat → Prop} {p : Nat} {c : CS} (h : St w W1 W F p c) : St w W W F p c := ⟨h.lies, h.at_p, h.foot, Kept.refl _ _, h.below⟩
theorem barg_row {w W : World} {a : Option Addr} {m c : Nat} {l : List Nat} (h : BArg w a m c l) (hb : Below w.heap.size w W) : BRow W a l := by
  rcases h.row with e | ⟨b, off, e, hc⟩
  · exact .inl e
  · refine .inr ⟨b, off, e, fun i hi => ?_⟩
    have := hc i hi
    rw [hb.cell (p := ⟨b, off + i, none⟩) (World.block_lt_of_cell? w _ this)]
    exact this
theorem barg_apart {w W : World} {c : CS} {a : Option Addr} {m cp : Nat} {l : List Nat} (h : BArg w a m cp l) (hl : Lies w.heap.size W c) : l = [] ∨ ∀ b o, a = some ⟨b, o, none⟩ → ¬ c.foot b := by
  rcases h.row with e | ⟨b, off, e, hc⟩
  · exact .inl e
  · cases l with
    | nil => exact .inl rfl
    | cons x l =>
      refine .inr fun b2 o2 e2 hk => ?_
      rw [e] at e2
      cases e2
      have := World.block_lt_of_cell? w _ (hc 0 (by simp))
      have h2 := hl.low _ hk
      simp at this
      omega
theorem St.program {w W1 W : World} {F : Nat → Prop} {p : Nat} {c c' : CS} (h : St w W1 W F p c) (bl pg x : Int) {a : Option Addr} {m dc : Nat} {data : List Nat} (hd : BArg w a m dc data) (he : c.program bl pg data = (x, c')) (hp : c'.p = p) :
    Calls Try.prog 21 #[.pointer (some ⟨p, 0, none⟩), .int .i64 bl, .int .i64 pg, .slice a m dc] W fun e w' => e = .returned (.int .i64 x) ∧ St w W1 w' F p c' :=
  (program_at h.lies p h.at_p bl pg x a m dc data hd.len_eq (barg_row hd h.below) hd.lt (barg_apart hd h.lies) he).mono fun _ _ ⟨q1, q2, q3, q4⟩ => ⟨q1, h.step q2 hp q3 q4.out⟩
theorem St.erase {w W1 W : World} {F : Nat → Prop} {p : Nat} {c c' : CS} (h : St w W1 W F p c) (bl x : Int) (he : c.erase bl = (x, c')) (hp : c'.p = p) :
    Calls Try.prog 14 #[.pointer (some ⟨p, 0, none⟩), .int .i64 bl] W fun e w' => e = .returned (.int .i64 x) ∧ St w W1 w' F p c' :=
  (erase_at h.lies p h.at_p bl x he).mono fun _ _ ⟨q1, q2, q3, q4⟩ => ⟨q1, h.step q2 hp q3 q4.out⟩
theorem St.mark {w W1 W : World} {F : Nat → Prop} {p : Nat} {c c' : CS} (h : St w W1 W F p c) (bl x : Int) (he : c.mark bl = (x, c')) (hp : c'.p = p) :
    Calls Try.prog 15 #[.pointer (some ⟨p, 0, none⟩), .int .i64 bl] W fun e w' => e = .returned (.int .i64 x) ∧ St w W1 w' F p c' :=
  (mark_at h.lies p h.at_p bl x he).mono fun _ _ ⟨q1, q2, q3, q4⟩ => ⟨q1, h.step q2 hp q3 q4.out⟩
theorem St.power {w W1 W : World} {F : Nat → Prop} {p : Nat} {c : CS} (h : St w W1 W F p c) :
    Calls Try.prog 30 #[.pointer (some ⟨p, 0, none⟩)] W fun e w' => e = .returned (.tuple #[]) ∧ St w W1 w' F p { c with on := true } :=
  (power_at h.lies p h.at_p).mono fun _ _ ⟨q1, q2, q3⟩ => ⟨q1, h.step q2 h.at_p q3 rfl⟩
theorem St.arm {w W1 W : World} {F : Nat → Prop} {p : Nat} {c : CS} (h : St w W1 W F p c) (t : Int) (ht : t = 0 ∨ t = 1 ∨ t = 2) :
    Calls Try.prog 23 #[.pointer (some ⟨p, 0, none⟩), .slice (some ⟨W.heap.size, 0, none⟩) 1 1] (W.alloc (.cells #[.int .i64 1, .int .i64 1, .int .i64 t] 55)) fun e w' => e = .returned (.int .i64 0) ∧ St w W1 w' F p (c.armed t) := by
  have h2 := h.later (below_new W (.cells #[.int .i64 1, .int .i64 1, .int .i64 t] 55))
  exact (arm_cut h2.lies p h2.at_p W.heap.size t ht (Row.new W [.int .i64 1, .int .i64 1, .int .i64 t] 55)).mono fun _ _ ⟨q1, q2, q3⟩ => ⟨q1, h2.step q2 h.at_p q3 rfl⟩
theorem St.read {w W1 W : World} {F : Nat → Prop} {p : Nat} {c : CS} (h : St w W1 W F p c) (bl pg x : Int) (l : List Nat) (he : c.read bl pg = (l, x)) :
    Calls Try.prog 19 #[.pointer (some ⟨p, 0, none⟩), .int .i64 bl, .int .i64 pg] W fun e w' => ∃ a m cap, e = .returned (.tuple #[.slice a m cap, .int .i64 x]) ∧ Got W w' l a m cap ∧ St w W1 w' F p c :=
  (read_at' h.lies p h.at_p bl pg x l he).mono fun _ _ ⟨a, m, cap, q1, q2⟩ => ⟨a, m, cap, q1, q2, h.later q2.below⟩
/-- What was read ahead of the cut can still be read. -/
theorem St.was {w W0 W1 W : World} {F : Nat → Prop} {p : Nat} {c c0 : CS} (h0 : St w W0 W0 F p c0) (h : St w W1 W F p c) {l : List Nat} {a : Option Addr} {m cap : Nat} (hg : Got W0 W1 l a m cap) : BRow W a l := by
  rcases hg.row with e | ⟨b, off, e, hc⟩
  · exact .inl e
  · refine .inr ⟨b, off, e, fun i hi => ?_⟩
    rcases hg.fresh with q | q
    · subst q; simp at hi
    · have := hc i hi
      have key : W.cell? ⟨b, off + i, none⟩ = W1.cell? ⟨b, off + i, none⟩ := World.cell?_of_block (w := W1) (h.kept.block b (World.block_lt_of_cell? W1 _ this) (fun hF => by
        have h1 := q b off e
        rw [← h0.foot] at hF
        have := h0.lies.foot_lt hF
        omega))
      rw [key]
      exact this
theorem same_pre {w : World} {a d : Option Addr} {m c1 c2 : Nat} {l data : List Nat} (hm : m = data.length) (hl : data.length ≤ l.length) (hp : l.take data.length = data) (hd : ∀ x ∈ data, x < 256) (ha : BRow w a l) (hb : BRow w d data) :
    Calls Try.prog 22 #[.slice a m c1, .slice d m c2] w fun e w' => e = .returned (.bool true) ∧ w = w' := by
  refine same_at (l := data) w hm hm hd ?_ hb
  rcases ha with e | ⟨b, off, e, hc⟩
  · subst e
    simp at hl
    exact .inl hl
  · refine .inr ⟨b, off, e, fun i hi => ?_⟩
    rw [hc i (by omega), ← hp]
    congr 2
    simp only [List.getD, List.getElem?_take]
    rw [if_pos hi]

set_option maxRecDepth 20000 in
set_option maxHeartbeats 8000000 in
theorem walk_e0 (k : Nat) (a : Option Addr) (m cap : Nat) (data : List Nat) (w : World) (hk : k ≤ 15) (hda : BArg w a m cap data) (hm : m ≤ 128) :
    Calls Try.prog 6 #[.int .i64 k, .slice a m cap, .int .i64 0, .bool true] w fun e w' => e = .returned (.bool true) ∧ Below w.heap.size w w' := by
  have HDA : Hid (BArg w a m cap data) := hda
  have hdl : data.length ≤ 128 := by have := hda.len_eq; omega
  have z1 : ¬ (k : Int) < 0 := by omega
  have z2 : ¬ (15 : Int) < (k : Int) := by omega
  have z3 : ¬ (128 : Int) < (m : Int) := by omega
  have mc : m ≤ cap := hda.le
  clear hda
  go_enter Try.func6, Try.ntmps6
  go_wp2_with (first
    | (go_at_call 18; refine (small_any _).mono ?_; rintro e w1 ⟨rfl, hb1⟩)
    | (go_at_call 8; refine (new_small' w w1 hb1).mono ?_; rintro e w2 ⟨p, q, rs, rfl, hrs, hl2, hb2⟩; have hS2 : St w w2 w2 (smallC p q rs).foot p (smallC p q rs) := ⟨hl2, rfl, rfl, Kept.refl _ _, hb2⟩; have hT2 := ts_small p q rs hrs.out data; clear hl2 hb1 hb2))
  obtain ⟨F, hF⟩ : ∃ F, F = (smallC p q rs).foot := ⟨_, rfl⟩
  rw [← hF] at hS2
  clear hF
  go_loopg [11] k (fun gm i wr => ∃ j : Nat, j ≤ k ∧ gm = k - j ∧ i = .int .i64 j ∧ ∃ c, Hid (St w wr wr F p c) ∧ Hid (TS c p j data))
  case atStart => exact ⟨0, by omega, by omega, rfl, _, hS2, hT2⟩
  case round =>
    obtain ⟨j, hj, rfl, rfl, c, hS, hT⟩ := hrel
    by_cases hlt : j < k
    · obtain ⟨c1, c2, p1, p2, hp1, hT'⟩ := hT.out.step (by omega) hdl
      have P1 : Hid (c.program 2 j data = (0, c1)) := p1
      have P2 : Hid (c1.program 7 j data = (0, c2)) := p2
      have M1 : Hid True := trivial
      have HT' : Hid (TS c2 p (j + 1) data) := hT'
      have hji : (j : Int) < (k : Int) := by omega
      clear p1 p2 hT' hS2 hT2
      go_wp2_with (first
        | (go_at_call 21; clear M1; go_must (refine (hS.out.program 2 j 0 HDA.out P1.out hp1).mono ?_); rintro e w3 ⟨rfl, hS3⟩)
        | (go_at_call 21; go_must (refine (hS3.program 7 j 0 HDA.out P2.out HT'.out.at_p).mono ?_); rintro e w4 ⟨rfl, hS4⟩))
      go_roundg (k - (j + 1))
      case measure => omega
      case rel => exact ⟨j + 1, by omega, rfl, by simp, c2, hS4.fresh, HT'⟩
    · obtain rfl : j = k := by omega
      have hS0 := hS.out
      have hT0 := hT.out
      clear hS hT hS2 hT2 hlt hj
      obtain ⟨b, c1, hfil, hop, haf⟩ := cut_erase hT0 0
      obtain ⟨L, X, hrd⟩ : ∃ L X, c.read 2 0 = (L, X) := ⟨_, _, rfl⟩
      have HRD : Hid (c.read 2 0 = (L, X)) := hrd
      have HOP : Hid ((c.armed 0).erase 2 = (6, c1)) := hop
      obtain ⟨o1, o2, o3, o4⟩ := off_all haf.off 7 0 data
      obtain ⟨_, o5, _, _⟩ := off_all haf.off 7 j data
      have O1 : Hid (c1.read 7 0 = ([], 6)) := o1
      have O3 : Hid (c1.erase 7 = (6, c1)) := o3
      have O4 : Hid (c1.mark 7 = (6, c1)) := o4
      have O5 : Hid (c1.program 7 j data = (6, c1)) := o5
      have HAF : Hid (After c1 p j (b.erased 0)) := haf
      have HFI : Hid (Filled b j data) := hfil
      obtain ⟨P0, hP0⟩ : ∃ P0, b.pgs[0]? = some P0 := ⟨_, List.getElem?_eq_getElem (by rw [hfil.len]; decide)⟩
      obtain ⟨PK, hPK⟩ : ∃ PK, b.pgs[j]? = some PK := ⟨_, List.getElem?_eq_getElem (by rw [hfil.len]; omega)⟩
      have r0 := haf.read 0 P0 hP0
      have rk := haf.read j PK hPK
      have hN : (j : Int) = (b.erased 0).next := hfil.next.symm
      have hP0s : P0.err = 0 ∧ c.read 2 0 = (P0.bytes 128, P0.err) ∧ ∀ x ∈ P0.bytes 128, x < 256 := by
        obtain ⟨b2, e2, f2⟩ := hT0.two
        have hpg : P0 = ⟨1, data⟩ ∨ P0 = ⟨0, []⟩ := by
          by_cases h0 : 0 < j
          · left; have := hfil.done 0 h0; rw [this] at hP0; exact (Option.some.inj hP0).symm
          · right; have := hfil.rest 0 (by omega) (by decide); rw [this] at hP0; exact (Option.some.inj hP0).symm
        have hb2 : b2.pgs[0]? = some P0 := by
          rw [← hP0]
          by_cases h0 : 0 < j
          · rw [f2.done 0 h0, hfil.done 0 h0]
          · rw [f2.rest 0 (by omega) (by decide), hfil.rest 0 (by omega) (by decide)]
        refine ⟨?_, ?_, ?_⟩
        · rcases hpg with e | e <;> rw [e] <;> rfl
        · rw [read_at 2 0 hT0.calm.on e2, if_neg (by decide), show ((0 : Int).toNat) = 0 from rfl, hb2]
          show (P0.bytes c.gz, P0.err) = _
          rw [hT0.gz]
        · have hlt := HDA.out.lt
          rcases hpg with e | e
          · rw [e]; intro x hx
            rcases List.mem_append.1 (show x ∈ data ++ List.replicate (128 - data.length) 255 from hx) with h | h
            · exact hlt x h
            · rw [(List.mem_replicate.1 h).2]; decide
          · rw [e]; intro x hx
            rw [(List.mem_replicate.1 (show x ∈ List.replicate 128 255 from hx)).2]; decide
      have hLX : L = P0.bytes 128 ∧ X = P0.err := by
        have := hrd.symm.trans hP0s.2.1
        simpa using this
      rw [← hLX.1, hP0s.1] at r0
      have HL : Hid (∀ x ∈ L, x < 256) := by rw [hLX.1]; exact hP0s.2.2
      have n2 := haf.next2
      rw [← hN] at n2
      have N2 : Hid _ := n2
      have N7 : Hid _ := haf.next7
      obtain ⟨A0, B0, hAB⟩ : ∃ A0 B0, ({ c1 with on := true } : CS).read 2 0 = (A0, B0) ∧ (A0, B0) = ({ c1 with on := true } : CS).read 2 0 := ⟨_, _, rfl, rfl⟩
      obtain ⟨A1, B1, hAB1⟩ : ∃ A1 B1, ({ c1 with on := true } : CS).read 2 j = (A1, B1) ∧ (A1, B1) = ({ c1 with on := true } : CS).read 2 j := ⟨_, _, rfl, rfl⟩
      have R0 : Hid (({ c1 with on := true } : CS).read 2 0 = (A0, B0)) := hAB.1
      have R1 : Hid (({ c1 with on := true } : CS).read 2 j = (A1, B1)) := hAB1.1
      have ra := hAB.2.trans r0
      have rb := hAB1.2.trans rk
      obtain ⟨rfl, rfl⟩ : L = A0 ∧ B0 = 0 := by simp at ra; exact ⟨ra.1.symm, ra.2⟩
      have HC : Hid (c1.p = p ∧ c1.wrong = 0 ∧ c1.on = false) := ⟨haf.at_p, haf.wrong, haf.off⟩
      clear hrd hop o1 o2 o3 o4 o5 haf hfil r0 rk ra rb hAB hAB1 n2 hN hT0
      clear hP0 hPK hP0s hLX
      have MA : Hid True := trivial
      have MB : Hid True := trivial
      have MC : Hid True := trivial
      have MD : Hid True := trivial
      have ME : Hid True := trivial
      have MG : Hid True := trivial
      have MH : Hid True := trivial
      go_wp2_with (first
        | (go_at_call 19; clear MA; go_must (refine (hS0.read 2 0 X L HRD.out).mono ?_); rintro e w3 ⟨a3, m3, cap3, rfl, hg3, hS3⟩; have hT3 := hS3.fresh; clear hS3)
        | (go_at_call 23; go_must (refine (hT3.arm 0 (by decide)).mono ?_); rintro e w4 ⟨rfl, hS4⟩)
        | (go_at_call 14; clear MB; go_must (refine (hS4.erase 2 6 HOP.out HC.out.1).mono ?_); rintro e w5 ⟨rfl, hS5⟩)
        | (go_at_call 19; clear MC; go_must (refine (hS5.read 7 0 6 [] O1.out).mono ?_); rintro e w6 ⟨a6, m6, cap6, rfl, hg6, hS6⟩)
        | (go_at_call 25; go_must (refine (on_at hS6.lies p hS6.at_p false HC.out.2.2).mono ?_); rintro e w' ⟨rfl, rfl⟩)
        | (go_at_call 21; clear MD; go_must (refine (hS6.program 7 j 6 HDA.out O5.out HC.out.1).mono ?_); rintro e w7 ⟨rfl, hS7⟩)
        | (go_at_call 14; clear ME; go_must (refine (hS7.erase 7 6 O3.out HC.out.1).mono ?_); rintro e w8 ⟨rfl, hS8⟩)
        | (go_at_call 15; go_must (refine (hS8.mark 7 6 O4.out HC.out.1).mono ?_); rintro e w9 ⟨rfl, hS9⟩)
        | (go_at_call 30; go_must (refine hS9.power.mono ?_); rintro e w10 ⟨rfl, hS10⟩)
        | (go_at_call 19; clear MG; go_must (refine (hS10.read 2 0 _ _ R0.out).mono ?_); rintro e w11 ⟨a11, m11, cap11, rfl, hg11, hS11⟩)
        | (go_at_call 19; clear MH; go_must (refine (hS11.read 2 j _ _ R1.out).mono ?_); rintro e w12 ⟨a12, m12, cap12, rfl, hg12, hS12⟩; have MI : Hid True := trivial; have MJ : Hid True := trivial)
        | (go_at_call 20; clear MI; go_must (refine (next_at hS12.lies p hS12.at_p 7 j N7.out).mono ?_); rintro e w' ⟨rfl, rfl⟩)
        | (go_at_call 27; go_must (refine (wrong_at hS12.lies p hS12.at_p 0 HC.out.2.1).mono ?_); rintro e w' ⟨rfl, rfl⟩)
        | (go_at_call 12; go_must (refine (alive_any _).mono ?_); rintro e w13 ⟨rfl, hb13⟩; have hS13 := hS12.later hb13)
        | (go_at_call 20; go_must (refine (next_at hS13.lies p hS13.at_p 2 j N2.out).mono ?_); rintro e w' ⟨rfl, rfl⟩)
        | (go_at_call 22; go_must (refine (same_at _ hg3.len hg11.len HL.out (St.was hS0 hS13 hg3) ((hg11.row.later hg12.below).later hb13)).mono ?_); rintro e w' ⟨rfl, rfl⟩))
      go_ret
      exact ⟨rfl, hS13.below⟩

set_option maxRecDepth 20000 in
set_option maxHeartbeats 8000000 in
theorem walk_e1 (k : Nat) (a : Option Addr) (m cap : Nat) (data : List Nat) (w : World) (hk : k ≤ 15) (hda : BArg w a m cap data) (hm : m ≤ 128) :
    Calls Try.prog 6 #[.int .i64 k, .slice a m cap, .int .i64 1, .bool true] w fun e w' => e = .returned (.bool true) ∧ Below w.heap.size w w' := by
  have HDA : Hid (BArg w a m cap data) := hda
  have hdl : data.length ≤ 128 := by have := hda.len_eq; omega
  have z1 : ¬ (k : Int) < 0 := by omega
  have z2 : ¬ (15 : Int) < (k : Int) := by omega
  have z3 : ¬ (128 : Int) < (m : Int) := by omega
  have mc : m ≤ cap := hda.le
  clear hda
  go_enter Try.func6, Try.ntmps6
  go_wp2_with (first
    | (go_at_call 18; refine (small_any _).mono ?_; rintro e w1 ⟨rfl, hb1⟩)
    | (go_at_call 8; refine (new_small' w w1 hb1).mono ?_; rintro e w2 ⟨p, q, rs, rfl, hrs, hl2, hb2⟩; have hS2 : St w w2 w2 (smallC p q rs).foot p (smallC p q rs) := ⟨hl2, rfl, rfl, Kept.refl _ _, hb2⟩; have hT2 := ts_small p q rs hrs.out data; clear hl2 hb1 hb2))
  obtain ⟨F, hF⟩ : ∃ F, F = (smallC p q rs).foot := ⟨_, rfl⟩
  rw [← hF] at hS2
  clear hF
  go_loopg [11] k (fun gm i wr => ∃ j : Nat, j ≤ k ∧ gm = k - j ∧ i = .int .i64 j ∧ ∃ c, Hid (St w wr wr F p c) ∧ Hid (TS c p j data))
  case atStart => exact ⟨0, by omega, by omega, rfl, _, hS2, hT2⟩
  case round =>
    obtain ⟨j, hj, rfl, rfl, c, hS, hT⟩ := hrel
    by_cases hlt : j < k
    · obtain ⟨c1, c2, p1, p2, hp1, hT'⟩ := hT.out.step (by omega) hdl
      have P1 : Hid (c.program 2 j data = (0, c1)) := p1
      have P2 : Hid (c1.program 7 j data = (0, c2)) := p2
      have M1 : Hid True := trivial
      have HT' : Hid (TS c2 p (j + 1) data) := hT'
      have hji : (j : Int) < (k : Int) := by omega
      clear p1 p2 hT' hS2 hT2
      go_wp2_with (first
        | (go_at_call 21; clear M1; go_must (refine (hS.out.program 2 j 0 HDA.out P1.out hp1).mono ?_); rintro e w3 ⟨rfl, hS3⟩)
        | (go_at_call 21; go_must (refine (hS3.program 7 j 0 HDA.out P2.out HT'.out.at_p).mono ?_); rintro e w4 ⟨rfl, hS4⟩))
      go_roundg (k - (j + 1))
      case measure => omega
      case rel => exact ⟨j + 1, by omega, rfl, by simp, c2, hS4.fresh, HT'⟩
    · obtain rfl : j = k := by omega
      have hS0 := hS.out
      have hT0 := hT.out
      clear hS hT hS2 hT2 hlt hj
      obtain ⟨b, c1, hfil, hop, haf⟩ := cut_erase hT0 1
      obtain ⟨L, X, hrd⟩ : ∃ L X, c.read 2 0 = (L, X) := ⟨_, _, rfl⟩
      have HRD : Hid (c.read 2 0 = (L, X)) := hrd
      have HOP : Hid ((c.armed 1).erase 2 = (6, c1)) := hop
      obtain ⟨o1, o2, o3, o4⟩ := off_all haf.off 7 0 data
      obtain ⟨_, o5, _, _⟩ := off_all haf.off 7 j data
      have O1 : Hid (c1.read 7 0 = ([], 6)) := o1
      have O3 : Hid (c1.erase 7 = (6, c1)) := o3
      have O4 : Hid (c1.mark 7 = (6, c1)) := o4
      have O5 : Hid (c1.program 7 j data = (6, c1)) := o5
      have HAF : Hid (After c1 p j (b.erased 1)) := haf
      have HFI : Hid (Filled b j data) := hfil
      have hpg : ∀ i, i < 16 → (b.erased 1).pgs[i]? = some ⟨2, []⟩ := by
        intro i hi
        show (List.replicate b.pgs.length (⟨2, []⟩ : Pg))[i]? = _
        rw [List.getElem?_replicate, if_pos (by rw [hfil.len]; exact hi)]
      have r0 := haf.read 0 _ (hpg 0 (by decide))
      have rk := haf.read j _ (hpg j (by omega))
      have hN : (16 : Int) = (b.erased 1).next := by show _ = (b.pgs.length : Int); rw [hfil.len]; rfl
      have hon : ({ c1 with on := true } : CS).on = true := rfl
      have f1 : ({ c1 with on := true } : CS).program 2 0 data = (1, { ({ c1 with on := true } : CS) with wrong := wrap64 (c1.wrong + 1) }) := by
        rw [(prog_at hon haf.two).1, if_neg, if_pos]
        · right; rw [← hN]; decide
        · rintro (q | q)
          · exact q ⟨by decide, by show (0 : Int) < (c1.gp : Int); rw [haf.gp]; decide⟩
          · have : c1.gz = 128 := haf.gz
            have q' : c1.gz < data.length := q
            omega
      obtain ⟨c3, hc3⟩ : ∃ c3 : CS, c3 = { ({ c1 with on := true } : CS) with wrong := wrap64 (c1.wrong + 1) } := ⟨_, rfl⟩
      rw [← hc3] at f1
      have hcal3 : Calm c3 := by rw [hc3]; exact ⟨rfl, haf.fs⟩
      have h23 : c3.at 2 = some (b.erased 1) := by rw [hc3]; exact haf.two
      have f2 := erase_ok 2 hcal3.on h23 (show (b.erased 1).bad = false from hfil.bad)
      rw [hcal3.told, hcal3.extent] at f2
      obtain ⟨c4, hc4⟩ : ∃ c4 : CS, c4 = { c3.operated with bks := c3.bks.set (2 : Int).toNat (({ (b.erased 1) with erases := wrap64 ((b.erased 1).erases + 1) } : Bk).erased 2) } := ⟨_, rfl⟩
      rw [← hc4] at f2
      have hcal4 : Calm c4 := by rw [hc4]; exact ⟨hcal3.operated.on, hcal3.operated.fs⟩
      have h24 : c4.at 2 = some (({ (b.erased 1) with erases := wrap64 ((b.erased 1).erases + 1) } : Bk).erased 2) := by rw [hc4, at_op h23, if_pos rfl]
      have f3 := prog_ok 2 0 data hcal4.on h24 (show (b.erased 1).bad = false from hfil.bad) rfl (by rw [hc4, hc3]; show 0 < c1.gp; rw [haf.gp]; decide) (by rw [hc4, hc3]; show _ ≤ c1.gz; rw [haf.gz]; exact hdl)
      rw [hcal4.told] at f3
      have F1 : Hid (({ c1 with on := true } : CS).program 2 0 data = (1, c3)) := f1
      have F2 : Hid (c3.erase 2 = (0, c4)) := f2
      obtain ⟨c5, hc5⟩ : ∃ c5, c4.program 2 0 data = (0, c5) ∧ c5.p = p := ⟨_, f3, by rw [hc4, hc3]; exact haf.at_p⟩
      have F3 : Hid (c4.program 2 0 data = (0, c5)) := hc5.1
      have G3 : Hid (c3.p = p ∧ c4.p = p ∧ c5.p = p) := ⟨by rw [hc3]; exact haf.at_p, by rw [hc4, hc3]; exact haf.at_p, hc5.2⟩
      clear f1 f2 f3 hc3 hc4 hc5 hcal3 hcal4 h23 h24 hpg hon
      have n2 := haf.next2
      rw [← hN] at n2
      have N2 : Hid _ := n2
      have N7 : Hid _ := haf.next7
      obtain ⟨A0, B0, hAB⟩ : ∃ A0 B0, ({ c1 with on := true } : CS).read 2 0 = (A0, B0) ∧ (A0, B0) = ({ c1 with on := true } : CS).read 2 0 := ⟨_, _, rfl, rfl⟩
      obtain ⟨A1, B1, hAB1⟩ : ∃ A1 B1, ({ c1 with on := true } : CS).read 2 j = (A1, B1) ∧ (A1, B1) = ({ c1 with on := true } : CS).read 2 j := ⟨_, _, rfl, rfl⟩
      have R0 : Hid (({ c1 with on := true } : CS).read 2 0 = (A0, B0)) := hAB.1
      have R1 : Hid (({ c1 with on := true } : CS).read 2 j = (A1, B1)) := hAB1.1
      have ra := hAB.2.trans r0
      have rb := hAB1.2.trans rk
      obtain ⟨rfl, rfl⟩ : A0 = [] ∧ B0 = 5 := by simpa [Pg.bytes, Pg.err] using ra
      obtain ⟨rfl, rfl⟩ : A1 = [] ∧ B1 = 5 := by simpa [Pg.bytes, Pg.err] using rb
      have HC : Hid (c1.p = p ∧ c1.wrong = 0 ∧ c1.on = false) := ⟨haf.at_p, haf.wrong, haf.off⟩
      clear hrd hop o1 o2 o3 o4 o5 haf hfil r0 rk ra rb hAB hAB1 n2 hN hT0
      have MA : Hid True := trivial
      have MB : Hid True := trivial
      have MC : Hid True := trivial
      have MD : Hid True := trivial
      have ME : Hid True := trivial
      have MG : Hid True := trivial
      have MH : Hid True := trivial
      go_wp2_with (first
        | (go_at_call 19; clear MA; go_must (refine (hS0.read 2 0 X L HRD.out).mono ?_); rintro e w3 ⟨a3, m3, cap3, rfl, hg3, hS3⟩; have hT3 := hS3.fresh; clear hS3)
        | (go_at_call 23; go_must (refine (hT3.arm 1 (by decide)).mono ?_); rintro e w4 ⟨rfl, hS4⟩)
        | (go_at_call 14; clear MB; go_must (refine (hS4.erase 2 6 HOP.out HC.out.1).mono ?_); rintro e w5 ⟨rfl, hS5⟩)
        | (go_at_call 19; clear MC; go_must (refine (hS5.read 7 0 6 [] O1.out).mono ?_); rintro e w6 ⟨a6, m6, cap6, rfl, hg6, hS6⟩)
        | (go_at_call 25; go_must (refine (on_at hS6.lies p hS6.at_p false HC.out.2.2).mono ?_); rintro e w' ⟨rfl, rfl⟩)
        | (go_at_call 21; clear MD; go_must (refine (hS6.program 7 j 6 HDA.out O5.out HC.out.1).mono ?_); rintro e w7 ⟨rfl, hS7⟩)
        | (go_at_call 14; clear ME; go_must (refine (hS7.erase 7 6 O3.out HC.out.1).mono ?_); rintro e w8 ⟨rfl, hS8⟩)
        | (go_at_call 15; go_must (refine (hS8.mark 7 6 O4.out HC.out.1).mono ?_); rintro e w9 ⟨rfl, hS9⟩)
        | (go_at_call 30; go_must (refine hS9.power.mono ?_); rintro e w10 ⟨rfl, hS10⟩)
        | (go_at_call 19; clear MG; go_must (refine (hS10.read 2 0 _ _ R0.out).mono ?_); rintro e w11 ⟨a11, m11, cap11, rfl, hg11, hS11⟩)
        | (go_at_call 19; clear MH; go_must (refine (hS11.read 2 j _ _ R1.out).mono ?_); rintro e w12 ⟨a12, m12, cap12, rfl, hg12, hS12⟩; have MI : Hid True := trivial; have MJ : Hid True := trivial)
        | (go_at_call 20; clear MI; go_must (refine (next_at hS12.lies p hS12.at_p 7 j N7.out).mono ?_); rintro e w' ⟨rfl, rfl⟩)
        | (go_at_call 27; go_must (refine (wrong_at hS12.lies p hS12.at_p 0 HC.out.2.1).mono ?_); rintro e w' ⟨rfl, rfl⟩)
        | (go_at_call 12; go_must (refine (alive_any _).mono ?_); rintro e w13 ⟨rfl, hb13⟩; have hS13 := hS12.later hb13)
        | (go_at_call 20; go_must (refine (next_at hS13.lies p hS13.at_p 2 16 N2.out).mono ?_); rintro e w' ⟨rfl, rfl⟩)
        | (go_at_call 21; clear MJ; go_must (refine (hS13.program 2 0 1 HDA.out F1.out G3.out.1).mono ?_); rintro e w14 ⟨rfl, hS14⟩)
        | (go_at_call 14; go_must (refine (hS14.erase 2 0 F2.out G3.out.2.1).mono ?_); rintro e w15 ⟨rfl, hS15⟩)
        | (go_at_call 21; go_must (refine (hS15.program 2 0 0 HDA.out F3.out G3.out.2.2).mono ?_); rintro e w16 ⟨rfl, hS16⟩))
      go_ret
      exact ⟨rfl, hS16.below⟩

set_option maxRecDepth 20000 in
set_option maxHeartbeats 8000000 in
theorem walk_e2 (k : Nat) (a : Option Addr) (m cap : Nat) (data : List Nat) (w : World) (hk : k ≤ 15) (hda : BArg w a m cap data) (hm : m ≤ 128) :
    Calls Try.prog 6 #[.int .i64 k, .slice a m cap, .int .i64 2, .bool true] w fun e w' => e = .returned (.bool true) ∧ Below w.heap.size w w' := by
  have HDA : Hid (BArg w a m cap data) := hda
  have hdl : data.length ≤ 128 := by have := hda.len_eq; omega
  have z1 : ¬ (k : Int) < 0 := by omega
  have z2 : ¬ (15 : Int) < (k : Int) := by omega
  have z3 : ¬ (128 : Int) < (m : Int) := by omega
  have mc : m ≤ cap := hda.le
  clear hda
  go_enter Try.func6, Try.ntmps6
  go_wp2_with (first
    | (go_at_call 18; refine (small_any _).mono ?_; rintro e w1 ⟨rfl, hb1⟩)
    | (go_at_call 8; refine (new_small' w w1 hb1).mono ?_; rintro e w2 ⟨p, q, rs, rfl, hrs, hl2, hb2⟩; have hS2 : St w w2 w2 (smallC p q rs).foot p (smallC p q rs) := ⟨hl2, rfl, rfl, Kept.refl _ _, hb2⟩; have hT2 := ts_small p q rs hrs.out data; clear hl2 hb1 hb2))
  obtain ⟨F, hF⟩ : ∃ F, F = (smallC p q rs).foot := ⟨_, rfl⟩
  rw [← hF] at hS2
  clear hF
  go_loopg [11] k (fun gm i wr => ∃ j : Nat, j ≤ k ∧ gm = k - j ∧ i = .int .i64 j ∧ ∃ c, Hid (St w wr wr F p c) ∧ Hid (TS c p j data))
  case atStart => exact ⟨0, by omega, by omega, rfl, _, hS2, hT2⟩
  case round =>
    obtain ⟨j, hj, rfl, rfl, c, hS, hT⟩ := hrel
    by_cases hlt : j < k
    · obtain ⟨c1, c2, p1, p2, hp1, hT'⟩ := hT.out.step (by omega) hdl
      have P1 : Hid (c.program 2 j data = (0, c1)) := p1
      have P2 : Hid (c1.program 7 j data = (0, c2)) := p2
      have M1 : Hid True := trivial
      have HT' : Hid (TS c2 p (j + 1) data) := hT'
      have hji : (j : Int) < (k : Int) := by omega
      clear p1 p2 hT' hS2 hT2
      go_wp2_with (first
        | (go_at_call 21; clear M1; go_must (refine (hS.out.program 2 j 0 HDA.out P1.out hp1).mono ?_); rintro e w3 ⟨rfl, hS3⟩)
        | (go_at_call 21; go_must (refine (hS3.program 7 j 0 HDA.out P2.out HT'.out.at_p).mono ?_); rintro e w4 ⟨rfl, hS4⟩))
      go_roundg (k - (j + 1))
      case measure => omega
      case rel => exact ⟨j + 1, by omega, rfl, by simp, c2, hS4.fresh, HT'⟩
    · obtain rfl : j = k := by omega
      have hS0 := hS.out
      have hT0 := hT.out
      clear hS hT hS2 hT2 hlt hj
      obtain ⟨b, c1, hfil, hop, haf⟩ := cut_erase hT0 2
      obtain ⟨L, X, hrd⟩ : ∃ L X, c.read 2 0 = (L, X) := ⟨_, _, rfl⟩
      have HRD : Hid (c.read 2 0 = (L, X)) := hrd
      have HOP : Hid ((c.armed 2).erase 2 = (6, c1)) := hop
      obtain ⟨o1, o2, o3, o4⟩ := off_all haf.off 7 0 data
      obtain ⟨_, o5, _, _⟩ := off_all haf.off 7 j data
      have O1 : Hid (c1.read 7 0 = ([], 6)) := o1
      have O3 : Hid (c1.erase 7 = (6, c1)) := o3
      have O4 : Hid (c1.mark 7 = (6, c1)) := o4
      have O5 : Hid (c1.program 7 j data = (6, c1)) := o5
      have HAF : Hid (After c1 p j (b.erased 2)) := haf
      have HFI : Hid (Filled b j data) := hfil
      have hpg : ∀ i, i < 16 → (b.erased 2).pgs[i]? = some ⟨0, []⟩ := by
        intro i hi
        show (List.replicate b.pgs.length (⟨0, []⟩ : Pg))[i]? = _
        rw [List.getElem?_replicate, if_pos (by rw [hfil.len]; exact hi)]
      have r0 := haf.read 0 _ (hpg 0 (by decide))
      have rk := haf.read j _ (hpg j (by omega))
      have hN : (0 : Int) = (b.erased 2).next := rfl
      have f3 := prog_ok 2 0 data (c := { c1 with on := true }) rfl haf.two (show b.bad = false from hfil.bad) rfl (by show 0 < c1.gp; rw [haf.gp]; decide) (by show _ ≤ c1.gz; rw [haf.gz]; exact hdl)
      rw [haf.calm.told] at f3
      obtain ⟨c5, hc5⟩ : ∃ c5, ({ c1 with on := true } : CS).program 2 0 data = (0, c5) ∧ c5.p = p := ⟨_, f3, haf.at_p⟩
      have F3 : Hid (({ c1 with on := true } : CS).program 2 0 data = (0, c5)) := hc5.1
      have G3 : Hid (c5.p = p) := hc5.2
      clear f3 hc5 hpg
      have n2 := haf.next2
      rw [← hN] at n2
      have N2 : Hid _ := n2
      have N7 : Hid _ := haf.next7
      obtain ⟨A0, B0, hAB⟩ : ∃ A0 B0, ({ c1 with on := true } : CS).read 2 0 = (A0, B0) ∧ (A0, B0) = ({ c1 with on := true } : CS).read 2 0 := ⟨_, _, rfl, rfl⟩
      obtain ⟨A1, B1, hAB1⟩ : ∃ A1 B1, ({ c1 with on := true } : CS).read 2 j = (A1, B1) ∧ (A1, B1) = ({ c1 with on := true } : CS).read 2 j := ⟨_, _, rfl, rfl⟩
      have R0 : Hid (({ c1 with on := true } : CS).read 2 0 = (A0, B0)) := hAB.1
      have R1 : Hid (({ c1 with on := true } : CS).read 2 j = (A1, B1)) := hAB1.1
      have ra := hAB.2.trans r0
      have rb := hAB1.2.trans rk
      obtain rfl : B0 = 0 := by have := congrArg Prod.snd ra; simpa [Pg.err] using this
      have HC : Hid (c1.p = p ∧ c1.wrong = 0 ∧ c1.on = false) := ⟨haf.at_p, haf.wrong, haf.off⟩
      clear hrd hop o1 o2 o3 o4 o5 haf hfil r0 rk ra rb hAB hAB1 n2 hN hT0
      have MA : Hid True := trivial
      have MB : Hid True := trivial
      have MC : Hid True := trivial
      have MD : Hid True := trivial
      have ME : Hid True := trivial
      have MG : Hid True := trivial
      have MH : Hid True := trivial
      go_wp2_with (first
        | (go_at_call 19; clear MA; go_must (refine (hS0.read 2 0 X L HRD.out).mono ?_); rintro e w3 ⟨a3, m3, cap3, rfl, hg3, hS3⟩; have hT3 := hS3.fresh; clear hS3)
        | (go_at_call 23; go_must (refine (hT3.arm 2 (by decide)).mono ?_); rintro e w4 ⟨rfl, hS4⟩)
        | (go_at_call 14; clear MB; go_must (refine (hS4.erase 2 6 HOP.out HC.out.1).mono ?_); rintro e w5 ⟨rfl, hS5⟩)
        | (go_at_call 19; clear MC; go_must (refine (hS5.read 7 0 6 [] O1.out).mono ?_); rintro e w6 ⟨a6, m6, cap6, rfl, hg6, hS6⟩)
        | (go_at_call 25; go_must (refine (on_at hS6.lies p hS6.at_p false HC.out.2.2).mono ?_); rintro e w' ⟨rfl, rfl⟩)
        | (go_at_call 21; clear MD; go_must (refine (hS6.program 7 j 6 HDA.out O5.out HC.out.1).mono ?_); rintro e w7 ⟨rfl, hS7⟩)
        | (go_at_call 14; clear ME; go_must (refine (hS7.erase 7 6 O3.out HC.out.1).mono ?_); rintro e w8 ⟨rfl, hS8⟩)
        | (go_at_call 15; go_must (refine (hS8.mark 7 6 O4.out HC.out.1).mono ?_); rintro e w9 ⟨rfl, hS9⟩)
        | (go_at_call 30; go_must (refine hS9.power.mono ?_); rintro e w10 ⟨rfl, hS10⟩)
        | (go_at_call 19; clear MG; go_must (refine (hS10.read 2 0 _ _ R0.out).mono ?_); rintro e w11 ⟨a11, m11, cap11, rfl, hg11, hS11⟩)
        | (go_at_call 19; clear MH; go_must (refine (hS11.read 2 j _ _ R1.out).mono ?_); rintro e w12 ⟨a12, m12, cap12, rfl, hg12, hS12⟩; have MI : Hid True := trivial; have MJ : Hid True := trivial)
        | (go_at_call 20; clear MI; go_must (refine (next_at hS12.lies p hS12.at_p 7 j N7.out).mono ?_); rintro e w' ⟨rfl, rfl⟩)
        | (go_at_call 27; go_must (refine (wrong_at hS12.lies p hS12.at_p 0 HC.out.2.1).mono ?_); rintro e w' ⟨rfl, rfl⟩)
        | (go_at_call 12; go_must (refine (alive_any _).mono ?_); rintro e w13 ⟨rfl, hb13⟩; have hS13 := hS12.later hb13)
        | (go_at_call 20; go_must (refine (next_at hS13.lies p hS13.at_p 2 0 N2.out).mono ?_); rintro e w' ⟨rfl, rfl⟩)
        | (go_at_call 21; go_must (refine (hS13.program 2 0 0 HDA.out F3.out G3.out).mono ?_); rintro e w14 ⟨rfl, hS14⟩))
      go_ret
      exact ⟨rfl, hS14.below⟩

set_option maxRecDepth 20000 in
set_option maxHeartbeats 8000000 in
theorem walk_p0 (k : Nat) (a : Option Addr) (m cap : Nat) (data : List Nat) (w : World) (hk : k ≤ 15) (hda : BArg w a m cap data) (hm : m ≤ 128) :
    Calls Try.prog 6 #[.int .i64 k, .slice a m cap, .int .i64 0, .bool false] w fun e w' => e = .returned (.bool true) ∧ Below w.heap.size w w' := by
  have HDA : Hid (BArg w a m cap data) := hda
  have hdl : data.length ≤ 128 := by have := hda.len_eq; omega
  have z1 : ¬ (k : Int) < 0 := by omega
  have z2 : ¬ (15 : Int) < (k : Int) := by omega
  have z3 : ¬ (128 : Int) < (m : Int) := by omega
  have mc : m ≤ cap := hda.le
  clear hda
  go_enter Try.func6, Try.ntmps6
  go_wp2_with (first
    | (go_at_call 18; refine (small_any _).mono ?_; rintro e w1 ⟨rfl, hb1⟩)
    | (go_at_call 8; refine (new_small' w w1 hb1).mono ?_; rintro e w2 ⟨p, q, rs, rfl, hrs, hl2, hb2⟩; have hS2 : St w w2 w2 (smallC p q rs).foot p (smallC p q rs) := ⟨hl2, rfl, rfl, Kept.refl _ _, hb2⟩; have hT2 := ts_small p q rs hrs.out data; clear hl2 hb1 hb2))
  obtain ⟨F, hF⟩ : ∃ F, F = (smallC p q rs).foot := ⟨_, rfl⟩
  rw [← hF] at hS2
  clear hF
  go_loopg [11] k (fun gm i wr => ∃ j : Nat, j ≤ k ∧ gm = k - j ∧ i = .int .i64 j ∧ ∃ c, Hid (St w wr wr F p c) ∧ Hid (TS c p j data))
  case atStart => exact ⟨0, by omega, by omega, rfl, _, hS2, hT2⟩
  case round =>
    obtain ⟨j, hj, rfl, rfl, c, hS, hT⟩ := hrel
    by_cases hlt : j < k
    · obtain ⟨c1, c2, p1, p2, hp1, hT'⟩ := hT.out.step (by omega) hdl
      have P1 : Hid (c.program 2 j data = (0, c1)) := p1
      have P2 : Hid (c1.program 7 j data = (0, c2)) := p2
      have M1 : Hid True := trivial
      have HT' : Hid (TS c2 p (j + 1) data) := hT'
      have hji : (j : Int) < (k : Int) := by omega
      clear p1 p2 hT' hS2 hT2
      go_wp2_with (first
        | (go_at_call 21; clear M1; go_must (refine (hS.out.program 2 j 0 HDA.out P1.out hp1).mono ?_); rintro e w3 ⟨rfl, hS3⟩)
        | (go_at_call 21; go_must (refine (hS3.program 7 j 0 HDA.out P2.out HT'.out.at_p).mono ?_); rintro e w4 ⟨rfl, hS4⟩))
      go_roundg (k - (j + 1))
      case measure => omega
      case rel => exact ⟨j + 1, by omega, rfl, by simp, c2, hS4.fresh, HT'⟩
    · obtain rfl : j = k := by omega
      have hS0 := hS.out
      have hT0 := hT.out
      clear hS hT hS2 hT2 hlt hj
      obtain ⟨b, c1, hfil, hop, haf⟩ := cut_program hT0 0 (by omega) hdl
      obtain ⟨L, X, hrd⟩ : ∃ L X, c.read 2 0 = (L, X) := ⟨_, _, rfl⟩
      have HRD : Hid (c.read 2 0 = (L, X)) := hrd
      have HOP : Hid ((c.armed 0).program 2 j data = (6, c1)) := hop
      obtain ⟨o1, o2, o3, o4⟩ := off_all haf.off 7 0 data
      obtain ⟨_, o5, _, _⟩ := off_all haf.off 7 j data
      have O1 : Hid (c1.read 7 0 = ([], 6)) := o1
      have O3 : Hid (c1.erase 7 = (6, c1)) := o3
      have O4 : Hid (c1.mark 7 = (6, c1)) := o4
      have O5 : Hid (c1.program 7 j data = (6, c1)) := o5
      have HAF : Hid (After c1 p j (b.programmed data 0)) := haf
      have HFI : Hid (Filled b j data) := hfil
      obtain ⟨P0, hP0⟩ : ∃ P0, b.pgs[0]? = some P0 := ⟨_, List.getElem?_eq_getElem (by rw [hfil.len]; decide)⟩
      obtain ⟨PK, hPK⟩ : ∃ PK, b.pgs[j]? = some PK := ⟨_, List.getElem?_eq_getElem (by rw [hfil.len]; omega)⟩
      have r0 := haf.read 0 P0 hP0
      have rk := haf.read j PK hPK
      have hN : (j : Int) = (b.programmed data 0).next := hfil.next.symm
      have hP0s : P0.err = 0 ∧ c.read 2 0 = (P0.bytes 128, P0.err) ∧ ∀ x ∈ P0.bytes 128, x < 256 := by
        obtain ⟨b2, e2, f2⟩ := hT0.two
        have hpg : P0 = ⟨1, data⟩ ∨ P0 = ⟨0, []⟩ := by
          by_cases h0 : 0 < j
          · left; have := hfil.done 0 h0; rw [this] at hP0; exact (Option.some.inj hP0).symm
          · right; have := hfil.rest 0 (by omega) (by decide); rw [this] at hP0; exact (Option.some.inj hP0).symm
        have hb2 : b2.pgs[0]? = some P0 := by
          rw [← hP0]
          by_cases h0 : 0 < j
          · rw [f2.done 0 h0, hfil.done 0 h0]
          · rw [f2.rest 0 (by omega) (by decide), hfil.rest 0 (by omega) (by decide)]
        refine ⟨?_, ?_, ?_⟩
        · rcases hpg with e | e <;> rw [e] <;> rfl
        · rw [read_at 2 0 hT0.calm.on e2, if_neg (by decide), show ((0 : Int).toNat) = 0 from rfl, hb2]
          show (P0.bytes c.gz, P0.err) = _
          rw [hT0.gz]
        · have hlt := HDA.out.lt
          rcases hpg with e | e
          · rw [e]; intro x hx
            rcases List.mem_append.1 (show x ∈ data ++ List.replicate (128 - data.length) 255 from hx) with h | h
            · exact hlt x h
            · rw [(List.mem_replicate.1 h).2]; decide
          · rw [e]; intro x hx
            rw [(List.mem_replicate.1 (show x ∈ List.replicate 128 255 from hx)).2]; decide
      have hLX : L = P0.bytes 128 ∧ X = P0.err := by
        have := hrd.symm.trans hP0s.2.1
        simpa using this
      rw [← hLX.1, hP0s.1] at r0
      have HL : Hid (∀ x ∈ L, x < 256) := by rw [hLX.1]; exact hP0s.2.2
      have n2 := haf.next2
      rw [← hN] at n2
      have N2 : Hid _ := n2
      have N7 : Hid _ := haf.next7
      obtain ⟨A0, B0, hAB⟩ : ∃ A0 B0, ({ c1 with on := true } : CS).read 2 0 = (A0, B0) ∧ (A0, B0) = ({ c1 with on := true } : CS).read 2 0 := ⟨_, _, rfl, rfl⟩
      obtain ⟨A1, B1, hAB1⟩ : ∃ A1 B1, ({ c1 with on := true } : CS).read 2 j = (A1, B1) ∧ (A1, B1) = ({ c1 with on := true } : CS).read 2 j := ⟨_, _, rfl, rfl⟩
      have R0 : Hid (({ c1 with on := true } : CS).read 2 0 = (A0, B0)) := hAB.1
      have R1 : Hid (({ c1 with on := true } : CS).read 2 j = (A1, B1)) := hAB1.1
      have ra := hAB.2.trans r0
      have rb := hAB1.2.trans rk
      obtain ⟨rfl, rfl⟩ : L = A0 ∧ B0 = 0 := by simp at ra; exact ⟨ra.1.symm, ra.2⟩
      have HC : Hid (c1.p = p ∧ c1.wrong = 0 ∧ c1.on = false) := ⟨haf.at_p, haf.wrong, haf.off⟩
      clear hrd hop o1 o2 o3 o4 o5 haf hfil r0 rk ra rb hAB hAB1 n2 hN hT0
      clear hP0 hPK hP0s hLX
      have MA : Hid True := trivial
      have MB : Hid True := trivial
      have MC : Hid True := trivial
      have MD : Hid True := trivial
      have ME : Hid True := trivial
      have MG : Hid True := trivial
      have MH : Hid True := trivial
      go_wp2_with (first
        | (go_at_call 19; clear MA; go_must (refine (hS0.read 2 0 X L HRD.out).mono ?_); rintro e w3 ⟨a3, m3, cap3, rfl, hg3, hS3⟩; have hT3 := hS3.fresh; clear hS3)
        | (go_at_call 23; go_must (refine (hT3.arm 0 (by decide)).mono ?_); rintro e w4 ⟨rfl, hS4⟩)
        | (go_at_call 21; clear MB; go_must (refine (hS4.program 2 j 6 HDA.out HOP.out HC.out.1).mono ?_); rintro e w5 ⟨rfl, hS5⟩)
        | (go_at_call 19; clear MC; go_must (refine (hS5.read 7 0 6 [] O1.out).mono ?_); rintro e w6 ⟨a6, m6, cap6, rfl, hg6, hS6⟩)
        | (go_at_call 25; go_must (refine (on_at hS6.lies p hS6.at_p false HC.out.2.2).mono ?_); rintro e w' ⟨rfl, rfl⟩)
        | (go_at_call 21; clear MD; go_must (refine (hS6.program 7 j 6 HDA.out O5.out HC.out.1).mono ?_); rintro e w7 ⟨rfl, hS7⟩)
        | (go_at_call 14; clear ME; go_must (refine (hS7.erase 7 6 O3.out HC.out.1).mono ?_); rintro e w8 ⟨rfl, hS8⟩)
        | (go_at_call 15; go_must (refine (hS8.mark 7 6 O4.out HC.out.1).mono ?_); rintro e w9 ⟨rfl, hS9⟩)
        | (go_at_call 30; go_must (refine hS9.power.mono ?_); rintro e w10 ⟨rfl, hS10⟩)
        | (go_at_call 19; clear MG; go_must (refine (hS10.read 2 0 _ _ R0.out).mono ?_); rintro e w11 ⟨a11, m11, cap11, rfl, hg11, hS11⟩)
        | (go_at_call 19; clear MH; go_must (refine (hS11.read 2 j _ _ R1.out).mono ?_); rintro e w12 ⟨a12, m12, cap12, rfl, hg12, hS12⟩; have MI : Hid True := trivial; have MJ : Hid True := trivial)
        | (go_at_call 20; clear MI; go_must (refine (next_at hS12.lies p hS12.at_p 7 j N7.out).mono ?_); rintro e w' ⟨rfl, rfl⟩)
        | (go_at_call 27; go_must (refine (wrong_at hS12.lies p hS12.at_p 0 HC.out.2.1).mono ?_); rintro e w' ⟨rfl, rfl⟩)
        | (go_at_call 12; go_must (refine (alive_any _).mono ?_); rintro e w13 ⟨rfl, hb13⟩; have hS13 := hS12.later hb13)
        | (go_at_call 20; go_must (refine (next_at hS13.lies p hS13.at_p 2 j N2.out).mono ?_); rintro e w' ⟨rfl, rfl⟩)
        | (go_at_call 22; go_must (refine (same_at _ hg3.len hg11.len HL.out (St.was hS0 hS13 hg3) ((hg11.row.later hg12.below).later hb13)).mono ?_); rintro e w' ⟨rfl, rfl⟩))
      go_ret
      exact ⟨rfl, hS13.below⟩

set_option maxRecDepth 20000 in
set_option maxHeartbeats 8000000 in
theorem walk_p1 (k : Nat) (a : Option Addr) (m cap : Nat) (data : List Nat) (w : World) (hk : k ≤ 15) (hda : BArg w a m cap data) (hm : m ≤ 128) :
    Calls Try.prog 6 #[.int .i64 k, .slice a m cap, .int .i64 1, .bool false] w fun e w' => e = .returned (.bool true) ∧ Below w.heap.size w w' := by
  have HDA : Hid (BArg w a m cap data) := hda
  have hdl : data.length ≤ 128 := by have := hda.len_eq; omega
  have z1 : ¬ (k : Int) < 0 := by omega
  have z2 : ¬ (15 : Int) < (k : Int) := by omega
  have z3 : ¬ (128 : Int) < (m : Int) := by omega
  have mc : m ≤ cap := hda.le
  clear hda
  go_enter Try.func6, Try.ntmps6
  go_wp2_with (first
    | (go_at_call 18; refine (small_any _).mono ?_; rintro e w1 ⟨rfl, hb1⟩)
    | (go_at_call 8; refine (new_small' w w1 hb1).mono ?_; rintro e w2 ⟨p, q, rs, rfl, hrs, hl2, hb2⟩; have hS2 : St w w2 w2 (smallC p q rs).foot p (smallC p q rs) := ⟨hl2, rfl, rfl, Kept.refl _ _, hb2⟩; have hT2 := ts_small p q rs hrs.out data; clear hl2 hb1 hb2))
  obtain ⟨F, hF⟩ : ∃ F, F = (smallC p q rs).foot := ⟨_, rfl⟩
  rw [← hF] at hS2
  clear hF
  go_loopg [11] k (fun gm i wr => ∃ j : Nat, j ≤ k ∧ gm = k - j ∧ i = .int .i64 j ∧ ∃ c, Hid (St w wr wr F p c) ∧ Hid (TS c p j data))
  case atStart => exact ⟨0, by omega, by omega, rfl, _, hS2, hT2⟩
  case round =>
    obtain ⟨j, hj, rfl, rfl, c, hS, hT⟩ := hrel
    by_cases hlt : j < k
    · obtain ⟨c1, c2, p1, p2, hp1, hT'⟩ := hT.out.step (by omega) hdl
      have P1 : Hid (c.program 2 j data = (0, c1)) := p1
      have P2 : Hid (c1.program 7 j data = (0, c2)) := p2
      have M1 : Hid True := trivial
      have HT' : Hid (TS c2 p (j + 1) data) := hT'
      have hji : (j : Int) < (k : Int) := by omega
      clear p1 p2 hT' hS2 hT2
      go_wp2_with (first
        | (go_at_call 21; clear M1; go_must (refine (hS.out.program 2 j 0 HDA.out P1.out hp1).mono ?_); rintro e w3 ⟨rfl, hS3⟩)
        | (go_at_call 21; go_must (refine (hS3.program 7 j 0 HDA.out P2.out HT'.out.at_p).mono ?_); rintro e w4 ⟨rfl, hS4⟩))
      go_roundg (k - (j + 1))
      case measure => omega
      case rel => exact ⟨j + 1, by omega, rfl, by simp, c2, hS4.fresh, HT'⟩
    · obtain rfl : j = k := by omega
      have hS0 := hS.out
      have hT0 := hT.out
      clear hS hT hS2 hT2 hlt hj
      obtain ⟨b, c1, hfil, hop, haf⟩ := cut_program hT0 1 (by omega) hdl
      obtain ⟨L, X, hrd⟩ : ∃ L X, c.read 2 0 = (L, X) := ⟨_, _, rfl⟩
      have HRD : Hid (c.read 2 0 = (L, X)) := hrd
      have HOP : Hid ((c.armed 1).program 2 j data = (6, c1)) := hop
      obtain ⟨o1, o2, o3, o4⟩ := off_all haf.off 7 0 data
      obtain ⟨_, o5, _, _⟩ := off_all haf.off 7 j data
      have O1 : Hid (c1.read 7 0 = ([], 6)) := o1
      have O3 : Hid (c1.erase 7 = (6, c1)) := o3
      have O4 : Hid (c1.mark 7 = (6, c1)) := o4
      have O5 : Hid (c1.program 7 j data = (6, c1)) := o5
      have HAF : Hid (After c1 p j (b.programmed data 1)) := haf
      have HFI : Hid (Filled b j data) := hfil
      have hnt : b.next.toNat = j := by rw [hfil.next]; rfl
      have hpk : (b.programmed data 1).pgs[j]? = some ⟨2, []⟩ := by
        show (b.pgs.set b.next.toNat ⟨2, []⟩)[j]? = _
        rw [hnt]; exact List.getElem?_set_self (by rw [hfil.len]; omega)
      obtain ⟨P0, hP0⟩ : ∃ P0, (b.programmed data 1).pgs[0]? = some P0 := ⟨_, List.getElem?_eq_getElem (by show 0 < (b.pgs.set b.next.toNat ⟨2, []⟩).length; rw [List.length_set, hfil.len]; decide)⟩
      have r0 := haf.read 0 P0 hP0
      have rk := haf.read j _ hpk
      have hN : (j : Int) + 1 = (b.programmed data 1).next := by show _ = b.next + 1; rw [hfil.next]
      have n2 := haf.next2
      rw [← hN] at n2
      have N2 : Hid _ := n2
      have N7 : Hid _ := haf.next7
      obtain ⟨A0, B0, hAB⟩ : ∃ A0 B0, ({ c1 with on := true } : CS).read 2 0 = (A0, B0) ∧ (A0, B0) = ({ c1 with on := true } : CS).read 2 0 := ⟨_, _, rfl, rfl⟩
      obtain ⟨A1, B1, hAB1⟩ : ∃ A1 B1, ({ c1 with on := true } : CS).read 2 j = (A1, B1) ∧ (A1, B1) = ({ c1 with on := true } : CS).read 2 j := ⟨_, _, rfl, rfl⟩
      have R0 : Hid (({ c1 with on := true } : CS).read 2 0 = (A0, B0)) := hAB.1
      have R1 : Hid (({ c1 with on := true } : CS).read 2 j = (A1, B1)) := hAB1.1
      have ra := hAB.2.trans r0
      have rb := hAB1.2.trans rk
      obtain rfl : B1 = 5 := by have := congrArg Prod.snd rb; simpa [Pg.err] using this
      have HC : Hid (c1.p = p ∧ c1.wrong = 0 ∧ c1.on = false) := ⟨haf.at_p, haf.wrong, haf.off⟩
      clear hrd hop o1 o2 o3 o4 o5 haf hfil r0 rk ra rb hAB hAB1 n2 hN hT0
      clear hP0 hpk hnt
      have hwj : wrap64 ((j : Int) + 1) = (j : Int) + 1 := by unfold wrap64; omega
      have MA : Hid True := trivial
      have MB : Hid True := trivial
      have MC : Hid True := trivial
      have MD : Hid True := trivial
      have ME : Hid True := trivial
      have MG : Hid True := trivial
      have MH : Hid True := trivial
      go_wp2_with (first
        | (go_at_call 19; clear MA; go_must (refine (hS0.read 2 0 X L HRD.out).mono ?_); rintro e w3 ⟨a3, m3, cap3, rfl, hg3, hS3⟩; have hT3 := hS3.fresh; clear hS3)
        | (go_at_call 23; go_must (refine (hT3.arm 1 (by decide)).mono ?_); rintro e w4 ⟨rfl, hS4⟩)
        | (go_at_call 21; clear MB; go_must (refine (hS4.program 2 j 6 HDA.out HOP.out HC.out.1).mono ?_); rintro e w5 ⟨rfl, hS5⟩)
        | (go_at_call 19; clear MC; go_must (refine (hS5.read 7 0 6 [] O1.out).mono ?_); rintro e w6 ⟨a6, m6, cap6, rfl, hg6, hS6⟩)
        | (go_at_call 25; go_must (refine (on_at hS6.lies p hS6.at_p false HC.out.2.2).mono ?_); rintro e w' ⟨rfl, rfl⟩)
        | (go_at_call 21; clear MD; go_must (refine (hS6.program 7 j 6 HDA.out O5.out HC.out.1).mono ?_); rintro e w7 ⟨rfl, hS7⟩)
        | (go_at_call 14; clear ME; go_must (refine (hS7.erase 7 6 O3.out HC.out.1).mono ?_); rintro e w8 ⟨rfl, hS8⟩)
        | (go_at_call 15; go_must (refine (hS8.mark 7 6 O4.out HC.out.1).mono ?_); rintro e w9 ⟨rfl, hS9⟩)
        | (go_at_call 30; go_must (refine hS9.power.mono ?_); rintro e w10 ⟨rfl, hS10⟩)
        | (go_at_call 19; clear MG; go_must (refine (hS10.read 2 0 _ _ R0.out).mono ?_); rintro e w11 ⟨a11, m11, cap11, rfl, hg11, hS11⟩)
        | (go_at_call 19; clear MH; go_must (refine (hS11.read 2 j _ _ R1.out).mono ?_); rintro e w12 ⟨a12, m12, cap12, rfl, hg12, hS12⟩; have MI : Hid True := trivial; have MJ : Hid True := trivial)
        | (go_at_call 20; clear MI; go_must (refine (next_at hS12.lies p hS12.at_p 7 j N7.out).mono ?_); rintro e w' ⟨rfl, rfl⟩)
        | (go_at_call 27; go_must (refine (wrong_at hS12.lies p hS12.at_p 0 HC.out.2.1).mono ?_); rintro e w' ⟨rfl, rfl⟩)
        | (go_at_call 12; go_must (refine (alive_any _).mono ?_); rintro e w13 ⟨rfl, hb13⟩; have hS13 := hS12.later hb13)
        | (go_at_call 20; go_must (refine (next_at hS13.lies p hS13.at_p 2 ((j : Int) + 1) N2.out).mono ?_); rintro e w' ⟨rfl, rfl⟩))
      go_ret
      exact ⟨rfl, hS13.below⟩

set_option maxRecDepth 20000 in
set_option maxHeartbeats 8000000 in
theorem walk_p2 (k : Nat) (a : Option Addr) (m cap : Nat) (data : List Nat) (w : World) (hk : k ≤ 15) (hda : BArg w a m cap data) (hm : m ≤ 128) :
    Calls Try.prog 6 #[.int .i64 k, .slice a m cap, .int .i64 2, .bool false] w fun e w' => e = .returned (.bool true) ∧ Below w.heap.size w w' := by
  have HDA : Hid (BArg w a m cap data) := hda
  have hdl : data.length ≤ 128 := by have := hda.len_eq; omega
  have z1 : ¬ (k : Int) < 0 := by omega
  have z2 : ¬ (15 : Int) < (k : Int) := by omega
  have z3 : ¬ (128 : Int) < (m : Int) := by omega
  have mc : m ≤ cap := hda.le
  clear hda
  go_enter Try.func6, Try.ntmps6
  go_wp2_with (first
    | (go_at_call 18; refine (small_any _).mono ?_; rintro e w1 ⟨rfl, hb1⟩)
    | (go_at_call 8; refine (new_small' w w1 hb1).mono ?_; rintro e w2 ⟨p, q, rs, rfl, hrs, hl2, hb2⟩; have hS2 : St w w2 w2 (smallC p q rs).foot p (smallC p q rs) := ⟨hl2, rfl, rfl, Kept.refl _ _, hb2⟩; have hT2 := ts_small p q rs hrs.out data; clear hl2 hb1 hb2))
  obtain ⟨F, hF⟩ : ∃ F, F = (smallC p q rs).foot := ⟨_, rfl⟩
  rw [← hF] at hS2
  clear hF
  go_loopg [11] k (fun gm i wr => ∃ j : Nat, j ≤ k ∧ gm = k - j ∧ i = .int .i64 j ∧ ∃ c, Hid (St w wr wr F p c) ∧ Hid (TS c p j data))
  case atStart => exact ⟨0, by omega, by omega, rfl, _, hS2, hT2⟩
  case round =>
    obtain ⟨j, hj, rfl, rfl, c, hS, hT⟩ := hrel
    by_cases hlt : j < k
    · obtain ⟨c1, c2, p1, p2, hp1, hT'⟩ := hT.out.step (by omega) hdl
      have P1 : Hid (c.program 2 j data = (0, c1)) := p1
      have P2 : Hid (c1.program 7 j data = (0, c2)) := p2
      have M1 : Hid True := trivial
      have HT' : Hid (TS c2 p (j + 1) data) := hT'
      have hji : (j : Int) < (k : Int) := by omega
      clear p1 p2 hT' hS2 hT2
      go_wp2_with (first
        | (go_at_call 21; clear M1; go_must (refine (hS.out.program 2 j 0 HDA.out P1.out hp1).mono ?_); rintro e w3 ⟨rfl, hS3⟩)
        | (go_at_call 21; go_must (refine (hS3.program 7 j 0 HDA.out P2.out HT'.out.at_p).mono ?_); rintro e w4 ⟨rfl, hS4⟩))
      go_roundg (k - (j + 1))
      case measure => omega
      case rel => exact ⟨j + 1, by omega, rfl, by simp, c2, hS4.fresh, HT'⟩
    · obtain rfl : j = k := by omega
      have hS0 := hS.out
      have hT0 := hT.out
      clear hS hT hS2 hT2 hlt hj
      obtain ⟨b, c1, hfil, hop, haf⟩ := cut_program hT0 2 (by omega) hdl
      obtain ⟨L, X, hrd⟩ : ∃ L X, c.read 2 0 = (L, X) := ⟨_, _, rfl⟩
      have HRD : Hid (c.read 2 0 = (L, X)) := hrd
      have HOP : Hid ((c.armed 2).program 2 j data = (6, c1)) := hop
      obtain ⟨o1, o2, o3, o4⟩ := off_all haf.off 7 0 data
      obtain ⟨_, o5, _, _⟩ := off_all haf.off 7 j data
      have O1 : Hid (c1.read 7 0 = ([], 6)) := o1
      have O3 : Hid (c1.erase 7 = (6, c1)) := o3
      have O4 : Hid (c1.mark 7 = (6, c1)) := o4
      have O5 : Hid (c1.program 7 j data = (6, c1)) := o5
      have HAF : Hid (After c1 p j (b.programmed data 2)) := haf
      have HFI : Hid (Filled b j data) := hfil
      have hnt : b.next.toNat = j := by rw [hfil.next]; rfl
      have hpk : (b.programmed data 2).pgs[j]? = some ⟨1, data⟩ := by
        show (b.pgs.set b.next.toNat ⟨1, data⟩)[j]? = _
        rw [hnt]; exact List.getElem?_set_self (by rw [hfil.len]; omega)
      obtain ⟨P0, hP0⟩ : ∃ P0, (b.programmed data 2).pgs[0]? = some P0 := ⟨_, List.getElem?_eq_getElem (by show 0 < (b.pgs.set b.next.toNat ⟨1, data⟩).length; rw [List.length_set, hfil.len]; decide)⟩
      have r0 := haf.read 0 P0 hP0
      have rk := haf.read j _ hpk
      have hN : (j : Int) + 1 = (b.programmed data 2).next := by show _ = b.next + 1; rw [hfil.next]
      have HPL : Hid ((⟨1, data⟩ : Pg).bytes 128 = data ++ List.replicate (128 - data.length) 255) := rfl
      have hlen : ((⟨1, data⟩ : Pg).bytes 128).length = 128 := by show (data ++ List.replicate (128 - data.length) 255).length = 128; simp; omega
      have HPL2 : Hid (((⟨1, data⟩ : Pg).bytes 128).length = 128) := hlen
      clear hlen
      have n2 := haf.next2
      rw [← hN] at n2
      have N2 : Hid _ := n2
      have N7 : Hid _ := haf.next7
      obtain ⟨A0, B0, hAB⟩ : ∃ A0 B0, ({ c1 with on := true } : CS).read 2 0 = (A0, B0) ∧ (A0, B0) = ({ c1 with on := true } : CS).read 2 0 := ⟨_, _, rfl, rfl⟩
      obtain ⟨A1, B1, hAB1⟩ : ∃ A1 B1, ({ c1 with on := true } : CS).read 2 j = (A1, B1) ∧ (A1, B1) = ({ c1 with on := true } : CS).read 2 j := ⟨_, _, rfl, rfl⟩
      have R0 : Hid (({ c1 with on := true } : CS).read 2 0 = (A0, B0)) := hAB.1
      have R1 : Hid (({ c1 with on := true } : CS).read 2 j = (A1, B1)) := hAB1.1
      have ra := hAB.2.trans r0
      have rb := hAB1.2.trans rk
      obtain rfl : B1 = 0 := by have := congrArg Prod.snd rb; simpa [Pg.err] using this
      obtain rfl : A1 = (⟨1, data⟩ : Pg).bytes 128 := by have := congrArg Prod.fst rb; simpa using this
      have HC : Hid (c1.p = p ∧ c1.wrong = 0 ∧ c1.on = false) := ⟨haf.at_p, haf.wrong, haf.off⟩
      clear hrd hop o1 o2 o3 o4 o5 haf hfil r0 rk ra rb hAB hAB1 n2 hN hT0
      clear hP0 hpk hnt
      have hwj : wrap64 ((j : Int) + 1) = (j : Int) + 1 := by unfold wrap64; omega
      have MA : Hid True := trivial
      have MB : Hid True := trivial
      have MC : Hid True := trivial
      have MD : Hid True := trivial
      have ME : Hid True := trivial
      have MG : Hid True := trivial
      have MH : Hid True := trivial
      go_wp2_with (first
        | (go_at_call 19; clear MA; go_must (refine (hS0.read 2 0 X L HRD.out).mono ?_); rintro e w3 ⟨a3, m3, cap3, rfl, hg3, hS3⟩; have hT3 := hS3.fresh; clear hS3)
        | (go_at_call 23; go_must (refine (hT3.arm 2 (by decide)).mono ?_); rintro e w4 ⟨rfl, hS4⟩)
        | (go_at_call 21; clear MB; go_must (refine (hS4.program 2 j 6 HDA.out HOP.out HC.out.1).mono ?_); rintro e w5 ⟨rfl, hS5⟩)
        | (go_at_call 19; clear MC; go_must (refine (hS5.read 7 0 6 [] O1.out).mono ?_); rintro e w6 ⟨a6, m6, cap6, rfl, hg6, hS6⟩)
        | (go_at_call 25; go_must (refine (on_at hS6.lies p hS6.at_p false HC.out.2.2).mono ?_); rintro e w' ⟨rfl, rfl⟩)
        | (go_at_call 21; clear MD; go_must (refine (hS6.program 7 j 6 HDA.out O5.out HC.out.1).mono ?_); rintro e w7 ⟨rfl, hS7⟩)
        | (go_at_call 14; clear ME; go_must (refine (hS7.erase 7 6 O3.out HC.out.1).mono ?_); rintro e w8 ⟨rfl, hS8⟩)
        | (go_at_call 15; go_must (refine (hS8.mark 7 6 O4.out HC.out.1).mono ?_); rintro e w9 ⟨rfl, hS9⟩)
        | (go_at_call 30; go_must (refine hS9.power.mono ?_); rintro e w10 ⟨rfl, hS10⟩)
        | (go_at_call 19; clear MG; go_must (refine (hS10.read 2 0 _ _ R0.out).mono ?_); rintro e w11 ⟨a11, m11, cap11, rfl, hg11, hS11⟩)
        | (go_at_call 19; clear MH; go_must (refine (hS11.read 2 j _ _ R1.out).mono ?_); rintro e w12 ⟨a12, m12, cap12, rfl, hg12, hS12⟩; have MI : Hid True := trivial; have MJ : Hid True := trivial)
        | (go_at_call 20; clear MI; go_must (refine (next_at hS12.lies p hS12.at_p 7 j N7.out).mono ?_); rintro e w' ⟨rfl, rfl⟩)
        | (go_at_call 27; go_must (refine (wrong_at hS12.lies p hS12.at_p 0 HC.out.2.1).mono ?_); rintro e w' ⟨rfl, rfl⟩)
        | (go_at_call 12; go_must (refine (alive_any _).mono ?_); rintro e w13 ⟨rfl, hb13⟩; have hS13 := hS12.later hb13)
        | (go_at_call 19; go_must (refine (hS13.read 2 j _ _ R1.out).mono ?_); rintro e w14 ⟨a14, m14, cap14, rfl, hg14, hS14⟩; have hm14 : m14 = 128 := hg14.len.trans HPL2.out; subst hm14; have hc14 := hg14.fits; have hc15 := hg14.most; have hg14' : Hid _ := hg14; clear hg14)
        | (go_at_call 20; go_must (refine (next_at hS14.lies p hS14.at_p 2 ((j : Int) + 1) N2.out).mono ?_); rintro e w' ⟨rfl, rfl⟩)
        | (go_at_call 22; go_must (refine (same_pre HDA.out.len_eq (by rw [HPL2.out]; exact hdl) (by rw [HPL.out]; simp) HDA.out.lt hg14'.out.row (barg_row HDA.out hS14.below)).mono ?_); rintro e w' ⟨rfl, rfl⟩))
      go_ret
      exact ⟨rfl, hS14.below⟩

set_option maxRecDepth 20000 in
set_option maxHeartbeats 4000000 in
theorem walk_out (pages : Int) (a : Option Addr) (m cap : Nat) (torn : Int) (er : Bool) (w : World) (h : ¬ (0 ≤ pages ∧ pages ≤ 15 ∧ m ≤ 128 ∧ 0 ≤ torn ∧ torn ≤ 2)) :
    Calls Try.prog 6 #[.int .i64 pages, .slice a m cap, .int .i64 torn, .bool er] w fun e w' => e = .returned (.bool true) ∧ Below w.heap.size w w' := by
  by_cases h1 : pages < 0
  · clear h
    go_enter Try.func6, Try.ntmps6
    go_wp2_with (first
      | (go_at_call 18; refine (small_any _).mono ?_; rintro e w1 ⟨rfl, hb1⟩)
      | (go_at_call 8; refine (new_small' w w1 hb1).mono ?_; rintro e w2 ⟨p, q, rs, rfl, hrs, hl2, hb2⟩)
      | (go_at_call 12; refine (alive_any _).mono ?_; rintro e w3 ⟨rfl, hb3⟩))
    go_ret
    exact ⟨rfl, Below.after hb2 hb3⟩
  · by_cases h2 : 15 < pages
    · clear h
      go_enter Try.func6, Try.ntmps6
      go_wp2_with (first
        | (go_at_call 18; refine (small_any _).mono ?_; rintro e w1 ⟨rfl, hb1⟩)
        | (go_at_call 8; refine (new_small' w w1 hb1).mono ?_; rintro e w2 ⟨p, q, rs, rfl, hrs, hl2, hb2⟩)
        | (go_at_call 12; refine (alive_any _).mono ?_; rintro e w3 ⟨rfl, hb3⟩))
      go_ret
      exact ⟨rfl, Below.after hb2 hb3⟩
    · by_cases h3 : 128 < m
      · have h3' : (128 : Int) < (m : Int) := by omega
        clear h
        go_enter Try.func6, Try.ntmps6
        go_wp2_with (first
          | (go_at_call 18; refine (small_any _).mono ?_; rintro e w1 ⟨rfl, hb1⟩)
          | (go_at_call 8; refine (new_small' w w1 hb1).mono ?_; rintro e w2 ⟨p, q, rs, rfl, hrs, hl2, hb2⟩)
          | (go_at_call 12; refine (alive_any _).mono ?_; rintro e w3 ⟨rfl, hb3⟩))
        go_ret
        exact ⟨rfl, Below.after hb2 hb3⟩
      · have h3' : ¬ (128 : Int) < (m : Int) := by omega
        by_cases h4 : torn < 0
        · clear h h3
          go_enter Try.func6, Try.ntmps6
          go_wp2_with (first
            | (go_at_call 18; refine (small_any _).mono ?_; rintro e w1 ⟨rfl, hb1⟩)
            | (go_at_call 8; refine (new_small' w w1 hb1).mono ?_; rintro e w2 ⟨p, q, rs, rfl, hrs, hl2, hb2⟩)
            | (go_at_call 12; refine (alive_any _).mono ?_; rintro e w3 ⟨rfl, hb3⟩))
          go_ret
          exact ⟨rfl, Below.after hb2 hb3⟩
        · have h5 : 2 < torn := Classical.byContradiction fun q => h ⟨by omega, by omega, by omega, by omega, by omega⟩
          clear h h3
          go_enter Try.func6, Try.ntmps6
          go_wp2_with (first
            | (go_at_call 18; refine (small_any _).mono ?_; rintro e w1 ⟨rfl, hb1⟩)
            | (go_at_call 8; refine (new_small' w w1 hb1).mono ?_; rintro e w2 ⟨p, q, rs, rfl, hrs, hl2, hb2⟩)
            | (go_at_call 12; refine (alive_any _).mono ?_; rintro e w3 ⟨rfl, hb3⟩))
          go_ret
          exact ⟨rfl, Below.after hb2 hb3⟩

theorem walk (pages : Int) (a : Option Addr) (m cap : Nat) (data : List Nat) (torn : Int) (er : Bool) (w : World) (_ : (Lit.int .i64 pages).wf = true) (hda : BArg w a m cap data) (_ : (Lit.int .i64 torn).wf = true) :
    Calls Try.prog 6 #[.int .i64 pages, .slice a m cap, .int .i64 torn, .bool er] w fun e w' => e = .returned (.bool true) ∧ Below w.heap.size w w' := by
  by_cases h : 0 ≤ pages ∧ pages ≤ 15 ∧ m ≤ 128 ∧ 0 ≤ torn ∧ torn ≤ 2
  · obtain ⟨h1, h2, h3, h4, h5⟩ := h
    obtain ⟨k, rfl⟩ : ∃ k : Nat, pages = k := ⟨pages.toNat, by omega⟩
    have hk : k ≤ 15 := by omega
    have ht : torn = 0 ∨ torn = 1 ∨ torn = 2 := by omega
    cases er with
    | true =>
      rcases ht with rfl | rfl | rfl
      · exact walk_e0 k a m cap data w hk hda h3
      · exact walk_e1 k a m cap data w hk hda h3
      · exact walk_e2 k a m cap data w hk hda h3
    | false =>
      rcases ht with rfl | rfl | rfl
      · exact walk_p0 k a m cap data w hk hda h3
      · exact walk_p1 k a m cap data w hk hda h3
      · exact walk_p2 k a m cap data w hk hda h3
  · exact walk_out pages a m cap torn er w h

set_option maxRecDepth 100000 in
theorem lifted (os : Os) (started : os.Started) (H : Type) (enc : TypeId × Value → H) :
    ReturnsInHanded {} Try.checked os 6 .any (Rows.nandTornSpec.pre6 enc Try.prog Try.f6 Rows.nandTornRow.domain false) (Rows.nandTornSpec.post enc Try.prog Try.f6 false true false false) := by
  refine returnsInHanded_of_change (C := Try.checked) own started (by kernel_rfl) Try.func6
    (ChangeSpec.witness6 (enc := enc) (C := Try.checked) false ⟨#[], #[.int .i64 0, .slice none 0 0, .int .i64 0, .bool false], []⟩ 8 (by kernel_rfl) (by kernel_rfl) (by kernel_rfl) (by kernel_rfl)) ?_
  intro W base args ds gs before hval0 hW hcnd _
  have hval : ∀ (j : Nat) t v, Try.f6.params[j]? = some t → args[j]? = some v → Value.okWide Try.prog W .any base t v := hval0
  have hW' := hW
  obtain ⟨p, q, hA0, hV, rfl, hfz, hnd⟩ := hW
  have hA : DataW.TrodAll enc Try.prog W 0 (fun _ => true) true Try.f6.params.toList args.toList ds p := hA0
  rw [Try.params6] at hA hval
  obtain ⟨v0, vs0, d0, ds0, p0, q0, hargs, rfl, rfl, h0, r0⟩ := trodAll_cons hA
  obtain ⟨v1, vs1, d1, ds1, p1, q1, rfl, rfl, rfl, h1, r1⟩ := trodAll_cons r0
  obtain ⟨v2, vs2, d2, ds2, p2, q2, rfl, rfl, rfl, h2, r2⟩ := trodAll_cons r1
  obtain ⟨v3, vs3, d3, ds3, p3, q3, rfl, rfl, rfl, h3, r3⟩ := trodAll_cons r2
  obtain ⟨rfl, rfl, rfl⟩ := trodAll_nil r3
  obtain rfl : args = #[v0, v1, v2, v3] := by cases args; simp_all
  obtain ⟨rfl, rfl⟩ := trodVars_none hV
  obtain ⟨a0, rfl, rfl, rfl, w0⟩ := open_int Try.underlying3 (hval 0 3 v0 rfl rfl) h0
  obtain ⟨a1, len1, cap1, rfl⟩ := okWide_slice Try.underlying35 (hval 1 35 v1 rfl rfl)
  have k1 := h1
  have lt1 : ∀ x ∈ p1, x.block < W.heap.size := by obtain ⟨m, hm⟩ := k1; exact DataW.trod_lt m _ _ _ hm
  obtain ⟨l1, w1⟩ : ∃ l, BArg W a1 len1 cap1 l := by
    obtain ⟨fuel, hf⟩ := h1
    exact barg_open hf
  obtain ⟨a2, rfl, rfl, rfl, w2⟩ := open_int Try.underlying3 (hval 2 3 v2 rfl rfl) h2
  obtain ⟨a3, rfl, rfl, rfl⟩ := open_bool Try.underlying4 (hval 3 4 v3 rfl rfl) h3
  clear hA0 hval0
  refine (walk a0 a1 len1 cap1 l1 a2 a3 W w0 w1 w2).mono fun e W' ⟨he, bel⟩ => ?_
  subst he
  exact ⟨_, rfl, _, _, _, [], _, [], hW', trodAll_mk1 (shut_bool Try.underlying4 _), (trodAll_cons_mk (shut_int Try.underlying3 w0) (trodAll_cons_mk (Below.trod laidOut (by kernel_rfl) (of_decide_eq_true (by kernel_rfl)) k1 bel lt1) (trodAll_cons_mk (shut_int Try.underlying3 w2) (trodAll_cons_mk (shut_bool Try.underlying4 a3) trodAll_mk0)))), rfl, bel.frame _, fun h => by cases h⟩

theorem over : Rows.nandTornRow.holds Try.pinned (OpenSpec.ofChange Rows.nandTornSpec) :=
  OpenClaim.holds_of_wide 6 Try.f6 rfl rfl rfl rfl rfl rfl rfl ⟨rfl, rfl, rfl, rfl, rfl⟩ rfl rfl rfl rfl rfl (by kernel_rfl) Try.func6 (by kernel_rfl)
    (of_decide_eq_true (by kernel_rfl)) (by unfold Func.isWrapper; first | (rw [if_pos (by decide +kernel)]; kernel_rfl) | (rw [if_neg (by decide +kernel)]; exact ⟨rfl, rfl⟩))
    (fun os started H enc _ => lifted os started H enc)
end Go.Proofs.Ytkjbnibcdmlmmaa.nandTorn

namespace Go.Proofs.Ytkjbnibcdmlmmaa
theorem nandTorn_holds : Rows.NandTornSaid := nandTorn.over
#print axioms nandTorn_holds
end Go.Proofs.Ytkjbnibcdmlmmaa
