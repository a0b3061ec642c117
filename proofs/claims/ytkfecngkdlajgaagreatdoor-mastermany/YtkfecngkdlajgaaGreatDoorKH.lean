/-
  A draft is written into a Free block.
  Drafts: bytes that lie on while a manager works; given pages, copied pages.
  A draft in a Free block or, as long as one fails, in another that is taken.
  A draft in a block that is taken; what stands in a block that failed goes to another one.
  Regions that draw their order, in all worlds in which what was is as it was.
-/
import Derived.Test.YtkfecngkdlajgaaGreatDoorKF
import Derived.Deep.QuietTactic
import Derived.BigQuiet
namespace Go.Proofs.YtkfecngkdlajgaaGreatDoor
open Go.RowKit
set_option maxRecDepth 10000

/-- Only block n is another one. -/
structure Oth (n : Nat) (c c' : CS) : Prop where
  gz : c'.gz = c.gz
  foot : c'.foot = c.foot
  on : c'.on = true
  same : ∀ k, k ≠ n → c'.bks[k]? = c.bks[k]?
/-- What lies on while a draft is written. -/
structure Wr (base : Nat) (w : World) (m : Mg) (c : CS) (leb must l : Nat) (f : Value) (W : World) (c' : CS) : Prop where
  ml : MLies base W m.next c'
  kp : Kept (MFoot m c) w W
  dr : Row W w.heap.size [.int .i64 (leb : Nat), .int .i64 (l : Nat), .int .i64 (must : Nat), f] 149
  ft : c'.foot = c.foot
theorem Wr.step {base : Nat} {w : World} {m : Mg} {c : CS} {leb must l : Nat} {f : Value} {W W' : World} {c' c2 : CS} (h : Wr base w m c leb must l f W c') (h1 : MLies base W' m.next c2) (h2 : Kept c'.foot W W') (h3 : c2.foot = c'.foot) : Wr base w m c leb must l f W' c2 :=
  ⟨h1, h.kp.trans (h2.mono fun _ hk => .inr (.inr (h.ft ▸ hk))), h.dr.kept h2 (h.ml.chip.apart h.dr (by decide) (by decide) (by decide)), h3.trans h.ft⟩
theorem program_zero {c : CS} {n p : Int} {d : List Nat} (h : (c.programM n p d).1 = 0) : (c.programM n p d).2.on = true ∧ (c.programM n p d).2.gz = c.gz ∧ ∀ k : Nat, (k : Int) ≠ n → (c.programM n p d).2.bks[k]? = c.bks[k]? := by
  unfold CS.programM CS.program at *
  split at h
  · cases h
  · split at h
    · cases h
    · split at h
      · cases h
      · split at h
        · cases h
        · split at h
          · cases h
          · split at h
            · cases h
            · split at h
              · cases h
              · rename_i a1 a2 a3 a4 _ b hb a6 a7
                rw [if_neg a1, if_neg a2, if_neg a3, if_neg a4]
                simp only
                rw [if_neg a6, if_neg a7]
                refine ⟨?_, rfl, fun k hk => List.getElem?_set_ne (fun e => hk (by omega))⟩
                have : c.told = 0 := h
                show (if c.fault.kind = 1 then false else c.on) = true
                rw [if_neg]
                · simpa using a3
                · intro hk
                  unfold CS.told at this
                  rw [if_pos hk] at this
                  cases this
theorem Oth.step {n : Nat} {c c' : CS} {p : Int} {d : List Nat} (h : Oth n c c') (hz : (c'.programM n p d).1 = 0) (hf : (c'.programM n p d).2.foot = c'.foot) : Oth n c (c'.programM n p d).2 := by
  obtain ⟨h1, h2, h3⟩ := program_zero hz
  exact ⟨h2.trans h.gz, hf.trans h.foot, h1, fun k hk => (h3 k (by omega)).trans (h.same k hk)⟩
/-- What a write comes to. -/
noncomputable def wrS (m : Mg) (c : CS) (n leb must : Nat) (L : List (List Nat)) : Int × CS :=
  if (c.programM n 1 (Hd.imgL (Hd.mapL leb (m.seq + 1) must) c.gz)).1 = 0 then pagesM (c.programM n 1 (Hd.imgL (Hd.mapL leb (m.seq + 1) must) c.gz)).2 n 0 L else c.programM n 1 (Hd.imgL (Hd.mapL leb (m.seq + 1) must) c.gz)
theorem writeM_S {m : Mg} {c : CS} {n leb must : Nat} {L : List (List Nat)} {o : Bl} (ho : m.bl[n]? = some o) : writeM m c n leb must L = if (wrS m c n leb must L).1 = 0 then (0, m.next.put n ⟨4, o.cnt, leb, L.length, (m.seq : Int) + 1, false⟩, (wrS m c n leb must L).2) else ((wrS m c n leb must L).1, m.next, (wrS m c n leb must L).2) := by
  unfold writeM wrS
  rw [ho]
  simp only [Option.getD_some]
  by_cases h : (c.programM n 1 (Hd.imgL (Hd.mapL leb (m.seq + 1) must) c.gz)).1 = 0
  · rw [if_pos h, if_pos h]
  · rw [if_neg h, if_neg h, if_neg h]
theorem pagesM_cons {c : CS} {n : Int} {i : Nat} {d : List Nat} {r : List (List Nat)} : pagesM c n i (d :: r) = if (c.programM n (2 + (i : Int)) d).1 = 0 then pagesM (c.programM n (2 + (i : Int)) d).2 n (i + 1) r else c.programM n (2 + (i : Int)) d := rfl
/-- The loop over a draft's pages. -/
def WrGo (base : Nat) (w : World) (m : Mg) (c : CS) (n leb must : Nat) (L : List (List Nat)) (f : Value) (S : Int × CS) (wr : World) (k : Nat) : Prop := ∃ c', Wr base w m c leb must L.length f wr c' ∧ Oth n c c' ∧ S = pagesM c' n k (L.drop k)
def WrNo (base : Nat) (w : World) (m : Mg) (c : CS) (leb must : Nat) (L : List (List Nat)) (f : Value) (S : Int × CS) (wr : World) (B : Nat) : Prop := Wr base w m c leb must L.length f wr S.2 ∧ ErrV wr (.iface 283 (.pointer (some ⟨B, 0, none⟩))) S.1 ∧ S.1 ≠ 0
set_option maxHeartbeats 4000000 in
theorem mwrite_any {base : Nat} {w : World} {m : Mg} {c : CS} (h : MLies base w m c) (n leb must : Nat) (L : List (List Nat)) (f : Value) (o : Bl) (ho : m.bl[n]? = some o) (hs : m.seq + 1 < 18446744073709551616) (hle : leb ≤ 255) (hmu : must ≤ 64) (hz : 64 ≤ c.gz) (hL : L.length ≤ 64)
    (hT : ∀ W c' (i : Nat) d, MLies base W m.next c' → Kept (MFoot m c) w W → Oth n c c' → L[i]? = some d → Calls Tryz.prog 192 #[.pointer (some ⟨m.p, 0, none⟩), .int .i64 (n : Nat), .int .i64 (i : Nat), .agg #[.int .i64 (leb : Nat), .int .i64 (L.length : Nat), .int .i64 (must : Nat), f]] W (DoPost base W m.next c' (c'.programM n (2 + (i : Int)) d))) :
    Calls Tryz.prog 156 #[.pointer (some ⟨m.p, 0, none⟩), .int .i64 (n : Nat), .agg #[.int .i64 (leb : Nat), .int .i64 (L.length : Nat), .int .i64 (must : Nat), f]] w (FPost base w m c (writeM m c n leb must L)) := by
  obtain ⟨W, hW⟩ : ∃ W, W = w.alloc (.cells #[.int .i64 (leb : Nat), .int .i64 (L.length : Nat), .int .i64 (must : Nat), f] 149) := ⟨_, rfl⟩
  have HBW : Hid (Below w.heap.size w W) := by rw [hW]; exact below_new w _
  have HD : Hid (Row W w.heap.size [.int .i64 (leb : Nat), .int .i64 (L.length : Nat), .int .i64 (must : Nat), f] 149) := by rw [hW]; exact Row.new w [_, _, _, _] _
  have HM : Hid (MLies base W m c) := h.later HBW.out
  obtain ⟨_, _, c2, _⟩ := HM.out.cells
  have c2' := c2
  rw [hW] at c2'
  have fz := HM.out.box.frozen
  rw [hW] at fz
  have s0 : (0 : Int) ≤ (m.seq : Int) := by omega
  have s1 : (m.seq : Int) + 1 < 18446744073709551616 := by omega
  have HT : Hid (∀ W c' (i : Nat) d, MLies base W m.next c' → Kept (MFoot m c) w W → Oth n c c' → L[i]? = some d → Calls Tryz.prog 192 #[.pointer (some ⟨m.p, 0, none⟩), .int .i64 (n : Nat), .int .i64 (i : Nat), .agg #[.int .i64 (leb : Nat), .int .i64 (L.length : Nat), .int .i64 (must : Nat), f]] W (DoPost base W m.next c' (c'.programM n (2 + (i : Int)) d))) := hT
  obtain ⟨X, hX⟩ : ∃ X, X = writeM m c n leb must L := ⟨_, rfl⟩
  rw [← hX]
  have HX : Hid (X = if (wrS m c n leb must L).1 = 0 then (0, m.next.put n ⟨4, o.cnt, leb, L.length, (m.seq : Int) + 1, false⟩, (wrS m c n leb must L).2) else ((wrS m c n leb must L).1, m.next, (wrS m c n leb must L).2)) := by
    show X = _
    rw [hX]; exact writeM_S ho
  clear h hT hX
  go_enter Tryz.func156, Tryz.ntmps156
  go_wp2_with fail
  rw [← hW]
  clear hW c2' c2 fz
  have hne : ¬ m.p = w.heap.size := HM.out.box.ne HD.out (by decide)
  obtain ⟨W1, hW1⟩ : ∃ W1, W1 = W.setCell ⟨m.p, 2, none⟩ (.int .u64 ((m.seq : Int) + 1)) := ⟨_, rfl⟩
  have HK1 : Hid (Kept (fun k => k = m.p) W W1) := by rw [hW1]; exact (Kept.refl (fun k => k = m.p) W).setCell (p := ⟨m.p, 2, none⟩) rfl _
  have HM1 : Hid (MLies base W1 m.next c) := by rw [hW1]; exact HM.out.next
  have HD1 : Hid (Row W1 w.heap.size [.int .i64 (leb : Nat), .int .i64 (L.length : Nat), .int .i64 (must : Nat), f] 149) := HD.out.kept HK1.out (fun e => hne e.symm)
  rw [← hW1]
  clear hW1 hne HM HD
  have d0 : W1.cell? ⟨w.heap.size, 0, none⟩ = some (.int .i64 (leb : Nat)) := HD1.out.cell (i := 0) rfl
  have d2 : W1.cell? ⟨w.heap.size, 2, none⟩ = some (.int .i64 (must : Nat)) := HD1.out.cell (i := 2) rfl
  have e2 : W1.cell? ⟨m.p, 2, none⟩ = some (.int .u64 ((m.seq : Int) + 1)) := HM1.out.cells.2.2.1
  have kP : Calls Tryz.prog 67 #[.pointer (some ⟨m.p, 0, none⟩)] W1.drew fun e w' => e = .returned (.int .i64 c.gz) ∧ Below W1.drew.heap.size W1.drew w' := mpage_any (m := m.next) (HM1.out.later (below_drew' W1))
  have HMM : Hid (∀ X, Calls Tryz.prog 191 #[.agg #[.int .i64 (leb : Nat), .int .u64 ((m.seq : Int) + 1), .int .i64 (must : Nat)], .int .i64 (c.gz : Nat)] X (Hd.MadePost X (Hd.mapL leb (m.seq + 1) must) c.gz)) := fun X => Hd.map_made leb (m.seq + 1) must c.gz X hle hmu (by omega) hz HM1.out.chip.good.gs.2.2.2.2.2
  have HZ : Hid (64 ≤ c.gz) := hz
  clear hle hmu hz
  go_region_held3 (fun w' => w'.cell? ⟨w.heap.size, 0, none⟩ = some (.int .i64 (leb : Nat)) ∧ w'.cell? ⟨w.heap.size, 2, none⟩ = some (.int .i64 (must : Nat)) ∧ w'.cell? ⟨m.p, 2, none⟩ = some (.int .u64 ((m.seq : Int) + 1))) (first | assumption | go_keep) (first
    | (go_at_call 67; refine kP.mono ?_; rintro e w2 ⟨rfl, hb0⟩; have hb2 : Below W1.heap.size W1 w2 := Below.after (below_drew' W1) hb0; clear hb0; have d0' : w2.cell? ⟨w.heap.size, 0, none⟩ = some (.int .i64 (leb : Nat)) := (HD1.out.later hb2).cell (i := 0) rfl; have d2' : w2.cell? ⟨w.heap.size, 2, none⟩ = some (.int .i64 (must : Nat)) := (HD1.out.later hb2).cell (i := 2) rfl; have e2' : w2.cell? ⟨m.p, 2, none⟩ = some (.int .u64 ((m.seq : Int) + 1)) := (HM1.out.later hb2).cells.2.2.1; have HB2 : Hid (Below W1.heap.size W1 w2) := hb2; clear hb2)
    | (go_at_call 191; refine (HMM.out _).mono ?_; rintro e w3 ⟨g, rfl, hl3, hb3, ho3⟩; have hB3 := Below.after HB2.out hb3; have HB3 : Hid (Below W1.heap.size W1 w3) := hB3; have HG : Hid (Hd.Lies w3 (some ⟨g, 0, none⟩) c.gz c.gz (Hd.imgL (Hd.mapL leb (m.seq + 1) must) c.gz) ∧ Hd.Own w2 w3 (.slice (some ⟨g, 0, none⟩) c.gz c.gz) (Hd.imgL (Hd.mapL leb (m.seq + 1) must) c.gz)) := ⟨hl3, ho3⟩; have d0'' : w3.cell? ⟨w.heap.size, 0, none⟩ = some (.int .i64 (leb : Nat)) := (HD1.out.later hB3).cell (i := 0) rfl; have d2'' : w3.cell? ⟨w.heap.size, 2, none⟩ = some (.int .i64 (must : Nat)) := (HD1.out.later hB3).cell (i := 2) rfl; have e2'' : w3.cell? ⟨m.p, 2, none⟩ = some (.int .u64 ((m.seq : Int) + 1)) := (HM1.out.later hB3).cells.2.2.1; clear hl3 hb3 ho3 hB3))
  clear d0' d2' e2' d0'' d2'' e2'' d0 d2 e2 kP HMM
  have HW3 : Hid (Wr base w m c leb must L.length f w3 c) := ⟨HM1.out.later HB3.out, ((Kept.of_below HBW.out).trans (HK1.out.mono fun _ hk => .inl hk)).trans (.of_below HB3.out), HD1.out.later HB3.out, rfl⟩
  have hfn : ¬ c.foot g := foot_new HM1.out.chip (Nat.le_trans HB2.out.size (own_ge HG.out.2 (img_pos _ HZ.out)))
  have kp := mprogram_any HW3.out.ml (n : Nat) 1 (some ⟨g, 0, none⟩) c.gz c.gz (Hd.imgL (Hd.mapL leb (m.seq + 1) must) c.gz) HG.out.1.len (brow_hd HG.out.1.row) HG.out.1.lt (.inr fun b o e => by cases e; exact hfn)
  clear hfn
  have HS : Hid (wrS m c n leb must L = if (c.programM n 1 (Hd.imgL (Hd.mapL leb (m.seq + 1) must) c.gz)).1 = 0 then pagesM (c.programM n 1 (Hd.imgL (Hd.mapL leb (m.seq + 1) must) c.gz)).2 n 0 L else c.programM n 1 (Hd.imgL (Hd.mapL leb (m.seq + 1) must) c.gz)) := rfl
  have HPZ : Hid ((c.programM n 1 (Hd.imgL (Hd.mapL leb (m.seq + 1) must) c.gz)).1 = 0 → (c.programM n 1 (Hd.imgL (Hd.mapL leb (m.seq + 1) must) c.gz)).2.foot = c.foot → Oth n c (c.programM n 1 (Hd.imgL (Hd.mapL leb (m.seq + 1) must) c.gz)).2) := fun h1 h2 => by
    obtain ⟨a1, a2, a3⟩ := program_zero h1
    exact ⟨a2, h2, a1, fun k hk => a3 k (by omega)⟩
  obtain ⟨S, hS⟩ : ∃ S, S = wrS m c n leb must L := ⟨_, rfl⟩
  rw [← hS] at HS HX
  obtain ⟨r, hr⟩ : ∃ r, r = c.programM n 1 (Hd.imgL (Hd.mapL leb (m.seq + 1) must) c.gz) := ⟨_, rfl⟩
  rw [← hr] at kp HS HPZ
  have hL1 : (L.length : Int) ≤ 64 := by omega
  have HO : Hid (m.bl[n]? = some o) := ho
  clear hS hr ho hs HB2 HG HM1 HK1 HD1 HB3 HZ HBW hL
  go_wp2_with (go_at_call 170; refine kp.mono ?_; rintro e w4 ⟨v, rfl, he, hl, hk, hf⟩; have HW4 : Hid (Wr base w m c leb must L.length f w4 r.2) := HW3.out.step hl hk hf; have HE4 : Hid (ErrV w4 v r.1) := he; have HF4 : Hid (r.2.foot = c.foot) := hf; clear hl hk hf he)
  clear kp HW3
  go_loopg [9, 10] (L.length + 1) (fun kx s9 s10 wr => (∃ k : Nat, kx + k = L.length + 1 ∧ k ≤ L.length ∧ s9 = .nilIface ∧ s10 = .int .i64 (k : Nat) ∧ Hid (WrGo base w m c n leb must L f S wr k)) ∨ (∃ B k : Nat, kx + L.length + 1 ≥ 0 ∧ s9 = .iface 283 (.pointer (some ⟨B, 0, none⟩)) ∧ s10 = .int .i64 (k : Nat) ∧ Hid (WrNo base w m c leb must L f S wr B)))
  case atStart =>
    by_cases h0 : r.1 = 0
    · left
      obtain rfl : v = .nilIface := by have := HE4.out; rw [h0] at this; exact this.nil
      exact ⟨0, by omega, by omega, rfl, rfl, ⟨r.2, HW4.out, HPZ.out h0 HF4.out, by rw [HS.out, if_pos h0]; rfl⟩⟩
    · right
      obtain ⟨B, rfl⟩ := HE4.out.some h0
      have e : S = r := by rw [HS.out, if_neg h0]
      exact ⟨B, 0, by omega, rfl, rfl, ⟨by rw [e]; exact HW4.out, by rw [e]; exact HE4.out, by rw [e]; exact h0⟩⟩
  case round =>
    rcases hrel with ⟨k, hkx, hkl, rfl, rfl, HG⟩ | ⟨B, k, -, rfl, rfl, HN⟩
    · obtain ⟨c', hw, ho, hS⟩ := HG.out
      have d0 : wr.cell? ⟨w.heap.size, 0, none⟩ = some (.int .i64 (leb : Nat)) := hw.dr.cell (i := 0) rfl
      have d1 : wr.cell? ⟨w.heap.size, 1, none⟩ = some (.int .i64 (L.length : Nat)) := hw.dr.cell (i := 1) rfl
      have d2 : wr.cell? ⟨w.heap.size, 2, none⟩ = some (.int .i64 (must : Nat)) := hw.dr.cell (i := 2) rfl
      have d3 : wr.cell? ⟨w.heap.size, 3, none⟩ = some f := hw.dr.cell (i := 3) rfl
      by_cases hlt : k < L.length
      · obtain ⟨d, hd⟩ : ∃ d, L[k]? = some d := ⟨_, List.getElem?_eq_getElem hlt⟩
        have kT := HT.out wr c' k d hw.ml hw.kp ho hd
        have hdrop : L.drop k = d :: L.drop (k + 1) := by rw [List.drop_eq_getElem_cons hlt]; congr 1; rw [List.getElem?_eq_getElem hlt] at hd; exact Option.some.inj hd
        rw [hdrop, pagesM_cons] at hS
        have HSt : Hid ((c'.programM n (2 + (k : Int)) d).1 = 0 → (c'.programM n (2 + (k : Int)) d).2.foot = c'.foot → Oth n c (c'.programM n (2 + (k : Int)) d).2) := fun h1 h2 => ho.step h1 h2
        obtain ⟨r', hr'⟩ : ∃ r', r' = c'.programM n (2 + (k : Int)) d := ⟨_, rfl⟩
        rw [← hr'] at kT hS HSt
        have HSS : Hid (S = if r'.1 = 0 then pagesM r'.2 n (k + 1) (L.drop (k + 1)) else r') := hS
        have HW : Hid (Wr base w m c leb must L.length f wr c') := hw
        have q1 : (k : Int) < (L.length : Int) := by omega
        have q2 : (0 : Int) ≤ (k : Int) := by omega
        clear hr' hS hdrop hd hw ho HG
        go_wp2_with (go_at_call 192; refine kT.mono ?_; rintro e w5 ⟨v5, rfl, he5, hl5, hk5, hf5⟩; have HW5 : Hid (Wr base w m c leb must L.length f w5 r'.2) := HW.out.step hl5 hk5 hf5; have HE5 : Hid (ErrV w5 v5 r'.1) := he5; have HF5 : Hid (r'.2.foot = c'.foot) := hf5; clear hl5 hk5 hf5 he5)
        go_roundg (L.length - k)
        case measure => omega
        case rel =>
          by_cases h0 : r'.1 = 0
          · left
            obtain rfl : v5 = .nilIface := by have := HE5.out; rw [h0] at this; exact this.nil
            exact ⟨k + 1, by omega, by omega, rfl, by go_num, ⟨r'.2, HW5.out, HSt.out h0 HF5.out, by rw [HSS.out, if_pos h0]⟩⟩
          · right
            obtain ⟨B, rfl⟩ := HE5.out.some h0
            have e : S = r' := by rw [HSS.out, if_neg h0]
            exact ⟨B, k + 1, by omega, rfl, by go_num, ⟨by rw [e]; exact HW5.out, by rw [e]; exact HE5.out, by rw [e]; exact h0⟩⟩
      · have hkk : k = L.length := by omega
        have hS0 : S = (0, c') := by rw [hS, hkk, List.drop_length]; rfl
        have hlies := hw.ml
        obtain ⟨_, b1, b2, _⟩ := hlies.cells
        have b2' : wr.cell? ⟨m.p, 2, none⟩ = some (.int .u64 ((m.seq : Int) + 1)) := b2
        have b1' : wr.cell? ⟨m.p, 1, none⟩ = some (.slice (some ⟨m.bb, 0, none⟩) m.bl.length m.bcap) := b1
        obtain ⟨g0, g1, g2, g3, g4, g5⟩ := hlies.blAt (m := m.next) HO.out
        have g0 : wr.cell? ⟨m.bb, n * 6, none⟩ = some (.int .i64 o.st) := g0
        have g1 : wr.cell? ⟨m.bb, n * 6 + 1, none⟩ = some (.int .i64 o.cnt) := g1
        have g2 : wr.cell? ⟨m.bb, n * 6 + 2, none⟩ = some (.int .i64 o.leb) := g2
        have g3 : wr.cell? ⟨m.bb, n * 6 + 3, none⟩ = some (.int .i64 o.used) := g3
        have g4 : wr.cell? ⟨m.bb, n * 6 + 4, none⟩ = some (.int .u64 o.seq) := g4
        have g5 : wr.cell? ⟨m.bb, n * 6 + 5, none⟩ = some (.bool o.closed) := g5
        have fz : ∀ i, wr.frozen? ⟨m.bb, i, none⟩ = false := hlies.row.frozen
        have n0 : ¬ (n : Int) < 0 := by omega
        have n1 : (n : Int) < (m.bl.length : Int) := by have := (List.getElem?_eq_some_iff.1 HO.out).1; omega
        have HP : Hid (MLies base (put6 wr m.bb n ⟨4, o.cnt, leb, L.length, (m.seq : Int) + 1, false⟩).drew (m.next.put n ⟨4, o.cnt, leb, L.length, (m.seq : Int) + 1, false⟩) c' ∧ Kept (MFoot m c) w (put6 wr m.bb n ⟨4, o.cnt, leb, L.length, (m.seq : Int) + 1, false⟩).drew ∧ c'.foot = c.foot) := ⟨(hlies.put (m := m.next) HO.out _).later (below_drew' _), (hw.kp.trans ((kept6 wr m.bb n _).mono (fun _ hk => .inr (.inl hk)))).drew, hw.ft⟩
        simp only [put6] at HP
        have HX0 : Hid (X = (0, m.next.put n ⟨4, o.cnt, leb, L.length, (m.seq : Int) + 1, false⟩, c')) := by show X = _; rw [HX.out, hS0]; rfl
        have q1 : ¬ (k : Int) < (L.length : Int) := by omega
        clear hS0 hlies hw ho hS b1 b2 HG hkk hlt hkl
        go_wp2
        go_region
        go_wp2
        go_ret
        rw [HX0.out]
        exact ⟨.nilIface, rfl, .inl ⟨rfl, rfl⟩, HP.out.1, HP.out.2.1, HP.out.2.2⟩
    · have HN0 : Hid (S.1 ≠ 0) := HN.out.2.2
      go_wp2
      go_ret
      rw [HX.out, if_neg HN0.out]
      exact ⟨_, rfl, HN.out.2.1, HN.out.1.ml, HN.out.1.kp, HN.out.1.ft⟩
end Go.Proofs.YtkfecngkdlajgaaGreatDoor
namespace Go.Proofs.YtkfecngkdlajgaaGreatDoor
open Go.RowKit
set_option maxRecDepth 10000

@[local go_sem] theorem run_store_func2 (P : Program) (w : World) (a : Addr) (m : Mode) (f : Fn) (x y : Array Value) : (store a (.func f x y) m).run P w = stored P w a (.func f x y) m := run_store P w a _ m rfl
/-- Bytes that lie in memory, and that nothing of S touches. -/
structure Dt (S : Nat → Prop) (w : World) (a : Option Addr) (d : List Nat) : Prop where
  lt : ∀ x ∈ d, x < 256
  row : d = [] ∨ ∃ b off, a = some ⟨b, off, none⟩ ∧ ¬ S b ∧ ∀ i, i < d.length → w.cell? ⟨b, off + i, none⟩ = some (.int .u8 ((d.getD i 0 : Nat) : Int))
theorem Dt.brow {S : Nat → Prop} {w : World} {a : Option Addr} {d : List Nat} (h : Dt S w a d) : BRow w a d := by
  rcases h.row with rfl | ⟨b, off, rfl, _, hc⟩
  · exact .inl rfl
  · exact .inr ⟨b, off, rfl, hc⟩
theorem cell_kept {S : Nat → Prop} {w w' : World} {b i : Nat} {v : Value} (hk : Kept S w w') (hn : ¬ S b) (h : w.cell? ⟨b, i, none⟩ = some v) : w'.cell? ⟨b, i, none⟩ = some v := by
  rw [World.cell?_of_block (a := ⟨b, i, none⟩) (hk.block b (World.block_lt_of_cell? w _ h) hn)]
  exact h
theorem Dt.kept {S : Nat → Prop} {w w' : World} {a : Option Addr} {d : List Nat} (h : Dt S w a d) (hk : Kept S w w') : Dt S w' a d := by
  refine ⟨h.lt, ?_⟩
  rcases h.row with e | ⟨b, off, e, hn, hc⟩
  · exact .inl e
  · exact .inr ⟨b, off, e, hn, fun i hi => cell_kept hk hn (hc i hi)⟩
theorem Dt.foot {m : Mg} {c : CS} {w : World} {a : Option Addr} {d : List Nat} (h : Dt (MFoot m c) w a d) : d = [] ∨ ∀ b o, a = some ⟨b, o, none⟩ → ¬ c.foot b := by
  rcases h.row with e | ⟨b, off, e, hn, _⟩
  · exact .inl e
  · refine .inr fun b' o' e' hf => ?_
    rw [e] at e'
    cases e'
    exact hn (.inr (.inr hf))
/-- Pages that lie in memory. -/
def PDt (S : Nat → Prop) (w : World) (a : Option Addr) (L : List (List Nat)) : Prop :=
  L = [] ∨ ∃ b off, a = some ⟨b, off, none⟩ ∧ ¬ S b ∧ ∀ (i : Nat) (d : List Nat), L[i]? = some d → ∃ ai ki, w.cell? ⟨b, off + i, none⟩ = some (.slice ai d.length ki) ∧ Dt S w ai d
theorem PDt.kept {S : Nat → Prop} {w w' : World} {a : Option Addr} {L : List (List Nat)} (h : PDt S w a L) (hk : Kept S w w') : PDt S w' a L := by
  rcases h with e | ⟨b, off, e, hn, hc⟩
  · exact .inl e
  · refine .inr ⟨b, off, e, hn, fun i d hd => ?_⟩
    obtain ⟨ai, ki, h1, h2⟩ := hc i d hd
    exact ⟨ai, ki, cell_kept hk hn h1, h2.kept hk⟩
theorem cell_other {W : World} {p : Addr} {v : Value} {B i : Nat} (hne : B ≠ p.block) : (W.setCell p v).cell? ⟨B, i, none⟩ = W.cell? ⟨B, i, none⟩ := World.cell?_of_block (a := ⟨B, i, none⟩) (Below.heap_setCell _ _ _ B hne)
theorem given_any (leb : Int) (a : Option Addr) (n cap : Nat) (w : World) :
    Calls Tryz.prog 79 #[.int .i64 leb, .slice a n cap] w fun e w' => ∃ B, e = .returned (.agg #[.int .i64 leb, .int .i64 (n : Nat), .int .i64 (n : Nat), .func (.func 115) #[] #[.pointer (some ⟨B, 0, none⟩)]]) ∧ w'.cell? ⟨B, 0, none⟩ = some (.slice a n cap) ∧ Below w.heap.size w w' ∧ w.heap.size ≤ B := by
  go_enter Tryz.func79, Tryz.ntmps79
  go_wp2
  refine bodyPost_ret (v := .agg #[.int .i64 leb, .int .i64 (n : Nat), .int .i64 (n : Nat), .func (.func 115) #[] #[.pointer (some ⟨w.heap.size, 0, none⟩)]]) ?_ rfl ⟨w.heap.size, rfl, ?_, Below.after (below_new w _) (below_new _ _), Nat.le_refl _⟩
  · simp [results, Tryz.f79, go_sem]
  · exact ((Row.new w [.slice a n cap] 54).later (below_new _ _)).cell (i := 0) rfl
theorem given1_any (B i b off ki : Nat) (a : Option Addr) (n cap m : Nat) (w : World) (h : w.cell? ⟨B, 0, none⟩ = some (.slice (some ⟨b, off, none⟩) n cap)) (hi : i < n) (hc : w.cell? ⟨b, off + i, none⟩ = some (.slice a m ki)) :
    Calls Tryz.prog 115 #[.int .i64 (i : Nat), .pointer (some ⟨B, 0, none⟩)] w fun e w' => e = .returned (.tuple #[.slice a m ki, .nilIface]) ∧ w = w' := by
  have n0 : ¬ (i : Int) < 0 := by omega
  have n1 : (i : Int) < (n : Int) := by omega
  go_enter Tryz.func115, Tryz.ntmps115
  go_wp2
  refine bodyPost_ret (v := .tuple #[.slice a m ki, .nilIface]) ?_ rfl ⟨rfl, rfl⟩
  simp [results, Tryz.f115, go_sem]
set_option maxHeartbeats 1000000 in
theorem copied_any {base : Nat} {w : World} {m : Mg} {c : CS} (h : MLies base w m c) (n : Nat) (o : Bl) (ho : m.bl[n]? = some o) :
    Calls Tryz.prog 224 #[.pointer (some ⟨m.p, 0, none⟩), .int .i64 (n : Nat)] w fun e w' => ∃ Bm Bn, e = .returned (.agg #[.int .i64 o.leb, .int .i64 o.used, .int .i64 o.used, .func (.func 225) #[] #[.pointer (some ⟨Bm, 0, none⟩), .pointer (some ⟨Bn, 0, none⟩)]]) ∧ w'.cell? ⟨Bm, 0, none⟩ = some (.pointer (some ⟨m.p, 0, none⟩)) ∧ w'.cell? ⟨Bn, 0, none⟩ = some (.int .i64 (n : Nat)) ∧ Below w.heap.size w w' ∧ w.heap.size ≤ Bm ∧ w.heap.size ≤ Bn := by
  obtain ⟨W3, hW3⟩ : ∃ W3, W3 = ((w.alloc (.cells #[.pointer (some ⟨m.p, 0, none⟩)] 26)).alloc (.cells #[.int .i64 (n : Nat)] 3)).alloc (.cells #[.int .i64 0, .int .i64 0, .int .i64 0, .nilFunc] 149) := ⟨_, rfl⟩
  have hsz : W3.heap.size = w.heap.size + 1 + 1 + 1 := by rw [hW3]; simp
  have hb : Below w.heap.size w W3 := by rw [hW3]; exact Below.after (Below.after (below_new w _) (below_new _ _)) (below_new _ _)
  have r0 : Row W3 w.heap.size [.pointer (some ⟨m.p, 0, none⟩)] 26 := by rw [hW3]; exact ((Row.new w [_] _).later (below_new _ _)).later (below_new _ _)
  have r1 : Row W3 (w.heap.size + 1) [.int .i64 (n : Nat)] 3 := by
    rw [hW3]
    have := (Row.new (w.alloc (.cells #[.pointer (some ⟨m.p, 0, none⟩)] 26)) [.int .i64 (n : Nat)] 3).later (below_new _ (.cells #[.int .i64 0, .int .i64 0, .int .i64 0, .nilFunc] 149))
    rw [show (w.alloc (.cells #[.pointer (some ⟨m.p, 0, none⟩)] 26)).heap.size = w.heap.size + 1 by simp] at this
    exact this
  have r2 : Row W3 (w.heap.size + 1 + 1) [.int .i64 0, .int .i64 0, .int .i64 0, .nilFunc] 149 := by
    rw [hW3]
    have := Row.new ((w.alloc (.cells #[.pointer (some ⟨m.p, 0, none⟩)] 26)).alloc (.cells #[.int .i64 (n : Nat)] 3)) [.int .i64 0, .int .i64 0, .int .i64 0, .nilFunc] 149
    rw [show ((w.alloc (.cells #[.pointer (some ⟨m.p, 0, none⟩)] 26)).alloc (.cells #[.int .i64 (n : Nat)] 3)).heap.size = w.heap.size + 1 + 1 by simp] at this
    exact this
  have hm := h.later hb
  obtain ⟨_, c1, _, _⟩ := hm.cells
  obtain ⟨g0, g1, g2, g3, g4, g5⟩ := hm.blAt ho
  have hl1 := hm.box.lt
  have hl2 := hm.row.lt
  have p0 : W3.cell? ⟨w.heap.size, 0, none⟩ = some (.pointer (some ⟨m.p, 0, none⟩)) := r0.cell (i := 0) rfl
  have p1 : W3.cell? ⟨w.heap.size + 1, 0, none⟩ = some (.int .i64 (n : Nat)) := r1.cell (i := 0) rfl
  have n0 : ¬ (n : Int) < 0 := by omega
  have n1 : (n : Int) < (m.bl.length : Int) := by have := (List.getElem?_eq_some_iff.1 ho).1; omega
  have HR : Hid (Below w.heap.size w W3 ∧ Row W3 (w.heap.size + 1 + 1) [.int .i64 0, .int .i64 0, .int .i64 0, .nilFunc] 149) := ⟨hb, r2⟩
  have HS : Hid (W3.heap.size = w.heap.size + 1 + 1 + 1) := hsz
  clear h ho hm r0 r1 r2 hb hsz
  go_enter Tryz.func224, Tryz.ntmps224
  go_wp2_with fail
  rw [← hW3]
  clear hW3
  have a0 := fun ob => Lib.cell?_alloc_some (W := W3) ob p0
  have a1 := fun ob => Lib.cell?_alloc_some (W := W3) ob p1
  have a2 := fun ob => Lib.cell?_alloc_some (W := W3) ob c1
  have b0 := fun ob => Lib.cell?_alloc_some (W := W3) ob g0
  have b1 := fun ob => Lib.cell?_alloc_some (W := W3) ob g1
  have b2 := fun ob => Lib.cell?_alloc_some (W := W3) ob g2
  have b3 := fun ob => Lib.cell?_alloc_some (W := W3) ob g3
  have b4 := fun ob => Lib.cell?_alloc_some (W := W3) ob g4
  have b5 := fun ob => Lib.cell?_alloc_some (W := W3) ob g5
  go_region
  obtain ⟨W4, hW4⟩ : ∃ W4, W4 = (W3.alloc (.cells #[.int .i64 o.st, .int .i64 o.cnt, .int .i64 o.leb, .int .i64 o.used, .int .u64 o.seq, .bool o.closed] 156)).drew := ⟨_, rfl⟩
  have hb4 : Below W3.heap.size W3 W4 := by rw [hW4]; exact Below.after (below_new W3 _) (below_drew' _)
  have r4 : Row W4 W3.heap.size (blCells o) 156 := by rw [hW4]; exact (Row.new W3 (blCells o) _).later (below_drew' _)
  have r5 := HR.out.2.later hb4
  rw [← hW4]
  clear hW4
  have q2 : W4.cell? ⟨W3.heap.size, 2, none⟩ = some (.int .i64 o.leb) := r4.cell (i := 2) rfl
  have q3 : W4.cell? ⟨W3.heap.size, 3, none⟩ = some (.int .i64 o.used) := r4.cell (i := 3) rfl
  have t0 : W4.cell? ⟨w.heap.size + 1 + 1, 0, none⟩ = some (.int .i64 0) := r5.cell (i := 0) rfl
  have t1 : W4.cell? ⟨w.heap.size + 1 + 1, 1, none⟩ = some (.int .i64 0) := r5.cell (i := 1) rfl
  have t2 : W4.cell? ⟨w.heap.size + 1 + 1, 2, none⟩ = some (.int .i64 0) := r5.cell (i := 2) rfl
  have t3 : W4.cell? ⟨w.heap.size + 1 + 1, 3, none⟩ = some .nilFunc := r5.cell (i := 3) rfl
  have fz := r5.frozen
  have u0 := hb4.cell (p := ⟨w.heap.size, 0, none⟩) (World.block_lt_of_cell? W3 _ p0)
  rw [p0] at u0
  have u1 := hb4.cell (p := ⟨w.heap.size + 1, 0, none⟩) (World.block_lt_of_cell? W3 _ p1)
  rw [p1] at u1
  have HB4 : Hid (Below w.heap.size w W4) := Below.after HR.out.1 hb4
  have HU : Hid (W4.cell? ⟨w.heap.size, 0, none⟩ = some (.pointer (some ⟨m.p, 0, none⟩)) ∧ W4.cell? ⟨w.heap.size + 1, 0, none⟩ = some (.int .i64 (n : Nat))) := ⟨u0, u1⟩
  clear a0 a1 a2 b0 b1 b2 b3 b4 b5 c1 g0 g1 g2 g3 g4 g5 p0 p1 HR hl1 hl2 n0 n1 r4 r5 hb4 u0 u1
  go_wp2
  refine bodyPost_ret (v := .agg #[.int .i64 o.leb, .int .i64 o.used, .int .i64 o.used, .func (.func 225) #[] #[.pointer (some ⟨w.heap.size, 0, none⟩), .pointer (some ⟨w.heap.size + 1, 0, none⟩)]]) ?_ rfl ⟨w.heap.size, w.heap.size + 1, rfl, ?_, ?_, ?_, Nat.le_refl _, by omega⟩
  · simp [results, Tryz.f224, go_sem, t0, t1, t2, t3]
  · have z : w.heap.size ≠ w.heap.size + 1 + 1 := by omega
    rw [cell_other z, cell_other z, cell_other z, cell_other z]; exact HU.out.1
  · have z : w.heap.size + 1 ≠ w.heap.size + 1 + 1 := by omega
    rw [cell_other z, cell_other z, cell_other z, cell_other z]; exact HU.out.2
  · have z : w.heap.size ≤ w.heap.size + 1 + 1 := by omega
    exact (((HB4.out.setCell z _).setCell z _).setCell z _).setCell z _
theorem copied1_ok {base : Nat} {w : World} {m : Mg} {c : CS} (h : MLies base w m c) (n i Bm Bn : Nat) (hi : i ≤ 64) (l : List Nat) (hr : c.read n (2 + (i : Int)) = (l, 0)) (hm : w.cell? ⟨Bm, 0, none⟩ = some (.pointer (some ⟨m.p, 0, none⟩))) (hn : w.cell? ⟨Bn, 0, none⟩ = some (.int .i64 (n : Nat))) :
    Calls Tryz.prog 225 #[.int .i64 (i : Nat), .pointer (some ⟨Bm, 0, none⟩), .pointer (some ⟨Bn, 0, none⟩)] w fun e w' => ∃ a k cap, e = .returned (.tuple #[.slice a k cap, .nilIface]) ∧ Got w w' l a k cap := by
  have k1 := mread_ok h n i hi l hr
  clear h hr hi
  go_enter Tryz.func225, Tryz.ntmps225
  go_wp2_with (go_at_call 226; refine k1.mono ?_; rintro e w1 ⟨a, k, cap, rfl, hg⟩; have HG : Hid (Got w w1 l a k cap) := hg; clear hg)
  refine bodyPost_ret (v := .tuple #[.slice a k cap, .nilIface]) ?_ rfl ⟨a, k, cap, rfl, HG.out⟩
  simp [results, Tryz.f225, go_sem]
set_option maxHeartbeats 1000000 in
theorem transfer_given {base : Nat} {w : World} {m : Mg} {c : CS} (h : MLies base w m c) (n i : Nat) (hi : i ≤ 64) (leb p q : Int) (data : List Nat) (B n2 b off cap ki : Nat) (a : Option Addr) (hB : w.cell? ⟨B, 0, none⟩ = some (.slice (some ⟨b, off, none⟩) n2 cap)) (hi2 : i < n2) (hc : w.cell? ⟨b, off + i, none⟩ = some (.slice a data.length ki)) (hd : Dt (MFoot m c) w a data) :
    Calls Tryz.prog 192 #[.pointer (some ⟨m.p, 0, none⟩), .int .i64 (n : Nat), .int .i64 (i : Nat), .agg #[.int .i64 leb, .int .i64 p, .int .i64 q, .func (.func 115) #[] #[.pointer (some ⟨B, 0, none⟩)]]] w (DoPost base w m c (c.programM n (2 + (i : Int)) data)) := by
  obtain ⟨W, hW⟩ : ∃ W, W = w.alloc (.cells #[.int .i64 leb, .int .i64 p, .int .i64 q, .func (.func 115) #[] #[.pointer (some ⟨B, 0, none⟩)]] 149) := ⟨_, rfl⟩
  have HBW : Hid (Below w.heap.size w W) := by rw [hW]; exact below_new w _
  have k1 := given1_any B i b off ki a n2 cap data.length W (by rw [HBW.out.cell (p := ⟨B, 0, none⟩) (World.block_lt_of_cell? w _ hB)]; exact hB) hi2 (by rw [HBW.out.cell (p := ⟨b, off + i, none⟩) (World.block_lt_of_cell? w _ hc)]; exact hc)
  have k2 := mprogram_any (h.later HBW.out) (n : Nat) (2 + (i : Int)) a data.length ki data rfl (hd.brow.later HBW.out) hd.lt hd.foot
  obtain ⟨kl, hkl⟩ : ∃ kl, kl = data.length := ⟨_, rfl⟩
  rw [← hkl] at k1 k2
  clear hB hc hd hi2 hkl
  obtain ⟨r, hr⟩ : ∃ r, r = c.programM n (2 + (i : Int)) data := ⟨_, rfl⟩
  rw [← hr] at k2 ⊢
  have i0 : (0 : Int) ≤ (i : Int) := by omega
  have i1 : (i : Int) ≤ 64 := by omega
  clear h hr hi
  go_enter Tryz.func192, Tryz.ntmps192
  go_wp2_with fail
  rw [← hW]
  clear hW
  go_wp2_with (first
    | (go_at_call 115; refine k1.mono ?_; rintro e w1 ⟨rfl, rfl⟩; have K2 := k2)
    | (go_at_call 170; refine K2.mono ?_; rintro e w2 ⟨v, rfl, he, hl, hk, hf⟩))
  go_ret
  exact ⟨v, rfl, he, hl, (Kept.of_below HBW.out).trans hk, hf⟩
set_option maxHeartbeats 1000000 in
theorem transfer_copied {base : Nat} {w : World} {m : Mg} {c : CS} (h : MLies base w m c) (n i : Nat) (hi : i ≤ 64) (leb p q : Int) (data : List Nat) (fr Bm Bn : Nat) (hr0 : c.read fr (2 + (i : Int)) = (data, 0)) (hm : w.cell? ⟨Bm, 0, none⟩ = some (.pointer (some ⟨m.p, 0, none⟩))) (hn : w.cell? ⟨Bn, 0, none⟩ = some (.int .i64 (fr : Nat))) :
    Calls Tryz.prog 192 #[.pointer (some ⟨m.p, 0, none⟩), .int .i64 (n : Nat), .int .i64 (i : Nat), .agg #[.int .i64 leb, .int .i64 p, .int .i64 q, .func (.func 225) #[] #[.pointer (some ⟨Bm, 0, none⟩), .pointer (some ⟨Bn, 0, none⟩)]]] w (DoPost base w m c (c.programM n (2 + (i : Int)) data)) := by
  obtain ⟨W, hW⟩ : ∃ W, W = w.alloc (.cells #[.int .i64 leb, .int .i64 p, .int .i64 q, .func (.func 225) #[] #[.pointer (some ⟨Bm, 0, none⟩), .pointer (some ⟨Bn, 0, none⟩)]] 149) := ⟨_, rfl⟩
  have HBW : Hid (Below w.heap.size w W) := by rw [hW]; exact below_new w _
  have k1 := copied1_ok (h.later HBW.out) fr i Bm Bn hi data hr0 (by rw [HBW.out.cell (p := ⟨Bm, 0, none⟩) (World.block_lt_of_cell? w _ hm)]; exact hm) (by rw [HBW.out.cell (p := ⟨Bn, 0, none⟩) (World.block_lt_of_cell? w _ hn)]; exact hn)
  have k2 : ∀ (X : World) (a : Option Addr) (k cap : Nat), Got W X data a k cap → Calls Tryz.prog 170 #[.pointer (some ⟨m.p, 0, none⟩), .int .i64 (n : Nat), .int .i64 (2 + (i : Int)), .slice a k cap] X (DoPost base X m c (c.programM n (2 + (i : Int)) data)) := fun X a k cap hg => mprogram_any ((h.later HBW.out).later hg.below) (n : Nat) (2 + (i : Int)) a k cap data hg.len hg.row (by have := read_lt h.chip.good fr (2 + (i : Int)); rw [hr0] at this; exact this) (by
    rcases hg.fresh with e | e
    · exact .inl e
    · exact .inr fun b o hb => foot_new (h.later HBW.out).chip (e b o hb))
  clear hm hn hr0
  obtain ⟨r, hr⟩ : ∃ r, r = c.programM n (2 + (i : Int)) data := ⟨_, rfl⟩
  rw [← hr] at k2 ⊢
  have i0 : (0 : Int) ≤ (i : Int) := by omega
  have i1 : (i : Int) ≤ 64 := by omega
  clear h hr hi
  go_enter Tryz.func192, Tryz.ntmps192
  go_wp2_with fail
  rw [← hW]
  clear hW
  go_wp2_with (first
    | (go_at_call 225; refine k1.mono ?_; rintro e w1 ⟨a, k, cap, rfl, hg⟩; have K2 := k2 _ a k cap hg; have HG : Hid (Below W.heap.size W w1) := hg.below; clear hg)
    | (go_at_call 170; refine K2.mono ?_; rintro e w2 ⟨v, rfl, he, hl, hk, hf⟩))
  go_ret
  exact ⟨v, rfl, he, hl, ((Kept.of_below HBW.out).trans (.of_below HG.out)).trans hk, hf⟩
end Go.Proofs.YtkfecngkdlajgaaGreatDoor
namespace Go.Proofs.YtkfecngkdlajgaaGreatDoor
open Go.RowKit
set_option maxRecDepth 10000

theorem programM_keep (c : CS) (n p : Int) (d : List Nat) : (c.programM n p d).2.gz = c.gz ∧ (c.programM n p d).2.gp = c.gp ∧ ∀ k : Nat, (k : Int) ≠ n → (c.programM n p d).2.bks[k]? = c.bks[k]? := by
  unfold CS.programM CS.program
  repeat' split
  all_goals first
    | exact ⟨rfl, rfl, fun _ _ => rfl⟩
    | exact ⟨rfl, rfl, fun k hk => List.getElem?_set_ne (fun e => hk (by omega))⟩
theorem pagesM_keep (n : Int) : ∀ (L : List (List Nat)) (c : CS) (i : Nat), (pagesM c n i L).2.gz = c.gz ∧ (pagesM c n i L).2.gp = c.gp ∧ ∀ k : Nat, (k : Int) ≠ n → (pagesM c n i L).2.bks[k]? = c.bks[k]?
  | [], c, i => ⟨rfl, rfl, fun _ _ => rfl⟩
  | d :: L, c, i => by
    have h1 := programM_keep c n (2 + (i : Int)) d
    have h2 := pagesM_keep n L (c.programM n (2 + (i : Int)) d).2 (i + 1)
    rw [pagesM_cons]
    split
    · exact ⟨h2.1.trans h1.1, h2.2.1.trans h1.2.1, fun k hk => (h2.2.2 k hk).trans (h1.2.2 k hk)⟩
    · exact h1
theorem writeM_keep (m : Mg) (c : CS) (n leb must : Nat) (L : List (List Nat)) : (writeM m c n leb must L).2.2.gz = c.gz ∧ (writeM m c n leb must L).2.2.gp = c.gp ∧ (∀ k : Nat, k ≠ n → (writeM m c n leb must L).2.2.bks[k]? = c.bks[k]?) ∧ (writeM m c n leb must L).2.1.p = m.p ∧ (writeM m c n leb must L).2.1.bb = m.bb ∧ (writeM m c n leb must L).2.1.seq = m.seq + 1 ∧ ((writeM m c n leb must L).1 ≠ 0 → (writeM m c n leb must L).2.1.bl = m.bl) := by
  have h1 := programM_keep c n 1 (Hd.imgL (Hd.mapL leb (m.seq + 1) must) c.gz)
  have h2 := pagesM_keep n L (c.programM n 1 (Hd.imgL (Hd.mapL leb (m.seq + 1) must) c.gz)).2 0
  unfold writeM
  split
  · split
    · exact ⟨h2.1.trans h1.1, h2.2.1.trans h1.2.1, fun k hk => (h2.2.2 k (by omega)).trans (h1.2.2 k (by omega)), rfl, rfl, rfl, fun h => absurd rfl h⟩
    · exact ⟨h2.1.trans h1.1, h2.2.1.trans h1.2.1, fun k hk => (h2.2.2 k (by omega)).trans (h1.2.2 k (by omega)), rfl, rfl, rfl, fun _ => rfl⟩
  · exact ⟨h1.1, h1.2.1, fun k hk => h1.2.2 k (by omega), rfl, rfl, rfl, fun _ => rfl⟩
theorem mark_keep (c : CS) (n : Nat) : (c.mark n).2.gz = c.gz ∧ (c.mark n).2.gp = c.gp ∧ ∀ k : Nat, k ≠ n → (c.mark n).2.bks[k]? = c.bks[k]? := by
  unfold CS.mark
  repeat' split
  all_goals first
    | exact ⟨rfl, rfl, fun _ _ => rfl⟩
    | exact ⟨rfl, rfl, fun k hk => List.getElem?_set_ne (fun e => hk (by omega))⟩
/-- The chip as far as a draft needs it. -/
structure Pass (fr : Option Nat) (c c' : CS) : Prop where
  gz : c'.gz = c.gz
  foot : c'.foot = c.foot
  same : ∀ k, fr = some k → c'.bks[k]? = c.bks[k]?
theorem Pass.refl (fr : Option Nat) (c : CS) : Pass fr c c := ⟨rfl, rfl, fun _ _ => rfl⟩
theorem MFoot_eq {m m' : Mg} {c c' : CS} (h1 : m'.p = m.p) (h2 : m'.bb = m.bb) (h3 : c'.foot = c.foot) : MFoot m' c' = MFoot m c := by
  funext k
  unfold MFoot
  rw [h1, h2, h3]
/-- A draft's pages can be written wherever the manager goes on from here. -/
def Feeds (base : Nat) (w : World) (m : Mg) (c : CS) (fr : Option Nat) (L : List (List Nat)) (d : Value) : Prop :=
  ∀ W m' c' (n i : Nat) x, MLies base W m' c' → m'.p = m.p → m'.bb = m.bb → Kept (MFoot m c) w W → Pass fr c c' → c'.on = true → L[i]? = some x → Calls Tryz.prog 192 #[.pointer (some ⟨m.p, 0, none⟩), .int .i64 (n : Nat), .int .i64 (i : Nat), d] W (DoPost base W m' c' (c'.programM n (2 + (i : Int)) x))
/-- What is known of a manager while a draft is laid. -/
structure Ly (base : Nat) (w : World) (m : Mg) (c : CS) (fr : Option Nat) (W : World) (m1 : Mg) (c1 : CS) : Prop where
  ml : MLies base W m1 c1
  p : m1.p = m.p
  bb : m1.bb = m.bb
  kp : Kept (MFoot m c) w W
  ps : Pass fr c c1
  nf : ∀ k, fr = some k → ∃ x, m1.bl[k]? = some x ∧ x.st ≠ 2
theorem Ly.write {base : Nat} {w : World} {m : Mg} {c : CS} {fr : Option Nat} {W : World} {m1 : Mg} {c1 : CS} (h : Ly base w m c fr W m1 c1) {L : List (List Nat)} {f : Value} {leb must n : Nat} {o : Bl}
    (hF : Feeds base w m c fr L (.agg #[.int .i64 (leb : Nat), .int .i64 (L.length : Nat), .int .i64 (must : Nat), f])) (ho : m1.bl[n]? = some o) (h2 : o.st = 2) (hs : m1.seq + 1 < 18446744073709551616) (hle : leb ≤ 255) (hmu : must ≤ 64) (hz : 64 ≤ c.gz) (hL : L.length ≤ 64) :
    Calls Tryz.prog 156 #[.pointer (some ⟨m.p, 0, none⟩), .int .i64 (n : Nat), .agg #[.int .i64 (leb : Nat), .int .i64 (L.length : Nat), .int .i64 (must : Nat), f]] W (fun e w' => ∃ v, e = .returned v ∧ ErrV w' v (writeM m1 c1 n leb must L).1 ∧ Ly base w m c fr w' (writeM m1 c1 n leb must L).2.1 (writeM m1 c1 n leb must L).2.2) := by
  have hfn : ∀ k, fr = some k → k ≠ n := fun k hk e => by
    obtain ⟨x, hx, hx2⟩ := h.nf k hk
    rw [e, ho] at hx
    cases hx
    exact hx2 h2
  have hmf := MFoot_eq h.p h.bb h.ps.foot
  have kw := mwrite_any h.ml n leb must L f o ho hs hle hmu (by rw [h.ps.gz]; exact hz) hL (fun X c' i d hX hk ho2 hd => by
    rw [h.p]
    refine hF X m1.next c' n i d hX h.p h.bb (h.kp.trans (hmf ▸ hk)) ⟨ho2.gz.trans h.ps.gz, ho2.foot.trans h.ps.foot, fun k hk2 => (ho2.same k (hfn k hk2)).trans (h.ps.same k hk2)⟩ ho2.on hd)
  rw [h.p] at kw
  refine kw.mono ?_
  rintro e w' ⟨v, rfl, he, hl, hk, hf⟩
  obtain ⟨a1, a2, a3, a4, a5, a6, a7⟩ := writeM_keep m1 c1 n leb must L
  refine ⟨v, rfl, he, hl, a4.trans h.p, a5.trans h.bb, h.kp.trans (hmf ▸ hk), ⟨a1.trans h.ps.gz, hf.trans h.ps.foot, fun k hk2 => (a3 k (hfn k hk2)).trans (h.ps.same k hk2)⟩, fun k hk2 => ?_⟩
  obtain ⟨x, hx, hx2⟩ := h.nf k hk2
  refine ⟨x, ?_, hx2⟩
  by_cases h0 : (writeM m1 c1 n leb must L).1 = 0
  · have : (writeM m1 c1 n leb must L).2.1.bl[k]? = m1.bl[k]? := by
      rw [writeM_S ho] at h0 ⊢
      split
      · exact List.getElem?_set_ne (fun e => hfn k hk2 e.symm)
      · rfl
    rw [this]; exact hx
  · rw [a7 h0]; exact hx
theorem Ly.retire {base : Nat} {w : World} {m : Mg} {c : CS} {fr : Option Nat} {W : World} {m1 : Mg} {c1 : CS} (h : Ly base w m c fr W m1 c1) {n : Nat} {o : Bl} (ho : m1.bl[n]? = some o) (h2 : o.st = 2) :
    Calls Tryz.prog 132 #[.pointer (some ⟨m.p, 0, none⟩), .int .i64 (n : Nat)] W fun e w' => e = .returned (.tuple #[]) ∧ Ly base w m c fr w' (m1.put n badBl) (c1.mark n).2 := by
  have hmf := MFoot_eq h.p h.bb h.ps.foot
  have hfn : ∀ k, fr = some k → k ≠ n := fun k hk e => by
    obtain ⟨x, hx, hx2⟩ := h.nf k hk
    rw [e, ho] at hx
    cases hx
    exact hx2 h2
  have kr := mretire_any h.ml n (List.getElem?_eq_some_iff.1 ho).1
  rw [h.p] at kr
  refine kr.mono ?_
  rintro e w' ⟨rfl, hl, hk, hf⟩
  obtain ⟨a1, a2, a3⟩ := mark_keep c1 n
  refine ⟨rfl, hl, h.p, h.bb, h.kp.trans (hmf ▸ hk), ⟨a1.trans h.ps.gz, hf.trans h.ps.foot, fun k hk2 => (a3 k (hfn k hk2)).trans (h.ps.same k hk2)⟩, fun k hk2 => ?_⟩
  obtain ⟨x, hx, hx2⟩ := h.nf k hk2
  exact ⟨x, by show (m1.bl.set n badBl)[k]? = _; rw [List.getElem?_set_ne (fun e => hfn k hk2 e.symm)]; exact hx, hx2⟩
theorem Ly.later {base : Nat} {w : World} {m : Mg} {c : CS} {fr : Option Nat} {W W' : World} {m1 : Mg} {c1 : CS} (h : Ly base w m c fr W m1 c1) (hb : Below W.heap.size W W') : Ly base w m c fr W' m1 c1 :=
  ⟨h.ml.later hb, h.p, h.bb, h.kp.trans (.of_below hb), h.ps, h.nf⟩
/-- What lay goes on to do behind a write that said x. -/
noncomputable def layK (leb must : Nat) (L : List (List Nat)) (f : Nat) (m : Mg) (c : CS) (n x : Int) : Int × Int × Mg × CS :=
  if x = 5 then
    (if leastI (m.put n.toNat badBl).bl < 0 then (leastI (m.put n.toNat badBl).bl, 30, m.put n.toNat badBl, (c.mark n).2)
    else layM leb must L f (m.put n.toNat badBl) (c.mark n).2 (leastI (m.put n.toNat badBl).bl).toNat)
  else (n, x, m, c)
theorem layM_K (leb must : Nat) (L : List (List Nat)) (f : Nat) (m : Mg) (c : CS) (n : Nat) : layM leb must L (f + 1) m c n = layK leb must L f (writeM m c n leb must L).2.1 (writeM m c n leb must L).2.2 n (writeM m c n leb must L).1 := by
  unfold layK
  rw [Int.toNat_natCast]
  rfl
def LPost (base : Nat) (w : World) (m : Mg) (c : CS) (fr : Option Nat) (r : Int × Int × Mg × CS) (e : Ending) (w' : World) : Prop :=
  ∃ v, e = .returned (.tuple #[.int .i64 r.1, v]) ∧ ErrV w' v r.2.1 ∧ Ly base w m c fr w' r.2.2.1 r.2.2.2
/-- The loop of lay. -/
def LyGo (base : Nat) (w : World) (m : Mg) (c : CS) (fr : Option Nat) (leb must : Nat) (L : List (List Nat)) (X : Int × Int × Mg × CS) (wr : World) (v : Value) (n : Int) (kx : Nat) : Prop :=
  1 ≤ kx ∧ ∃ m1 c1 x, Ly base w m c fr wr m1 c1 ∧ ErrV wr v x ∧ X = layK leb must L (kx - 2) m1 c1 n x ∧ (x = 5 → 2 ≤ kx ∧ ∃ (k : Nat) (o : Bl), n = k ∧ m1.bl[k]? = some o ∧ o.st = 2 ∧ cntS 2 m1.bl ≤ kx - 2 + 1 ∧ m1.seq + (kx - 2) < 18446744073709551616)
theorem Feeds.later {base : Nat} {w w' : World} {m : Mg} {c : CS} {fr : Option Nat} {L : List (List Nat)} {d : Value} (h : Feeds base w m c fr L d) (hk : Kept (MFoot m c) w w') : Feeds base w' m c fr L d :=
  fun W m' c' n i x h1 h2 h3 h4 h5 h6 h7 => h W m' c' n i x h1 h2 h3 (hk.trans h4) h5 h6 h7
theorem Ly.back {base : Nat} {w w0 : World} {m : Mg} {c : CS} {fr : Option Nat} {W : World} {m1 : Mg} {c1 : CS} (h : Ly base w0 m c fr W m1 c1) (hb : Kept (MFoot m c) w w0) : Ly base w m c fr W m1 c1 := ⟨h.ml, h.p, h.bb, hb.trans h.kp, h.ps, h.nf⟩
theorem Ly.box {base : Nat} {w0 : World} {m : Mg} {c : CS} {fr : Option Nat} {W : World} {m1 : Mg} {c1 : CS} (h : Ly base w0 m c fr W m1 c1) {B : Nat} {cs : List Value} (h0 : MLies base w0 m c) (hr : Row w0 B cs 149) : Row W B cs 149 :=
  hr.kept h.kp (by
    rintro (e | e | e)
    · exact hr.ne h0.box (by decide) e
    · exact hr.ne h0.row (by decide) e
    · exact h0.chip.apart hr (by decide) (by decide) (by decide) e)
set_option maxHeartbeats 4000000 in
theorem mlay_any {base : Nat} {w : World} {m : Mg} {c : CS} {fr : Option Nat} (h : Ly base w m c fr w m c) (fuel n leb must : Nat) (L : List (List Nat)) (f : Value) (o : Bl) (ho : m.bl[n]? = some o) (h2 : o.st = 2) (hc : cntS 2 m.bl ≤ fuel + 1) (hs : m.seq + fuel + 1 < 18446744073709551616) (hle : leb ≤ 255) (hmu : must ≤ 64) (hz : 64 ≤ c.gz) (hL : L.length ≤ 64)
    (hF : Feeds base w m c fr L (.agg #[.int .i64 (leb : Nat), .int .i64 (L.length : Nat), .int .i64 (must : Nat), f])) :
    Calls Tryz.prog 114 #[.pointer (some ⟨m.p, 0, none⟩), .int .i64 (n : Nat), .agg #[.int .i64 (leb : Nat), .int .i64 (L.length : Nat), .int .i64 (must : Nat), f]] w (LPost base w m c fr (layM leb must L (fuel + 1) m c n)) := by
  obtain ⟨W0, hW0⟩ : ∃ W0, W0 = w.alloc (.cells #[.int .i64 (leb : Nat), .int .i64 (L.length : Nat), .int .i64 (must : Nat), f] 149) := ⟨_, rfl⟩
  have HK0 : Hid (Kept (MFoot m c) w W0) := by rw [hW0]; exact .of_below (below_new w _)
  have HR0 : Hid (Row W0 w.heap.size [.int .i64 (leb : Nat), .int .i64 (L.length : Nat), .int .i64 (must : Nat), f] 149) := by rw [hW0]; exact Row.new w [_, _, _, _] _
  have h0 : Ly base W0 m c fr W0 m c := by
    refine ⟨?_, rfl, rfl, Kept.refl _ _, Pass.refl _ _, h.nf⟩
    rw [hW0]; exact h.ml.later (below_new w _)
  have HM0 : Hid (MLies base W0 m c) := h0.ml
  have HWr : Hid (∀ W m1 c1 (n : Nat) o, Ly base W0 m c fr W m1 c1 → m1.bl[n]? = some o → o.st = 2 → m1.seq + 1 < 18446744073709551616 → Calls Tryz.prog 156 #[.pointer (some ⟨m.p, 0, none⟩), .int .i64 (n : Nat), .agg #[.int .i64 (leb : Nat), .int .i64 (L.length : Nat), .int .i64 (must : Nat), f]] W (fun e w' => ∃ v, e = .returned v ∧ ErrV w' v (writeM m1 c1 n leb must L).1 ∧ Ly base W0 m c fr w' (writeM m1 c1 n leb must L).2.1 (writeM m1 c1 n leb must L).2.2)) := fun W m1 c1 n o hl ho h2 hs => hl.write (hF.later HK0.out) ho h2 hs hle hmu hz hL
  have kw := HWr.out W0 m c n o h0 ho h2 (by omega)
  rw [layM_K]
  have hw := writeM_keep m c n leb must L
  have HSt : Hid ((writeM m c n leb must L).1 = 5 → ∃ (k : Nat) (o : Bl), (n : Int) = k ∧ (writeM m c n leb must L).2.1.bl[k]? = some o ∧ o.st = 2 ∧ cntS 2 (writeM m c n leb must L).2.1.bl ≤ fuel + 1 ∧ (writeM m c n leb must L).2.1.seq + fuel < 18446744073709551616) := fun h5 => by
    have hb := hw.2.2.2.2.2.2 (by rw [h5]; decide)
    exact ⟨n, o, rfl, by rw [hb]; exact ho, h2, by rw [hb]; exact hc, by rw [hw.2.2.2.2.2.1]; omega⟩
  obtain ⟨r, hr⟩ : ∃ r, r = writeM m c n leb must L := ⟨_, rfl⟩
  rw [← hr] at kw HSt ⊢
  obtain ⟨X, hX⟩ : ∃ X, X = layK leb must L fuel r.2.1 r.2.2 n r.1 := ⟨_, rfl⟩
  rw [← hX]
  have HX : Hid (X = layK leb must L fuel r.2.1 r.2.2 n r.1) := hX
  clear h ho h2 hc hs hle hmu hz hL hF hw hr hX h0
  go_enter Tryz.func114, Tryz.ntmps114
  go_wp2_with fail
  rw [← hW0]
  clear hW0
  go_wp2_with (go_at_call 156; refine kw.mono ?_; rintro e w1 ⟨v, rfl, he, hl⟩; have HE : Hid (ErrV w1 v r.1) := he; have HL : Hid (Ly base W0 m c fr w1 r.2.1 r.2.2) := hl; clear he hl)
  go_loopg [1, 8] (fuel + 2) (fun kx s1 s8 wr => ∃ (n : Int) (v : Value), s1 = .int .i64 n ∧ v = s8 ∧ Hid (LyGo base W0 m c fr leb must L X wr v n kx))
  case atStart => exact ⟨n, v, rfl, rfl, ⟨by omega, r.2.1, r.2.2, r.1, HL.out, HE.out, by rw [HX.out]; rfl, fun h5 => ⟨by omega, HSt.out h5⟩⟩⟩
  case round =>
    obtain ⟨k, u, rfl, rfl, HG⟩ := hrel
    obtain ⟨hk1, m1, c1, x, hl, he, hX, h5⟩ := HG.out
    have HL1 : Hid (Ly base W0 m c fr wr m1 c1) := hl
    have HE1 : Hid (ErrV wr u x) := he
    have kI := Is_any he 5 (by decide)
    clear HG kw HL HE HSt HX hl
    by_cases hx : x = 5
    · have e1 : (x == 5) = true := by simp [hx]
      rw [e1] at kI
      obtain ⟨hk2, j, o1, hj, ho1, hst, hcn, hsq⟩ := h5 hx
      obtain rfl := hj
      have kR := HL1.out.retire ho1 hst
      have hcs := cntS_set (st := 2) ho1 badBl
      rw [if_pos hst, if_neg (by decide)] at hcs
      unfold layK at hX
      rw [if_pos hx, Int.toNat_natCast] at hX
      have HB : Hid (m1.bl[j]? = some o1 ∧ o1.st = 2 ∧ cntS 2 (m1.put j badBl).bl + 1 = cntS 2 m1.bl ∧ cntS 2 m1.bl ≤ gk - 2 + 1 ∧ m1.seq + (gk - 2) < 18446744073709551616 ∧ 2 ≤ gk) := ⟨ho1, hst, hcs, hcn, hsq, hk2⟩
      have HXX : Hid (X = if leastI (m1.put j badBl).bl < 0 then (leastI (m1.put j badBl).bl, 30, m1.put j badBl, (c1.mark j).2) else layM leb must L (gk - 2) (m1.put j badBl) (c1.mark j).2 (leastI (m1.put j badBl).bl).toNat) := hX
      clear e1 h5 ho1 hst hcn hsq hk1 hX hx he hcs hk2
      by_cases hlt : leastI (m1.put j badBl).bl < 0
      · have HT : Hid (∀ W, Ly base W0 m c fr W (m1.put j badBl) (c1.mark j).2 → Calls Tryz.prog 113 #[.pointer (some ⟨m.p, 0, none⟩)] W fun e w' => ∃ v, e = .returned (.tuple #[.int .i64 (leastI (m1.put j badBl).bl), v]) ∧ ErrV w' v 30 ∧ Below W.heap.size W w') := fun W hW => by
          have := mtake_none hW.ml hlt
          rw [hW.p] at this
          exact this
        have HX2 : Hid (X = (leastI (m1.put j badBl).bl, 30, m1.put j badBl, (c1.mark j).2)) := by show X = _; rw [HXX.out, if_pos hlt]
        obtain ⟨q, hq⟩ : ∃ q, q = leastI (m1.put j badBl).bl := ⟨_, rfl⟩
        rw [← hq] at HT HX2
        clear hlt HXX hq
        go_wp2_with (first
          | (go_at_call 62; refine kI.mono ?_; rintro e w2 ⟨rfl, rfl⟩)
          | (go_at_call 132; refine kR.mono ?_; rintro e w3 ⟨rfl, hl3⟩; have HL3 : Hid (Ly base W0 m c fr w3 (m1.put j badBl) (c1.mark j).2) := hl3; clear hl3)
          | (go_at_call 113; refine (HT.out _ HL3.out).mono ?_; rintro e w4 ⟨v4, rfl, he4, hb4⟩; obtain ⟨B4, rfl⟩ := he4.some (by decide); have HL4 : Hid (Ly base W0 m c fr w4 (m1.put j badBl) (c1.mark j).2 ∧ ErrV w4 (.iface 283 (.pointer (some ⟨B4, 0, none⟩))) 30) := ⟨HL3.out.later hb4, he4⟩; clear he4 hb4))
        go_roundg (gk - 1)
        case measure => have := HB.out.2.2.2.2.2; omega
        case rel => exact ⟨q, _, rfl, rfl, ⟨by have := HB.out.2.2.2.2.2; omega, m1.put j badBl, (c1.mark j).2, 30, HL4.out.1, HL4.out.2, by rw [HX2.out]; rfl, fun h => absurd h (by decide)⟩⟩
      · obtain ⟨n2, o2, hn2, ho2, hs2⟩ := least_some (l := (m1.put j badBl).bl) (by
          refine Nat.pos_of_ne_zero fun hz => hlt ?_
          by_cases hh : leastI (m1.put j badBl).bl < 0
          · exact hh
          · exfalso
            unfold leastI at hh
            have h0 := sel_count 2 (m1.put j badBl).bl 0
            rw [hz] at h0
            rw [List.eq_nil_of_length_eq_zero h0] at hh
            exact hh (by decide))
        have HT : Hid (∀ W, Ly base W0 m c fr W (m1.put j badBl) (c1.mark j).2 → Calls Tryz.prog 113 #[.pointer (some ⟨m.p, 0, none⟩)] W fun e w' => e = .returned (.tuple #[.int .i64 (n2 : Nat), .nilIface]) ∧ Below W.heap.size W w') := fun W hW => by
          have := mtake_any hW.ml hlt
          rw [hW.p, hn2] at this
          exact this
        have hcp : 1 ≤ cntS 2 (m1.put j badBl).bl := List.countP_pos_iff.2 ⟨o2, List.mem_of_getElem? ho2, by simp [hs2]⟩
        obtain ⟨fu, hfu⟩ : ∃ fu, gk = fu + 3 := ⟨gk - 3, by have := HB.out; omega⟩
        have HX2 : Hid (X = layM leb must L (fu + 1) (m1.put j badBl) (c1.mark j).2 n2) := by
          show X = _
          rw [HXX.out, if_neg hlt, hn2, Int.toNat_natCast, hfu]
          rfl
        have hsq : (m1.put j badBl).seq + 1 < 18446744073709551616 := by have := HB.out; show m1.seq + 1 < _; omega
        have HW2 : Hid (∀ W, Ly base W0 m c fr W (m1.put j badBl) (c1.mark j).2 → Calls Tryz.prog 156 #[.pointer (some ⟨m.p, 0, none⟩), .int .i64 (n2 : Nat), .agg #[.int .i64 (leb : Nat), .int .i64 (L.length : Nat), .int .i64 (must : Nat), f]] W (fun e w' => ∃ v, e = .returned v ∧ ErrV w' v (writeM (m1.put j badBl) (c1.mark j).2 n2 leb must L).1 ∧ Ly base W0 m c fr w' (writeM (m1.put j badBl) (c1.mark j).2 n2 leb must L).2.1 (writeM (m1.put j badBl) (c1.mark j).2 n2 leb must L).2.2)) := fun W hW => HWr.out W _ _ n2 o2 hW ho2 hs2 hsq
        have hw := writeM_keep (m1.put j badBl) (c1.mark j).2 n2 leb must L
        have HSt : Hid ((writeM (m1.put j badBl) (c1.mark j).2 n2 leb must L).1 = 5 → 2 ≤ fu + 2 ∧ ∃ (k : Nat) (o : Bl), (n2 : Int) = k ∧ (writeM (m1.put j badBl) (c1.mark j).2 n2 leb must L).2.1.bl[k]? = some o ∧ o.st = 2 ∧ cntS 2 (writeM (m1.put j badBl) (c1.mark j).2 n2 leb must L).2.1.bl ≤ fu + 2 - 2 + 1 ∧ (writeM (m1.put j badBl) (c1.mark j).2 n2 leb must L).2.1.seq + (fu + 2 - 2) < 18446744073709551616) := fun h5 => by
          have hb := hw.2.2.2.2.2.2 (by rw [h5]; decide)
          have := HB.out
          exact ⟨by omega, n2, o2, rfl, by rw [hb]; exact ho2, hs2, by rw [hb]; omega, by rw [hw.2.2.2.2.2.1]; show m1.seq + 1 + _ < _; omega⟩
        rw [layM_K] at HX2
        obtain ⟨r2, hr2⟩ : ∃ r2, r2 = writeM (m1.put j badBl) (c1.mark j).2 n2 leb must L := ⟨_, rfl⟩
        rw [← hr2] at HW2 HSt HX2
        have HFU : Hid (gk = fu + 3) := hfu
        clear hlt HXX hn2 ho2 hs2 hcp hfu hsq hw hr2
        go_wp2_with (first
          | (go_at_call 62; refine kI.mono ?_; rintro e w2 ⟨rfl, rfl⟩)
          | (go_at_call 132; refine kR.mono ?_; rintro e w3 ⟨rfl, hl3⟩; have HL3 : Hid (Ly base W0 m c fr w3 (m1.put j badBl) (c1.mark j).2) := hl3; clear hl3)
          | (go_at_call 113; refine (HT.out _ HL3.out).mono ?_; rintro e w4 ⟨rfl, hb4⟩; have HL4 : Hid (Ly base W0 m c fr w4 (m1.put j badBl) (c1.mark j).2) := HL3.out.later hb4; have hR4 := HL4.out.box HM0.out HR0.out; have d0 : w4.cell? ⟨w.heap.size, 0, none⟩ = some (.int .i64 (leb : Nat)) := hR4.cell (i := 0) rfl; have d1 : w4.cell? ⟨w.heap.size, 1, none⟩ = some (.int .i64 (L.length : Nat)) := hR4.cell (i := 1) rfl; have d2 : w4.cell? ⟨w.heap.size, 2, none⟩ = some (.int .i64 (must : Nat)) := hR4.cell (i := 2) rfl; have d3 : w4.cell? ⟨w.heap.size, 3, none⟩ = some f := hR4.cell (i := 3) rfl; clear hb4 hR4)
          | (go_at_call 156; refine (HW2.out _ HL4.out).mono ?_; rintro e w5 ⟨v5, rfl, he5, hl5⟩; have HL5 : Hid (Ly base W0 m c fr w5 r2.2.1 r2.2.2 ∧ ErrV w5 v5 r2.1) := ⟨hl5, he5⟩; clear he5 hl5))
        go_roundg (fu + 2)
        case measure => have := HFU.out; omega
        case rel => exact ⟨n2, v5, rfl, rfl, ⟨by omega, r2.2.1, r2.2.2, r2.1, HL5.out.1, HL5.out.2, by rw [HX2.out]; rfl, HSt.out⟩⟩
    · have e1 : (x == 5) = false := by simp [hx]
      rw [e1] at kI
      unfold layK at hX
      rw [if_neg hx] at hX
      have HXX : Hid (X = (k, x, m1, c1)) := hX
      clear e1 h5 hk1 hX hx he
      go_wp2_with (go_at_call 62; refine kI.mono ?_; rintro e w2 ⟨rfl, rfl⟩)
      refine bodyPost_ret (v := .tuple #[.int .i64 k, u]) ?_ rfl ?_
      · simp [results, Tryz.f114, go_sem]
      · rw [HXX.out]
        exact ⟨u, rfl, HE1.out, HL1.out.back HK0.out⟩
end Go.Proofs.YtkfecngkdlajgaaGreatDoor
namespace Go.Proofs.YtkfecngkdlajgaaGreatDoor
open Go.RowKit
set_option maxRecDepth 10000

theorem cntS_le (st : Int) (l : List Bl) : cntS st l ≤ l.length := List.countP_le_length
set_option maxHeartbeats 2000000 in
theorem msettle_any {base : Nat} {w : World} {m : Mg} {c : CS} {fr : Option Nat} (h : Ly base w m c fr w m c) (leb must : Nat) (L : List (List Nat)) (f : Value) (hs : m.seq + 258 < 18446744073709551616) (hle : leb ≤ 255) (hmu : must ≤ 64) (hz : 64 ≤ c.gz) (hL : L.length ≤ 64)
    (hF : Feeds base w m c fr L (.agg #[.int .i64 (leb : Nat), .int .i64 (L.length : Nat), .int .i64 (must : Nat), f])) :
    Calls Tryz.prog 78 #[.pointer (some ⟨m.p, 0, none⟩), .agg #[.int .i64 (leb : Nat), .int .i64 (L.length : Nat), .int .i64 (must : Nat), f]] w (LPost base w m c fr (settleM leb must L m c)) := by
  obtain ⟨W0, hW0⟩ : ∃ W0, W0 = w.alloc (.cells #[.int .i64 (leb : Nat), .int .i64 (L.length : Nat), .int .i64 (must : Nat), f] 149) := ⟨_, rfl⟩
  have hb0 : Below w.heap.size w W0 := by rw [hW0]; exact below_new w _
  have HB0 : Hid (Below w.heap.size w W0) := hb0
  have HR0 : Hid (Row W0 w.heap.size [.int .i64 (leb : Nat), .int .i64 (L.length : Nat), .int .i64 (must : Nat), f] 149) := by rw [hW0]; exact Row.new w [_, _, _, _] _
  have hm0 := h.ml.later hb0
  have hgs := h.ml.chip.good.gs
  have hlen := h.ml.len
  have hcn := cntS_le 2 m.bl
  unfold settleM
  by_cases hlt : leastI m.bl < 0
  · rw [if_pos hlt]
    have kt := mtake_none hm0 hlt
    have HL : Hid (∀ W, Below W0.heap.size W0 W → Ly base w m c fr W m c) := fun W hb => h.later (Below.after hb0 hb)
    obtain ⟨q, hq⟩ : ∃ q, q = leastI m.bl := ⟨_, rfl⟩
    rw [← hq] at kt ⊢
    clear h hs hle hmu hz hL hF hm0 hgs hlen hcn hlt hb0 hq
    go_enter Tryz.func78, Tryz.ntmps78
    go_wp2_with fail
    rw [← hW0]
    clear hW0
    go_wp2_with (go_at_call 113; refine kt.mono ?_; rintro e w1 ⟨v, rfl, he, hb⟩; obtain ⟨B, rfl⟩ := he.some (by decide); have HE : Hid (ErrV w1 (.iface 283 (.pointer (some ⟨B, 0, none⟩))) 30 ∧ Below W0.heap.size W0 w1) := ⟨he, hb⟩; clear he hb)
    refine bodyPost_ret (v := .tuple #[.int .i64 q, .iface 283 (.pointer (some ⟨B, 0, none⟩))]) ?_ rfl ⟨_, rfl, HE.out.1, HL.out _ HE.out.2⟩
    simp [results, Tryz.f78, go_sem]
  · rw [if_neg hlt]
    obtain ⟨n2, o2, hn2, ho2, hs2⟩ := least_some (l := m.bl) (by
      refine Nat.pos_of_ne_zero fun hz => hlt ?_
      by_cases hh : leastI m.bl < 0
      · exact hh
      · exfalso
        unfold leastI at hh
        have h0 := sel_count 2 m.bl 0
        rw [hz] at h0
        rw [List.eq_nil_of_length_eq_zero h0] at hh
        exact hh (by decide))
    have kt := mtake_any hm0 hlt
    have HLy : Hid (∀ W, Below w.heap.size w W → Calls Tryz.prog 114 #[.pointer (some ⟨m.p, 0, none⟩), .int .i64 (n2 : Nat), .agg #[.int .i64 (leb : Nat), .int .i64 (L.length : Nat), .int .i64 (must : Nat), f]] W (LPost base W m c fr (layM leb must L (m.bl.length + 1) m c n2))) := fun W hb =>
      mlay_any ⟨h.ml.later hb, rfl, rfl, Kept.refl _ _, Pass.refl _ _, h.nf⟩ m.bl.length n2 leb must L f o2 ho2 hs2 (by omega) (by omega) hle hmu hz hL (hF.later (.of_below hb))
    rw [hn2] at kt
    rw [hn2, Int.toNat_natCast]
    obtain ⟨X, hX⟩ : ∃ X, X = layM leb must L (m.bl.length + 1) m c n2 := ⟨_, rfl⟩
    rw [← hX] at HLy ⊢
    clear h hs hle hmu hz hL hF hm0 hgs hlen hcn hlt hb0 hn2 ho2 hs2 hX
    go_enter Tryz.func78, Tryz.ntmps78
    go_wp2_with fail
    rw [← hW0]
    clear hW0
    go_wp2_with (first
      | (go_at_call 113; refine kt.mono ?_; rintro e w1 ⟨rfl, hb⟩; have HB : Hid (Below w.heap.size w w1) := Below.after HB0.out hb; have hR := HR0.out.later hb; have d0 : w1.cell? ⟨w.heap.size, 0, none⟩ = some (.int .i64 (leb : Nat)) := hR.cell (i := 0) rfl; have d1 : w1.cell? ⟨w.heap.size, 1, none⟩ = some (.int .i64 (L.length : Nat)) := hR.cell (i := 1) rfl; have d2 : w1.cell? ⟨w.heap.size, 2, none⟩ = some (.int .i64 (must : Nat)) := hR.cell (i := 2) rfl; have d3 : w1.cell? ⟨w.heap.size, 3, none⟩ = some f := hR.cell (i := 3) rfl; clear hb hR)
      | (go_at_call 114; refine (HLy.out _ HB.out).mono ?_; rintro e w2 ⟨v, rfl, he, hl⟩; have HE : Hid (ErrV w2 v X.2.1 ∧ Ly base w1 m c fr w2 X.2.2.1 X.2.2.2) := ⟨he, hl⟩; clear he hl))
    refine bodyPost_ret (v := .tuple #[.int .i64 X.1, v]) ?_ rfl ⟨_, rfl, HE.out.1, HE.out.2.back (.of_below HB.out)⟩
    simp [results, Tryz.f78, go_sem]
/-- Copied pages feed a draft. -/
theorem feeds_copied {base : Nat} {w w1 : World} {m : Mg} {c : CS} (h : MLies base w m c) (hon : c.on = true) (fr Bm Bn u : Nat) (hu : u ≤ 64) (hrd : ∀ i, i < u → (c.read fr (2 + (i : Int))).2 = 0) (hm : w1.cell? ⟨Bm, 0, none⟩ = some (.pointer (some ⟨m.p, 0, none⟩))) (hn : w1.cell? ⟨Bn, 0, none⟩ = some (.int .i64 (fr : Nat))) (hBm : w.heap.size ≤ Bm) (hBn : w.heap.size ≤ Bn) (leb p q : Int) :
    Feeds base w1 m c (some fr) (copyL c fr u) (.agg #[.int .i64 leb, .int .i64 p, .int .i64 q, .func (.func 225) #[] #[.pointer (some ⟨Bm, 0, none⟩), .pointer (some ⟨Bn, 0, none⟩)]]) := by
  have hnf : ∀ B, w.heap.size ≤ B → ¬ MFoot m c B := fun B hB hf => by
    rcases hf with rfl | rfl | hf
    · have := h.box.lt; omega
    · have := h.row.lt; omega
    · have := h.chip.foot_lt hf; omega
  intro W m' c' n i x hW h2 h3 hk hp hon' hx
  have hi : i < u := by
    have := (List.getElem?_eq_some_iff.1 hx).1
    simpa [copyL] using this
  have hxx : x = (c.read fr (2 + (i : Int))).1 := by
    unfold copyL at hx
    rw [List.getElem?_map, List.getElem?_range hi] at hx
    simpa using hx.symm
  have hrd' : c'.read fr (2 + (i : Int)) = (x, 0) := by
    have e : c'.read fr (2 + (i : Int)) = c.read fr (2 + (i : Int)) := by
      unfold CS.read
      rw [hon', hon, Int.toNat_natCast, hp.same fr rfl, hp.gz]
    rw [e, hxx]
    exact Prod.ext rfl (hrd i hi)
  have := transfer_copied hW n i (by omega) leb p q x fr Bm Bn hrd' (by rw [h2]; exact cell_kept hk (hnf Bm hBm) hm) (cell_kept hk (hnf Bn hBn) hn)
  rw [h2] at this
  exact this
set_option maxHeartbeats 2000000 in
theorem mrescue_any {base : Nat} {w : World} {m : Mg} {c : CS} (h : MLies base w m c) (n leb u : Nat) (o : Bl) (ho : m.bl[n]? = some o) (h4 : o.st ≠ 2) (hol : o.leb = leb) (hou : o.used = u) (hon : c.on = true) (hu : u ≤ 64) (hrd : ∀ i, i < u → (c.read n (2 + (i : Int))).2 = 0) (hs : m.seq + 258 < 18446744073709551616) (hle : leb ≤ 255) (hz : 64 ≤ c.gz) :
    Calls Tryz.prog 222 #[.pointer (some ⟨m.p, 0, none⟩), .int .i64 (n : Nat)] w (fun e w' => ∃ v, e = .returned (.tuple #[.int .i64 (rescueM m c n).1, v]) ∧ ErrV w' v (rescueM m c n).2.1 ∧ MLies base w' (rescueM m c n).2.2.1 (rescueM m c n).2.2.2 ∧ Kept (MFoot m c) w w' ∧ (rescueM m c n).2.2.2.foot = c.foot ∧ (rescueM m c n).2.2.1.p = m.p ∧ (rescueM m c n).2.2.1.bb = m.bb) := by
  have kc := copied_any h n o ho
  have hcl : (copyL c n u).length = u := by simp [copyL]
  have HSt : Hid (∀ W Bm Bn, Below w.heap.size w W → W.cell? ⟨Bm, 0, none⟩ = some (.pointer (some ⟨m.p, 0, none⟩)) → W.cell? ⟨Bn, 0, none⟩ = some (.int .i64 (n : Nat)) → w.heap.size ≤ Bm → w.heap.size ≤ Bn → Calls Tryz.prog 78 #[.pointer (some ⟨m.p, 0, none⟩), .agg #[.int .i64 (leb : Nat), .int .i64 (u : Nat), .int .i64 (u : Nat), .func (.func 225) #[] #[.pointer (some ⟨Bm, 0, none⟩), .pointer (some ⟨Bn, 0, none⟩)]]] W (LPost base W m c (some n) (settleM leb u (copyL c n u) m c))) := fun W Bm Bn hb h1 h2 h3 h5 => by
    have hF := feeds_copied h hon n Bm Bn u hu hrd h1 h2 h3 h5 leb u u
    have hly : Ly base W m c (some n) W m c := ⟨h.later hb, rfl, rfl, Kept.refl _ _, Pass.refl _ _, fun k hk => by cases hk; exact ⟨o, ho, h4⟩⟩
    have := msettle_any hly leb u (copyL c n u) (.func (.func 225) #[] #[.pointer (some ⟨Bm, 0, none⟩), .pointer (some ⟨Bn, 0, none⟩)]) hs hle hu hz (by rw [hcl]; exact hu) (by rw [hcl]; exact hF)
    rw [hcl] at this
    exact this
  have hR : rescueM m c n = if (settleM leb u (copyL c n u) m c).2.1 = 0 then ((settleM leb u (copyL c n u) m c).1, 0, (settleM leb u (copyL c n u) m c).2.2.1.put n badBl, ((settleM leb u (copyL c n u) m c).2.2.2.mark n).2) else settleM leb u (copyL c n u) m c := by
    unfold rescueM
    rw [ho]
    simp only [Option.getD_some, hol, hou, Int.toNat_natCast]
  rw [hol, hou] at kc
  obtain ⟨S, hS⟩ : ∃ S, S = settleM leb u (copyL c n u) m c := ⟨_, rfl⟩
  rw [← hS] at HSt hR
  obtain ⟨R, hRR⟩ : ∃ R, R = rescueM m c n := ⟨_, rfl⟩
  rw [← hRR] at hR ⊢
  have HRR : Hid (R = if S.2.1 = 0 then (S.1, 0, S.2.2.1.put n badBl, (S.2.2.2.mark n).2) else S) := hR
  clear h ho h4 hol hou hon hu hrd hs hle hz hcl hS hR hRR
  by_cases h0 : S.2.1 = 0
  · have HS0 : Hid (S.2.1 = 0 ∧ R = (S.1, 0, S.2.2.1.put n badBl, (S.2.2.2.mark n).2)) := ⟨h0, by rw [HRR.out, if_pos h0]⟩
    clear h0 HRR
    go_enter Tryz.func222, Tryz.ntmps222
    go_wp2_with (first
      | (go_at_call 224; refine kc.mono ?_; rintro e w1 ⟨Bm, Bn, rfl, q1, q2, q3, q4, q5⟩; have HQ : Hid (Below w.heap.size w w1) := q3; have kS := HSt.out w1 Bm Bn q3 q1 q2 q4 q5; clear q1 q2 q3 q4 q5)
      | (go_at_call 78; refine kS.mono ?_; rintro e w2 ⟨v, rfl, he, hl⟩; rw [HS0.out.1] at he; obtain rfl := he.nil; have HL : Hid (Ly base w1 m c (some n) w2 S.2.2.1 S.2.2.2) := hl; obtain ⟨xn, hxn, _⟩ := hl.nf n rfl; have kR := mretire_any hl.ml n (List.getElem?_eq_some_iff.1 hxn).1; rw [hl.p] at kR; clear he hl hxn)
      | (go_at_call 132; refine kR.mono ?_; rintro e w3 ⟨rfl, hl3, hk3, hf3⟩; have HL3 : Hid (MLies base w3 (S.2.2.1.put n badBl) (S.2.2.2.mark n).2 ∧ Kept (MFoot S.2.2.1 S.2.2.2) w2 w3 ∧ (S.2.2.2.mark n).2.foot = S.2.2.2.foot) := ⟨hl3, hk3, hf3⟩; clear hl3 hk3 hf3))
    refine bodyPost_ret (v := .tuple #[.int .i64 S.1, .nilIface]) ?_ rfl ?_
    · simp [results, Tryz.f222, go_sem]
    · rw [HS0.out.2]
      have hmf := MFoot_eq HL.out.p HL.out.bb HL.out.ps.foot
      exact ⟨_, rfl, .inl ⟨rfl, rfl⟩, HL3.out.1, ((Kept.of_below HQ.out).trans HL.out.kp).trans (hmf ▸ HL3.out.2.1), HL3.out.2.2.trans HL.out.ps.foot, HL.out.p, HL.out.bb⟩
  · have HS0 : Hid (S.2.1 ≠ 0 ∧ R = S) := ⟨h0, by rw [HRR.out, if_neg h0]⟩
    clear h0 HRR
    go_enter Tryz.func222, Tryz.ntmps222
    go_wp2_with (first
      | (go_at_call 224; refine kc.mono ?_; rintro e w1 ⟨Bm, Bn, rfl, q1, q2, q3, q4, q5⟩; have HQ : Hid (Below w.heap.size w w1) := q3; have kS := HSt.out w1 Bm Bn q3 q1 q2 q4 q5; clear q1 q2 q3 q4 q5)
      | (go_at_call 78; refine kS.mono ?_; rintro e w2 ⟨v, rfl, he, hl⟩; obtain ⟨B, rfl⟩ := he.some HS0.out.1; have HL : Hid (Ly base w1 m c (some n) w2 S.2.2.1 S.2.2.2 ∧ ErrV w2 (.iface 283 (.pointer (some ⟨B, 0, none⟩))) S.2.1) := ⟨hl, he⟩; clear he hl))
    refine bodyPost_ret (v := .tuple #[.int .i64 S.1, .iface 283 (.pointer (some ⟨B, 0, none⟩))]) ?_ rfl ?_
    · simp [results, Tryz.f222, go_sem]
    · rw [HS0.out.2]
      exact ⟨_, rfl, HL.out.2, HL.out.1.ml, (Kept.of_below HQ.out).trans HL.out.1.kp, HL.out.1.ps.foot, HL.out.1.p, HL.out.1.bb⟩
end Go.Proofs.YtkfecngkdlajgaaGreatDoor
namespace Go.Proofs.YtkfecngkdlajgaaGreatDoor
open Go.RowKit Go.Extern.Stop Go.Stop Go.Extern

theorem mixedT : Tryz.prog.follows .mixedOrders = true := by kernel_rfl
/-- A world in which all that was is as it was. -/
structure Wd (w : World) where
  v : World
  h : Below w.heap.size w v
/-- A region that draws its order, whose operations answer the same in every such world. -/
theorem quiet_below {id : Nat} {Q : Exit → Act → World → Prop} {a : Act} {w : World} {l : List Oper} (hB : Region.lexB .any l.toArray = true)
    (h : wpQuiet Tryz.prog l.toArray (fun w' => ∃ p : Wd w, w' = p.v) (fun a' => ∀ w', (∃ p : Wd w, w' = p.v) → Q .normal a' w') l a) : (Code.region id l.toArray true).wp Tryz.prog Q a w :=
  wp_region_quiet (C := fun w' => ∃ p : Wd w, w' = p.v) mixedT hB ⟨⟨w.drew, below_drew' w⟩, rfl⟩ (by simpa using h)
theorem quiet_call {w : World} {f : FuncId} {args : Array Value} {v : Value} (p : Wd w) (h : Calls Tryz.prog f args p.v fun e w' => e = .returned v ∧ Below p.v.heap.size p.v w') :
    Calls Tryz.prog f args p.v fun e w'' => e = .returned v ∧ ∃ q : Wd w, w'' = q.v := by
  refine h.mono ?_
  rintro e w' ⟨rfl, hb⟩
  exact ⟨rfl, ⟨w', Below.after p.h hb⟩, rfl⟩
theorem quiet_same {w : World} {f : FuncId} {args : Array Value} {v : Value} (p : Wd w) (h : Calls Tryz.prog f args p.v fun e w' => e = .returned v ∧ p.v = w') :
    Calls Tryz.prog f args p.v fun e w'' => e = .returned v ∧ ∃ q : Wd w, w'' = q.v := by
  refine h.mono ?_
  rintro e w' ⟨rfl, rfl⟩
  exact ⟨rfl, p, rfl⟩
theorem Wd.non (w : World) : Nonempty (Wd w) := ⟨⟨w, Below.refl _ _⟩⟩
end Go.Proofs.YtkfecngkdlajgaaGreatDoor
