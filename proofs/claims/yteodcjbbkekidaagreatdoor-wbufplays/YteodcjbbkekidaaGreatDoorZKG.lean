/-
  A draft is written into a Free block.
-/
import Derived.Test.YteodcjbbkekidaaGreatDoorZKF
namespace Go.Proofs.YteodcjbbkekidaaGreatDoor
open Go.RowKit
set_option maxRecDepth 10000

/-- Only block n is another one. -/
structure Oth (n : Nat) (c c' : CS) : Prop where
  gz : c'.gz = c.gz
  foot : c'.foot = c.foot
  on : c'.on = true
  same : ∀ k, k ≠ n → c'.bks[k]? = c.bks[k]?
/-- What lies on while a draft is written. -/
structure Wr (base : Nat) (w : World) (m : Mg) (c : CS) (leb must l : Nat) (f : Value) (W : World) (c' : CS) : Prop where
  ml : MLies base W m.next c'
  kp : Kept (MFoot m c) w W
  dr : Row W w.heap.size [.int .i64 (leb : Nat), .int .i64 (l : Nat), .int .i64 (must : Nat), f] 148
  ft : c'.foot = c.foot
theorem Wr.step {base : Nat} {w : World} {m : Mg} {c : CS} {leb must l : Nat} {f : Value} {W W' : World} {c' c2 : CS} (h : Wr base w m c leb must l f W c') (h1 : MLies base W' m.next c2) (h2 : Kept c'.foot W W') (h3 : c2.foot = c'.foot) : Wr base w m c leb must l f W' c2 :=
  ⟨h1, h.kp.trans (h2.mono fun _ hk => .inr (.inr (h.ft ▸ hk))), h.dr.kept h2 (h.ml.chip.apart h.dr (by decide) (by decide) (by decide)), h3.trans h.ft⟩
theorem program_zero {c : CS} {n p : Int} {d : List Nat} (h : (c.programM n p d).1 = 0) : (c.programM n p d).2.on = true ∧ (c.programM n p d).2.gz = c.gz ∧ ∀ k : Nat, (k : Int) ≠ n → (c.programM n p d).2.bks[k]? = c.bks[k]? := by
  unfold CS.programM CS.program at *
  split at h
  · cases h
  · split at h
    · cases h
    · split at h
      · cases h
      · split at h
        · cases h
        · split at h
          · cases h
          · split at h
            · cases h
            · split at h
              · cases h
              · rename_i a1 a2 a3 a4 _ b hb a6 a7
                rw [if_neg a1, if_neg a2, if_neg a3, if_neg a4]
                simp only
                rw [if_neg a6, if_neg a7]
                refine ⟨?_, rfl, fun k hk => List.getElem?_set_ne (fun e => hk (by omega))⟩
                have : c.told = 0 := h
                show (if c.fault.kind = 1 then false else c.on) = true
                rw [if_neg]
                · simpa using a3
                · intro hk
                  unfold CS.told at this
                  rw [if_pos hk] at this
                  cases this
theorem Oth.step {n : Nat} {c c' : CS} {p : Int} {d : List Nat} (h : Oth n c c') (hz : (c'.programM n p d).1 = 0) (hf : (c'.programM n p d).2.foot = c'.foot) : Oth n c (c'.programM n p d).2 := by
  obtain ⟨h1, h2, h3⟩ := program_zero hz
  exact ⟨h2.trans h.gz, hf.trans h.foot, h1, fun k hk => (h3 k (by omega)).trans (h.same k hk)⟩
/-- What a write comes to. -/
noncomputable def wrS (m : Mg) (c : CS) (n leb must : Nat) (L : List (List Nat)) : Int × CS :=
  if (c.programM n 1 (Hd.imgL (Hd.mapL leb (m.seq + 1) must) c.gz)).1 = 0 then pagesM (c.programM n 1 (Hd.imgL (Hd.mapL leb (m.seq + 1) must) c.gz)).2 n 0 L else c.programM n 1 (Hd.imgL (Hd.mapL leb (m.seq + 1) must) c.gz)
theorem writeM_S {m : Mg} {c : CS} {n leb must : Nat} {L : List (List Nat)} {o : Bl} (ho : m.bl[n]? = some o) : writeM m c n leb must L = if (wrS m c n leb must L).1 = 0 then (0, m.next.put n ⟨4, o.cnt, leb, L.length, (m.seq : Int) + 1, false⟩, (wrS m c n leb must L).2) else ((wrS m c n leb must L).1, m.next, (wrS m c n leb must L).2) := by
  unfold writeM wrS
  rw [ho]
  simp only [Option.getD_some]
  by_cases h : (c.programM n 1 (Hd.imgL (Hd.mapL leb (m.seq + 1) must) c.gz)).1 = 0
  · rw [if_pos h, if_pos h]
  · rw [if_neg h, if_neg h, if_neg h]
theorem pagesM_cons {c : CS} {n : Int} {i : Nat} {d : List Nat} {r : List (List Nat)} : pagesM c n i (d :: r) = if (c.programM n (2 + (i : Int)) d).1 = 0 then pagesM (c.programM n (2 + (i : Int)) d).2 n (i + 1) r else c.programM n (2 + (i : Int)) d := rfl
/-- The loop over a draft's pages. -/
def WrGo (base : Nat) (w : World) (m : Mg) (c : CS) (n leb must : Nat) (L : List (List Nat)) (f : Value) (S : Int × CS) (wr : World) (k : Nat) : Prop := ∃ c', Wr base w m c leb must L.length f wr c' ∧ Oth n c c' ∧ S = pagesM c' n k (L.drop k)
def WrNo (base : Nat) (w : World) (m : Mg) (c : CS) (leb must : Nat) (L : List (List Nat)) (f : Value) (S : Int × CS) (wr : World) (B : Nat) : Prop := Wr base w m c leb must L.length f wr S.2 ∧ ErrV wr (.iface 246 (.pointer (some ⟨B, 0, none⟩))) S.1 ∧ S.1 ≠ 0
set_option maxHeartbeats 4000000 in
theorem mwrite_any {base : Nat} {w : World} {m : Mg} {c : CS} (h : MLies base w m c) (n leb must : Nat) (L : List (List Nat)) (f : Value) (o : Bl) (ho : m.bl[n]? = some o) (hs : m.seq + 1 < 18446744073709551616) (hle : leb ≤ 255) (hmu : must ≤ 64) (hz : 64 ≤ c.gz) (hL : L.length ≤ 64)
    (hT : ∀ W c' (i : Nat) d, MLies base W m.next c' → Kept (MFoot m c) w W → Oth n c c' → L[i]? = some d → Calls Tryz.prog 191 #[.pointer (some ⟨m.p, 0, none⟩), .int .i64 (n : Nat), .int .i64 (i : Nat), .agg #[.int .i64 (leb : Nat), .int .i64 (L.length : Nat), .int .i64 (must : Nat), f]] W (DoPost base W m.next c' (c'.programM n (2 + (i : Int)) d))) :
    Calls Tryz.prog 157 #[.pointer (some ⟨m.p, 0, none⟩), .int .i64 (n : Nat), .agg #[.int .i64 (leb : Nat), .int .i64 (L.length : Nat), .int .i64 (must : Nat), f]] w (FPost base w m c (writeM m c n leb must L)) := by
  obtain ⟨W, hW⟩ : ∃ W, W = w.alloc (.cells #[.int .i64 (leb : Nat), .int .i64 (L.length : Nat), .int .i64 (must : Nat), f] 148) := ⟨_, rfl⟩
  have HBW : Hid (Below w.heap.size w W) := by rw [hW]; exact below_new w _
  have HD : Hid (Row W w.heap.size [.int .i64 (leb : Nat), .int .i64 (L.length : Nat), .int .i64 (must : Nat), f] 148) := by rw [hW]; exact Row.new w [_, _, _, _] _
  have HM : Hid (MLies base W m c) := h.later HBW.out
  obtain ⟨_, _, c2, _⟩ := HM.out.cells
  have c2' := c2
  rw [hW] at c2'
  have fz := HM.out.box.frozen
  rw [hW] at fz
  have s0 : (0 : Int) ≤ (m.seq : Int) := by omega
  have s1 : (m.seq : Int) + 1 < 18446744073709551616 := by omega
  have HT : Hid (∀ W c' (i : Nat) d, MLies base W m.next c' → Kept (MFoot m c) w W → Oth n c c' → L[i]? = some d → Calls Tryz.prog 191 #[.pointer (some ⟨m.p, 0, none⟩), .int .i64 (n : Nat), .int .i64 (i : Nat), .agg #[.int .i64 (leb : Nat), .int .i64 (L.length : Nat), .int .i64 (must : Nat), f]] W (DoPost base W m.next c' (c'.programM n (2 + (i : Int)) d))) := hT
  obtain ⟨X, hX⟩ : ∃ X, X = writeM m c n leb must L := ⟨_, rfl⟩
  rw [← hX]
  have HX : Hid (X = if (wrS m c n leb must L).1 = 0 then (0, m.next.put n ⟨4, o.cnt, leb, L.length, (m.seq : Int) + 1, false⟩, (wrS m c n leb must L).2) else ((wrS m c n leb must L).1, m.next, (wrS m c n leb must L).2)) := by
    show X = _
    rw [hX]; exact writeM_S ho
  clear h hT hX
  go_enter Tryz.func157, Tryz.ntmps157
  go_wp2_with fail
  rw [← hW]
  clear hW c2' c2 fz
  have hne : ¬ m.p = w.heap.size := HM.out.box.ne HD.out (by decide)
  obtain ⟨W1, hW1⟩ : ∃ W1, W1 = W.setCell ⟨m.p, 2, none⟩ (.int .u64 ((m.seq : Int) + 1)) := ⟨_, rfl⟩
  have HK1 : Hid (Kept (fun k => k = m.p) W W1) := by rw [hW1]; exact (Kept.refl (fun k => k = m.p) W).setCell (p := ⟨m.p, 2, none⟩) rfl _
  have HM1 : Hid (MLies base W1 m.next c) := by rw [hW1]; exact HM.out.next
  have HD1 : Hid (Row W1 w.heap.size [.int .i64 (leb : Nat), .int .i64 (L.length : Nat), .int .i64 (must : Nat), f] 148) := HD.out.kept HK1.out (fun e => hne e.symm)
  rw [← hW1]
  clear hW1 hne HM HD
  have d0 : W1.cell? ⟨w.heap.size, 0, none⟩ = some (.int .i64 (leb : Nat)) := HD1.out.cell (i := 0) rfl
  have d2 : W1.cell? ⟨w.heap.size, 2, none⟩ = some (.int .i64 (must : Nat)) := HD1.out.cell (i := 2) rfl
  have e2 : W1.cell? ⟨m.p, 2, none⟩ = some (.int .u64 ((m.seq : Int) + 1)) := HM1.out.cells.2.2.1
  have kP : Calls Tryz.prog 37 #[.pointer (some ⟨m.p, 0, none⟩)] W1.drew fun e w' => e = .returned (.int .i64 c.gz) ∧ Below W1.drew.heap.size W1.drew w' := mpage_any (m := m.next) (HM1.out.later (below_drew' W1))
  have HMM : Hid (∀ X, Calls Tryz.prog 190 #[.agg #[.int .i64 (leb : Nat), .int .u64 ((m.seq : Int) + 1), .int .i64 (must : Nat)], .int .i64 (c.gz : Nat)] X (Hd.MadePost X (Hd.mapL leb (m.seq + 1) must) c.gz)) := fun X => Hd.map_made leb (m.seq + 1) must c.gz X hle hmu (by omega) hz HM1.out.chip.good.gs.2.2.2.2.2
  have HZ : Hid (64 ≤ c.gz) := hz
  clear hle hmu hz
  go_region_held3 (fun w' => w'.cell? ⟨w.heap.size, 0, none⟩ = some (.int .i64 (leb : Nat)) ∧ w'.cell? ⟨w.heap.size, 2, none⟩ = some (.int .i64 (must : Nat)) ∧ w'.cell? ⟨m.p, 2, none⟩ = some (.int .u64 ((m.seq : Int) + 1))) (first | assumption | go_keep) (first
    | (go_at_call 37; refine kP.mono ?_; rintro e w2 ⟨rfl, hb0⟩; have hb2 : Below W1.heap.size W1 w2 := Below.after (below_drew' W1) hb0; clear hb0; have d0' : w2.cell? ⟨w.heap.size, 0, none⟩ = some (.int .i64 (leb : Nat)) := (HD1.out.later hb2).cell (i := 0) rfl; have d2' : w2.cell? ⟨w.heap.size, 2, none⟩ = some (.int .i64 (must : Nat)) := (HD1.out.later hb2).cell (i := 2) rfl; have e2' : w2.cell? ⟨m.p, 2, none⟩ = some (.int .u64 ((m.seq : Int) + 1)) := (HM1.out.later hb2).cells.2.2.1; have HB2 : Hid (Below W1.heap.size W1 w2) := hb2; clear hb2)
    | (go_at_call 190; refine (HMM.out _).mono ?_; rintro e w3 ⟨g, rfl, hl3, hb3, ho3⟩; have hB3 := Below.after HB2.out hb3; have HB3 : Hid (Below W1.heap.size W1 w3) := hB3; have HG : Hid (Hd.Lies w3 (some ⟨g, 0, none⟩) c.gz c.gz (Hd.imgL (Hd.mapL leb (m.seq + 1) must) c.gz) ∧ Hd.Own w2 w3 (.slice (some ⟨g, 0, none⟩) c.gz c.gz) (Hd.imgL (Hd.mapL leb (m.seq + 1) must) c.gz)) := ⟨hl3, ho3⟩; have d0'' : w3.cell? ⟨w.heap.size, 0, none⟩ = some (.int .i64 (leb : Nat)) := (HD1.out.later hB3).cell (i := 0) rfl; have d2'' : w3.cell? ⟨w.heap.size, 2, none⟩ = some (.int .i64 (must : Nat)) := (HD1.out.later hB3).cell (i := 2) rfl; have e2'' : w3.cell? ⟨m.p, 2, none⟩ = some (.int .u64 ((m.seq : Int) + 1)) := (HM1.out.later hB3).cells.2.2.1; clear hl3 hb3 ho3 hB3))
  clear d0' d2' e2' d0'' d2'' e2'' d0 d2 e2 kP HMM
  have HW3 : Hid (Wr base w m c leb must L.length f w3 c) := ⟨HM1.out.later HB3.out, ((Kept.of_below HBW.out).trans (HK1.out.mono fun _ hk => .inl hk)).trans (.of_below HB3.out), HD1.out.later HB3.out, rfl⟩
  have hfn : ¬ c.foot g := foot_new HM1.out.chip (Nat.le_trans HB2.out.size (own_ge HG.out.2 (img_pos _ HZ.out)))
  have kp := mprogram_any HW3.out.ml (n : Nat) 1 (some ⟨g, 0, none⟩) c.gz c.gz (Hd.imgL (Hd.mapL leb (m.seq + 1) must) c.gz) HG.out.1.len (brow_hd HG.out.1.row) HG.out.1.lt (.inr fun b o e => by cases e; exact hfn)
  clear hfn
  have HS : Hid (wrS m c n leb must L = if (c.programM n 1 (Hd.imgL (Hd.mapL leb (m.seq + 1) must) c.gz)).1 = 0 then pagesM (c.programM n 1 (Hd.imgL (Hd.mapL leb (m.seq + 1) must) c.gz)).2 n 0 L else c.programM n 1 (Hd.imgL (Hd.mapL leb (m.seq + 1) must) c.gz)) := rfl
  have HPZ : Hid ((c.programM n 1 (Hd.imgL (Hd.mapL leb (m.seq + 1) must) c.gz)).1 = 0 → (c.programM n 1 (Hd.imgL (Hd.mapL leb (m.seq + 1) must) c.gz)).2.foot = c.foot → Oth n c (c.programM n 1 (Hd.imgL (Hd.mapL leb (m.seq + 1) must) c.gz)).2) := fun h1 h2 => by
    obtain ⟨a1, a2, a3⟩ := program_zero h1
    exact ⟨a2, h2, a1, fun k hk => a3 k (by omega)⟩
  obtain ⟨S, hS⟩ : ∃ S, S = wrS m c n leb must L := ⟨_, rfl⟩
  rw [← hS] at HS HX
  obtain ⟨r, hr⟩ : ∃ r, r = c.programM n 1 (Hd.imgL (Hd.mapL leb (m.seq + 1) must) c.gz) := ⟨_, rfl⟩
  rw [← hr] at kp HS HPZ
  have hL1 : (L.length : Int) ≤ 64 := by omega
  have HO : Hid (m.bl[n]? = some o) := ho
  clear hS hr ho hs HB2 HG HM1 HK1 HD1 HB3 HZ HBW hL
  go_wp2_with (go_at_call 151; refine kp.mono ?_; rintro e w4 ⟨v, rfl, he, hl, hk, hf⟩; have HW4 : Hid (Wr base w m c leb must L.length f w4 r.2) := HW3.out.step hl hk hf; have HE4 : Hid (ErrV w4 v r.1) := he; have HF4 : Hid (r.2.foot = c.foot) := hf; clear hl hk hf he)
  clear kp HW3
  go_loopg [9, 10] (L.length + 1) (fun kx s9 s10 wr => (∃ k : Nat, kx + k = L.length + 1 ∧ k ≤ L.length ∧ s9 = .nilIface ∧ s10 = .int .i64 (k : Nat) ∧ Hid (WrGo base w m c n leb must L f S wr k)) ∨ (∃ B k : Nat, kx + L.length + 1 ≥ 0 ∧ s9 = .iface 246 (.pointer (some ⟨B, 0, none⟩)) ∧ s10 = .int .i64 (k : Nat) ∧ Hid (WrNo base w m c leb must L f S wr B)))
  case atStart =>
    by_cases h0 : r.1 = 0
    · left
      obtain rfl : v = .nilIface := by have := HE4.out; rw [h0] at this; exact this.nil
      exact ⟨0, by omega, by omega, rfl, rfl, ⟨r.2, HW4.out, HPZ.out h0 HF4.out, by rw [HS.out, if_pos h0]; rfl⟩⟩
    · right
      obtain ⟨B, rfl⟩ := HE4.out.some h0
      have e : S = r := by rw [HS.out, if_neg h0]
      exact ⟨B, 0, by omega, rfl, rfl, ⟨by rw [e]; exact HW4.out, by rw [e]; exact HE4.out, by rw [e]; exact h0⟩⟩
  case round =>
    rcases hrel with ⟨k, hkx, hkl, rfl, rfl, HG⟩ | ⟨B, k, -, rfl, rfl, HN⟩
    · obtain ⟨c', hw, ho, hS⟩ := HG.out
      have d0 : wr.cell? ⟨w.heap.size, 0, none⟩ = some (.int .i64 (leb : Nat)) := hw.dr.cell (i := 0) rfl
      have d1 : wr.cell? ⟨w.heap.size, 1, none⟩ = some (.int .i64 (L.length : Nat)) := hw.dr.cell (i := 1) rfl
      have d2 : wr.cell? ⟨w.heap.size, 2, none⟩ = some (.int .i64 (must : Nat)) := hw.dr.cell (i := 2) rfl
      have d3 : wr.cell? ⟨w.heap.size, 3, none⟩ = some f := hw.dr.cell (i := 3) rfl
      by_cases hlt : k < L.length
      · obtain ⟨d, hd⟩ : ∃ d, L[k]? = some d := ⟨_, List.getElem?_eq_getElem hlt⟩
        have kT := HT.out wr c' k d hw.ml hw.kp ho hd
        have hdrop : L.drop k = d :: L.drop (k + 1) := by rw [List.drop_eq_getElem_cons hlt]; congr 1; rw [List.getElem?_eq_getElem hlt] at hd; exact Option.some.inj hd
        rw [hdrop, pagesM_cons] at hS
        have HSt : Hid ((c'.programM n (2 + (k : Int)) d).1 = 0 → (c'.programM n (2 + (k : Int)) d).2.foot = c'.foot → Oth n c (c'.programM n (2 + (k : Int)) d).2) := fun h1 h2 => ho.step h1 h2
        obtain ⟨r', hr'⟩ : ∃ r', r' = c'.programM n (2 + (k : Int)) d := ⟨_, rfl⟩
        rw [← hr'] at kT hS HSt
        have HSS : Hid (S = if r'.1 = 0 then pagesM r'.2 n (k + 1) (L.drop (k + 1)) else r') := hS
        have HW : Hid (Wr base w m c leb must L.length f wr c') := hw
        have q1 : (k : Int) < (L.length : Int) := by omega
        have q2 : (0 : Int) ≤ (k : Int) := by omega
        clear hr' hS hdrop hd hw ho HG
        go_wp2_with (go_at_call 191; refine kT.mono ?_; rintro e w5 ⟨v5, rfl, he5, hl5, hk5, hf5⟩; have HW5 : Hid (Wr base w m c leb must L.length f w5 r'.2) := HW.out.step hl5 hk5 hf5; have HE5 : Hid (ErrV w5 v5 r'.1) := he5; have HF5 : Hid (r'.2.foot = c'.foot) := hf5; clear hl5 hk5 hf5 he5)
        go_roundg (L.length - k)
        case measure => omega
        case rel =>
          by_cases h0 : r'.1 = 0
          · left
            obtain rfl : v5 = .nilIface := by have := HE5.out; rw [h0] at this; exact this.nil
            exact ⟨k + 1, by omega, by omega, rfl, by go_num, ⟨r'.2, HW5.out, HSt.out h0 HF5.out, by rw [HSS.out, if_pos h0]⟩⟩
          · right
            obtain ⟨B, rfl⟩ := HE5.out.some h0
            have e : S = r' := by rw [HSS.out, if_neg h0]
            exact ⟨B, k + 1, by omega, rfl, by go_num, ⟨by rw [e]; exact HW5.out, by rw [e]; exact HE5.out, by rw [e]; exact h0⟩⟩
      · have hkk : k = L.length := by omega
        have hS0 : S = (0, c') := by rw [hS, hkk, List.drop_length]; rfl
        have hlies := hw.ml
        obtain ⟨_, b1, b2, _⟩ := hlies.cells
        have b2' : wr.cell? ⟨m.p, 2, none⟩ = some (.int .u64 ((m.seq : Int) + 1)) := b2
        have b1' : wr.cell? ⟨m.p, 1, none⟩ = some (.slice (some ⟨m.bb, 0, none⟩) m.bl.length m.bcap) := b1
        obtain ⟨g0, g1, g2, g3, g4, g5⟩ := hlies.blAt (m := m.next) HO.out
        have g0 : wr.cell? ⟨m.bb, n * 6, none⟩ = some (.int .i64 o.st) := g0
        have g1 : wr.cell? ⟨m.bb, n * 6 + 1, none⟩ = some (.int .i64 o.cnt) := g1
        have g2 : wr.cell? ⟨m.bb, n * 6 + 2, none⟩ = some (.int .i64 o.leb) := g2
        have g3 : wr.cell? ⟨m.bb, n * 6 + 3, none⟩ = some (.int .i64 o.used) := g3
        have g4 : wr.cell? ⟨m.bb, n * 6 + 4, none⟩ = some (.int .u64 o.seq) := g4
        have g5 : wr.cell? ⟨m.bb, n * 6 + 5, none⟩ = some (.bool o.closed) := g5
        have fz : ∀ i, wr.frozen? ⟨m.bb, i, none⟩ = false := hlies.row.frozen
        have n0 : ¬ (n : Int) < 0 := by omega
        have n1 : (n : Int) < (m.bl.length : Int) := by have := (List.getElem?_eq_some_iff.1 HO.out).1; omega
        have HP : Hid (MLies base (put6 wr m.bb n ⟨4, o.cnt, leb, L.length, (m.seq : Int) + 1, false⟩).drew (m.next.put n ⟨4, o.cnt, leb, L.length, (m.seq : Int) + 1, false⟩) c' ∧ Kept (MFoot m c) w (put6 wr m.bb n ⟨4, o.cnt, leb, L.length, (m.seq : Int) + 1, false⟩).drew ∧ c'.foot = c.foot) := ⟨(hlies.put (m := m.next) HO.out _).later (below_drew' _), (hw.kp.trans ((kept6 wr m.bb n _).mono (fun _ hk => .inr (.inl hk)))).drew, hw.ft⟩
        simp only [put6] at HP
        have HX0 : Hid (X = (0, m.next.put n ⟨4, o.cnt, leb, L.length, (m.seq : Int) + 1, false⟩, c')) := by show X = _; rw [HX.out, hS0]; rfl
        have q1 : ¬ (k : Int) < (L.length : Int) := by omega
        clear hS0 hlies hw ho hS b1 b2 HG hkk hlt hkl
        go_wp2
        go_region
        go_wp2
        go_ret
        rw [HX0.out]
        exact ⟨.nilIface, rfl, .inl ⟨rfl, rfl⟩, HP.out.1, HP.out.2.1, HP.out.2.2⟩
    · have HN0 : Hid (S.1 ≠ 0) := HN.out.2.2
      go_wp2
      go_ret
      rw [HX.out, if_neg HN0.out]
      exact ⟨_, rfl, HN.out.2.1, HN.out.1.ml, HN.out.1.kp, HN.out.1.ft⟩
end Go.Proofs.YteodcjbbkekidaaGreatDoor
