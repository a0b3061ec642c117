/-
  A logical block has just these pages.
-/
import Derived.Test.YtfcmkkkdccnhgaaGreatDoorKI
namespace Go.Proofs.YtfcmkkkdccnhgaaGreatDoor
open Go.RowKit
set_option maxRecDepth 10000

theorem feeds_given {base : Nat} {w w1 : World} {m : Mg} {c : CS} (h : MLies base w m c) (B cap : Nat) (a : Option Addr) (L : List (List Nat)) (hL : L.length ≤ 64) (hd : PDt (MFoot m c) w1 a L) (hB : w1.cell? ⟨B, 0, none⟩ = some (.slice a L.length cap)) (hBw : w.heap.size ≤ B) (leb p q : Int) :
    Feeds base w1 m c none L (.agg #[.int .i64 leb, .int .i64 p, .int .i64 q, .func (.func 128) #[] #[.pointer (some ⟨B, 0, none⟩)]]) := by
  intro W m' c' n i x hW h2 h3 hkp hp hon' hx
  have hi : i < L.length := (List.getElem?_eq_some_iff.1 hx).1
  have hd' := hd.kept hkp
  rcases hd' with e | ⟨b, off, e, hn, hc⟩
  · rw [e] at hx; simp at hx
  · obtain ⟨ai, ki, q1, q2⟩ := hc i x hx
    have hB' := cell_kept hkp (MFoot_new h hBw) hB
    rw [e] at hB'
    have hmf := MFoot_eq h2 h3 hp.foot
    have := transfer_given hW n i (by omega) leb p q x B L.length b off cap ki ai hB' hi q1 (by rw [hmf]; exact q2)
    rw [h2] at this
    exact this
theorem drop_any {base : Nat} {w : World} {m : Mg} {c : CS} (h : MLies base w m c) (n : Int) (hn : n < 0 ∨ ∃ (i q : Nat) (o : Bl), n = i ∧ m.bl[i]? = some o ∧ o.cnt = q ∧ q ≤ 2147483647) (hz : 64 ≤ c.gz) :
    Calls Tryz.prog 57 #[.pointer (some ⟨m.p, 0, none⟩), .int .i64 n] w (EPost base w m c (dropM m c n)) := by
  unfold dropM
  rcases hn with hn | ⟨i, q, o, rfl, ho, hq, hq2⟩
  · rw [if_pos hn]
    refine (mdrop_none h n hn).mono ?_
    rintro e w' ⟨v, rfl, he, hl, hk, hf⟩
    exact ⟨v, rfl, he, hl, rfl, rfl, hk, hf⟩
  · rw [if_neg (by omega), Int.toNat_natCast, ho]
    simp only [Option.getD_some]
    rw [hq, Int.toNat_natCast]
    refine (mdrop_some h i q o ho hq hq2 hz).mono ?_
    rintro e w' ⟨v, rfl, he, hl, hk, hf⟩
    refine ⟨v, rfl, he, hl, ?_, ?_, hk, hf⟩
    · unfold freeM endM; repeat' split
      all_goals rfl
    · unfold freeM endM; repeat' split
      all_goals rfl
set_option maxHeartbeats 2000000 in
theorem mreplace_any {base : Nat} {w : World} {m : Mg} {c : CS} (h : MLies base w m c) (leb cap : Nat) (a : Option Addr) (L : List (List Nat)) (hd : PDt (MFoot m c) w a L) (hL : L.length ≤ 64) (hs : m.seq + 258 < 18446744073709551616) (hle : leb ≤ 255) (hz : 64 ≤ c.gz)
    (hdr : (settleM leb L.length L m c).2.1 = 0 → (findI m.bl (leb : Nat) < 0 ∨ ∃ (i q : Nat) (o : Bl), findI m.bl (leb : Nat) = i ∧ (settleM leb L.length L m c).2.2.1.bl[i]? = some o ∧ o.cnt = q ∧ q ≤ 2147483647)) :
    Calls Tryz.prog 55 #[.pointer (some ⟨m.p, 0, none⟩), .int .i64 (leb : Nat), .slice a L.length cap] w (EPost base w m c (replaceM m c leb L)) := by
  obtain ⟨_, c1, _, _⟩ := h.cells
  have hgs := h.chip.good.gs
  have hlen := h.len
  have k1 := find_any m.bl.length m.bcap m.bl (some ⟨m.bb, 0, none⟩) (leb : Nat) rfl (by omega) w h.lrow
  have kg := fun W => given_any (leb : Nat) a L.length cap W
  have HSt : Hid (∀ W1 W B, Below w.heap.size w W1 → Below W1.heap.size W1 W → W.cell? ⟨B, 0, none⟩ = some (.slice a L.length cap) → W1.heap.size ≤ B → Calls Tryz.prog 78 #[.pointer (some ⟨m.p, 0, none⟩), .agg #[.int .i64 (leb : Nat), .int .i64 (L.length : Nat), .int .i64 (L.length : Nat), .func (.func 128) #[] #[.pointer (some ⟨B, 0, none⟩)]]] W (LPost base W m c none (settleM leb L.length L m c))) := fun W1 W B hb1 hb h1 h3 => by
    have hF := feeds_given (w := W1) (w1 := W) (h.later hb1) B cap a L hL (hd.kept (.of_below (Below.after hb1 hb))) h1 h3 leb L.length L.length
    have hly : Ly base W m c none W m c := ⟨h.later (Below.after hb1 hb), rfl, rfl, Kept.refl _ _, Pass.refl _ _, fun k hk => by cases hk⟩
    exact msettle_any hly leb L.length L (.func (.func 128) #[] #[.pointer (some ⟨B, 0, none⟩)]) hs hle hL hz hL hF
  have hR : replaceM m c leb L = if (settleM leb L.length L m c).2.1 = 0 then dropM (settleM leb L.length L m c).2.2.1 (settleM leb L.length L m c).2.2.2 (findI m.bl leb) else (settleM leb L.length L m c).2 := rfl
  obtain ⟨S, hS⟩ : ∃ S, S = settleM leb L.length L m c := ⟨_, rfl⟩
  rw [← hS] at HSt hR hdr
  obtain ⟨F, hF⟩ : ∃ F, F = findI m.bl (leb : Nat) := ⟨_, rfl⟩
  rw [← hF] at k1 hR hdr
  obtain ⟨R, hRR⟩ : ∃ R, R = replaceM m c leb L := ⟨_, rfl⟩
  rw [← hRR] at hR ⊢
  have HZ : Hid (64 ≤ c.gz) := hz
  obtain ⟨ll, hll⟩ : ∃ ll, ll = L.length := ⟨_, rfl⟩
  rw [← hll] at HSt kg ⊢
  by_cases h0 : S.2.1 = 0
  · have HR : Hid (R = dropM S.2.2.1 S.2.2.2 F ∧ S.2.1 = 0) := ⟨by rw [hR, if_pos h0], h0⟩
    have HDr : Hid (F < 0 ∨ ∃ (i q : Nat) (o : Bl), F = i ∧ S.2.2.1.bl[i]? = some o ∧ o.cnt = q ∧ q ≤ 2147483647) := hdr h0
    clear h hgs hlen hd hL hs hle hz hdr hR hS hF hRR hll h0
    go_enter Tryz.func55, Tryz.ntmps55
    go_wp2_with (first
      | (go_at_call 51; refine k1.mono ?_; rintro e w1 ⟨rfl, hb⟩; have HB1 : Hid (Below w.heap.size w w1) := hb; clear hb c1 k1)
      | (go_at_call 90; refine (kg w1).mono ?_; rintro e w2 ⟨B, rfl, q1, q2⟩; have HQ : Hid (Below w1.heap.size w1 w2) := q2.1; have kS := HSt.out w1 w2 B HB1.out q2.1 q1 q2.2; clear q1 q2)
      | (go_at_call 78; refine kS.mono ?_; rintro e w3 ⟨v, rfl, he, hl⟩; rw [HR.out.2] at he; obtain rfl := he.nil; have HL : Hid (Ly base w2 m c none w3 S.2.2.1 S.2.2.2) := hl; have kD := drop_any hl.ml F HDr.out (by rw [hl.ps.gz]; exact HZ.out); rw [hl.p, ← HR.out.1] at kD; clear he hl)
      | (go_at_call 57; refine kD.mono ?_; rintro e w4 ⟨v4, rfl, he4, hx4⟩; have HX : Hid (ErrV w4 v4 R.1 ∧ Ex base w3 S.2.2.1 S.2.2.2 w4 R.2.1 R.2.2) := ⟨he4, hx4⟩; clear he4 hx4))
    go_ret
    have hmf := MFoot_eq HL.out.p HL.out.bb HL.out.ps.foot
    exact ⟨v4, rfl, HX.out.1, ⟨HX.out.2.ml, HX.out.2.p.trans HL.out.p, HX.out.2.bb.trans HL.out.bb, ((Kept.of_below (Below.after HB1.out HQ.out)).trans HL.out.kp).trans (hmf ▸ HX.out.2.kp), HX.out.2.ft.trans HL.out.ps.foot⟩⟩
  · have HR : Hid (R = S.2 ∧ S.2.1 ≠ 0) := ⟨by rw [hR, if_neg h0], h0⟩
    clear h hgs hlen hd hL hs hle hz hdr hR hS hF hRR hll h0
    go_enter Tryz.func55, Tryz.ntmps55
    go_wp2_with (first
      | (go_at_call 51; refine k1.mono ?_; rintro e w1 ⟨rfl, hb⟩; have HB1 : Hid (Below w.heap.size w w1) := hb; clear hb c1 k1)
      | (go_at_call 90; refine (kg w1).mono ?_; rintro e w2 ⟨B, rfl, q1, q2⟩; have HQ : Hid (Below w1.heap.size w1 w2) := q2.1; have kS := HSt.out w1 w2 B HB1.out q2.1 q1 q2.2; clear q1 q2)
      | (go_at_call 78; refine kS.mono ?_; rintro e w3 ⟨v, rfl, he, hl⟩; obtain ⟨B3, rfl⟩ := he.some HR.out.2; have HL : Hid (Ly base w2 m c none w3 S.2.2.1 S.2.2.2 ∧ ErrV w3 (.iface 164 (.pointer (some ⟨B3, 0, none⟩))) S.2.1) := ⟨hl, he⟩; clear he hl))
    go_ret
    rw [HR.out.1]
    exact ⟨_, rfl, HL.out.2, ⟨HL.out.1.ml, HL.out.1.p, HL.out.1.bb, (Kept.of_below (Below.after HB1.out HQ.out)).trans HL.out.1.kp, HL.out.1.ps.foot⟩⟩
end Go.Proofs.YtfcmkkkdccnhgaaGreatDoor
