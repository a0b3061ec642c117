/-
  What a chip tells of itself; what a block's own pages tell (sights); written, Lebs, state, block, spoilt, meanCount of package scan.
-/
import Derived.Test.YtkfecngkdlajgaaGreatDoorGL
import Derived.Test.YtkfecngkdlajgaaGreatDoorGK
import Derived.Test.YtkfecngkdlajgaaGreatDoorGM
import Derived.Test.YtkfecngkdlajgaaGreatDoorGE
import Derived.Deep.LoopGhost
import Derived.Laws.ResultCell
namespace Go.Proofs.YtkfecngkdlajgaaGreatDoor
open Go.RowKit
set_option maxRecDepth 10000

/-- What a chip tells. -/
structure Vw where
  rd : Int → Int → List Nat × Int
  nx : Int → Int
  bd : Int → Bool
  gb : Nat
  gp : Nat
  lebs : Int
/-- How many logical blocks. -/
def lebsI (b p z r : Int) : Int := if rightB b p z r then b - r - 2 else 0
def CS.vw (c : CS) : Vw := ⟨c.read, fun n => match c.at n with | none => 0 | some b => b.next, fun n => match c.at n with | none => false | some b => b.bad, c.gb, c.gp, lebsI c.gb c.gp c.gz c.gr⟩
theorem vnext_any {base : Nat} {w : World} {c : CS} (h : Lies base w c) (p : Nat) (hp : c.p = p) (n : Int) :
    Calls Tryz.prog 193 #[.pointer (some ⟨p, 0, none⟩), .int .i64 n] w fun e w' => e = .returned (.int .i64 (c.vw.nx n)) ∧ w = w' := by
  subst hp; exact next_any h n
theorem vbad_any {base : Nat} {w : World} {c : CS} (h : Lies base w c) (p : Nat) (hp : c.p = p) (n : Int) :
    Calls Tryz.prog 121 #[.pointer (some ⟨p, 0, none⟩), .int .i64 n] w fun e w' => e = .returned (.bool (c.vw.bd n)) ∧ w = w' := by
  subst hp; exact bad_any h n
theorem vread_any {base : Nat} {w : World} {c : CS} (h : Lies base w c) (p : Nat) (hp : c.p = p) (n k : Int) :
    Calls Tryz.prog 85 #[.pointer (some ⟨p, 0, none⟩), .int .i64 n, .int .i64 k] w fun e w' => ∃ a m cap, e = .returned (.tuple #[.slice a m cap, .int .i64 (c.vw.rd n k).2]) ∧ Got w w' (c.vw.rd n k).1 a m cap := by
  subst hp; exact read_any h n k
theorem vgeo_any {base : Nat} {w : World} {c : CS} (h : Lies base w c) (p : Nat) (hp : c.p = p) :
    Calls Tryz.prog 59 #[.pointer (some ⟨p, 0, none⟩)] w fun e w' => e = .returned (.agg #[.int .i64 c.gb, .int .i64 c.gp, .int .i64 c.gz, .int .i64 c.gr]) ∧ Below w.heap.size w w' := by
  subst hp; exact geometry_any h
theorem page_lt {p : Pg} (n : Nat) (h : ∀ x ∈ p.data, x < 256) : ∀ x ∈ p.bytes n, x < 256 := by
  intro x hx
  unfold Pg.bytes at hx
  split at hx
  · simp at hx; omega
  · split at hx
    · rcases List.mem_append.1 hx with hx | hx
      · exact h x hx
      · simp at hx; omega
    · simp at hx
theorem read_lt {c : CS} (hg : Good c) (n k : Int) : ∀ x ∈ (c.read n k).1, x < 256 := by
  unfold CS.read
  split
  · simp
  · split
    · simp
    · split
      · simp
      · rename_i b hb
        split
        · simp
        · split
          · simp
          · rename_i p hp
            exact page_lt _ (hg.dat b (List.mem_of_getElem? hb) p (List.mem_of_getElem? hp)).2
/-- A block's next page is one of its pages, or one behind them. -/
theorem nx_le {c : CS} (hg : Good c) (n : Int) : 0 ≤ c.vw.nx n ∧ c.vw.nx n ≤ 64 := by
  show 0 ≤ (match c.at n with | none => 0 | some b => b.next) ∧ (match c.at n with | none => 0 | some b => b.next) ≤ 64
  rcases h : c.at n with _ | b
  · decide
  · obtain ⟨h1, _⟩ := at_some h
    have := (hg.plen b (List.mem_of_getElem? h1)).2.2.2
    have := hg.gs
    simp only
    omega

/-- How many pages are written behind the second, from page p on. -/
def writtenF (v : Vw) (n : Int) : Nat → Int → Int × Bool
  | 0, _ => (v.nx n - 2, false)
  | f + 1, p => if (v.rd n p).2 = 0 then writtenF v n f (p + 1) else (p - 2, true)
def writtenV (v : Vw) (n : Int) : Int × Bool := writtenF v n (v.nx n - 2).toNat 2
set_option maxHeartbeats 2000000 in
theorem written_any {base : Nat} {w : World} {c : CS} (h : Lies base w c) (p : Nat) (hp : c.p = p) (n : Int) :
    Calls Tryz.prog 195 #[.pointer (some ⟨p, 0, none⟩), .int .i64 n] w fun e w' => e = .returned (.tuple #[.int .i64 (writtenV c.vw n).1, .bool (writtenV c.vw n).2]) ∧ Below w.heap.size w w' := by
  obtain ⟨hx0, hx1⟩ := nx_le h.good n
  have cN : ∀ W, Lies base W c → Calls Tryz.prog 193 #[.pointer (some ⟨p, 0, none⟩), .int .i64 n] W fun e w' => e = .returned (.int .i64 (c.vw.nx n)) ∧ W = w' := fun W hW => vnext_any hW p hp n
  have cR : ∀ W (k : Int), Lies base W c → Calls Tryz.prog 85 #[.pointer (some ⟨p, 0, none⟩), .int .i64 n, .int .i64 k] W fun e w' => ∃ a m cap, e = .returned (.tuple #[.slice a m cap, .int .i64 (c.vw.rd n k).2]) ∧ Got W w' (c.vw.rd n k).1 a m cap := fun W k hW => vread_any hW p hp n k
  have HV : Hid (writtenV c.vw n = writtenF c.vw n (c.vw.nx n - 2).toNat 2) := rfl
  obtain ⟨v, hv⟩ : ∃ v, v = c.vw := ⟨_, rfl⟩
  rw [← hv] at hx0 hx1 cN cR HV ⊢
  obtain ⟨x, hxx⟩ : ∃ x, x = v.nx n := ⟨_, rfl⟩
  have HX : Hid (x = v.nx n) := hxx
  rw [← hxx] at hx0 hx1 cN HV
  have HL : Hid (Lies base w c) := h
  clear hv hxx h
  go_enter Tryz.func195, Tryz.ntmps195
  go_wp2
  go_loopw [6] (fun i wr => ∃ k : Nat, i = .int .i64 (k : Int) ∧ 2 ≤ k ∧ ((k : Int) ≤ x ∨ k = 2) ∧ Hid (writtenV v n = writtenF v n (x - k).toNat k) ∧ Hid (Below w.heap.size w wr)) (fun i _ => (x - intOf i).toNat)
  case atStart => exact ⟨2, rfl, by omega, .inr rfl, HV, Below.refl _ _⟩
  case round =>
    obtain ⟨k, rfl, hk2, hkx, HK, HB⟩ := hrel
    have HLr : Hid (Lies base wr c) := HL.out.later HB.out
    by_cases hlt : (k : Int) < x
    · obtain ⟨f, hf⟩ : ∃ f, (x - k).toNat = f + 1 := ⟨(x - k).toNat - 1, by omega⟩
      have HS : Hid (writtenV v n = if (v.rd n k).2 = 0 then writtenF v n f ((k : Int) + 1) else ((k : Int) - 2, true)) := by show _ = _; rw [HK.out, hf]; rfl
      have HF : Hid ((x - ((k : Int) + 1)).toNat = f) := by show _ = _; omega
      obtain ⟨er, her⟩ : ∃ er, er = (v.rd n k).2 := ⟨_, rfl⟩
      have cR' := cR wr k HLr.out
      rw [← her] at cR' HS
      clear her hf HK
      by_cases he : er = 0
      · subst he
        have HS2 : Hid (writtenV v n = writtenF v n f ((k : Int) + 1)) := by show _ = _; rw [HS.out, if_pos rfl]
        clear HS
        go_wp2_with (first
          | (go_at_call 193; refine (cN wr HLr.out).mono ?_; rintro e w' ⟨rfl, rfl⟩)
          | (go_at_call 85; refine cR'.mono ?_; rintro e w2 ⟨a, m, cap, rfl, hg⟩; have HB2 : Hid (Below w.heap.size w w2) := Below.after HB.out hg.below; clear hg))
        go_roundw
        case rel => exact ⟨k + 1, by go_num, by omega, by omega, by show _ = _; rw [HS2.out, show ((k + 1 : Nat) : Int) = (k : Int) + 1 by omega, HF.out], HB2⟩
        case measure => simp [intOf]; omega
      · have HS2 : Hid (writtenV v n = ((k : Int) - 2, true)) := by show _ = _; rw [HS.out, if_neg he]
        have e1 : (er != 0) = true := by simp [he]
        clear HS he
        go_wp2_with (first
          | (go_at_call 193; refine (cN wr HLr.out).mono ?_; rintro e w' ⟨rfl, rfl⟩)
          | (go_at_call 85; refine cR'.mono ?_; rintro e w2 ⟨a, m, cap, rfl, hg⟩; have HB2 : Hid (Below w.heap.size w w2) := Below.after HB.out hg.below; clear hg))
        go_ret2
        rw [HS2.out]
        exact ⟨rfl, HB2.out⟩
    · have h0 : (x - (k : Int)).toNat = 0 := by omega
      have HS : Hid (writtenV v n = (x - 2, false)) := by show _ = _; rw [HK.out, h0, HX.out]; rfl
      clear h0 HK
      have M1 : Hid True := trivial
      go_wp2_with (first
        | (go_at_call 193; clear M1; refine (cN wr HLr.out).mono ?_; rintro e w' ⟨rfl, rfl⟩)
        | (go_at_call 193; refine (cN wr HLr.out).mono ?_; rintro e w' ⟨rfl, rfl⟩))
      go_ret2
      rw [HS.out]
      exact ⟨rfl, HB.out⟩
set_option maxHeartbeats 2000000 in
theorem lebs_any (b p z r : Int) (w : World) : Calls Tryz.prog 110 #[.agg #[.int .i64 b, .int .i64 p, .int .i64 z, .int .i64 r]] w fun e w' => e = .returned (.int .i64 (lebsI b p z r)) ∧ Below w.heap.size w w' := by
  obtain ⟨W, hW⟩ : ∃ W, W = w.alloc (.cells #[.int .i64 b, .int .i64 p, .int .i64 z, .int .i64 r] 23) := ⟨_, rfl⟩
  have hr : Row W w.heap.size [.int .i64 b, .int .i64 p, .int .i64 z, .int .i64 r] 23 := by rw [hW]; exact Row.new w [_, _, _, _] _
  have HB : Hid (Below w.heap.size w W) := by rw [hW]; exact below_new w _
  have cR := right_any b p z r W
  have c0 : W.cell? ⟨w.heap.size, 0, none⟩ = some (.int .i64 b) := hr.cell (i := 0) rfl
  have c1 : W.cell? ⟨w.heap.size, 1, none⟩ = some (.int .i64 p) := hr.cell (i := 1) rfl
  have c2 : W.cell? ⟨w.heap.size, 2, none⟩ = some (.int .i64 z) := hr.cell (i := 2) rfl
  have c3 : W.cell? ⟨w.heap.size, 3, none⟩ = some (.int .i64 r) := hr.cell (i := 3) rfl
  have HR : Hid (Row W w.heap.size [.int .i64 b, .int .i64 p, .int .i64 z, .int .i64 r] 23) := hr
  have HI : Hid (lebsI b p z r = if rightB b p z r then b - r - 2 else 0) := rfl
  have HQ : Hid (rightB b p z r = true → 16 ≤ b ∧ b ≤ 256 ∧ 0 ≤ r ∧ r ≤ 64) := by
    intro h
    unfold rightB at h
    simp only [Bool.and_eq_true, decide_eq_true_eq] at h
    obtain ⟨h1, _, _, _, _, _, h7⟩ := h
    have : wrap64 (b.tdiv 4) = b.tdiv 4 := by
      have e : b.tdiv 4 = b / 4 := Int.tdiv_eq_ediv_of_nonneg (by omega)
      rw [e]
      unfold wrap64; omega
    rw [this, Int.tdiv_eq_ediv_of_nonneg (by omega)] at h7
    omega
  obtain ⟨R, hR⟩ : ∃ R, R = rightB b p z r := ⟨_, rfl⟩
  rw [← hR] at cR HI HQ
  clear hr hR
  cases R with
  | true =>
    obtain ⟨q1, q2, q3, q4⟩ := HQ.out rfl
    go_enter Tryz.func110, Tryz.ntmps110
    go_wp2_with fail
    rw [← hW]
    clear hW
    go_wp2_with (go_at_call 44; refine cR.mono ?_; rintro e w2 ⟨rfl, hb2⟩; have hr2 := HR.out.later hb2; have d0 : w2.cell? ⟨w.heap.size, 0, none⟩ = some (.int .i64 b) := hr2.cell (i := 0) rfl; have d3 : w2.cell? ⟨w.heap.size, 3, none⟩ = some (.int .i64 r) := hr2.cell (i := 3) rfl; have HB2 : Hid (Below w.heap.size w w2) := Below.after HB.out hb2; clear hb2 hr2)
    go_ret
    exact ⟨by rw [HI.out, if_pos trivial]; rfl, HB2.out⟩
  | false =>
    go_enter Tryz.func110, Tryz.ntmps110
    go_wp2_with fail
    rw [← hW]
    clear hW
    go_wp2_with (go_at_call 44; refine cR.mono ?_; rintro e w2 ⟨rfl, hb2⟩; have HB2 : Hid (Below w.heap.size w w2) := Below.after HB.out hb2; clear hb2)
    go_ret
    exact ⟨by rw [HI.out]; rfl, HB2.out⟩
end Go.Proofs.YtkfecngkdlajgaaGreatDoor
