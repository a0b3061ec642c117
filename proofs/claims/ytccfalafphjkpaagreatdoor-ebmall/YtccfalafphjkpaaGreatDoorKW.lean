/-
  What the walks of EbmAll share.
  The walk of EbmAll, by the logical block that is changed.
  The walk of EbmAll, by the logical block that is changed.
  The walk of EbmAll, by the logical block that is changed.
-/
import Derived.Test.YtccfalafphjkpaaGreatDoorKV
import Derived.Test.YtccfalafphjkpaaGreatDoorKT
namespace Go.Proofs.YtccfalafphjkpaaGreatDoor.ebmAll
open Go.ChangeShapes Go.WideShapes Go.ChangeAt Go.RowKit
set_option maxRecDepth 10000

/-- What Format of a new chip leaves. -/
structure Beg (w0 : World) (gb gp gz gr : Nat) (w : World) (m : Mg) (c0 c : CS) (P : List (List (List Nat))) : Prop where
  al : Al w0.heap.size 1 w0 c0.gz w m c P (fun _ => none)
  gm : Gm c0 c
  geo : c0.gb = gb ∧ c0.gp = gp ∧ c0.gz = gz ∧ c0.gr = gr
theorem Beg.later {w0 : World} {gb gp gz gr : Nat} {w w' : World} {m : Mg} {c0 c : CS} {P : List (List (List Nat))} (h : Beg w0 gb gp gz gr w m c0 c P) (hb : Below w.heap.size w w') : Beg w0 gb gp gz gr w' m c0 c P := ⟨h.al.later hb, h.gm, h.geo⟩
theorem Beg.pages {w0 : World} {gb gp gz gr : Nat} {w : World} {m : Mg} {c0 c : CS} {P : List (List (List Nat))} (h : Beg w0 gb gp gz gr w m c0 c P) :
    Calls Tryz.prog 8 #[.pointer (some ⟨m.p, 0, none⟩)] w fun e w' => e = .returned (.int .i64 ((gp : Int) - 2)) ∧ Below w.heap.size w w' := by
  have := al_pages h.al
  rw [h.gm.gp, h.geo.2.1] at this
  exact this
theorem Beg.rc {X : World} {gb gp gz gr n dc N : Nat} {w W : World} {m : Mg} {c0 c : CS} {P : List (List (List Nat))} {a : Option Addr} {l : List Nat} {v : Value} (h : Beg X gb gp gz gr w m c0 c P) (E : EnvA X gb gp gz gr n a l c0) (hf : PgL w W (.slice a n dc) v N) (hN : 0 < N) : ∃ q cq, v = .slice q N cq ∧ AlF X c0 m.p N 0 1 l q W := by
  have hW := h.al.later hf.bel
  have hd := dt_arg E.lt E.row (Nat.le_refl _) hW.kp hW.ms.ml
  have hf' := hf
  rw [E.len] at hf'
  obtain ⟨q, cq, e, hp⟩ := hf'.pdt h.al.ms.ml hd hN
  refine ⟨q, cq, e, m, c, P, ⟨hW.ms, hW.gl, fun j => ?_, hW.kp, hW.hb, hW.z⟩, h.gm, rfl, hp⟩
  rw [hW.fn j, if_neg (by omega)]
/-- The chip that New made. -/
structure Nc (w0 w : World) (c : CS) (gb gp gz gr : Nat) : Prop where
  lies : Lies w0.heap.size w c
  fr : Fresh c
  geo : c.gb = gb ∧ c.gp = gp ∧ c.gz = gz ∧ c.gr = gr
  bel : Below w0.heap.size w0 w
theorem nc_format {w0 w : World} {c : CS} {gb gp gz gr : Nat} (h : Nc w0 w c gb gp gz gr) (hg : Hd.Glb w0) (ht : Typed w0) :
    Calls Tryz.prog 7 #[.pointer (some ⟨c.p, 0, none⟩)] w fun e w' => ∃ m c' P, e = .returned (.tuple #[.pointer (some ⟨m.p, 0, none⟩), .int .i64 0]) ∧ Beg w0 gb gp gz gr w' m c c' P := by
  refine (format_al (w0 := w0) h.lies h.fr (hg.later h.bel) hg.lt (ht.later h.bel) ht.pos (.of_below h.bel)).mono ?_
  rintro e w' ⟨m, c', P, rfl, ha, hgm, _⟩
  exact ⟨m, c', P, rfl, ha, hgm, h.geo⟩
theorem right_more {gb gp gz gr : Nat} (h : rightB gb gp gz gr = true) : 4 * gr ≤ gb := by
  have hg := right_geo h
  unfold rightB at h
  simp only [Bool.and_eq_true, decide_eq_true_eq] at h
  obtain ⟨h1, h2, _, h3, _, _, h4⟩ := h
  have e : wrap64 ((gb : Int).tdiv 4) = (gb : Int) / 4 := by
    rw [Int.tdiv_eq_ediv_of_nonneg (by omega)]
    unfold wrap64; omega
  rw [e] at h4
  omega
theorem new_cell (w : World) (u : Value) (t : TypeId) : (w.alloc (.cells #[u] t)).cell? ((⟨w.heap.size, 0, none⟩ : Addr).add 0) = some u := (Row.new w [u] t).cell (i := 0) rfl
end Go.Proofs.YtccfalafphjkpaaGreatDoor.ebmAll
namespace Go.Proofs.YtccfalafphjkpaaGreatDoor.ebmAll
open Go.ChangeShapes Go.WideShapes Go.ChangeAt Go.RowKit
set_option maxRecDepth 10000

set_option maxHeartbeats 40000000 in
theorem walk_A (gb gp gz gr : Nat) (at_ : Int) (a : Option Addr) (n cap : Nat) (l : List Nat) (w : World) (hg : Hd.Glb w) (ht : Typed w) (hR : rightB gb gp gz gr = true) (h0 : BArg w a n cap l) (hz : n ≤ gz) (ha : at_ < 0) :
    Calls Tryz.prog 3 #[.agg #[.int .i64 gb, .int .i64 gp, .int .i64 gz, .int .i64 gr], .slice a n cap, .int .i64 at_] w fun e w' => e = .returned (.bool true) ∧ Below w.heap.size w w' := by
  have HG : Hid (Hd.Glb w ∧ Typed w) := ⟨hg, ht⟩
  have cN := fun W => new_chip gb gp gz gr W hR
  have hz2 : ¬ (gz : Int) < (n : Int) := by omega
  have HR : Hid (rightB gb gp gz gr = true) := hR
  obtain ⟨X, hX⟩ : ∃ X, X = w.alloc (.cells #[.int .i64 gb, .int .i64 gp, .int .i64 gz, .int .i64 gr] 23) := ⟨_, rfl⟩
  have HB0 : Hid (Below w.heap.size w X) := by rw [hX]; exact below_new w _
  have hx : Row X w.heap.size [.int .i64 gb, .int .i64 gp, .int .i64 gz, .int .i64 gr] 23 := by rw [hX]; exact Row.new w _ _
  have HX : Hid (Row X w.heap.size [.int .i64 gb, .int .i64 gp, .int .i64 gz, .int .i64 gr] 23) := hx
  have x0 := hx.cell (i := 0) rfl
  have x1 := hx.cell (i := 1) rfl
  have x2 := hx.cell (i := 2) rfl
  have x3 := hx.cell (i := 3) rfl
  have HD : Hid (BArg w a n cap l ∧ n ≤ gz) := ⟨h0, hz⟩
  have n1 : ¬ 0 ≤ at_ := by omega
  clear hg ht hR hx hz h0
  go_enter Tryz.func3, Tryz.ntmps3
  go_wp2_with fail
  rw [← hX]
  clear hX
  go_wp2_with (first
    | (go_at_call 5; refine (cN _).mono ?_; rintro e w1 ⟨c0, rfl, q1, q2, q3, q4, q5, q6, hb1⟩; have HB1 : Hid (Nc X w1 c0 gb gp gz gr) := ⟨q1, q2, ⟨q3, q4, q5, q6⟩, hb1⟩; have y2 : w1.cell? ⟨w.heap.size, 2, none⟩ = some (.int .i64 gz) := (HX.out.later hb1).cell (i := 2) rfl; clear hb1 x0 x1 x2 x3 q1 q2 q3 q4 q5 q6)
    | (go_at_call 7; refine (nc_format HB1.out (HG.out.1.later HB0.out) (HG.out.2.later HB0.out)).mono ?_; rintro e w2 ⟨m, c1, P1, rfl, hA2⟩; have HA2 : Hid (Beg X gb gp gz gr w2 m c0 c1 P1) := hA2; clear hA2 y2))
  have hG := right_geo HR.out
  have hM := right_more HR.out
  have hgm : (gp : Int) ≤ 64 ∧ 8 ≤ (gp : Int) := by omega
  have HE : Hid (EnvA X gb gp gz gr n a l c0) := ⟨HD.out.1.row.later HB0.out, HD.out.1.lt, HD.out.1.len_eq, HD.out.2, HA2.out.geo, HR.out⟩
  have HN : Hid (PgL w2 w2 (.slice a n cap) (.slice none 0 0) 0) := PgL.nil _ _
  go_loopw [10, 11] (fun v i wr => ∃ k : Nat, i = .int .i64 (k : Int) ∧ k + 2 ≤ gp ∧ Hid (PgL w2 wr (.slice a n cap) v k)) (fun _ i _ => gp - (intOf i).toNat)
  case atStart => exact ⟨0, rfl, by omega, HN⟩
  case round =>
    obtain ⟨k, rfl, hk, HK⟩ := hrel
    by_cases hkl : k + 2 < gp
    · have hlt : (k : Int) < (gp : Int) - 2 := by omega
      have hk64 : (k : Int) ≤ 64 := by omega
      have HKL : Hid (k + 2 < gp ∧ k + 1 ≤ maxLen ∧ (k + 1) * 24 ≤ 140737488355328) := ⟨hkl, by unfold maxLen; omega, by omega⟩
      clear hkl
      go_wp2_with (first
        | (go_at_call 8; refine ((HA2.out.later HK.out.bel).pages).mono ?_; rintro e v1 ⟨rfl, h1⟩; have HK1 := hid_of (HK.out.later h1); clear h1)
        | (at_builtin; refine wpList_append_pages rfl (.tmp 54) (.tmp 56) rfl w2.heap.size _ k (List.replicate k (.slice a n cap)) rfl (HK1.out.later (below_new v1 _)).own ⟨v1.heap.size, 0, none⟩ 1 (.slice a n cap) rfl (new_cell v1 _ _) rfl HKL.out.2.1 HKL.out.2.2 (HK1.out.later (below_new v1 _)).bel.size ?_; intro v2 w5 ho hg; have HK5 : Hid (PgL w2 w5 (.slice a n cap) v2 (k + 1)) := (HK1.out.later (below_new v1 _)).app ho hg; clear ho hg))
      go_roundw
      case rel => exact ⟨k + 1, by go_num, by have := HKL.out; omega, HK5⟩
      case measure => simp [intOf]; have := HKL.out; omega
    · have hke : k + 2 = gp := by omega
      have hlt : ¬ (k : Int) < (gp : Int) - 2 := by omega
      have hpk : (gp : Int) - 2 = (k : Int) := by omega
      have HKE : Hid (k + 2 = gp) := hke
      obtain ⟨q, cq, rfl, hrc⟩ := HA2.out.rc HE.out HK.out (by omega)
      have HRC := hid_of hrc
      clear hkl hke hrc
      go_wp2_with (first
        | (go_at_call 8; refine ((HA2.out.later HK.out.bel).pages).mono ?_; rintro e v0 ⟨rfl, h1⟩; have HC0 : Hid (AlF X c0 m.p k 0 1 l q v0) := HRC.out.later h1; clear h1 HRC HK))
      go_loopw [12] (fun i wr => ∃ j : Nat, i = .int .i64 (j : Int) ∧ j + gr + 2 ≤ gb ∧ Hid (AlF X c0 m.p k j (j + 1) l q wr)) (fun i _ => gb - (intOf i).toNat)
      case atStart => exact ⟨0, rfl, by omega, HC0⟩
      case round =>
        obtain ⟨j, rfl, hj, HJ⟩ := hrel
        by_cases hjl : j + gr + 2 < gb
        · have hlt2 : (j : Int) < (gb : Int) - gr - 2 := by omega
          have hj256 : (j : Int) ≤ 256 := by omega
          have HJL : Hid (j + gr + 2 < gb ∧ j + 1 < 1000) := ⟨hjl, by omega⟩
          clear hjl
          go_wp2_with (first
            | (go_at_call 9; refine (rc_lebs HE.out HJ.out).mono ?_; rintro e v1 ⟨rfl, h1⟩; have HJ1 : Hid (AlF X c0 m.p k j (j + 1) l q v1) := h1; clear h1 HJ)
            | (go_at_call 10; refine (rc_change HE.out HJ1.out HKE.out HJL.out.1 HJL.out.2).mono ?_; rintro e v2 ⟨rfl, h1⟩; have HJ2 : Hid (AlF X c0 m.p k (j + 1) (j + 1 + 1) l q v2) := h1; clear h1))
          go_roundw
          case rel => exact ⟨j + 1, by go_num, by have := HJL.out; omega, HJ2⟩
          case measure => simp [intOf]; have := HJL.out; omega
        · have hje : j + gr + 2 = gb := by omega
          have hlt2 : ¬ (j : Int) < (gb : Int) - gr - 2 := by omega
          have HJE : Hid (j + gr + 2 = gb) := hje
          have HT1 : Hid (j + 1 < 1000) := (by omega : j + 1 < 1000)
          have ejg : (j : Int) = (gb : Int) - gr - 2 := by omega
          have HEJ : Hid ((j : Int) = (gb : Int) - gr - 2) := ejg
          have HAT : Hid (¬ (0 ≤ at_ ∧ at_ < (j : Int))) := (by omega : ¬ (0 ≤ at_ ∧ at_ < (j : Int)))
          clear hjl hje ejg
          go_wp2_with (first
            | (go_at_call 9; refine (rc_lebs HE.out HJ.out).mono ?_; rintro e v1 ⟨rfl, h1⟩; have HJ1 : Hid (AlF X c0 m.p k j (j + 1) l q v1) := h1; clear h1 HJ)
            | (go_at_call 12; have HS := (show Hid (AlW X c0 m.p ((gb : Int) - gr - 2) at_ k l _) from (by rw [← HEJ.out]; exact HJ1.out.out at_ HAT.out)); refine (ra_attach HS.out).mono ?_; rintro e v5 ⟨p2, rfl, h1⟩; have HT : Hid (AlW X c0 p2 ((gb : Int) - gr - 2) at_ k l v5) := h1; clear h1 HS)
            | (go_at_call 13; refine (ra_wrong HT.out).mono ?_; rintro e v6 ⟨rfl, rfl⟩))
          go_loopw [14] (fun i wr => ∃ j : Nat, i = .int .i64 (j : Int) ∧ j + gr + 2 ≤ gb ∧ Hid (AlW X c0 p2 ((gb : Int) - gr - 2) at_ k l wr)) (fun i _ => gb - (intOf i).toNat)
          case atStart => exact ⟨0, rfl, by omega, HT⟩
          case round =>
            obtain ⟨j, rfl, hj, HJ⟩ := hrel
            by_cases hjl : j + gr + 2 < gb
            · have hlt3 : (j : Int) < (gb : Int) - gr - 2 := by omega
              have hj256 : (j : Int) ≤ 256 := by omega
              have HJL : Hid (j + gr + 2 < gb ∧ 0 < k) := ⟨hjl, by omega⟩
              clear hjl
              have hja : ¬ (j : Int) = at_ := by omega
              have HJA : Hid (¬ (j : Int) = at_) := hja
              go_wp2_with (first
                | (go_at_call 9; refine (ra_lebs HE.out HJ.out).mono ?_; rintro e u1 ⟨rfl, h1⟩; have HJ1 : Hid (AlW X c0 p2 ((gb : Int) - gr - 2) at_ k l u1) := h1; clear h1)
                | (go_at_call 8; refine (ra_pages HE.out HJ1.out).mono ?_; rintro e u2 ⟨rfl, h1⟩; have HJ2 : Hid (AlW X c0 p2 ((gb : Int) - gr - 2) at_ k l u2) := h1; clear h1)
                | (go_at_call 14; refine (ra_read HE.out HJ2.out HJL.out.2 (j : Int) (by omega) (by have := HJL.out.1; omega)).mono ?_; rintro e u3 ⟨bb, oo, cc, rfl, hcc, hrow, h1⟩; have HJ3 : Hid (AlW X c0 p2 ((gb : Int) - gr - 2) at_ k l u3 ∧ BRow u3 (some ⟨bb, oo, none⟩) l) := ⟨h1, hrow⟩; have hnc : (n : Int) ≤ (cc : Int) := (by have := HE.out.nz; omega); clear h1 hrow hcc)
                | (go_at_call 11; refine (ra_used_not HJ3.out.1 (j : Int) (by omega) (by have := HJL.out.1; omega) HJA.out).mono ?_; rintro e u4 ⟨rfl, h1⟩; have HJ4 : Hid (AlW X c0 p2 ((gb : Int) - gr - 2) at_ k l u4 ∧ BRow u4 (some ⟨bb, oo, none⟩) l) := ⟨HJ3.out.1.later h1, HJ3.out.2.later h1⟩; have y2 : u4.cell? ⟨w.heap.size, 2, none⟩ = some (.int .i64 gz) := (HX.out.later (HJ3.out.1.later h1).below).cell (i := 2) rfl; clear h1)
                | (go_at_call 15; refine (ra_same HE.out HJ4.out.1.below HJ4.out.2).mono ?_; rintro e u5 ⟨rfl, rfl⟩))
              go_roundw
              case rel => exact ⟨j + 1, by go_num, by have := HJL.out; omega, HJ4.out.1⟩
              case measure => simp [intOf]; have := HJL.out; omega
            · have hlt3 : ¬ (j : Int) < (gb : Int) - gr - 2 := by omega
              clear hjl
              go_wp2_with (first
                | (go_at_call 9; refine (ra_lebs HE.out HJ.out).mono ?_; rintro e u1 ⟨rfl, h1⟩; have HB7 : Hid (Below w.heap.size w u1) := Below.after HB0.out h1.below; clear h1)
                | (go_at_call 6; refine (alive_any _ (HG.out.1.later HB7.out) (HG.out.2.later HB7.out)).mono ?_; rintro e u8 ⟨rfl, hb6⟩; have HB8 : Hid (Below w.heap.size w u8) := Below.after HB7.out hb6; clear hb6))
              go_ret
              exact ⟨rfl, HB8.out⟩
end Go.Proofs.YtccfalafphjkpaaGreatDoor.ebmAll
namespace Go.Proofs.YtccfalafphjkpaaGreatDoor.ebmAll
open Go.ChangeShapes Go.WideShapes Go.ChangeAt Go.RowKit
set_option maxRecDepth 10000

set_option maxHeartbeats 40000000 in
theorem walk_B (gb gp gz gr : Nat) (at_ : Int) (a : Option Addr) (n cap : Nat) (l : List Nat) (w : World) (hg : Hd.Glb w) (ht : Typed w) (hR : rightB gb gp gz gr = true) (h0 : BArg w a n cap l) (hz : n ≤ gz) (ha : 0 ≤ at_) (hb : at_ < (gb : Int) - gr - 2) :
    Calls Tryz.prog 3 #[.agg #[.int .i64 gb, .int .i64 gp, .int .i64 gz, .int .i64 gr], .slice a n cap, .int .i64 at_] w fun e w' => e = .returned (.bool true) ∧ Below w.heap.size w w' := by
  have HG : Hid (Hd.Glb w ∧ Typed w) := ⟨hg, ht⟩
  have cN := fun W => new_chip gb gp gz gr W hR
  have hz2 : ¬ (gz : Int) < (n : Int) := by omega
  have HR : Hid (rightB gb gp gz gr = true) := hR
  obtain ⟨X, hX⟩ : ∃ X, X = w.alloc (.cells #[.int .i64 gb, .int .i64 gp, .int .i64 gz, .int .i64 gr] 23) := ⟨_, rfl⟩
  have HB0 : Hid (Below w.heap.size w X) := by rw [hX]; exact below_new w _
  have hx : Row X w.heap.size [.int .i64 gb, .int .i64 gp, .int .i64 gz, .int .i64 gr] 23 := by rw [hX]; exact Row.new w _ _
  have HX : Hid (Row X w.heap.size [.int .i64 gb, .int .i64 gp, .int .i64 gz, .int .i64 gr] 23) := hx
  have x0 := hx.cell (i := 0) rfl
  have x1 := hx.cell (i := 1) rfl
  have x2 := hx.cell (i := 2) rfl
  have x3 := hx.cell (i := 3) rfl
  have HD : Hid (BArg w a n cap l ∧ n ≤ gz) := ⟨h0, hz⟩
  clear hg ht hR hx hz h0
  go_enter Tryz.func3, Tryz.ntmps3
  go_wp2_with fail
  rw [← hX]
  clear hX
  go_wp2_with (first
    | (go_at_call 5; refine (cN _).mono ?_; rintro e w1 ⟨c0, rfl, q1, q2, q3, q4, q5, q6, hb1⟩; have HB1 : Hid (Nc X w1 c0 gb gp gz gr) := ⟨q1, q2, ⟨q3, q4, q5, q6⟩, hb1⟩; have y2 : w1.cell? ⟨w.heap.size, 2, none⟩ = some (.int .i64 gz) := (HX.out.later hb1).cell (i := 2) rfl; clear hb1 x0 x1 x2 x3 q1 q2 q3 q4 q5 q6)
    | (go_at_call 7; refine (nc_format HB1.out (HG.out.1.later HB0.out) (HG.out.2.later HB0.out)).mono ?_; rintro e w2 ⟨m, c1, P1, rfl, hA2⟩; have HA2 : Hid (Beg X gb gp gz gr w2 m c0 c1 P1) := hA2; clear hA2 y2))
  have hG := right_geo HR.out
  have hM := right_more HR.out
  have hgm : (gp : Int) ≤ 64 ∧ 8 ≤ (gp : Int) := by omega
  have HE : Hid (EnvA X gb gp gz gr n a l c0) := ⟨HD.out.1.row.later HB0.out, HD.out.1.lt, HD.out.1.len_eq, HD.out.2, HA2.out.geo, HR.out⟩
  have HN : Hid (PgL w2 w2 (.slice a n cap) (.slice none 0 0) 0) := PgL.nil _ _
  go_loopw [10, 11] (fun v i wr => ∃ k : Nat, i = .int .i64 (k : Int) ∧ k + 2 ≤ gp ∧ Hid (PgL w2 wr (.slice a n cap) v k)) (fun _ i _ => gp - (intOf i).toNat)
  case atStart => exact ⟨0, rfl, by omega, HN⟩
  case round =>
    obtain ⟨k, rfl, hk, HK⟩ := hrel
    by_cases hkl : k + 2 < gp
    · have hlt : (k : Int) < (gp : Int) - 2 := by omega
      have hk64 : (k : Int) ≤ 64 := by omega
      have HKL : Hid (k + 2 < gp ∧ k + 1 ≤ maxLen ∧ (k + 1) * 24 ≤ 140737488355328) := ⟨hkl, by unfold maxLen; omega, by omega⟩
      clear hkl
      go_wp2_with (first
        | (go_at_call 8; refine ((HA2.out.later HK.out.bel).pages).mono ?_; rintro e v1 ⟨rfl, h1⟩; have HK1 := hid_of (HK.out.later h1); clear h1)
        | (at_builtin; refine wpList_append_pages rfl (.tmp 54) (.tmp 56) rfl w2.heap.size _ k (List.replicate k (.slice a n cap)) rfl (HK1.out.later (below_new v1 _)).own ⟨v1.heap.size, 0, none⟩ 1 (.slice a n cap) rfl (new_cell v1 _ _) rfl HKL.out.2.1 HKL.out.2.2 (HK1.out.later (below_new v1 _)).bel.size ?_; intro v2 w5 ho hg; have HK5 : Hid (PgL w2 w5 (.slice a n cap) v2 (k + 1)) := (HK1.out.later (below_new v1 _)).app ho hg; clear ho hg))
      go_roundw
      case rel => exact ⟨k + 1, by go_num, by have := HKL.out; omega, HK5⟩
      case measure => simp [intOf]; have := HKL.out; omega
    · have hke : k + 2 = gp := by omega
      have hlt : ¬ (k : Int) < (gp : Int) - 2 := by omega
      have hpk : (gp : Int) - 2 = (k : Int) := by omega
      have HKE : Hid (k + 2 = gp) := hke
      obtain ⟨q, cq, rfl, hrc⟩ := HA2.out.rc HE.out HK.out (by omega)
      have HRC := hid_of hrc
      clear hkl hke hrc
      go_wp2_with (first
        | (go_at_call 8; refine ((HA2.out.later HK.out.bel).pages).mono ?_; rintro e v0 ⟨rfl, h1⟩; have HC0 : Hid (AlF X c0 m.p k 0 1 l q v0) := HRC.out.later h1; clear h1 HRC HK))
      go_loopw [12] (fun i wr => ∃ j : Nat, i = .int .i64 (j : Int) ∧ j + gr + 2 ≤ gb ∧ Hid (AlF X c0 m.p k j (j + 1) l q wr)) (fun i _ => gb - (intOf i).toNat)
      case atStart => exact ⟨0, rfl, by omega, HC0⟩
      case round =>
        obtain ⟨j, rfl, hj, HJ⟩ := hrel
        by_cases hjl : j + gr + 2 < gb
        · have hlt2 : (j : Int) < (gb : Int) - gr - 2 := by omega
          have hj256 : (j : Int) ≤ 256 := by omega
          have HJL : Hid (j + gr + 2 < gb ∧ j + 1 < 1000) := ⟨hjl, by omega⟩
          clear hjl
          go_wp2_with (first
            | (go_at_call 9; refine (rc_lebs HE.out HJ.out).mono ?_; rintro e v1 ⟨rfl, h1⟩; have HJ1 : Hid (AlF X c0 m.p k j (j + 1) l q v1) := h1; clear h1 HJ)
            | (go_at_call 10; refine (rc_change HE.out HJ1.out HKE.out HJL.out.1 HJL.out.2).mono ?_; rintro e v2 ⟨rfl, h1⟩; have HJ2 : Hid (AlF X c0 m.p k (j + 1) (j + 1 + 1) l q v2) := h1; clear h1))
          go_roundw
          case rel => exact ⟨j + 1, by go_num, by have := HJL.out; omega, HJ2⟩
          case measure => simp [intOf]; have := HJL.out; omega
        · have hje : j + gr + 2 = gb := by omega
          have hlt2 : ¬ (j : Int) < (gb : Int) - gr - 2 := by omega
          have HJE : Hid (j + gr + 2 = gb) := hje
          have HT1 : Hid (j + 1 < 1000) := (by omega : j + 1 < 1000)
          have ejg : (j : Int) = (gb : Int) - gr - 2 := by omega
          have HEJ : Hid ((j : Int) = (gb : Int) - gr - 2) := ejg
          have HAT : Hid (0 ≤ at_ ∧ at_ + gr + 2 < gb) := (by omega : 0 ≤ at_ ∧ at_ + gr + 2 < gb)
          clear hjl hje ejg
          go_wp2_with (first
            | (go_at_call 9; refine (rc_lebs HE.out HJ.out).mono ?_; rintro e v1 ⟨rfl, h1⟩; have HJ1 : Hid (AlF X c0 m.p k j (j + 1) l q v1) := h1; clear h1 HJ)
            | (go_at_call 9; refine (rc_lebs HE.out HJ1.out).mono ?_; rintro e v2 ⟨rfl, h1⟩; have HJ2 : Hid (AlF X c0 m.p k j (j + 1) l q v2) := h1; clear h1 HJ1)
            | (go_at_call 10; refine (rc_one HE.out HJ2.out HJE.out HT1.out at_ HAT.out.1 HAT.out.2).mono ?_; rintro e v3 ⟨rfl, h1⟩; have HR3 : Hid (AlW X c0 m.p ((gb : Int) - gr - 2) at_ k l v3) := h1; clear h1 HJ2)
            | (go_at_call 11; refine (ra_used_at HR3.out at_ HAT.out.1 (by have := HAT.out.2; omega) rfl).mono ?_; rintro e v4 ⟨rfl, h1⟩; have HS : Hid (AlW X c0 m.p ((gb : Int) - gr - 2) at_ k l v4) := HR3.out.later h1; clear h1 HR3)
            | (go_at_call 12; refine (ra_attach HS.out).mono ?_; rintro e v5 ⟨p2, rfl, h1⟩; have HT : Hid (AlW X c0 p2 ((gb : Int) - gr - 2) at_ k l v5) := h1; clear h1 HS)
            | (go_at_call 13; refine (ra_wrong HT.out).mono ?_; rintro e v6 ⟨rfl, rfl⟩))
          go_loopw [14] (fun i wr => ∃ j : Nat, i = .int .i64 (j : Int) ∧ j + gr + 2 ≤ gb ∧ Hid (AlW X c0 p2 ((gb : Int) - gr - 2) at_ k l wr)) (fun i _ => gb - (intOf i).toNat)
          case atStart => exact ⟨0, rfl, by omega, HT⟩
          case round =>
            obtain ⟨j, rfl, hj, HJ⟩ := hrel
            by_cases hjl : j + gr + 2 < gb
            · have hlt3 : (j : Int) < (gb : Int) - gr - 2 := by omega
              have hj256 : (j : Int) ≤ 256 := by omega
              have HJL : Hid (j + gr + 2 < gb ∧ 0 < k) := ⟨hjl, by omega⟩
              clear hjl
              by_cases hja : (j : Int) = at_
              · subst hja
                go_wp2_with (first
                  | (go_at_call 9; refine (ra_lebs HE.out HJ.out).mono ?_; rintro e u1 ⟨rfl, h1⟩; have HJ1 : Hid (AlW X c0 p2 ((gb : Int) - gr - 2) (j : Int) k l u1) := h1; clear h1)
                  | (go_at_call 8; refine (ra_pages HE.out HJ1.out).mono ?_; rintro e u2 ⟨rfl, h1⟩; have HJ2 : Hid (AlW X c0 p2 ((gb : Int) - gr - 2) (j : Int) k l u2) := h1; clear h1)
                  | (go_at_call 14; refine (ra_read HE.out HJ2.out HJL.out.2 (j : Int) (by omega) (by have := HJL.out.1; omega)).mono ?_; rintro e u3 ⟨bb, oo, cc, rfl, hcc, hrow, h1⟩; have HJ3 : Hid (AlW X c0 p2 ((gb : Int) - gr - 2) (j : Int) k l u3 ∧ BRow u3 (some ⟨bb, oo, none⟩) l) := ⟨h1, hrow⟩; have hnc : (n : Int) ≤ (cc : Int) := (by have := HE.out.nz; omega); clear h1 hrow hcc)
                  | (go_at_call 11; refine (ra_used_at HJ3.out.1 (j : Int) (by omega) (by have := HJL.out.1; omega) rfl).mono ?_; rintro e u4 ⟨rfl, h1⟩; have HJ4 : Hid (AlW X c0 p2 ((gb : Int) - gr - 2) (j : Int) k l u4 ∧ BRow u4 (some ⟨bb, oo, none⟩) l) := ⟨HJ3.out.1.later h1, HJ3.out.2.later h1⟩; have y2 : u4.cell? ⟨w.heap.size, 2, none⟩ = some (.int .i64 gz) := (HX.out.later (HJ3.out.1.later h1).below).cell (i := 2) rfl; clear h1)
                  | (go_at_call 15; refine (ra_same HE.out HJ4.out.1.below HJ4.out.2).mono ?_; rintro e u5 ⟨rfl, rfl⟩))
                go_roundw
                case rel => exact ⟨j + 1, by go_num, by have := HJL.out; omega, HJ4.out.1⟩
                case measure => simp [intOf]; have := HJL.out; omega
              · have HJA : Hid (¬ (j : Int) = at_) := hja
                go_wp2_with (first
                  | (go_at_call 9; refine (ra_lebs HE.out HJ.out).mono ?_; rintro e u1 ⟨rfl, h1⟩; have HJ1 : Hid (AlW X c0 p2 ((gb : Int) - gr - 2) at_ k l u1) := h1; clear h1)
                  | (go_at_call 8; refine (ra_pages HE.out HJ1.out).mono ?_; rintro e u2 ⟨rfl, h1⟩; have HJ2 : Hid (AlW X c0 p2 ((gb : Int) - gr - 2) at_ k l u2) := h1; clear h1)
                  | (go_at_call 14; refine (ra_read HE.out HJ2.out HJL.out.2 (j : Int) (by omega) (by have := HJL.out.1; omega)).mono ?_; rintro e u3 ⟨bb, oo, cc, rfl, hcc, hrow, h1⟩; have HJ3 : Hid (AlW X c0 p2 ((gb : Int) - gr - 2) at_ k l u3 ∧ BRow u3 (some ⟨bb, oo, none⟩) l) := ⟨h1, hrow⟩; have hnc : (n : Int) ≤ (cc : Int) := (by have := HE.out.nz; omega); clear h1 hrow hcc)
                  | (go_at_call 11; refine (ra_used_not HJ3.out.1 (j : Int) (by omega) (by have := HJL.out.1; omega) HJA.out).mono ?_; rintro e u4 ⟨rfl, h1⟩; have HJ4 : Hid (AlW X c0 p2 ((gb : Int) - gr - 2) at_ k l u4 ∧ BRow u4 (some ⟨bb, oo, none⟩) l) := ⟨HJ3.out.1.later h1, HJ3.out.2.later h1⟩; have y2 : u4.cell? ⟨w.heap.size, 2, none⟩ = some (.int .i64 gz) := (HX.out.later (HJ3.out.1.later h1).below).cell (i := 2) rfl; clear h1)
                  | (go_at_call 15; refine (ra_same HE.out HJ4.out.1.below HJ4.out.2).mono ?_; rintro e u5 ⟨rfl, rfl⟩))
                go_roundw
                case rel => exact ⟨j + 1, by go_num, by have := HJL.out; omega, HJ4.out.1⟩
                case measure => simp [intOf]; have := HJL.out; omega
            · have hlt3 : ¬ (j : Int) < (gb : Int) - gr - 2 := by omega
              clear hjl
              go_wp2_with (first
                | (go_at_call 9; refine (ra_lebs HE.out HJ.out).mono ?_; rintro e u1 ⟨rfl, h1⟩; have HB7 : Hid (Below w.heap.size w u1) := Below.after HB0.out h1.below; clear h1)
                | (go_at_call 6; refine (alive_any _ (HG.out.1.later HB7.out) (HG.out.2.later HB7.out)).mono ?_; rintro e u8 ⟨rfl, hb6⟩; have HB8 : Hid (Below w.heap.size w u8) := Below.after HB7.out hb6; clear hb6))
              go_ret
              exact ⟨rfl, HB8.out⟩
end Go.Proofs.YtccfalafphjkpaaGreatDoor.ebmAll
namespace Go.Proofs.YtccfalafphjkpaaGreatDoor.ebmAll
open Go.ChangeShapes Go.WideShapes Go.ChangeAt Go.RowKit
set_option maxRecDepth 10000

set_option maxHeartbeats 40000000 in
theorem walk_C (gb gp gz gr : Nat) (at_ : Int) (a : Option Addr) (n cap : Nat) (l : List Nat) (w : World) (hg : Hd.Glb w) (ht : Typed w) (hR : rightB gb gp gz gr = true) (h0 : BArg w a n cap l) (hz : n ≤ gz) (ha : 0 ≤ at_) (hb : ¬ at_ < (gb : Int) - gr - 2) :
    Calls Tryz.prog 3 #[.agg #[.int .i64 gb, .int .i64 gp, .int .i64 gz, .int .i64 gr], .slice a n cap, .int .i64 at_] w fun e w' => e = .returned (.bool true) ∧ Below w.heap.size w w' := by
  have HG : Hid (Hd.Glb w ∧ Typed w) := ⟨hg, ht⟩
  have cN := fun W => new_chip gb gp gz gr W hR
  have hz2 : ¬ (gz : Int) < (n : Int) := by omega
  have HR : Hid (rightB gb gp gz gr = true) := hR
  obtain ⟨X, hX⟩ : ∃ X, X = w.alloc (.cells #[.int .i64 gb, .int .i64 gp, .int .i64 gz, .int .i64 gr] 23) := ⟨_, rfl⟩
  have HB0 : Hid (Below w.heap.size w X) := by rw [hX]; exact below_new w _
  have hx : Row X w.heap.size [.int .i64 gb, .int .i64 gp, .int .i64 gz, .int .i64 gr] 23 := by rw [hX]; exact Row.new w _ _
  have HX : Hid (Row X w.heap.size [.int .i64 gb, .int .i64 gp, .int .i64 gz, .int .i64 gr] 23) := hx
  have x0 := hx.cell (i := 0) rfl
  have x1 := hx.cell (i := 1) rfl
  have x2 := hx.cell (i := 2) rfl
  have x3 := hx.cell (i := 3) rfl
  have HD : Hid (BArg w a n cap l ∧ n ≤ gz) := ⟨h0, hz⟩
  clear hg ht hR hx hz h0
  go_enter Tryz.func3, Tryz.ntmps3
  go_wp2_with fail
  rw [← hX]
  clear hX
  go_wp2_with (first
    | (go_at_call 5; refine (cN _).mono ?_; rintro e w1 ⟨c0, rfl, q1, q2, q3, q4, q5, q6, hb1⟩; have HB1 : Hid (Nc X w1 c0 gb gp gz gr) := ⟨q1, q2, ⟨q3, q4, q5, q6⟩, hb1⟩; have y2 : w1.cell? ⟨w.heap.size, 2, none⟩ = some (.int .i64 gz) := (HX.out.later hb1).cell (i := 2) rfl; clear hb1 x0 x1 x2 x3 q1 q2 q3 q4 q5 q6)
    | (go_at_call 7; refine (nc_format HB1.out (HG.out.1.later HB0.out) (HG.out.2.later HB0.out)).mono ?_; rintro e w2 ⟨m, c1, P1, rfl, hA2⟩; have HA2 : Hid (Beg X gb gp gz gr w2 m c0 c1 P1) := hA2; clear hA2 y2))
  have hG := right_geo HR.out
  have hM := right_more HR.out
  have hgm : (gp : Int) ≤ 64 ∧ 8 ≤ (gp : Int) := by omega
  have HE : Hid (EnvA X gb gp gz gr n a l c0) := ⟨HD.out.1.row.later HB0.out, HD.out.1.lt, HD.out.1.len_eq, HD.out.2, HA2.out.geo, HR.out⟩
  have HN : Hid (PgL w2 w2 (.slice a n cap) (.slice none 0 0) 0) := PgL.nil _ _
  go_loopw [10, 11] (fun v i wr => ∃ k : Nat, i = .int .i64 (k : Int) ∧ k + 2 ≤ gp ∧ Hid (PgL w2 wr (.slice a n cap) v k)) (fun _ i _ => gp - (intOf i).toNat)
  case atStart => exact ⟨0, rfl, by omega, HN⟩
  case round =>
    obtain ⟨k, rfl, hk, HK⟩ := hrel
    by_cases hkl : k + 2 < gp
    · have hlt : (k : Int) < (gp : Int) - 2 := by omega
      have hk64 : (k : Int) ≤ 64 := by omega
      have HKL : Hid (k + 2 < gp ∧ k + 1 ≤ maxLen ∧ (k + 1) * 24 ≤ 140737488355328) := ⟨hkl, by unfold maxLen; omega, by omega⟩
      clear hkl
      go_wp2_with (first
        | (go_at_call 8; refine ((HA2.out.later HK.out.bel).pages).mono ?_; rintro e v1 ⟨rfl, h1⟩; have HK1 := hid_of (HK.out.later h1); clear h1)
        | (at_builtin; refine wpList_append_pages rfl (.tmp 54) (.tmp 56) rfl w2.heap.size _ k (List.replicate k (.slice a n cap)) rfl (HK1.out.later (below_new v1 _)).own ⟨v1.heap.size, 0, none⟩ 1 (.slice a n cap) rfl (new_cell v1 _ _) rfl HKL.out.2.1 HKL.out.2.2 (HK1.out.later (below_new v1 _)).bel.size ?_; intro v2 w5 ho hg; have HK5 : Hid (PgL w2 w5 (.slice a n cap) v2 (k + 1)) := (HK1.out.later (below_new v1 _)).app ho hg; clear ho hg))
      go_roundw
      case rel => exact ⟨k + 1, by go_num, by have := HKL.out; omega, HK5⟩
      case measure => simp [intOf]; have := HKL.out; omega
    · have hke : k + 2 = gp := by omega
      have hlt : ¬ (k : Int) < (gp : Int) - 2 := by omega
      have hpk : (gp : Int) - 2 = (k : Int) := by omega
      have HKE : Hid (k + 2 = gp) := hke
      obtain ⟨q, cq, rfl, hrc⟩ := HA2.out.rc HE.out HK.out (by omega)
      have HRC := hid_of hrc
      clear hkl hke hrc
      go_wp2_with (first
        | (go_at_call 8; refine ((HA2.out.later HK.out.bel).pages).mono ?_; rintro e v0 ⟨rfl, h1⟩; have HC0 : Hid (AlF X c0 m.p k 0 1 l q v0) := HRC.out.later h1; clear h1 HRC HK))
      go_loopw [12] (fun i wr => ∃ j : Nat, i = .int .i64 (j : Int) ∧ j + gr + 2 ≤ gb ∧ Hid (AlF X c0 m.p k j (j + 1) l q wr)) (fun i _ => gb - (intOf i).toNat)
      case atStart => exact ⟨0, rfl, by omega, HC0⟩
      case round =>
        obtain ⟨j, rfl, hj, HJ⟩ := hrel
        by_cases hjl : j + gr + 2 < gb
        · have hlt2 : (j : Int) < (gb : Int) - gr - 2 := by omega
          have hj256 : (j : Int) ≤ 256 := by omega
          have HJL : Hid (j + gr + 2 < gb ∧ j + 1 < 1000) := ⟨hjl, by omega⟩
          clear hjl
          go_wp2_with (first
            | (go_at_call 9; refine (rc_lebs HE.out HJ.out).mono ?_; rintro e v1 ⟨rfl, h1⟩; have HJ1 : Hid (AlF X c0 m.p k j (j + 1) l q v1) := h1; clear h1 HJ)
            | (go_at_call 10; refine (rc_change HE.out HJ1.out HKE.out HJL.out.1 HJL.out.2).mono ?_; rintro e v2 ⟨rfl, h1⟩; have HJ2 : Hid (AlF X c0 m.p k (j + 1) (j + 1 + 1) l q v2) := h1; clear h1))
          go_roundw
          case rel => exact ⟨j + 1, by go_num, by have := HJL.out; omega, HJ2⟩
          case measure => simp [intOf]; have := HJL.out; omega
        · have hje : j + gr + 2 = gb := by omega
          have hlt2 : ¬ (j : Int) < (gb : Int) - gr - 2 := by omega
          have HJE : Hid (j + gr + 2 = gb) := hje
          have HT1 : Hid (j + 1 < 1000) := (by omega : j + 1 < 1000)
          have ejg : (j : Int) = (gb : Int) - gr - 2 := by omega
          have HEJ : Hid ((j : Int) = (gb : Int) - gr - 2) := ejg
          have HAT : Hid (¬ (0 ≤ at_ ∧ at_ < (j : Int))) := (by omega : ¬ (0 ≤ at_ ∧ at_ < (j : Int)))
          clear hjl hje ejg
          go_wp2_with (first
            | (go_at_call 9; refine (rc_lebs HE.out HJ.out).mono ?_; rintro e v1 ⟨rfl, h1⟩; have HJ1 : Hid (AlF X c0 m.p k j (j + 1) l q v1) := h1; clear h1 HJ)
            | (go_at_call 9; refine (rc_lebs HE.out HJ1.out).mono ?_; rintro e v2 ⟨rfl, h1⟩; have HJ2 : Hid (AlF X c0 m.p k j (j + 1) l q v2) := h1; clear h1 HJ1)
            | (go_at_call 12; have HS := (show Hid (AlW X c0 m.p ((gb : Int) - gr - 2) at_ k l _) from (by rw [← HEJ.out]; exact HJ2.out.out at_ HAT.out)); refine (ra_attach HS.out).mono ?_; rintro e v5 ⟨p2, rfl, h1⟩; have HT : Hid (AlW X c0 p2 ((gb : Int) - gr - 2) at_ k l v5) := h1; clear h1 HS)
            | (go_at_call 13; refine (ra_wrong HT.out).mono ?_; rintro e v6 ⟨rfl, rfl⟩))
          go_loopw [14] (fun i wr => ∃ j : Nat, i = .int .i64 (j : Int) ∧ j + gr + 2 ≤ gb ∧ Hid (AlW X c0 p2 ((gb : Int) - gr - 2) at_ k l wr)) (fun i _ => gb - (intOf i).toNat)
          case atStart => exact ⟨0, rfl, by omega, HT⟩
          case round =>
            obtain ⟨j, rfl, hj, HJ⟩ := hrel
            by_cases hjl : j + gr + 2 < gb
            · have hlt3 : (j : Int) < (gb : Int) - gr - 2 := by omega
              have hj256 : (j : Int) ≤ 256 := by omega
              have HJL : Hid (j + gr + 2 < gb ∧ 0 < k) := ⟨hjl, by omega⟩
              clear hjl
              have hja : ¬ (j : Int) = at_ := by omega
              have HJA : Hid (¬ (j : Int) = at_) := hja
              go_wp2_with (first
                | (go_at_call 9; refine (ra_lebs HE.out HJ.out).mono ?_; rintro e u1 ⟨rfl, h1⟩; have HJ1 : Hid (AlW X c0 p2 ((gb : Int) - gr - 2) at_ k l u1) := h1; clear h1)
                | (go_at_call 8; refine (ra_pages HE.out HJ1.out).mono ?_; rintro e u2 ⟨rfl, h1⟩; have HJ2 : Hid (AlW X c0 p2 ((gb : Int) - gr - 2) at_ k l u2) := h1; clear h1)
                | (go_at_call 14; refine (ra_read HE.out HJ2.out HJL.out.2 (j : Int) (by omega) (by have := HJL.out.1; omega)).mono ?_; rintro e u3 ⟨bb, oo, cc, rfl, hcc, hrow, h1⟩; have HJ3 : Hid (AlW X c0 p2 ((gb : Int) - gr - 2) at_ k l u3 ∧ BRow u3 (some ⟨bb, oo, none⟩) l) := ⟨h1, hrow⟩; have hnc : (n : Int) ≤ (cc : Int) := (by have := HE.out.nz; omega); clear h1 hrow hcc)
                | (go_at_call 11; refine (ra_used_not HJ3.out.1 (j : Int) (by omega) (by have := HJL.out.1; omega) HJA.out).mono ?_; rintro e u4 ⟨rfl, h1⟩; have HJ4 : Hid (AlW X c0 p2 ((gb : Int) - gr - 2) at_ k l u4 ∧ BRow u4 (some ⟨bb, oo, none⟩) l) := ⟨HJ3.out.1.later h1, HJ3.out.2.later h1⟩; have y2 : u4.cell? ⟨w.heap.size, 2, none⟩ = some (.int .i64 gz) := (HX.out.later (HJ3.out.1.later h1).below).cell (i := 2) rfl; clear h1)
                | (go_at_call 15; refine (ra_same HE.out HJ4.out.1.below HJ4.out.2).mono ?_; rintro e u5 ⟨rfl, rfl⟩))
              go_roundw
              case rel => exact ⟨j + 1, by go_num, by have := HJL.out; omega, HJ4.out.1⟩
              case measure => simp [intOf]; have := HJL.out; omega
            · have hlt3 : ¬ (j : Int) < (gb : Int) - gr - 2 := by omega
              clear hjl
              go_wp2_with (first
                | (go_at_call 9; refine (ra_lebs HE.out HJ.out).mono ?_; rintro e u1 ⟨rfl, h1⟩; have HB7 : Hid (Below w.heap.size w u1) := Below.after HB0.out h1.below; clear h1)
                | (go_at_call 6; refine (alive_any _ (HG.out.1.later HB7.out) (HG.out.2.later HB7.out)).mono ?_; rintro e u8 ⟨rfl, hb6⟩; have HB8 : Hid (Below w.heap.size w u8) := Below.after HB7.out hb6; clear hb6))
              go_ret
              exact ⟨rfl, HB8.out⟩
end Go.Proofs.YtccfalafphjkpaaGreatDoor.ebmAll
