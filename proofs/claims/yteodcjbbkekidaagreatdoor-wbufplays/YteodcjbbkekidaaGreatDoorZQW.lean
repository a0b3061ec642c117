/-
  Plans and scripts that come in, as the walks are told of them.
  What Arm does: a plan takes the place of the one that the chip had.
  What RightPlan says of a plan.
-/
import Derived.Test.YteodcjbbkekidaaGreatDoorZKQ
import Derived.Test.YteodcjbbkekidaaGreatDoorZKP
import Derived.Deep.Slices
import Derived.Deep.SlicePairs
import Derived.Deep.LoopGhost
namespace Go.Proofs.YteodcjbbkekidaaGreatDoor
open Go.ChangeShapes Go.WideShapes Go.ChangeAt Go.RowKit Go.Deep

theorem add_plain' (b off i : Nat) : (⟨b, off, none⟩ : Addr).add i = ⟨b, off + i, none⟩ := by unfold Addr.add; split <;> simp_all
/-- The slice's elements are the faults l. -/
structure FArg (w : World) (a : Option Addr) (len cap : Nat) (l : List Flt) : Prop where
  len_eq : len = l.length
  le : len ≤ cap
  max : cap ≤ maxLen
  row : FRow w a l
  nil : a = none → len = 0 ∧ cap = 0

set_option maxRecDepth 100000 in
theorem farg_open {H : Type} {enc : TypeId × Value → H} {w : World} {a : Option Addr} {len cap fuel : Nat} {x : DataW H × List MemPlace}
    (hf : DataW.trod enc Tryz.prog w 0 (fun _ => true) true fuel 24 [.slice a len cap] = some x) : ∃ l, FArg w a len cap l := by
  rcases open_slice Tryz.underlying24 hf with ⟨hcs, _⟩ | ⟨ad, len', cap', m, n, D, Pl, hcs, _, hl, hm, hmm, _, hx⟩
  · simp at hcs
    obtain ⟨rfl, rfl, rfl⟩ := hcs
    exact ⟨[], rfl, Nat.le_refl _, by decide, .inl rfl, fun _ => ⟨rfl, rfl⟩⟩
  · simp at hcs
    obtain ⟨rfl, rfl, rfl⟩ := hcs
    have hmm' : m = cap := by simpa using hmm
    subst hmm'
    have each : ∀ i, ∃ f : Flt, i < len → w.cell? (ad.add (i * 3)) = some (.int .i64 f.num) ∧ w.cell? (ad.add (i * 3 + 1)) = some (.int .i64 f.kind) ∧ w.cell? (ad.add (i * 3 + 2)) = some (.int .i64 f.torn) := by
      intro i
      by_cases hi : i < len
      · obtain ⟨cs', h1, h2⟩ := hx i (by omega)
        rw [show Tryz.prog.cellsOf 65 = 3 by kernel_rfl] at h1
        obtain ⟨_, hlen, hcell⟩ := World.cells?_some h1
        obtain ⟨xs, k, hk, hxy, _, hxl, hff⟩ := DataW.trod_struct Tryz.underlying65 h2
        match xs, hxl, cs', hlen with
        | [y0, y1, y2], _, [v0, v1, v2], _ =>
          have g0 := hff 0 _ rfl
          have g1 := hff 1 _ rfl
          have g2 := hff 2 _ rfl
          have ci : Tryz.prog.cellsOf 3 = 1 := by kernel_rfl
          simp [ci] at g0 g1 g2
          obtain ⟨z0, e0, _, _⟩ := DataW.trod_int Tryz.underlying3 g0
          obtain ⟨z1, e1, _, _⟩ := DataW.trod_int Tryz.underlying3 g1
          obtain ⟨z2, e2, _, _⟩ := DataW.trod_int Tryz.underlying3 g2
          have c0 := hcell 0 (by omega)
          have c1 := hcell 1 (by omega)
          have c2 := hcell 2 (by omega)
          rw [add_add] at c0 c1 c2
          simp at e0 e1 e2
          subst e0 e1 e2
          exact ⟨⟨z0, z1, z2⟩, fun _ => ⟨by simpa using c0, by simpa using c1, by simpa using c2⟩⟩
      · exact ⟨⟨0, 0, 0⟩, fun h => absurd h hi⟩
    obtain ⟨F, hF⟩ := Classical.axiomOfChoice each
    refine ⟨(List.range len).map F, by simp, hl, hm, ?_, fun h => by cases h⟩
    by_cases h0 : len = 0
    · exact .inl (by simp [h0])
    · obtain ⟨b, off, spot⟩ := ad
      have hspot : spot = none := by
        have := World.cell?_spot (hF 0 (by omega)).1
        simpa [Addr.add] using this
      subst hspot
      refine .inr ⟨b, off, rfl, fun i f hf => ?_⟩
      have hil : i < len := by
        have := (List.getElem?_eq_some_iff.1 hf).1
        simpa using this
      have hfi : F i = f := by simpa [hil] using hf
      have := hF i hil
      rw [hfi, add_plain', add_plain', add_plain'] at this
      exact this
end Go.Proofs.YteodcjbbkekidaaGreatDoor
namespace Go.Proofs.YteodcjbbkekidaaGreatDoor
open Go.RowKit
set_option maxRecDepth 10000

set_option maxHeartbeats 1000000 in
theorem arm_yes {base : Nat} {w : World} {c : CS} (h : Lies base w c) (p : Nat) (hp : c.p = p) (a : Option Addr) (m cap : Nat) (l : List Flt) (hm : m = l.length) (hr : FRow w a l) (hy : m ≤ 256 ∧ planOk l) :
    Calls Tryz.prog 12 #[.pointer (some ⟨p, 0, none⟩), .slice a m cap] w fun e w' => e = .returned (.int .i64 0) ∧ ∃ s : List Flt, s.Perm l ∧ s.Pairwise (fun x y => x.num < y.num) ∧ Lies base w' { c with fs := s, steps := 0 } ∧ Kept c.foot w w' := by
  have hs := sched_yes a m cap l w hm hr hy
  subst hp
  have fin : ∀ W s fa fc, s.Perm l → Flts W fa fc s → Below w.heap.size w W → W.cell? ⟨c.p, 8, none⟩ ≠ none ∧ (∃ v8, W.cell? ⟨c.p, 8, none⟩ = some v8) ∧ (∃ v9, W.cell? ⟨c.p, 9, none⟩ = some v9) ∧ W.frozen? ⟨c.p, 8, none⟩ = false ∧ W.frozen? ⟨c.p, 9, none⟩ = false ∧ c.p < W.heap.size ∧
      (Lies base (((W.setCell ⟨c.p, 8, none⟩ (.slice fa m fc)).setCell ⟨c.p, 9, none⟩ (.int .i64 0)).alloc (.cells #[.slice fa m fc, .int .i64 0] 72)) { c with fs := s, steps := 0 } ∧ Kept c.foot w (((W.setCell ⟨c.p, 8, none⟩ (.slice fa m fc)).setCell ⟨c.p, 9, none⟩ (.int .i64 0)).alloc (.cells #[.slice fa m fc, .int .i64 0] 72))) := by
    intro W s fa fc hperm hfl hb
    have hW := h.later hb
    obtain ⟨fa0, fc0, h1, h2⟩ := hW.chip
    have hk : Kept (fun k => k = c.p) W (((W.setCell ⟨c.p, 8, none⟩ (.slice fa m fc)).setCell ⟨c.p, 9, none⟩ (.int .i64 0)).alloc (.cells #[.slice fa m fc, .int .i64 0] 72)) := (((Kept.refl (fun k => k = c.p) W).setCell (p := ⟨c.p, 8, none⟩) rfl _).setCell (p := ⟨c.p, 9, none⟩) rfl _).alloc _
    have c8 : W.cell? ⟨c.p, 8, none⟩ = some (.slice fa0 c.fs.length fc0) := h1.cell (by rfl)
    have c9 : W.cell? ⟨c.p, 9, none⟩ = some (.int .i64 c.steps) := h1.cell (by rfl)
    have hsl : s.length = m := by rw [hm]; exact hperm.length_eq
    have hrow : Row (((W.setCell ⟨c.p, 8, none⟩ (.slice fa m fc)).setCell ⟨c.p, 9, none⟩ (.int .i64 0)).alloc (.cells #[.slice fa m fc, .int .i64 0] 72)) c.p (csCells { c with fs := s, steps := 0 } fa fc) 77 := by
      have := ((h1.set (i := 8) (.slice fa m fc) (by simp [csCells])).set (i := 9) (.int .i64 0) (by simp [csCells])).alloc (.cells #[.slice fa m fc, .int .i64 0] 72)
      rw [← hsl] at this ⊢
      exact this
    have hgood : Good { c with fs := s, steps := 0 } := ⟨hW.good.len, hW.good.plen, hW.good.qc, hW.good.gs, hW.good.dat, fun f hf => hy.2.1 f (hperm.mem_iff.1 hf)⟩
    obtain ⟨r1, r2, _⟩ := hW.step0 (c' := { c with fs := s, steps := 0 }) rfl rfl rfl hgood hk ⟨fa, fc, hrow, hfl.kept hk (fault_block h1 hk)⟩
    exact ⟨by rw [c8]; simp, ⟨_, c8⟩, ⟨_, c9⟩, h1.frozen 8, h1.frozen 9, h1.lt, r1, (Kept.of_below hb).trans r2⟩
  have HF : Hid _ := fin
  clear hm hr hy fin
  go_enter Tryz.func12, Tryz.ntmps12
  go_wp2_with (go_at_call 34; refine hs.mono ?_; rintro e w1 ⟨s, fa, fc, p1, p2, rfl, p3, hb1⟩; obtain ⟨_, ⟨v8, q8⟩, ⟨v9, q9⟩, q3, q4, q5, q6, q7⟩ := HF.out w1 s fa fc p1 p3 hb1; have hq6 : Hid _ := q6; have hq7 : Hid _ := q7; clear q6 q7)
  go_ret
  exact ⟨rfl, s, p1, p2, hq6.out, hq7.out⟩
end Go.Proofs.YteodcjbbkekidaaGreatDoor
namespace Go.Proofs.YteodcjbbkekidaaGreatDoor
open Go.RowKit
set_option maxRecDepth 10000

theorem planOk_take {l : List Flt} {k : Nat} {f : Flt} (h : planOk (l.take k)) (hf : l[k]? = some f) (ho : f.ok) (hn : ∀ j g, j < k → l[j]? = some g → g.num ≠ f.num) : planOk (l.take (k + 1)) := by
  have hk := (List.getElem?_eq_some_iff.1 hf).1
  have e : l.take (k + 1) = l.take k ++ [f] := by
    rw [List.take_succ_eq_append_getElem hk]
    rw [(List.getElem?_eq_some_iff.1 hf).2]
  rw [e]
  refine ⟨?_, ?_⟩
  · intro g hg
    rcases List.mem_append.1 hg with q | q
    · exact h.1 g q
    · rw [List.mem_singleton.1 q]; exact ho
  · rw [List.map_append, List.nodup_append]
    refine ⟨h.2, by simp, ?_⟩
    intro x hx y hy
    simp at hy
    subst hy
    obtain ⟨g, hg, rfl⟩ := List.mem_map.1 hx
    obtain ⟨j, hj, rfl⟩ := List.mem_iff_getElem.1 hg
    have hj2 : j < k := by simp at hj; omega
    exact hn j _ hj2 (by rw [List.getElem?_eq_getElem (by omega)]; simp)
theorem planOk_bad {l : List Flt} {k : Nat} {f : Flt} (hf : l[k]? = some f) (ho : ¬ f.ok) : ¬ planOk l := fun h => ho (h.1 f (List.mem_of_getElem? hf))
theorem planOk_twice {l : List Flt} {j k : Nat} {f g : Flt} (hf : l[k]? = some f) (hg : l[j]? = some g) (hjk : j < k) (e : g.num = f.num) : ¬ planOk l := by
  intro h
  have h2 := h.2
  rw [List.nodup_iff_pairwise_ne, List.pairwise_iff_getElem] at h2
  obtain ⟨h3, h4⟩ := List.getElem?_eq_some_iff.1 hf
  obtain ⟨h5, h6⟩ := List.getElem?_eq_some_iff.1 hg
  exact h2 j k (by simpa using h5) (by simpa using h3) hjk (by simp [h4, h6, e])
/-- The ways in which a fault is right, or not. -/
theorem ok_ways (f : Flt) : (f.ok ∧ ¬ f.num < 1 ∧ ((f.kind = 1 ∧ (f.torn = 0 ∨ f.torn = 1 ∨ f.torn = 2)) ∨ (f.kind = 2 ∧ f.torn = 0))) ∨
    (¬ f.ok ∧ (f.num < 1 ∨ (¬ f.num < 1 ∧ (f.kind != 1) = true ∧ (f.kind != 2) = true) ∨ (¬ f.num < 1 ∧ (f.kind = 1 ∨ f.kind = 2) ∧ f.torn < 0) ∨ (¬ f.num < 1 ∧ f.kind = 1 ∧ ¬ f.torn < 0 ∧ 2 < f.torn) ∨ (¬ f.num < 1 ∧ f.kind = 2 ∧ ¬ f.torn < 0 ∧ 0 < f.torn))) := by
  unfold Flt.ok
  by_cases h1 : f.num < 1
  · right; exact ⟨by omega, .inl h1⟩
  · by_cases k1 : f.kind = 1
    · by_cases t : f.torn = 0 ∨ f.torn = 1 ∨ f.torn = 2
      · left; exact ⟨⟨by omega, .inl ⟨k1, t⟩⟩, h1, .inl ⟨k1, t⟩⟩
      · right; refine ⟨by omega, ?_⟩
        by_cases t0 : f.torn < 0
        · exact .inr (.inr (.inl ⟨h1, .inl k1, t0⟩))
        · exact .inr (.inr (.inr (.inl ⟨h1, k1, t0, by omega⟩)))
    · by_cases k2 : f.kind = 2
      · by_cases t : f.torn = 0
        · left; exact ⟨⟨by omega, .inr ⟨k2, t⟩⟩, h1, .inr ⟨k2, t⟩⟩
        · right; refine ⟨by omega, ?_⟩
          by_cases t0 : f.torn < 0
          · exact .inr (.inr (.inl ⟨h1, .inr k2, t0⟩))
          · exact .inr (.inr (.inr (.inr ⟨h1, k2, t0, by omega⟩)))
      · right; exact ⟨by omega, .inr (.inl ⟨h1, by simpa using k1, by simpa using k2⟩)⟩
open Classical in
/-- Is the plan right? -/
noncomputable def planB (l : List Flt) : Bool := decide (l.length ≤ 256 ∧ planOk l)
open Classical in
theorem planB_no {l : List Flt} (h : ¬ (l.length ≤ 256 ∧ planOk l)) : planB l = false := by unfold planB; exact decide_eq_false h
open Classical in
theorem planB_yes {l : List Flt} (h : l.length ≤ 256 ∧ planOk l) : planB l = true := by unfold planB; exact decide_eq_true h

set_option maxHeartbeats 4000000 in
theorem d_plan (a : Option Addr) (m cap : Nat) (l : List Flt) (w : World) (hm : m = l.length) (hm63 : m ≤ 9223372036854775807) (hr : FRow w a l) :
    Calls Tryz.prog 33 #[.slice a m cap] w fun e w' => e = .returned (.bool (planB l)) ∧ Below w.heap.size w w' := by
  by_cases h256 : m ≤ 256
  · have HM : Hid (m = l.length) := hm
    have HR : Hid (FRow w a l) := hr
    have hI0 : ¬ (256 : Int) < (m : Int) := by omega
    obtain ⟨B, hB⟩ : ∃ B, B = planB l := ⟨_, rfl⟩
    rw [← hB]
    have HBF : Hid (¬ planOk l → B = false) := fun q => by rw [hB]; exact planB_no (fun z => q z.2)
    have HBT : Hid (planOk l → B = true) := fun q => by rw [hB]; exact planB_yes ⟨by omega, q⟩
    clear hB hm hr
    go_enter Tryz.func33, Tryz.ntmps33
    go_wp2
    go_loopg [3] m (fun gm s3 wr => ∃ k : Nat, k ≤ m ∧ gm = m - k ∧ s3 = .int .i64 k ∧ Hid (planOk (l.take k)) ∧ Hid (Below w.heap.size w wr))
    case atStart => exact ⟨0, Nat.zero_le _, rfl, rfl, ⟨by simp, by simp⟩, Below.refl _ _⟩
    case round =>
      obtain ⟨k, hk, hgk, rfl, HP, HB⟩ := hrel
      by_cases hlt : k < m
      · obtain ⟨W, hW⟩ : ∃ W, W = wr := ⟨_, rfl⟩
        subst hW
        have hkl : k < l.length := by have := HM.out; omega
        obtain ⟨f, hf⟩ : ∃ f, l[k]? = some f := ⟨l[k], List.getElem?_eq_getElem hkl⟩
        obtain ⟨b, off, rfl, hc⟩ : ∃ b off, a = some ⟨b, off, none⟩ ∧ ∀ i f, l[i]? = some f → W.cell? ⟨b, off + i * 3, none⟩ = some (.int .i64 f.num) ∧ W.cell? ⟨b, off + i * 3 + 1, none⟩ = some (.int .i64 f.kind) ∧ W.cell? ⟨b, off + i * 3 + 2, none⟩ = some (.int .i64 f.torn) := by
          rcases frow_later HR.out HB.out with e | e
          · subst e; simp at hkl
          · exact e
        obtain ⟨g0, g1, g2⟩ := hc k f hf
        have hbl : b < W.heap.size := World.block_lt_of_cell? W _ g0
        have hI : (k : Int) < (m : Int) := by omega
        have HF : Hid (l[k]? = some f) := hf
        have HC : Hid (∀ j g, l[j]? = some g → W.cell? ⟨b, off + j * 3, none⟩ = some (.int .i64 g.num)) := fun j g hg => (hc j g hg).1
        have hsz := HB.out.size
        have HOW := ok_ways f
        obtain ⟨n, hn⟩ : ∃ n, n = f.num := ⟨_, rfl⟩
        obtain ⟨kd, hkd⟩ : ∃ kd, kd = f.kind := ⟨_, rfl⟩
        obtain ⟨td, htd⟩ : ∃ td, td = f.torn := ⟨_, rfl⟩
        rw [← hn] at g0 HOW
        rw [← hkd] at g1 HOW
        rw [← htd] at g2 HOW
        have HN : Hid (n = f.num) := hn
        clear hc hf hkl hn hkd htd
        rcases HOW with ⟨ho, hn1, hway⟩ | ⟨ho, hway⟩
        · have HOK : Hid f.ok := ho
          have hrest : (kd = 1 ∧ td = 0) ∨ (kd = 1 ∧ td = 1) ∨ (kd = 1 ∧ td = 2) ∨ (kd = 2 ∧ td = 0) := by omega
          clear hway ho
          rcases hrest with ⟨rfl, rfl⟩ | ⟨rfl, rfl⟩ | ⟨rfl, rfl⟩ | ⟨rfl, rfl⟩
          all_goals
            go_wp2
            go_loopg [5] k (fun gi s5 wi => ∃ j : Nat, j ≤ k ∧ gi = k - j ∧ s5 = .int .i64 j ∧ wi.cell? ⟨W.heap.size, 0, none⟩ = some (.int .i64 n) ∧ Hid (Below W.heap.size W wi) ∧ Hid (∀ i g, i < j → l[i]? = some g → g.num ≠ f.num))
            case atStart => exact ⟨0, Nat.zero_le _, rfl, rfl, (Row.new W [_, _, _] _).cell (i := 0) rfl, below_new _ _, fun i g hi => by omega⟩
            case round =>
              obtain ⟨j, hj, hgj, rfl, r0, HBi, HNj⟩ := hrel
              rename_i wi
              by_cases hjk : j < k
              · have hjl : j < l.length := by have := HM.out; omega
                obtain ⟨g, hg⟩ : ∃ g, l[j]? = some g := ⟨l[j], List.getElem?_eq_getElem hjl⟩
                have c0 := HC.out j g hg
                rw [← HBi.out.cell (p := ⟨b, off + j * 3, none⟩) hbl] at c0
                have HGJ : Hid (l[j]? = some g) := hg
                obtain ⟨u, hu⟩ : ∃ u, u = g.num := ⟨_, rfl⟩
                rw [← hu] at c0
                have HU : Hid (u = g.num) := hu
                have hjI : (j : Int) < (k : Int) := by omega
                have hjm : (j : Int) < (m : Int) := by omega
                clear hg hu hjl
                by_cases hun : u = n
                · have e1 : (u == n) = true := by simpa using hun
                  have HE : Hid (u = n) := hun
                  clear hun
                  go_wp2
                  go_quiet (fail)
                  go_wp2
                  go_ret
                  exact ⟨ret_bool (HBF.out (planOk_twice HF.out HGJ.out (by omega) (by rw [← HU.out, HE.out, HN.out]))).symm, (HB.out.trans (HBi.out.mono hsz)).trans ((below_drawn _ _).mono (by have := HBi.out.size; omega))⟩
                · have e1 : (u == n) = false := by simpa using hun
                  have HE : Hid (u ≠ n) := hun
                  clear hun
                  go_wp2
                  go_quiet (fail)
                  go_wp2
                  go_roundg (k - (j + 1))
                  case measure => omega
                  case rel =>
                    refine ⟨j + 1, by omega, rfl, by go_num, r0, HBi.out.trans ((below_drawn _ _).mono HBi.out.size), ?_⟩
                    intro i g' hi hg'
                    by_cases hij : i = j
                    · subst hij
                      have := HGJ.out.symm.trans hg'
                      cases this
                      rw [← HU.out, ← HN.out]
                      exact HE.out
                    · exact HNj.out i g' (by omega) hg'
              · have hjI : ¬ (j : Int) < (k : Int) := by omega
                have hje : j = k := by omega
                have HNk : Hid (∀ i g, i < k → l[i]? = some g → g.num ≠ f.num) := by have := HNj.out; rw [hje] at this; exact this
                clear hje
                go_wp2
                go_roundg (m - (k + 1))
                case measure => omega
                case rel => exact ⟨k + 1, by omega, rfl, by go_num, planOk_take HP.out HF.out HOK.out HNk.out, HB.out.trans (HBi.out.mono hsz)⟩
        · have HOK : Hid (¬ f.ok) := ho
          clear ho
          rcases hway with q | ⟨q1, q2, q3⟩ | ⟨q1, q2 | q2, q3⟩ | ⟨q1, q2, q3, q4⟩ | ⟨q1, q2, q3, q4⟩
          all_goals
            first | subst q2 | skip
            go_wp2
            go_ret
            exact ⟨ret_bool (HBF.out (planOk_bad HF.out HOK.out)).symm, HB.out.alloc hsz _⟩
      · have hI : ¬ (k : Int) < (m : Int) := by omega
        have HT : Hid (B = true) := by
          have e : k = l.length := by have := HM.out; omega
          have := HP.out
          rw [e, List.take_length] at this
          exact HBT.out this
        go_wp2
        go_ret
        exact ⟨ret_bool HT.out.symm, HB.out⟩
  · have e : planB l = false := planB_no (fun z => h256 (by omega))
    rw [e]
    have hI : (256 : Int) < (m : Int) := by omega
    clear hm hr e
    go_enter Tryz.func33, Tryz.ntmps33
    go_wp2
    go_ret
    exact ⟨rfl, Below.refl _ _⟩
end Go.Proofs.YteodcjbbkekidaaGreatDoor
