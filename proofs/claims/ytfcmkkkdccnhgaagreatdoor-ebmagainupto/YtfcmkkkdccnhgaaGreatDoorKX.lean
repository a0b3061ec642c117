/-
  The mathematics of Wear: what stands in a block goes to a Free one.
  Package ebm: foremost, at the two ways in which level asks for it.
  Package ebm: what stands in a block goes to a Free one.
-/
import Derived.Test.YtfcmkkkdccnhgaaGreatDoorKE
import Derived.Test.YtfcmkkkdccnhgaaGreatDoorKN
import Derived.Test.YtfcmkkkdccnhgaaGreatDoorKH
import Derived.Test.YtfcmkkkdccnhgaaGreatDoorKI
import Derived.Test.YtfcmkkkdccnhgaaGreatDoorKC
import Derived.Deep.LoopGhost
namespace Go.Proofs.YtfcmkkkdccnhgaaGreatDoor

/-- Does a Count come ahead of the best one? -/
def aheadB (up : Bool) (x best : Int) : Bool := if up then decide (best < x) else decide (x < best)
/-- Of blocks, by their numbers, the first whose Count comes ahead of all others'. -/
def foreS (bl : List Bl) (up : Bool) (best : Int) (n : Nat) : Int :=
  if best < 0 then n else if aheadB up ((bl[n]?).getD zeroB).cnt ((bl[best.toNat]?).getD zeroB).cnt then n else best
def foreL (bl : List Bl) (up : Bool) (l : List Nat) : Int := l.foldl (foreS bl up) (-1)
theorem foreL_snoc (bl : List Bl) (up : Bool) (l : List Nat) (n : Nat) : foreL bl up (l ++ [n]) = foreS bl up (foreL bl up l) n := by simp [foreL]
theorem foreS_cases (bl : List Bl) (up : Bool) (best : Int) (n : Nat) : foreS bl up best n = n ∨ foreS bl up best n = best := by
  unfold foreS
  split
  · exact .inl rfl
  · split
    · exact .inl rfl
    · exact .inr rfl
theorem foreL_mem (bl : List Bl) (up : Bool) (l : List Nat) : foreL bl up l = -1 ∨ ∃ n ∈ l, foreL bl up l = (n : Nat) := by
  have key : ∀ (l : List Nat) (b : Int), l.foldl (foreS bl up) b = b ∨ ∃ n ∈ l, l.foldl (foreS bl up) b = (n : Nat) := by
    intro l
    induction l with
    | nil => intro b; exact .inl rfl
    | cons x l ih =>
      intro b
      rw [List.foldl_cons]
      rcases ih (foreS bl up b x) with h | ⟨n, hn, h⟩
      · rcases foreS_cases bl up b x with e | e
        · exact .inr ⟨x, by simp, by rw [h, e]⟩
        · exact .inl (by rw [h, e])
      · exact .inr ⟨n, by simp [hn], h⟩
  exact key l (-1)
theorem map_fill {gz : Nat} {p : List (List Nat)} (h : ∀ l ∈ p, l.length = gz) : p.map (fillP gz) = p := by
  induction p with
  | nil => rfl
  | cons a p ih => rw [List.map_cons, fillP_full (h a (by simp)), ih (fun l hl => h l (by simp [hl]))]
theorem move_ok {t : Nat} {m : Mg} {c : CS} {P : List (List (List Nat))} {i n : Nat} {x y : Bl} (h : MRep t m c P) (hx : m.bl[i]? = some x) (h4 : x.st = 4) (hn : m.bl[n]? = some y) (h2 : y.st = 2) (ht : t < 2147483647) :
    ∃ (leb u q n' : Nat) (m2 : Mg) (c2 : CS) (m' : Mg) (c' : CS) (P' : List (List (List Nat))), x.leb = leb ∧ x.used = u ∧ x.cnt = q ∧ q ≤ 2147483647 ∧ leb ≤ 255 ∧ u + 2 ≤ c.gp ∧ (∀ k, k < u → (c.read i (2 + (k : Int))).2 = 0) ∧
      layM leb u (copyL c i u) (m.bl.length + 1) m c n = ((n' : Int), 0, m2, c2) ∧ m2.bl[i]? = some x ∧ freeM m2 c2 i q = (0, m', c') ∧ MRep (t + 1) m' c' P' ∧ (∀ l, cont m'.bl P' l = cont m.bl P l) ∧ Gm c c' ∧ (m'.p = m.p ∧ m'.bb = m.bb ∧ m'.bcap = m.bcap) := by
  have hg := h.rb.geo
  have hb0 := h.bud
  obtain ⟨b, p, hb, hp, hk, hpl, hnx⟩ := h.mapped hx h4
  obtain ⟨k, leb, seq, must, rfl, k1, k2, k3, k4, k5, k6, k7, k8, k9, k10⟩ := bok_mapped hk h4
  have hgd : b.next ≤ c.gp ∨ True := .inr trivial
  have hpp : p.length + 2 ≤ c.gp := by
    by_cases hz : p = []
    · subst hz; simp; omega
    · have hlast := k9 (p.length - 1) _ (List.getElem?_eq_getElem (by have := List.length_pos_iff.2 hz; omega))
      obtain ⟨pg, hpg, _⟩ := hlast
      have := (List.getElem?_eq_some_iff.1 hpg).1
      have := List.length_pos_iff.2 hz
      omega
  have hcp : copyL c i p.length = p := copyL_eq h.rb.on hb k9
  obtain ⟨n', m2, c2, P2, s1, s2, s3, s4, s5, s6, s7⟩ := lay_ok leb p.length p k5 (Nat.le_refl _) (m.bl.length + 1) m c P n y h.rb hn h2 (by omega) (fun d hd => by rw [k10 d hd]; exact Nat.le_refl _) (by
    have := h.rb.room
    have := h.rb.lb
    omega) (by have := free_room h.rb h.uq h.sp h.lb; omega) (by omega)
  obtain ⟨m', c', P', q1, q2, q3, q4, q5, q6⟩ := swap_rep (leb := leb) h hx h4 rfl s2 s3 s4 s5 ht
  refine ⟨leb, p.length, k, n', m2, c2, m', c', P', rfl, rfl, rfl, k1, k5, hpp, fun j hj => ?_, by rw [hcp]; exact s1, q6, q1, q2, fun l => ?_, q4, q5⟩
  · have := (k9 j _ (List.getElem?_eq_getElem hj)).read h.rb.on hb
    rw [show ((2 + j : Nat) : Int) = 2 + (j : Int) by omega] at this
    rw [this]
  · rw [q3 l]
    by_cases hl : l = (leb : Int)
    · rw [if_pos hl, map_fill k10, hl]
      exact (cont_some h.uq hx h4 hp).symm
    · rw [if_neg hl]
end Go.Proofs.YtfcmkkkdccnhgaaGreatDoor
namespace Go.Proofs.YtfcmkkkdccnhgaaGreatDoor
open Go.RowKit
set_option maxRecDepth 10000

theorem amongS {base : Nat} {X : World} {m : Mg} {c : CS} (h : MLies base X m c) (st : Int) : Calls Tryz.prog 32 #[.pointer (some ⟨m.p, 0, none⟩), .slice (some ⟨X.heap.size, 0, none⟩) 1 1] (X.alloc (.cells #[.int .i64 st] 3)) fun e w' => ∃ v, e = .returned v ∧ OwnI X.heap.size w' v (amongF [st] 0 m.bl) ∧ Below X.heap.size X w' := by
  have hb := below_new X (.cells #[.int .i64 st] 3)
  refine Calls.mono (mamong_any (h.later hb) [st] X.heap.size 1 (fun j hj => ?_) (by simp)) ?_
  · have : j = 0 := by simpa using hj
    subst this
    exact (Row.new X [.int .i64 st] 3).cell (i := 0) rfl
  · rintro e w' ⟨v, rfl, ho, hb2⟩
    exact ⟨v, rfl, ho.low (by simp), Below.after hb hb2⟩
theorem amongN_mem (zs : List Int) {l : List Bl} {n : Nat} (h : n ∈ amongN zs 0 l) : ∃ x, l[n]? = some x ∧ zs.contains x.st = true := by
  have h2 : (n : Int) ∈ amongF zs 0 l := by
    rw [← amongN_map]
    exact List.mem_map.2 ⟨n, h, rfl⟩
  obtain ⟨i, x, e, hx, hc⟩ := amongF_mem zs l 0 n h2
  have : n = i := by omega
  subst this
  exact ⟨x, hx, hc⟩
theorem fore_at {bl : List Bl} {up : Bool} {l : List Nat} (hl : ∀ n ∈ l, ∃ x, bl[n]? = some x) (k : Nat) : foreL bl up (l.take k) = -1 ∨ ∃ (n : Nat) (x : Bl), foreL bl up (l.take k) = n ∧ bl[n]? = some x := by
  rcases foreL_mem bl up (l.take k) with h | ⟨n, hn, h⟩
  · exact .inl h
  · obtain ⟨x, hx⟩ := hl n (List.mem_of_mem_take hn)
    exact .inr ⟨n, x, h, hx⟩
theorem fore_step {bl : List Bl} {up : Bool} {l : List Nat} {k : Nat} (hk : k < l.length) : foreL bl up (l.take (k + 1)) = foreS bl up (foreL bl up (l.take k)) l[k] := by
  rw [List.take_succ_eq_append_getElem hk, foreL_snoc]
theorem ahead_1 (x y : Int) (w : World) : Calls Tryz.prog 112 #[.int .i64 x, .int .i64 y] w fun e w' => e = .returned (.bool (aheadB false x y)) ∧ w = w' := by
  go_enter Tryz.func112, Tryz.ntmps112
  go_wp2
  go_ret
  exact ⟨by simp [aheadB], rfl⟩
set_option maxHeartbeats 4000000 in
theorem mfore_1 {base : Nat} {w : World} {m : Mg} {c : CS} (h : MLies base w m c) (hlen : m.bl.length ≤ 256) :
    Calls Tryz.prog 111 #[.pointer (some ⟨m.p, 0, none⟩), .int .i64 4, .func (.func 112) #[] #[]] w fun e w' => e = .returned (.int .i64 (foreL m.bl false (amongN [4] 0 m.bl))) ∧ Below w.heap.size w w' := by
  have HM : Hid (MLies base w m c) := h
  obtain ⟨l, hl⟩ : ∃ l, l = amongN [4] 0 m.bl := ⟨_, rfl⟩
  have HL : Hid (∀ n ∈ l, ∃ x, m.bl[n]? = some x) := fun n hn => by rw [hl] at hn; obtain ⟨x, hx, _⟩ := amongN_mem _ hn; exact ⟨x, hx⟩
  have hll : l.length ≤ 256 := by rw [hl]; exact Nat.le_trans (amongN_len _ _ _) hlen
  have kA := amongS h 4
  rw [← amongN_map, ← hl] at kA
  rw [← hl]
  clear h hl
  go_enter Tryz.func111, Tryz.ntmps111
  go_wp2_with (go_at_call 32; refine kA.mono ?_; rintro e w1 ⟨v, rfl, ho, hb1⟩; obtain ⟨a, cap, rfl, hrow, _, _, _⟩ := ho.form2; rw [List.length_map]; have HA : Hid (IRow w1 a (l.map fun x : Nat => (x : Int)) ∧ Below w.heap.size w w1) := ⟨hrow, hb1⟩; clear ho hrow hb1)
  have HB1 : Hid (Below w1.heap.size w1 w1) := Below.refl _ _
  go_loopg [7, 15] l.length (fun kx s7 s15 wr => ∃ k : Nat, k + kx = l.length ∧ s15 = .int .i64 (k : Nat) ∧ s7 = .int .i64 (foreL m.bl false (l.take k)) ∧ Hid (Below w1.heap.size w1 wr))
  case atStart => exact ⟨0, by omega, rfl, rfl, HB1⟩
  case round =>
    obtain ⟨k, hk, rfl, rfl, HK⟩ := hrel
    by_cases hlt : k < l.length
    · have hstep := fore_step (bl := m.bl) (up := false) hlt
      have hfa := fore_at (bl := m.bl) (up := false) HL.out k
      obtain ⟨n, hn⟩ : ∃ n, n = l[k] := ⟨_, rfl⟩
      obtain ⟨x, hx⟩ := HL.out n (by rw [hn]; exact List.getElem_mem hlt)
      rw [← hn] at hstep
      obtain ⟨g, hg⟩ : ∃ g, g = foreL m.bl false (l.take k) := ⟨_, rfl⟩
      rw [← hg] at hstep hfa ⊢
      have hcell : ∃ b off, a = some ⟨b, off, none⟩ ∧ wr.cell? ⟨b, off + k, none⟩ = some (.int .i64 (n : Int)) := by
        rcases HA.out.1 with e | ⟨b, off, e, hc⟩
        · have : l = [] := by simpa using e
          rw [this] at hlt; simp at hlt
        · refine ⟨b, off, e, ?_⟩
          have q := hc k n (by rw [List.getElem?_map, List.getElem?_eq_getElem hlt, hn]; rfl)
          exact (HK.out.cell (p := ⟨b, off + k, none⟩) (World.block_lt_of_cell? w1 _ q)).trans q
      obtain ⟨b, off, rfl, hcl⟩ := hcell
      have HMr : Hid (MLies base wr m c) := HM.out.later (Below.after HA.out.2 HK.out)
      have n0 : ¬ (k : Int) < 0 := by omega
      have n1 : (k : Int) < (l.length : Int) := by omega
      have ne := Wd.non wr
      have z0 : ∀ p : Wd wr, p.v.cell? ⟨m.p, 1, none⟩ = some (.slice (some ⟨m.bb, 0, none⟩) m.bl.length m.bcap) := fun p => (HMr.out.later p.h).cells.2.1
      have zn : ∀ p : Wd wr, p.v.cell? ⟨m.bb, n * 6 + 1, none⟩ = some (.int .i64 x.cnt) := fun p => ((HMr.out.later p.h).blAt hx).c1
      have hnl : (n : Int) < (m.bl.length : Int) := by have := (List.getElem?_eq_some_iff.1 hx).1; omega
      have hn0 : ¬ (n : Int) < 0 := by omega
      clear hn
      rcases hfa with hneg | ⟨j, y, hj, hy⟩
      · have HS : Hid (foreL m.bl false (l.take (k + 1)) = n) := (by rw [hstep, hneg]; rfl : foreL m.bl false (l.take (k + 1)) = n)
        subst hneg
        clear hg hstep
        go_wp2
        refine quiet_below (by kernel_rfl) ?_
        repeat (first | go_big_quiet_skip | go_big_quiet_step (fail))
        refine wpQuiet_nil ?_
        rintro _ ⟨p4, rfl⟩
        obtain ⟨w4, hw4⟩ : ∃ W, W = p4.v := ⟨_, rfl⟩
        have HB4 : Hid (Below w1.heap.size w1 w4) := by rw [hw4]; exact Below.after HK.out p4.h
        rw [← hw4]
        clear hw4 p4 z0 zn
        go_wp2
        go_roundg (l.length - (k + 1))
        case measure => omega
        case rel => exact ⟨k + 1, by omega, by go_num, by rw [HS.out], HB4⟩
      · have hjl : (j : Int) < (m.bl.length : Int) := by have := (List.getElem?_eq_some_iff.1 hy).1; omega
        have hj0 : ¬ (j : Int) < 0 := by omega
        have zj : ∀ p : Wd wr, p.v.cell? ⟨m.bb, j * 6 + 1, none⟩ = some (.int .i64 y.cnt) := fun p => ((HMr.out.later p.h).blAt hy).c1
        have hs2 : foreL m.bl false (l.take (k + 1)) = if aheadB false x.cnt y.cnt then (n : Int) else (j : Int) := by
          rw [hstep, hj]
          unfold foreS
          rw [if_neg hj0, hx, Int.toNat_natCast, hy]
          rfl
        rw [hj]
        clear hg hstep hj
        have cL := fun p : Wd wr => quiet_same p (ahead_1 x.cnt y.cnt p.v)
        by_cases hA : aheadB false x.cnt y.cnt = true
        · rw [hA] at cL
          have HS : Hid (foreL m.bl false (l.take (k + 1)) = n) := (by rw [hs2, if_pos hA] : foreL m.bl false (l.take (k + 1)) = n)
          clear hs2 hA
          go_wp2
          have hq0 : ¬ (j : Int) < 0 := by omega
          refine quiet_below (by kernel_rfl) ?_
          repeat (first | go_big_quiet_skip | go_big_quiet_step (first
            | (go_at_call 112; exact cL _)))
          refine wpQuiet_nil ?_
          rintro _ ⟨p4, rfl⟩
          obtain ⟨w4, hw4⟩ : ∃ W, W = p4.v := ⟨_, rfl⟩
          have HB4 : Hid (Below w1.heap.size w1 w4) := by rw [hw4]; exact Below.after HK.out p4.h
          rw [← hw4]
          clear hw4 p4 z0 zn zj cL
          go_wp2
          go_roundg (l.length - (k + 1))
          case measure => omega
          case rel => exact ⟨k + 1, by omega, by go_num, by rw [HS.out], HB4⟩
        · have hA2 : aheadB false x.cnt y.cnt = false := by simpa using hA
          rw [hA2] at cL
          have HS : Hid (foreL m.bl false (l.take (k + 1)) = j) := (by rw [hs2, if_neg hA] : foreL m.bl false (l.take (k + 1)) = j)
          clear hs2 hA hA2
          go_wp2
          have hq0 : ¬ (j : Int) < 0 := by omega
          refine quiet_below (by kernel_rfl) ?_
          repeat (first | go_big_quiet_skip | go_big_quiet_step (first
            | (go_at_call 112; exact cL _)))
          refine wpQuiet_nil ?_
          rintro _ ⟨p4, rfl⟩
          obtain ⟨w4, hw4⟩ : ∃ W, W = p4.v := ⟨_, rfl⟩
          have HB4 : Hid (Below w1.heap.size w1 w4) := by rw [hw4]; exact Below.after HK.out p4.h
          rw [← hw4]
          clear hw4 p4 z0 zn zj cL
          go_wp2
          go_roundg (l.length - (k + 1))
          case measure => omega
          case rel => exact ⟨k + 1, by omega, by go_num, by rw [HS.out], HB4⟩
    · have n1 : ¬ (k : Int) < (l.length : Int) := by omega
      have hke : l.take k = l := List.take_of_length_le (by omega)
      rw [hke]
      clear hlt hke
      go_wp2
      go_ret
      exact ⟨rfl, Below.after HA.out.2 HK.out⟩
theorem ahead_2 (x y : Int) (w : World) : Calls Tryz.prog 113 #[.int .i64 x, .int .i64 y] w fun e w' => e = .returned (.bool (aheadB true x y)) ∧ w = w' := by
  go_enter Tryz.func113, Tryz.ntmps113
  go_wp2
  go_ret
  exact ⟨by simp [aheadB], rfl⟩
set_option maxHeartbeats 4000000 in
theorem mfore_2 {base : Nat} {w : World} {m : Mg} {c : CS} (h : MLies base w m c) (hlen : m.bl.length ≤ 256) :
    Calls Tryz.prog 111 #[.pointer (some ⟨m.p, 0, none⟩), .int .i64 2, .func (.func 113) #[] #[]] w fun e w' => e = .returned (.int .i64 (foreL m.bl true (amongN [2] 0 m.bl))) ∧ Below w.heap.size w w' := by
  have HM : Hid (MLies base w m c) := h
  obtain ⟨l, hl⟩ : ∃ l, l = amongN [2] 0 m.bl := ⟨_, rfl⟩
  have HL : Hid (∀ n ∈ l, ∃ x, m.bl[n]? = some x) := fun n hn => by rw [hl] at hn; obtain ⟨x, hx, _⟩ := amongN_mem _ hn; exact ⟨x, hx⟩
  have hll : l.length ≤ 256 := by rw [hl]; exact Nat.le_trans (amongN_len _ _ _) hlen
  have kA := amongS h 2
  rw [← amongN_map, ← hl] at kA
  rw [← hl]
  clear h hl
  go_enter Tryz.func111, Tryz.ntmps111
  go_wp2_with (go_at_call 32; refine kA.mono ?_; rintro e w1 ⟨v, rfl, ho, hb1⟩; obtain ⟨a, cap, rfl, hrow, _, _, _⟩ := ho.form2; rw [List.length_map]; have HA : Hid (IRow w1 a (l.map fun x : Nat => (x : Int)) ∧ Below w.heap.size w w1) := ⟨hrow, hb1⟩; clear ho hrow hb1)
  have HB1 : Hid (Below w1.heap.size w1 w1) := Below.refl _ _
  go_loopg [7, 15] l.length (fun kx s7 s15 wr => ∃ k : Nat, k + kx = l.length ∧ s15 = .int .i64 (k : Nat) ∧ s7 = .int .i64 (foreL m.bl true (l.take k)) ∧ Hid (Below w1.heap.size w1 wr))
  case atStart => exact ⟨0, by omega, rfl, rfl, HB1⟩
  case round =>
    obtain ⟨k, hk, rfl, rfl, HK⟩ := hrel
    by_cases hlt : k < l.length
    · have hstep := fore_step (bl := m.bl) (up := true) hlt
      have hfa := fore_at (bl := m.bl) (up := true) HL.out k
      obtain ⟨n, hn⟩ : ∃ n, n = l[k] := ⟨_, rfl⟩
      obtain ⟨x, hx⟩ := HL.out n (by rw [hn]; exact List.getElem_mem hlt)
      rw [← hn] at hstep
      obtain ⟨g, hg⟩ : ∃ g, g = foreL m.bl true (l.take k) := ⟨_, rfl⟩
      rw [← hg] at hstep hfa ⊢
      have hcell : ∃ b off, a = some ⟨b, off, none⟩ ∧ wr.cell? ⟨b, off + k, none⟩ = some (.int .i64 (n : Int)) := by
        rcases HA.out.1 with e | ⟨b, off, e, hc⟩
        · have : l = [] := by simpa using e
          rw [this] at hlt; simp at hlt
        · refine ⟨b, off, e, ?_⟩
          have q := hc k n (by rw [List.getElem?_map, List.getElem?_eq_getElem hlt, hn]; rfl)
          exact (HK.out.cell (p := ⟨b, off + k, none⟩) (World.block_lt_of_cell? w1 _ q)).trans q
      obtain ⟨b, off, rfl, hcl⟩ := hcell
      have HMr : Hid (MLies base wr m c) := HM.out.later (Below.after HA.out.2 HK.out)
      have n0 : ¬ (k : Int) < 0 := by omega
      have n1 : (k : Int) < (l.length : Int) := by omega
      have ne := Wd.non wr
      have z0 : ∀ p : Wd wr, p.v.cell? ⟨m.p, 1, none⟩ = some (.slice (some ⟨m.bb, 0, none⟩) m.bl.length m.bcap) := fun p => (HMr.out.later p.h).cells.2.1
      have zn : ∀ p : Wd wr, p.v.cell? ⟨m.bb, n * 6 + 1, none⟩ = some (.int .i64 x.cnt) := fun p => ((HMr.out.later p.h).blAt hx).c1
      have hnl : (n : Int) < (m.bl.length : Int) := by have := (List.getElem?_eq_some_iff.1 hx).1; omega
      have hn0 : ¬ (n : Int) < 0 := by omega
      clear hn
      rcases hfa with hneg | ⟨j, y, hj, hy⟩
      · have HS : Hid (foreL m.bl true (l.take (k + 1)) = n) := (by rw [hstep, hneg]; rfl : foreL m.bl true (l.take (k + 1)) = n)
        subst hneg
        clear hg hstep
        go_wp2
        refine quiet_below (by kernel_rfl) ?_
        repeat (first | go_big_quiet_skip | go_big_quiet_step (fail))
        refine wpQuiet_nil ?_
        rintro _ ⟨p4, rfl⟩
        obtain ⟨w4, hw4⟩ : ∃ W, W = p4.v := ⟨_, rfl⟩
        have HB4 : Hid (Below w1.heap.size w1 w4) := by rw [hw4]; exact Below.after HK.out p4.h
        rw [← hw4]
        clear hw4 p4 z0 zn
        go_wp2
        go_roundg (l.length - (k + 1))
        case measure => omega
        case rel => exact ⟨k + 1, by omega, by go_num, by rw [HS.out], HB4⟩
      · have hjl : (j : Int) < (m.bl.length : Int) := by have := (List.getElem?_eq_some_iff.1 hy).1; omega
        have hj0 : ¬ (j : Int) < 0 := by omega
        have zj : ∀ p : Wd wr, p.v.cell? ⟨m.bb, j * 6 + 1, none⟩ = some (.int .i64 y.cnt) := fun p => ((HMr.out.later p.h).blAt hy).c1
        have hs2 : foreL m.bl true (l.take (k + 1)) = if aheadB true x.cnt y.cnt then (n : Int) else (j : Int) := by
          rw [hstep, hj]
          unfold foreS
          rw [if_neg hj0, hx, Int.toNat_natCast, hy]
          rfl
        rw [hj]
        clear hg hstep hj
        have cL := fun p : Wd wr => quiet_same p (ahead_2 x.cnt y.cnt p.v)
        by_cases hA : aheadB true x.cnt y.cnt = true
        · rw [hA] at cL
          have HS : Hid (foreL m.bl true (l.take (k + 1)) = n) := (by rw [hs2, if_pos hA] : foreL m.bl true (l.take (k + 1)) = n)
          clear hs2 hA
          go_wp2
          have hq0 : ¬ (j : Int) < 0 := by omega
          refine quiet_below (by kernel_rfl) ?_
          repeat (first | go_big_quiet_skip | go_big_quiet_step (first
            | (go_at_call 113; exact cL _)))
          refine wpQuiet_nil ?_
          rintro _ ⟨p4, rfl⟩
          obtain ⟨w4, hw4⟩ : ∃ W, W = p4.v := ⟨_, rfl⟩
          have HB4 : Hid (Below w1.heap.size w1 w4) := by rw [hw4]; exact Below.after HK.out p4.h
          rw [← hw4]
          clear hw4 p4 z0 zn zj cL
          go_wp2
          go_roundg (l.length - (k + 1))
          case measure => omega
          case rel => exact ⟨k + 1, by omega, by go_num, by rw [HS.out], HB4⟩
        · have hA2 : aheadB true x.cnt y.cnt = false := by simpa using hA
          rw [hA2] at cL
          have HS : Hid (foreL m.bl true (l.take (k + 1)) = j) := (by rw [hs2, if_neg hA] : foreL m.bl true (l.take (k + 1)) = j)
          clear hs2 hA hA2
          go_wp2
          have hq0 : ¬ (j : Int) < 0 := by omega
          refine quiet_below (by kernel_rfl) ?_
          repeat (first | go_big_quiet_skip | go_big_quiet_step (first
            | (go_at_call 113; exact cL _)))
          refine wpQuiet_nil ?_
          rintro _ ⟨p4, rfl⟩
          obtain ⟨w4, hw4⟩ : ∃ W, W = p4.v := ⟨_, rfl⟩
          have HB4 : Hid (Below w1.heap.size w1 w4) := by rw [hw4]; exact Below.after HK.out p4.h
          rw [← hw4]
          clear hw4 p4 z0 zn zj cL
          go_wp2
          go_roundg (l.length - (k + 1))
          case measure => omega
          case rel => exact ⟨k + 1, by omega, by go_num, by rw [HS.out], HB4⟩
    · have n1 : ¬ (k : Int) < (l.length : Int) := by omega
      have hke : l.take k = l := List.take_of_length_le (by omega)
      rw [hke]
      clear hlt hke
      go_wp2
      go_ret
      exact ⟨rfl, Below.after HA.out.2 HK.out⟩
end Go.Proofs.YtfcmkkkdccnhgaaGreatDoor
namespace Go.Proofs.YtfcmkkkdccnhgaaGreatDoor
open Go.RowKit
set_option maxRecDepth 10000

set_option maxHeartbeats 2000000 in
theorem mmove_go {base : Nat} {w : World} {m : Mg} {c : CS} (h : MLies base w m c) (i n leb u q : Nat) (x y : Bl) (hx : m.bl[i]? = some x) (h4 : x.st ≠ 2) (hxl : x.leb = leb) (hxu : x.used = u) (hy : m.bl[n]? = some y) (h2 : y.st = 2) (hon : c.on = true) (hu : u ≤ 64) (hrd : ∀ k, k < u → (c.read i (2 + (k : Int))).2 = 0) (hs : m.seq + 258 < 18446744073709551616) (hle : leb ≤ 255) (hz : 64 ≤ c.gz) (n' : Nat) (m2 m' : Mg) (c2 c' : CS) (e1 : layM leb u (copyL c i u) (m.bl.length + 1) m c n = ((n' : Int), 0, m2, c2)) (hx2 : m2.bl[i]? = some x) (hq : x.cnt = q) (hq2 : q ≤ 2147483647) (e2 : freeM m2 c2 i q = (0, m', c')) (hp : m'.p = m.p) (hbb : m'.bb = m.bb) :
    Calls Tryz.prog 114 #[.pointer (some ⟨m.p, 0, none⟩), .int .i64 (i : Nat), .int .i64 (n : Nat)] w fun e w' => e = .returned .nilIface ∧ Ex base w m c w' m' c' := by
  have kc := copied_any h i x hx
  have hcl : (copyL c i u).length = u := by simp [copyL]
  have hln := h.len
  have hgs := h.chip.good.gs
  have HSt : Hid (∀ W Bm Bn, Below w.heap.size w W → W.cell? ⟨Bm, 0, none⟩ = some (.pointer (some ⟨m.p, 0, none⟩)) → W.cell? ⟨Bn, 0, none⟩ = some (.int .i64 (i : Nat)) → w.heap.size ≤ Bm → w.heap.size ≤ Bn → Calls Tryz.prog 116 #[.pointer (some ⟨m.p, 0, none⟩), .int .i64 (n : Nat), .agg #[.int .i64 (leb : Nat), .int .i64 (u : Nat), .int .i64 (u : Nat), .func (.func 154) #[] #[.pointer (some ⟨Bm, 0, none⟩), .pointer (some ⟨Bn, 0, none⟩)]]] W (LPost base W m c (some i) ((n' : Int), 0, m2, c2))) := fun W Bm Bn hb h1 h2' h3 h5 => by
    have hF := feeds_copied h hon i Bm Bn u hu hrd h1 h2' h3 h5 leb u u
    have hly : Ly base W m c (some i) W m c := ⟨h.later hb, rfl, rfl, Kept.refl _ _, Pass.refl _ _, fun k hk => by cases hk; exact ⟨x, hx, h4⟩⟩
    have := mlay_any hly m.bl.length n leb u (copyL c i u) (.func (.func 154) #[] #[.pointer (some ⟨Bm, 0, none⟩), .pointer (some ⟨Bn, 0, none⟩)]) y hy h2 (by have := cntS_le 2 m.bl; omega) (by omega) hle hu hz (by rw [hcl]; exact hu) (by rw [hcl]; exact hF)
    rw [hcl, e1] at this
    exact this
  have HF : Hid (∀ W, Ly base w m c (some i) W m2 c2 → Calls Tryz.prog 70 #[.pointer (some ⟨m.p, 0, none⟩), .int .i64 (i : Nat)] W (fun e w' => e = .returned .nilIface ∧ Ex base w m c w' m' c')) := fun W hl => by
    have kf := mfree_any hl.ml i q x hx2 hq hq2 (by rw [hl.ps.gz]; exact hz)
    rw [hl.p, e2] at kf
    refine kf.mono ?_
    rintro e w3 ⟨v, rfl, he, hl3, hk3, hf3⟩
    obtain rfl := he.nil
    have hmf := MFoot_eq hl.p hl.bb hl.ps.foot
    exact ⟨rfl, hl3, hp, hbb, hl.kp.trans (hmf ▸ hk3), hf3.trans hl.ps.foot⟩
  rw [hxl, hxu] at kc
  clear h hx h4 hxl hxu hy h2 hon hu hrd hs hle hz hcl hln hgs e1 hx2 hq hq2 e2 hp hbb
  go_enter Tryz.func114, Tryz.ntmps114
  go_wp2_with (first
    | (go_at_call 122; refine kc.mono ?_; rintro e w1 ⟨Bm, Bn, rfl, q1, q2, q3, q4, q5⟩; have HQ : Hid (Below w.heap.size w w1) := q3; have kS := HSt.out w1 Bm Bn q3 q1 q2 q4 q5; clear q1 q2 q3 q4 q5)
    | (go_at_call 116; refine kS.mono ?_; rintro e w2 ⟨v, rfl, he, hl⟩; obtain rfl := he.nil; have kF := HF.out w2 (hl.back (.of_below HQ.out)); clear he hl)
    | (go_at_call 70; refine kF.mono ?_; rintro e w3 ⟨rfl, hx⟩; have HX : Hid (Ex base w m c w3 m' c') := hx; clear hx))
  go_ret
  exact ⟨rfl, HX.out⟩
end Go.Proofs.YtfcmkkkdccnhgaaGreatDoor
