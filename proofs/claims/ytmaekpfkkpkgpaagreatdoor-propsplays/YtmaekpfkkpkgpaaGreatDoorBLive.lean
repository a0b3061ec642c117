/-
  Ints; the example.
-/
import Derived.Test.YtmaekpfkkpkgpaaGreatDoorBAlive
namespace Go.Proofs.YtmaekpfkkpkgpaaGreatDoor
open Go.RowKit Go.Shelf
set_option maxRecDepth 10000

theorem pb_ext {a b : PB} (h1 : a.use = b.use) (h2 : a.used = b.used) (h3 : a.live = b.live) (h4 : a.closed = b.closed) : a = b := by
  cases a; cases b; simp_all
def pbDec (a b : PB) : Decidable (a = b) :=
  if h : a.use = b.use ∧ a.used = b.used ∧ a.live = b.live ∧ a.closed = b.closed then .isTrue (pb_ext h.1 h.2.1 h.2.2.1 h.2.2.2) else .isFalse (fun e => h (by subst e; exact ⟨rfl, rfl, rfl, rfl⟩))
instance : DecidableEq PB := pbDec
/-- The example's text that is none. -/
def exText : List UInt8 := [49, 32, 49, 10, 48, 48, 32, 49, 32, 48, 32, 48, 10]
theorem ex_read : rdF none (pieces 10 exText) = some (some (1, [⟨1, 0, 0, false⟩])) := by decide +kernel
theorem itoa_one {n : Nat} (h : n < 10) : Lib.itoa (n : Int) = [UInt8.ofNat (48 + n)] := by
  unfold Lib.itoa
  rw [if_neg (by omega), Int.toNat_natCast, Lib.decDigits_one h]
theorem itoa_two {n : Nat} (h1 : ¬ n < 10) (h2 : n < 100) : Lib.itoa (n : Int) = [UInt8.ofNat (48 + n / 10), UInt8.ofNat (48 + n % 10)] := by
  unfold Lib.itoa
  rw [if_neg (by omega), Int.toNat_natCast, Lib.decDigits_two h1 h2]
theorem itoa_0 : Lib.itoa 0 = [48] := itoa_one (n := 0) (by decide)
theorem itoa_1 : Lib.itoa 1 = [49] := itoa_one (n := 1) (by decide)
theorem itoa_2 : Lib.itoa 2 = [50] := itoa_one (n := 2) (by decide)
theorem itoa_4 : Lib.itoa 4 = [52] := itoa_one (n := 4) (by decide)
theorem itoa_40 : Lib.itoa 40 = [52, 48] := itoa_two (n := 40) (by decide) (by decide)
theorem itoa_60 : Lib.itoa 60 = [54, 48] := itoa_two (n := 60) (by decide) (by decide)
theorem itoa_100 : Lib.itoa 100 = [49, 48, 48] := by
  unfold Lib.itoa
  rw [if_neg (by decide), show (100 : Int).toNat = 100 from rfl, Lib.decDigits, dif_neg (by decide), show 100 / 10 = 10 from rfl, Lib.decDigits_two (by decide) (by decide)]
  rfl
theorem ex_text1 : textF 1 [⟨1, 0, 0, false⟩] = [49, 32, 49, 10, 48, 32, 49, 32, 48, 32, 48, 10] := by
  show lineF [1, 1] ++ [10] ++ ((lineF [0, 1, 0, 0] ++ [] ++ [10]) ++ []) = _
  simp only [lineF, List.map, itoa_0, itoa_1]
  rfl
theorem ex_none : parseF exText = none := by
  unfold parseF
  rw [ex_read]
  dsimp only
  rw [if_neg (by rw [ex_text1]; decide)]
/-- The example's book. -/
def exBook : List PB := [PB.none, ⟨2, 60, 40, true⟩, PB.none, PB.none]
theorem ex_text : textF 100 exBook = [52, 32, 49, 48, 48, 10, 49, 32, 50, 32, 54, 48, 32, 52, 48, 32, 99, 108, 111, 115, 101, 100, 10] := by
  show lineF [4, 100] ++ [10] ++ ([] ++ ((lineF [1, 2, 60, 40] ++ closedT ++ [10]) ++ ([] ++ ([] ++ [])))) = _
  simp only [lineF, List.map, itoa_4, itoa_1, itoa_2, itoa_40, itoa_60, itoa_100]
  rfl
theorem ex_ok : BkOk 100 exBook := by
  refine ⟨by decide, by decide, by decide, by decide, fun x hx => ?_⟩
  simp [exBook] at hx
  rcases hx with rfl | rfl | rfl
  · exact ok_none (by decide)
  · exact ⟨by decide, by decide, by decide, by decide, by decide, fun e => absurd e (by decide)⟩
  · exact ok_none (by decide)
/-- Numbers, as they lie. -/
def IRow (w : World) (a : Option Addr) (l : List Int) : Prop := l = [] ∨ ∃ b off, a = some ⟨b, off, none⟩ ∧ ∀ (i : Nat) x, l[i]? = some x → w.cell? ⟨b, off + i, none⟩ = some (.int .i64 x)
theorem IRow.later {w W : World} {a : Option Addr} {l : List Int} (h : IRow w a l) (hb : Below w.heap.size w W) : IRow W a l := by
  rcases h with h | ⟨b, off, h1, h2⟩
  · exact .inl h
  · exact .inr ⟨b, off, h1, fun i x hx => (hb.cell (p := ⟨b, off + i, none⟩) (World.block_lt_of_cell? w _ (h2 i x hx))).trans (h2 i x hx)⟩
theorem OwnI.form {base : Nat} {w : World} {v : Value} {l : List Int} (h : OwnI base w v l) : ∃ a cap, v = .slice a l.length cap ∧ IRow w a l := by
  rcases h.2 with ⟨rfl, h0⟩ | ⟨q, cap, cur, rfl, hbg, hgg, hnc, hcm, hcs, htake⟩
  · exact ⟨none, 0, by rw [h0], .inl (List.eq_nil_of_length_eq_zero h0)⟩
  · refine ⟨_, cap, rfl, .inr ⟨q, 0, rfl, fun i x hx => ?_⟩⟩
    have hi := (List.getElem?_eq_some_iff.1 hx).1
    have := h.cellAt i (by simpa using hi)
    rw [Nat.zero_add, this, List.getElem?_map, hx]
    rfl
set_option maxHeartbeats 2000000 in
theorem ints_any (a : Option Addr) (cap : Nat) (l : List Int) (b : Option Addr) (cap2 : Nat) (m : List Int) (w : World) (ha : IRow w a l) (hb : IRow w b m) (hl : l.length ≤ 256) :
    Calls Tryz.prog 19 #[.slice a l.length cap, .slice b m.length cap2] w fun e w' => e = .returned (.bool (decide (l = m))) ∧ Below w.heap.size w w' := by
  by_cases hlen : l.length = m.length
  · have HL := hidW hlen
    obtain ⟨k0, hk0⟩ : ∃ k0, k0 = l.length := ⟨_, rfl⟩
    rw [← hlen, ← hk0]
    have HK0 := hidW hk0
    have HA := hidW ha
    have HB := hidW hb
    rw [← hk0] at hl
    clear hlen hk0 ha hb
    have e0 : ((k0 : Int) != (k0 : Int)) = false := by simp
    go_enter Tryz.func19, Tryz.ntmps19
    go_wp2_with fail
    go_loopw [5] (fun s5 wr => ∃ k : Nat, s5 = .int .i64 (k : Int) ∧ k ≤ k0 ∧ Hid (l.take k = m.take k ∧ Below w.heap.size w wr)) (fun s5 _ => k0 - (intOf s5).toNat)
    case atStart => exact ⟨0, rfl, by omega, by simp, Below.refl _ _⟩
    case round =>
      obtain ⟨k, rfl, hk, HK⟩ := hrel
      by_cases hkl : k < k0
      · have h1 : k < l.length := by rw [← HK0.out]; exact hkl
        have h2 : k < m.length := by rw [← HL.out]; exact h1
        obtain ⟨x, hx⟩ : ∃ x, l[k]? = some x := ⟨_, List.getElem?_eq_getElem h1⟩
        obtain ⟨y, hy⟩ : ∃ y, m[k]? = some y := ⟨_, List.getElem?_eq_getElem h2⟩
        rcases HA.out.later HK.out.2 with e | ⟨b1, o1, rfl, c1⟩
        · rw [e] at h1; simp at h1
        · rcases HB.out.later HK.out.2 with e | ⟨b2, o2, rfl, c2⟩
          · rw [e] at h2; simp at h2
          · have q1 := c1 k x hx
            have q2 := c2 k y hy
            have hlt : (k : Int) < (k0 : Int) := by omega
            have hk1 : ¬ (k : Int) < 0 := by omega
            have HX := hidW (And.intro hx hy)
            have HKL := hidW hkl
            clear h1 h2 hx hy c1 c2 hkl
            by_cases hxy : x = y
            · have e1 : (x != y) = false := by simpa using hxy
              have HXY := hidW hxy
              clear hxy
              go_wp2_with fail
              go_quiet (fail)
              go_wp2
              go_roundw
              case rel =>
                refine ⟨k + 1, by go_num, HKL.out, ?_, Below.after HK.out.2 (below_drawn _ _)⟩
                rw [List.take_add_one, List.take_add_one, HK.out.1, HX.out.1, HX.out.2, HXY.out]
              case measure => simp [intOf]; have := HKL.out; omega
            · have e1 : (x != y) = true := by simpa using hxy
              have HXY := hidW hxy
              clear hxy
              go_wp2_with fail
              go_quiet (fail)
              go_wp2
              go_ret
              refine ⟨ret_bool (decide_eq_false (fun e => ?_)).symm, Below.after HK.out.2 (below_drawn _ _)⟩
              have h1 := HX.out.1
              rw [e, HX.out.2] at h1
              exact HXY.out (Option.some.inj h1).symm
      · have hlt : ¬ (k : Int) < (k0 : Int) := by omega
        have hkk : k = k0 := by omega
        clear hkl
        go_wp2
        go_ret
        refine ⟨ret_bool (decide_eq_true ?_).symm, HK.out.2⟩
        have := HK.out.1
        rw [hkk, HK0.out, List.take_length, HL.out, List.take_length] at this
        exact this
  · have e0 : ((l.length : Int) != (m.length : Int)) = true := by simp; omega
    have HL := hidW hlen
    clear hlen ha hb
    go_enter Tryz.func19, Tryz.ntmps19
    go_wp2
    go_ret
    exact ⟨ret_bool (decide_eq_false (fun e => HL.out (by rw [e]))).symm, Below.refl _ _⟩
/-- What the laid variables give. -/
structure Gl (w : World) : Prop where
  er : Errs w
  pw : Pows w
theorem Gl.later {w W : World} (h : Gl w) (hb : Below w.heap.size w W) : Gl W := ⟨h.er.later hb, h.pw.later hb⟩
/-- The example's book, as it lies. -/
structure Ex (w : World) (p q cap : Nat) (l : List PB) (W : World) : Prop where
  bk : BLies W p q cap 100 l
  bel : Below w.heap.size w W
  hp : w.heap.size ≤ p
  hq : w.heap.size ≤ q
theorem Ex.left {w : World} {p q cap : Nat} {l l' : List PB} {W W' : World} (h : Ex w p q cap l W) (hl : Left W W' p q cap 100 l') : Ex w p q cap l' W' := ⟨hl.1, h.bel.trans (hl.2.below h.bel.size (fun k e => by subst e; exact h.hq)), h.hp, h.hq⟩
theorem Ex.later {w : World} {p q cap : Nat} {l : List PB} {W W' : World} (h : Ex w p q cap l W) (hb : Below W.heap.size W W') : Ex w p q cap l W' := ⟨h.bk.later hb, Below.after h.bel hb, h.hp, h.hq⟩
theorem ok0 : AllOk 100 (List.replicate 4 PB.none) := fun x hx => by rw [(List.mem_replicate.1 hx).2]; exact ok_none (by decide)
def l1 : List PB := [PB.none, ⟨2, 0, 0, false⟩, PB.none, PB.none]
def l2 : List PB := [PB.none, ⟨2, 60, 60, false⟩, PB.none, PB.none]
def l3 : List PB := [PB.none, ⟨2, 60, 40, false⟩, PB.none, PB.none]
theorem s1 : takeF (List.replicate 4 PB.none) 1 2 = (0, l1) := by decide +kernel
theorem s2 : useF 100 l1 1 60 = (0, l2) := by decide +kernel
theorem s3 : killF l2 1 20 = (0, l3) := by decide +kernel
theorem s4 : closeF l3 1 = (0, exBook) := by decide +kernel
theorem s5 : useF 100 exBook 1 1 = (16, exBook) := by decide +kernel
theorem s6 : freeF exBook 1 = (16, exBook) := by decide +kernel
theorem o1 : AllOk 100 l1 := by have := take_ok ok0 1 2; rw [s1] at this; exact this
theorem o2 : AllOk 100 l2 := by have := use_ok o1 1 60; rw [s2] at this; exact this
theorem ex_vic : thoseF (vicB 2) 0 exBook = [1] := by decide +kernel
theorem ex_fre : (freesF exBook).length = 3 := by decide +kernel
theorem ex_u : sumU exBook = 60 := by decide +kernel
theorem ex_l : sumL exBook = 40 := by decide +kernel
set_option maxHeartbeats 8000000 in
theorem alive_any (w : World) (hg : Gl w) : Calls Tryz.prog 7 #[] w fun e w' => e = .returned (.bool true) ∧ Below w.heap.size w w' := by
  have HG := hidW hg
  have kN := new_go 4 100 (by decide) w
  have hq : (bs (textF 100 exBook)).toList = [52, 32, 49, 48, 48, 10, 49, 32, 50, 32, 54, 48, 32, 52, 48, 32, 99, 108, 111, 115, 101, 100, 10] := by rw [bs_toList, ex_text]
  clear hg
  go_enter Tryz.func7, Tryz.ntmps7
  go_wp2_with (first
    | (go_at_call 5; refine kN.mono ?_; rintro e w1 ⟨rfl, hl1, hb1⟩; have HE0 := hidW (show Ex w (w.heap.size + 1) w.heap.size 4 (List.replicate 4 PB.none) w1 from ⟨hl1, hb1, by omega, Nat.le_refl _⟩); clear hl1 hb1)
    | (go_at_call 13; refine (take_go HE0.out.bk 1 2).mono ?_; rw [s1]; rintro e w2 ⟨rfl, hl⟩; have HE1 := hidW (HE0.out.left hl); clear HE0 hl)
    | (go_at_call 14; refine (use_go HE1.out.bk o1 (by decide) 1 60).mono ?_; rw [s2]; rintro e w3 ⟨rfl, hl⟩; have HE2 := hidW (HE1.out.left hl); clear HE1 hl)
    | (go_at_call 15; refine (kill_go HE2.out.bk o2 (by decide) 1 20).mono ?_; rw [s3]; rintro e w4 ⟨rfl, hl⟩; have HE3 := hidW (HE2.out.left hl); clear HE2 hl)
    | (go_at_call 16; refine (close_go HE3.out.bk 1).mono ?_; rw [s4]; rintro e w5 ⟨rfl, hl⟩; have HE4 := hidW (HE3.out.left hl); clear HE3 hl)
    | (go_at_call 17; refine (totals_any HE4.out.bk ex_ok).mono ?_; rw [ex_fre, ex_u, ex_l]; rintro e w6 ⟨rfl, hb⟩; have HE5 := hidW (HE4.out.later hb); clear HE4 hb)
    | (go_at_call 10; refine (parse_any exText (by decide) _ (HG.out.later HE5.out.bel).er (HG.out.later HE5.out.bel).pw).mono ?_; rw [ex_none]; rintro e w7 ⟨hb, rfl⟩; have HE6 := hidW (HE5.out.later hb); clear HE5 hb)
    | (go_at_call 14; refine (use_go HE6.out.bk ex_ok.ok (by decide) 1 1).mono ?_; rw [s5]; rintro e w8 ⟨rfl, hl⟩; have HE7 := hidW (HE6.out.left hl); clear HE6 hl)
    | (go_at_call 18; refine (free_go HE7.out.bk 1).mono ?_; rw [s6]; rintro e w9 ⟨rfl, hl⟩; have HE8 := hidW (HE7.out.left hl); clear HE7 hl)
    | (go_at_call 20; refine (victims_one HE8.out.bk ex_ok 2 (by rw [ex_vic]; decide)).mono ?_; rw [ex_vic]; rintro e w10 ⟨v10, rfl, ho, hb⟩; obtain ⟨a10, c10, rfl, hr10⟩ := ho.form; have HE9 := hidW (HE8.out.later (hb.trans (Below.refl _ _))); have HR10 := hidW hr10; clear HE8 hb ho hr10)
    | (go_at_call 19; refine (ints_any a10 c10 [1] (some ⟨w10.heap.size, 0, none⟩) 1 [1] _ (HR10.out.later (below_new w10 (.cells #[.int .i64 1] 3))) (.inr ⟨w10.heap.size, 0, rfl, fun i x hx => by
        rcases i with _ | i
        · simp at hx; subst hx; exact (Row.new w10 [.int .i64 1] 3).cell (i := 0) rfl
        · simp at hx⟩) (by decide)).mono ?_; rintro e w11 ⟨rfl, hb⟩; have HE10 := hidW (HE9.out.later (Below.after (below_new w10 (.cells #[.int .i64 1] 3)) hb)); clear HE9 hb)
    | (go_at_call 12; refine (text_any ⟨HE10.out.bk, (HG.out.later HE10.out.bel).pw⟩ ex_ok.ok (by decide) (by decide) (by decide)).mono ?_; rintro e w12 ⟨rfl, hb⟩; have HE11 := hidW (HE10.out.later hb); clear HE10 hb))
  go_ret
  exact ⟨rfl, HE11.out.bel⟩
end Go.Proofs.YtmaekpfkkpkgpaaGreatDoor
