/-
  For all geometries, scripts and plans whose bulk is at most 1048576: EbmAgain answers true (a chip that is attached, with cuts armed, as often as may be, loses nothing; the attach that ends tells what stood there; the chip is never used wrongly), and leaves its arguments as they were; given that the two variables that it reaches hold what their initialisers lay (the card ties them).
-/
import Derived.Test.YtfcmkkkdccnhgaaGreatDoorPK
import Derived.Test.YtfcmkkkdccnhgaaGreatDoorKT
namespace Go.Proofs.YtfcmkkkdccnhgaaGreatDoor.ebmAgain
open Go.ChangeShapes Go.WideShapes Go.ChangeAt Go.RowKit
set_option maxRecDepth 10000

theorem farg_later {w W : World} {a : Option Addr} {n cap : Nat} {l : List Flt} (h : FArg w a n cap l) (hb : Below w.heap.size w W) : FArg W a n cap l := ⟨h.len_eq, h.le, h.max, frow_later h.row hb, h.nil⟩
theorem fresh_fine {c : CS} (h : Fresh c) : Fine c := ⟨h.fs, fun b hb => (h.blk b hb).2.2.2⟩
theorem earg_at {X W : World} {a : Option Addr} {n cap k : Nat} {l : List EOp} (h : EArg X a n cap l) (hb : Below X.heap.size X W) (hk : k < n) : ∃ o b off, l[k]? = some o ∧ a = some ⟨b, off, none⟩ ∧ (∀ W', Below X.heap.size X W' → W'.cell? ⟨b, off + k * 4, none⟩ = some (.int .i64 o.kind) ∧ W'.cell? ⟨b, off + k * 4 + 1, none⟩ = some (.int .i64 o.leb) ∧ W'.cell? ⟨b, off + k * 4 + 2, none⟩ = some (.slice o.da o.dl o.dc) ∧ W'.cell? ⟨b, off + k * 4 + 3, none⟩ = some (.slice o.pa o.pl o.pc)) ∧ BArg X o.da o.dl o.dc o.data ∧ PArg X o.pa o.pl o.pc o.pages := by
  have hkl : k < l.length := by rw [← h.len_eq]; exact hk
  have ho := List.getElem?_eq_getElem hkl
  rcases (h.later hb).row with e | ⟨b, off, e, hc⟩
  · rw [e] at hkl; simp at hkl
  · obtain ⟨q4, q5⟩ := h.each _ (List.mem_of_getElem? ho)
    refine ⟨_, b, off, ho, e, fun W' hb' => ?_, q4, q5⟩
    rcases (h.later hb').row with e' | ⟨b', off', e', hc'⟩
    · rw [e'] at hkl; simp at hkl
    · rw [e] at e'
      cases e'
      exact hc' k _ ho
/-- The chip that New made, beside the document's manager. -/
structure Nc (X w2 w3 : World) (c : CS) (gb gp gz gr : Nat) (d : DMg) : Prop where
  lies : Lies w2.heap.size w3 c
  fr : Fresh c
  geo : c.gb = gb ∧ c.gp = gp ∧ c.gz = gz ∧ c.gr = gr
  bel : Below w2.heap.size w2 w3
  bx : Below X.heap.size X w2
  dm : DMs X.heap.size w2 gb gp gz gr d
  ls : d.ls = List.replicate (gb - gr - 2) noLB
/-- Behind Format. -/
def Fd (X : World) (c0 : CS) (p : Nat) (d : DMg) (W : World) : Prop := ∃ m c P, AlC X c0 p 1 (fun _ => none) W m c P ∧ Fine c ∧ DMs X.heap.size W c0.gb c0.gp c0.gz c0.gr d ∧ Agree c0.gb c0.gr (fun _ => none) d
theorem nc_format {X w2 w3 : World} {c : CS} {gb gp gz gr : Nat} {d : DMg} (h : Nc X w2 w3 c gb gp gz gr d) (hg : Hd.Glb X) (ht : Typed X) (hge : gr + 2 ≤ gb) :
    Calls Tryz.prog 7 #[.pointer (some ⟨c.p, 0, none⟩)] w3 fun e w' => ∃ p, e = .returned (.tuple #[.pointer (some ⟨p, 0, none⟩), .int .i64 0]) ∧ Fd X c p d w' := by
  have hb3 := Below.after h.bx h.bel
  have v1 : 1 < X.heap.size := hg.lt
  have v2 : 2 < X.heap.size := ht.pos
  have hs := h.bx.size
  refine (format_al (w0 := w2) h.lies h.fr (hg.later hb3) (by omega) (ht.later hb3) (by omega) (.of_below h.bel)).mono ?_
  rintro e w' ⟨m, c', P, rfl, ha, hgm, _⟩
  have hkX : Kept (fun k => X.heap.size ≤ k) X w' := (Kept.of_below h.bx).trans (ha.kp.mono fun k e => Nat.le_trans hs e)
  refine ⟨m.p, rfl, m, c', P, ⟨ha.lower hs hkX v2 v1, hgm, rfl⟩, hgm.fine (fresh_fine h.fr), ?_, ?_⟩
  · rw [h.geo.1, h.geo.2.1, h.geo.2.2.1, h.geo.2.2.2]
    exact h.dm.kept ha.kp (fun k cs t hr _ e => by have := hr.lt; omega)
  · rw [h.geo.1, h.geo.2.2.2]
    refine ⟨by rw [h.ls, List.length_replicate]; omega, fun i x hx => ?_⟩
    rw [h.ls] at hx
    rw [(List.mem_replicate.1 (List.mem_of_getElem? hx)).2]
    rfl
theorem Fd.bos {X W : World} {c0 : CS} {p : Nat} {d : DMg} (h : Fd X c0 p d W) : BoS X c0 p 1 (fun _ => none) d W := by
  obtain ⟨m, c, P, h1, hf, h2, h3⟩ := h
  exact ⟨m, c, P, h1, h2, h3⟩
theorem BoS.up {X : World} {c0 : CS} {p t t' : Nat} {f : Cont} {d : DMg} {W : World} (h : BoS X c0 p t f d W) (ht : t ≤ t') : BoS X c0 p t' f d W := by
  obtain ⟨m, c, P, h1, h2, h3⟩ := h
  exact ⟨m, c, P, ⟨h1.al.up ht, h1.gm, h1.p⟩, h2, h3⟩
theorem farg_at {X : World} {a : Option Addr} {n cap k : Nat} {l : List Flt} (h : FArg X a n cap l) (hk : k < n) : ∃ x b off, l[k]? = some x ∧ a = some ⟨b, off, none⟩ ∧ (∀ W', Below X.heap.size X W' → W'.cell? ⟨b, off + k * 3, none⟩ = some (.int .i64 x.num) ∧ W'.cell? ⟨b, off + k * 3 + 1, none⟩ = some (.int .i64 x.kind) ∧ W'.cell? ⟨b, off + k * 3 + 2, none⟩ = some (.int .i64 x.torn)) := by
  have hkl : k < l.length := by rw [← h.len_eq]; exact hk
  have ho := List.getElem?_eq_getElem hkl
  rcases h.row with e | ⟨b, off, e, hc⟩
  · rw [e] at hkl; simp at hkl
  · refine ⟨_, b, off, ho, e, fun W' hb' => ?_⟩
    rcases (farg_later h hb').row with e' | ⟨b', off', e', hc'⟩
    · rw [e'] at hkl; simp at hkl
    · rw [e] at e'
      cases e'
      exact hc' k _ ho
set_option maxHeartbeats 8000000 in
theorem walk_no (b p z r : Int) (pa : Option Addr) (pn pc : Nat) (a : Option Addr) (n cap : Nat) (w : World) (hg : Hd.Glb w) (ht : Typed w) (hR : rightB b p z r = false) :
    Calls Tryz.prog 3 #[.agg #[.int .i64 b, .int .i64 p, .int .i64 z, .int .i64 r], .slice a n cap, .slice pa pn pc] w fun e w' => e = .returned (.bool true) ∧ Below w.heap.size w w' := by
  have HG : Hid (Hd.Glb w ∧ Typed w) := ⟨hg, ht⟩
  have cN := fun W => dnew_no b p z r W hR
  have hb0 := below_new w (.cells #[.int .i64 b, .int .i64 p, .int .i64 z, .int .i64 r] 23)
  have HB0 : Hid (Below w.heap.size w (w.alloc (.cells #[.int .i64 b, .int .i64 p, .int .i64 z, .int .i64 r] 23))) := hb0
  clear hg ht hR hb0
  go_enter Tryz.func3, Tryz.ntmps3
  go_wp2_with (first
    | (go_at_call 4; refine (cN _).mono ?_; rintro e w1 ⟨rfl, hb1⟩; have HB1 : Hid (Below w.heap.size w w1) := Below.after HB0.out hb1; clear hb1)
    | (go_at_call 5; refine (alive_any _ (HG.out.1.later HB1.out) (HG.out.2.later HB1.out)).mono ?_; rintro e w6 ⟨rfl, hb6⟩; have HB6 : Hid (Below w.heap.size w w6) := Below.after HB1.out hb6; clear hb6))
  go_ret
  exact ⟨rfl, HB6.out⟩
set_option maxHeartbeats 40000000 in
theorem walk_go (gb gp gz gr : Nat) (pa : Option Addr) (pn pc : Nat) (pl : List Flt) (a : Option Addr) (n cap : Nat) (l : List EOp) (w : World) (hg : Hd.Glb w) (ht : Typed w) (hR : rightB gb gp gz gr = true) (hF : FArg w pa pn pc pl) (h0 : EArg w a n cap l) (hn : n ≤ 1048576) :
    Calls Tryz.prog 3 #[.agg #[.int .i64 gb, .int .i64 gp, .int .i64 gz, .int .i64 gr], .slice a n cap, .slice pa pn pc] w fun e w' => e = .returned (.bool true) ∧ Below w.heap.size w w' := by
  have hgeo := right_geo hR
  obtain ⟨X, hX⟩ : ∃ X, X = w.alloc (.cells #[.int .i64 gb, .int .i64 gp, .int .i64 gz, .int .i64 gr] 23) := ⟨_, rfl⟩
  have hbX : Below w.heap.size w X := by rw [hX]; exact below_new w _
  have HB0 : Hid (Below w.heap.size w X) := hbX
  have HG : Hid (Hd.Glb X ∧ Typed X) := ⟨hg.later hbX, ht.later hbX⟩
  have cD := dnew_go gb gp gz gr X hR (by omega)
  have cN := fun W => new_chip gb gp gz gr W hR
  have hx : Row X w.heap.size [.int .i64 gb, .int .i64 gp, .int .i64 gz, .int .i64 gr] 23 := by rw [hX]; exact Row.new w _ _
  have HX : Hid (Row X w.heap.size [.int .i64 gb, .int .i64 gp, .int .i64 gz, .int .i64 gr] 23) := hx
  have x0 := hx.cell (i := 0) rfl
  have x1 := hx.cell (i := 1) rfl
  have x2 := hx.cell (i := 2) rfl
  have x3 := hx.cell (i := 3) rfl
  have HD : Hid (EArg X a n cap l ∧ FArg X pa pn pc pl ∧ gr + 2 ≤ gb) := ⟨h0.later hbX, farg_later hF hbX, by omega⟩
  have hni : (n : Int) ≤ 1048576 := by omega
  clear hg ht hR hx h0 hF hn hbX hgeo
  go_enter Tryz.func3, Tryz.ntmps3
  go_wp2_with fail
  rw [← hX]
  clear hX
  by_cases hpn : (pn : Int) > 40
  · go_wp2_with (first
      | (go_at_call 4; refine cD.mono ?_; rintro e w1 ⟨d, rfl, hd1, hls, hb1⟩; have HB1 : Hid (Below X.heap.size X w1) := hb1; clear hd1 hls hb1 x0 x1 x2 x3)
      | (go_at_call 5; refine (alive_any _ (HG.out.1.later HB1.out) (HG.out.2.later HB1.out)).mono ?_; rintro e w6 ⟨rfl, hb6⟩; have HB6 : Hid (Below w.heap.size w w6) := Below.after HB0.out (Below.after HB1.out hb6); clear hb6))
    go_ret
    exact ⟨rfl, HB6.out⟩
  · go_wp2_with (first
      | (go_at_call 4; refine cD.mono ?_; rintro e w2 ⟨d, rfl, hd1, hls, hb1⟩; have HD2 : Hid (DMs X.heap.size w2 gb gp gz gr d ∧ d.ls = List.replicate (gb - gr - 2) noLB ∧ Below X.heap.size X w2) := ⟨hd1, hls, hb1⟩; have hr1 := HX.out.later hb1; have y0 : w2.cell? ⟨w.heap.size, 0, none⟩ = some (.int .i64 gb) := hr1.cell (i := 0) rfl; have y1 : w2.cell? ⟨w.heap.size, 1, none⟩ = some (.int .i64 gp) := hr1.cell (i := 1) rfl; have y2 : w2.cell? ⟨w.heap.size, 2, none⟩ = some (.int .i64 gz) := hr1.cell (i := 2) rfl; have y3 : w2.cell? ⟨w.heap.size, 3, none⟩ = some (.int .i64 gr) := hr1.cell (i := 3) rfl; clear hd1 hls hb1 hr1 x0 x1 x2 x3)
      | (go_at_call 6; refine (cN _).mono ?_; rintro e w3 ⟨c0, rfl, q1, q2, q3, q4, q5, q6, hb3⟩; have HN : Hid (Nc X w2 w3 c0 gb gp gz gr d) := ⟨q1, q2, ⟨q3, q4, q5, q6⟩, hb3, HD2.out.2.2, HD2.out.1, HD2.out.2.1⟩; clear hb3 q1 q2 q3 q4 q5 q6 y0 y1 y2 y3)
      | (go_at_call 7; refine (nc_format HN.out HG.out.1 HG.out.2 HD.out.2.2).mono ?_; rintro e w4 ⟨p1, rfl, hA4⟩; have HB5 : Hid (BoS X c0 p1 1 (fun _ => none) d w4) := hA4.bos; clear hA4)
      | (go_at_call 5; refine (alive_any _ (HG.out.1.later HB5.out.below) (HG.out.2.later HB5.out.below)).mono ?_; rintro e w6 ⟨rfl, hb6⟩; have HB6 : Hid (∃ f d', d'.p = d.p ∧ BoS X c0 p1 1 f d' w6) := ⟨_, d, rfl, HB5.out.later hb6⟩; clear hb6))
    have hpn' : (pn : Int) ≤ 40 := by omega
    clear hpn
    go_loopw [12] (fun s11 wr => ∃ k : Nat, s11 = .int .i64 (k : Int) ∧ k ≤ n ∧ Hid (∃ f d', d'.p = d.p ∧ BoS X c0 p1 (k + 1) f d' wr)) (fun s11 _ => n - (intOf s11).toNat)
    case atStart => exact ⟨0, rfl, by omega, HB6⟩
    case round =>
      obtain ⟨k, rfl, hk, HK⟩ := hrel
      obtain ⟨f, d', hdp, hbo⟩ := HK.out
      clear HK
      by_cases hkl : k < n
      · obtain ⟨o, b, off, ho, rfl, hcs, q4, q5⟩ := earg_at HD.out.1 hbo.below hkl
        have hlt : (k : Int) < (n : Int) := by omega
        have hk0 : ¬ (k : Int) < 0 := by omega
        have HKL : Hid (k < n ∧ k + 1 < 2000000000) := ⟨hkl, by omega⟩
        have HO : Hid (BArg X o.da o.dl o.dc o.data ∧ PArg X o.pa o.pl o.pc o.pages) := ⟨q4, q5⟩
        have HC := hidW hcs
        obtain ⟨q0, q1, q2, q3⟩ := hcs _ hbo.below
        by_cases h5 : o.kind = 5
        · have HL : Hid (∃ f d', d'.p = d.p ∧ BoS X c0 p1 (k + 1 + 1) f d' wr) := ⟨f, d', hdp, BoS.up hbo (by omega)⟩
          clear hkl q4 q5 ho hcs hbo
          go_wp2
          go_roundw
          case rel => exact ⟨k + 1, by go_num, HKL.out.1, HL⟩
          case measure => simp [intOf]; have := HKL.out; omega
        · have kMo := bo_models hbo o q4 q5
          have HDo := hidW (fun W m c P d2 (h1 : AlC X c0 p1 (k + 1) f W m c P) hD hA => bo_doesP (d' := d2) o h1 hD hA q4 q5 (show k + 1 < 2000000000 by omega) h5)
          obtain ⟨R, hRR⟩ : ∃ R, R = opC c0.gb c0.gp c0.gz c0.gr o f := ⟨_, rfl⟩
          rw [← hRR] at kMo HDo
          rw [hdp] at kMo
          clear hkl q4 q5 ho hcs hbo hRR
          go_wp2_with (first
            | (go_at_call 8; refine kMo.mono ?_; rintro e u1 ⟨rfl, m1, c1, P1, d2, e2, hA1, hD1, hAg1⟩; have hbl := hA1.al.below (Nat.le_refl _); have HM1 : Hid (AlC X c0 p1 (k + 1) f u1 m1 c1 P1 ∧ DMs X.heap.size u1 c0.gb c0.gp c0.gz c0.gr d2 ∧ Agree c0.gb c0.gr R.2 d2 ∧ d2.p = d.p) := ⟨hA1, hD1, hAg1, e2⟩; obtain ⟨v0, v1, v2, v3⟩ := HC.out _ hbl; clear hA1 hD1 hAg1 hbl e2 q0 q1 q2 q3)
            | (go_at_call 9; refine (HDo.out _ m1 c1 P1 d2 HM1.out.1 HM1.out.2.1 HM1.out.2.2.1).mono ?_; rintro e u2 ⟨rfl, hb2⟩; have HU2 : Hid (BoS X c0 p1 (k + 1 + 1) R.2 d2 u2) := hb2; clear hb2 v0 v1 v2 v3))
          go_roundw
          case rel => exact ⟨k + 1, by go_num, HKL.out.1, R.2, d2, HM1.out.2.2.2, HU2.out⟩
          case measure => simp [intOf]; have := HKL.out; omega
      · have hlt : ¬ (k : Int) < (n : Int) := by omega
        obtain ⟨m, c, P, hA1, hD1, hAg1⟩ := hbo
        have hcc := cc_of hA1 hD1 hAg1 (fresh_fine HN.out.fr)
        have HCc : Hid (∃ s q, Cc X c0 (k + 1) f d' wr m c P s q) := ⟨_, _, hcc⟩
        have HDP : Hid (d'.p = d.p) := hdp
        clear hkl hcc hA1 hD1 hAg1 hdp
        go_wp2_with fail
        go_loopw [13] (fun s17 ws => ∃ i : Nat, s17 = .int .i64 (i : Int) ∧ i ≤ pn ∧ Hid (∃ s q, Cc X c0 (k + 1) f d' ws m c P s q)) (fun s17 _ => pn - (intOf s17).toNat)
        case atStart => exact ⟨0, rfl, by omega, HCc⟩
        case round =>
          obtain ⟨i, rfl, hi, HK⟩ := hrel
          obtain ⟨s, q, hcc⟩ := HK.out
          clear HK
          by_cases hil : i < pn
          · obtain ⟨x, b, off, hx, rfl, hcs⟩ := farg_at HD.out.2.1 hil
            obtain ⟨q0, q1, q2⟩ := hcs _ hcc.below
            have hlt2 : (i : Int) < (pn : Int) := by omega
            have hi0 : ¬ (i : Int) < 0 := by omega
            have HIL := hidW hil
            have HCC := hidW hcc
            have h7 := i64_and7 x.num
            have h8 := i64_and1 x.torn
            have hw : IntKind.i64.wrap (1 + x.num % 8) = 1 + x.num % 8 := by rw [IntKind.wrap_i64]; omega
            have q0' := fun o => Lib.cell?_alloc_some (W := wr) o q0
            have q1' := fun o => Lib.cell?_alloc_some (W := wr) o q1
            have q2' := fun o => Lib.cell?_alloc_some (W := wr) o q2
            clear hil hcs hcc hx
            go_wp2_with fail
            go_region
            obtain ⟨Y, hY⟩ : ∃ Y, Y = (wr.alloc (.cells #[.int .i64 (1 + x.num % 8), .int .i64 1, .int .i64 (x.torn % 2)] 43)).drew := ⟨_, rfl⟩
            have hbY : Below wr.heap.size wr Y := by rw [hY]; exact (below_new _ _).drew
            have hrY : Row Y wr.heap.size [.int .i64 (1 + x.num % 8), .int .i64 1, .int .i64 (x.torn % 2)] 43 := by rw [hY]; exact (Row.new wr _ _).drew
            rw [← hY]
            clear hY q0 q1 q2 q0' q1' q2' h7 h8 hw
            have y0 := hrY.cell (i := 0) rfl
            have y1 := hrY.cell (i := 1) rfl
            have y2 := hrY.cell (i := 2) rfl
            have hbZ := below_new Y (.cells #[.int .i64 (1 + x.num % 8), .int .i64 1, .int .i64 (x.torn % 2)] 43)
            have hrZ := Row.new Y [.int .i64 (1 + x.num % 8), .int .i64 1, .int .i64 (x.torn % 2)] 43
            have kA := (HCC.out.later (Below.after hbY hbZ)).arm (some ⟨Y.heap.size, 0, none⟩) 1 1 [⟨1 + x.num % 8, 1, x.torn % 2⟩] rfl (.inr ⟨Y.heap.size, 0, rfl, fun j f hj => by
              rcases j with _ | j
              · simp at hj
                subst hj
                exact ⟨hrZ.cell (i := 0) rfl, hrZ.cell (i := 1) rfl, hrZ.cell (i := 2) rfl⟩
              · simp at hj⟩) (cut_ok x.num x.torn)
            clear hbY hrY hbZ hrZ
            go_wp2_with (first
              | (go_at_call 10; refine kA.mono ?_; rintro e v1 ⟨rfl, s', hs', hc1⟩; have HC1 := hidW hc1; clear hc1 hs' y0 y1 y2)
              | (go_at_call 11; refine HC1.out.raw.mono ?_; rintro e v2 ⟨m2, rfl, _, _, _, _, hc2⟩; have HC2 := hidW hc2; clear hc2)
              | (go_at_call 12; refine HC2.out.isOn.mono ?_; rintro e v3 ⟨rfl, rfl⟩)
              | (go_at_call 13; refine HC2.out.power.mono ?_; rintro e v4 ⟨rfl, hc4⟩; have HC4 := hidW hc4; clear hc4))
            go_roundw
            case rel => exact ⟨i + 1, by go_num, HIL.out, _, _, HC4.out⟩
            case measure => simp [intOf]; have := HIL.out; omega
          · have hlt2 : ¬ (i : Int) < (pn : Int) := by omega
            have HCC := hidW hcc
            have kA := hcc.arm none 0 0 [] rfl (.inl rfl) ⟨by decide, by simp [planOk]⟩
            clear hil hcc
            go_wp2_with (first
              | (go_at_call 10; refine kA.mono ?_; rintro e v1 ⟨rfl, s', hs', hc1⟩; obtain rfl := hs'.eq_nil; have HC1 := hidW hc1; clear hc1 hs')
              | (go_at_call 11; refine HC1.out.last.mono ?_; rintro e v2 ⟨p2, rfl, hb2⟩; have HB2 := hidW hb2; clear hb2)
              | (go_at_call 14; have kSa := same_go HB2.out true; rw [HDP.out] at kSa; refine kSa.mono ?_; rintro e v3 ⟨rfl, hb3⟩; have HB3 := hidW hb3; clear hb3 kSa)
              | (go_at_call 15; refine (bo_wrong HB3.out).mono ?_; rintro e v4 ⟨rfl, rfl⟩))
            go_ret
            exact ⟨rfl, Below.after HB0.out HB3.out.below⟩
theorem walk (b p z r : Int) (pa : Option Addr) (pn pc : Nat) (pl : List Flt) (a : Option Addr) (n cap : Nat) (l : List EOp) (w : World) (hg : Hd.Glb w) (ht : Typed w) (hF : FArg w pa pn pc pl) (h0 : EArg w a n cap l) (hn : n ≤ 1048576) :
    Calls Tryz.prog 3 #[.agg #[.int .i64 b, .int .i64 p, .int .i64 z, .int .i64 r], .slice a n cap, .slice pa pn pc] w fun e w' => e = .returned (.bool true) ∧ Below w.heap.size w w' := by
  cases h : rightB b p z r with
  | false => exact walk_no b p z r pa pn pc a n cap w hg ht h
  | true =>
    obtain ⟨gb, gp, gz, gr, rfl, rfl, rfl, rfl, g1, g2, g3, g4, g5, g6⟩ := right_nums h
    exact walk_go gb gp gz gr pa pn pc pl a n cap l w hg ht h hF h0 hn
theorem bulk_pos {H : Type} (d : DataW H) : 1 ≤ Rows.uptoBulk d := by
  cases d with
  | lit x => cases x <;> simp [Rows.uptoBulk]
  | _ => simp [Rows.uptoBulk]
theorem bulk_len {H : Type} : ∀ l : List (DataW H), l.length ≤ Rows.uptoBulkAll l
  | [] => Nat.zero_le _
  | d :: r => by
    have h1 := bulk_len r
    have h2 := bulk_pos d
    simp only [Rows.uptoBulkAll, List.length_cons]
    omega
theorem slice_bulk {H : Type} {enc : TypeId × Value → H} {w : World} {t e : TypeId} {a : Option Addr} {len cap fuel : Nat} {d : DataW H} {p : List MemPlace} (ht : Tryz.prog.underlying t = some (.slice e)) (hf : DataW.trod enc Tryz.prog w 0 (fun _ => true) true fuel t [.slice a len cap] = some (d, p)) : len ≤ Rows.uptoBulk d := by
  rcases Go.Deep.open_slice ht hf with ⟨hcs, _⟩ | ⟨ad, len', cap', m, n, D, Pl, hcs, _, hl, hm, hmm, hxx, hx⟩
  · simp at hcs
    obtain ⟨rfl, rfl, rfl⟩ := hcs
    exact Nat.zero_le _
  · simp at hcs
    obtain ⟨rfl, rfl, rfl⟩ := hcs
    obtain ⟨rfl, rfl⟩ := Prod.mk.inj hxx
    have h1 := bulk_len ((List.range len).map D)
    simp only [List.length_map, List.length_range] at h1
    simp only [Rows.uptoBulk]
    omega

set_option maxHeartbeats 2000000 in
set_option maxRecDepth 100000 in
theorem contract (H : Type) (enc : TypeId × Value → H) (W : World) (base : Nat) (args : Array Value) (ds gs : List (DataW H)) (before : List MemPlace)
    (hval : ∀ (j : Nat) t v, Tryz.f3.params[j]? = some t → args[j]? = some v → Value.okWide Tryz.prog W .any base t v)
    (hW : DataW.Whole enc Tryz.prog Tryz.f3.params.toList Rows.ebmAgainSpec.vars false W args.toList ds gs before) (hk : Rows.uptoSmall H (ds ++ gs) = true) (hL : laidMetH Tryz.prog laid W)
    : Calls Tryz.prog 3 args W fun e W' => ∃ v, e = .returned v ∧ Rows.ebmAgainSpec.post enc Tryz.prog Tryz.f3 false true false false W args v W' := by
  have hW' := hW
  obtain ⟨p, q, hA0, hV, rfl, hfz, hnd⟩ := hW
  have hA : DataW.TrodAll enc Tryz.prog W 0 (fun _ => true) true Tryz.f3.params.toList args.toList ds p := hA0
  rw [Tryz.params3] at hA hval
  obtain ⟨v0, vs0, d0, ds0, p0, q0, hargs, rfl, rfl, h0, r0⟩ := trodAll_cons hA
  obtain ⟨v1, vs1, d1, ds1, p1, q1, rfl, rfl, rfl, h1, r1⟩ := trodAll_cons r0
  obtain ⟨v2, vs2, d2, ds2, p2, q2, rfl, rfl, rfl, h2, r2⟩ := trodAll_cons r1
  obtain ⟨rfl, rfl, rfl⟩ := trodAll_nil r2
  obtain rfl : args = #[v0, v1, v2] := by cases args; simp_all
  obtain ⟨rfl, rfl⟩ := trodVars_none hV
  simp only [List.append_nil] at hk
  have hbk : Rows.uptoBulkAll ([d0, d1, d2] : List (DataW H)) ≤ 1048576 := of_decide_eq_true hk
  simp only [Rows.uptoBulkAll] at hbk
  obtain ⟨cs0, rfl, sz0⟩ := okWide_struct Tryz.underlying23 (hval 0 23 v0 rfl rfl)
  have k0 := h0
  have lt0 : ∀ x ∈ p0, x.block < W.heap.size := by obtain ⟨m, hm⟩ := k0; exact DataW.trod_lt m _ _ _ hm
  obtain ⟨gb0, gp0, gz0, gr0, rfl⟩ : ∃ b p z r, cs0 = #[.int .i64 b, .int .i64 p, .int .i64 z, .int .i64 r] := by
    obtain ⟨fuel, hf⟩ := h0
    exact garg_open sz0 hf
  obtain ⟨a1, len1, cap1, rfl⟩ := okWide_slice Tryz.underlying24 (hval 1 24 v1 rfl rfl)
  have k1 := h1
  have lt1 : ∀ x ∈ p1, x.block < W.heap.size := by obtain ⟨m, hm⟩ := k1; exact DataW.trod_lt m _ _ _ hm
  obtain ⟨l1, w1, b1⟩ : ∃ l, EArg W a1 len1 cap1 l ∧ len1 ≤ Rows.uptoBulk d1 := by
    obtain ⟨fuel, hf⟩ := h1
    obtain ⟨l, hl⟩ := earg_open hf
    exact ⟨l, hl, slice_bulk Tryz.underlying24 hf⟩
  obtain ⟨a2, len2, cap2, rfl⟩ := okWide_slice Tryz.underlying25 (hval 2 25 v2 rfl rfl)
  have k2 := h2
  have lt2 : ∀ x ∈ p2, x.block < W.heap.size := by obtain ⟨m, hm⟩ := k2; exact DataW.trod_lt m _ _ _ hm
  obtain ⟨l2, w2⟩ : ∃ l, FArg W a2 len2 cap2 l := by
    obtain ⟨fuel, hf⟩ := h2
    exact farg_open hf
  clear hA0
  refine (walk gb0 gp0 gz0 gr0 a2 len2 cap2 l2 a1 len1 cap1 l1 W (glb_of hL) (typed_of hL) w2 w1 (by omega)).mono fun e W' ⟨he, bel⟩ => ?_
  subst he
  exact ⟨_, rfl, _, _, _, [], _, [], hW', trodAll_mk1 (shut_bool Tryz.underlying4 _), (trodAll_cons_mk (Below.trod laidOut (by kernel_rfl) (of_decide_eq_true (by kernel_rfl)) k0 bel lt0) (trodAll_cons_mk (Below.trod laidOut (by kernel_rfl) (of_decide_eq_true (by kernel_rfl)) k1 bel lt1) (trodAll_cons_mk (Below.trod laidOut (by kernel_rfl) (of_decide_eq_true (by kernel_rfl)) k2 bel lt2) trodAll_mk0))), rfl, bel.frame _, fun h => by cases h⟩

theorem reads (os : Os) {H : Type} (enc : TypeId × Value → H) : ∃ places, DataW.whole enc Tryz.prog ((laidWorld os).forCall (fun _ _ => 0) ⟨#[], #[.agg #[.int .i64 0, .int .i64 0, .int .i64 0, .int .i64 0], .slice none 0 0, .slice none 0 0], []⟩).memory Tryz.f3.params.toList Rows.ebmAgainSpec.vars false (#[.agg #[.int .i64 0, .int .i64 0, .int .i64 0, .int .i64 0], .slice none 0 0, .slice none 0 0] : Array Value).toList 8 = some ([.agg [.lit (.int .i64 0), .lit (.int .i64 0), .lit (.int .i64 0), .lit (.int .i64 0)], .nil, .nil], [], places) :=
  ⟨[], by kernel_rfl⟩
set_option maxRecDepth 100000 in
theorem lifted (os : Os) (started : os.Started) (H : Type) (enc : TypeId × Value → H) (F : Stop.Interp) :
    ReturnsInHanded {} Tryz.checked os 3 .any ((Rows.OpenSpec.upto Rows.ebmAgainSpec).preRow enc Tryz.prog Tryz.f3 Rows.ebmAgainUptoRow.domain false Rows.ebmAgainUptoRow.laid) (((Rows.OpenSpec.upto Rows.ebmAgainSpec).at F).post enc Tryz.prog Tryz.f3 false true false false) := by
  obtain ⟨places, hx⟩ := reads os enc
  refine returnsInHanded_of_row (C := Tryz.checked) (s := Rows.OpenSpec.upto Rows.ebmAgainSpec) own started (by kernel_rfl) Tryz.func3
    (witness_row_at (enc := enc) (C := Tryz.checked) false (laidWorld os) #[.agg #[.int .i64 0, .int .i64 0, .int .i64 0, .int .i64 0], .slice none 0 0, .slice none 0 0] (laid_os os) (by kernel_rfl) (by kernel_rfl) (by kernel_rfl)
      (OpenSpec.preRow_of_cond 8 hx (by kernel_rfl) (fun k hk => by cases hk; kernel_rfl) (by kernel_rfl) (laid_met os _))) ?_
  intro W base args ds gs before hval hW _ hk hsz hL _ _
  exact contract H enc W base args ds gs before hval hW (hk _ rfl) hL
theorem said : Rows.EbmAgainUptoSaid :=
  OpenClaim.holds_of_cond 3 Tryz.f3 rfl rfl rfl rfl rfl rfl rfl ⟨rfl, rfl, rfl, rfl, rfl⟩ rfl rfl rfl rfl rfl (by kernel_rfl) Tryz.func3 (by kernel_rfl)
    (of_decide_eq_true (by kernel_rfl)) (by unfold Func.isWrapper; first | (rw [if_pos (by decide +kernel)]; kernel_rfl) | (rw [if_neg (by decide +kernel)]; exact ⟨rfl, rfl⟩))
    (fun os started H enc _ F => by rw [OpenClaim.pre_eq_preRow]; exact lifted os started H enc F)
set_option maxRecDepth 100000 in
theorem plain (f : FuncId) (fn : Func) (hf : Tryz.pinned.checked.prog.funcNamed "pumice/pumicelaw09.EbmAgain" = some f) (hfn : Tryz.pinned.checked.prog.funcs[f]? = some fn) :
    true = Tryz.pinned.checked.prog.looks [] ∧ ∀ (j : Nat) t, fn.params[j]? = some t → Tryz.pinned.checked.prog.wantsStandIn t = false := by
  obtain rfl : f = 3 := Option.some.inj ((show Tryz.prog.funcNamed "pumice/pumicelaw09.EbmAgain" = some 3 by kernel_rfl).symm.trans hf) |>.symm
  obtain rfl : fn = Tryz.f3 := (Option.some.inj (Tryz.func3.symm.trans hfn)).symm
  refine ⟨by kernel_rfl, fun j t ht => ?_⟩
  rw [Tryz.params3] at ht
  have hm : t = 23 ∨ t = 24 ∨ t = 25 := by simpa using Array.mem_of_getElem? ht
  rcases hm with rfl | rfl | rfl
  · exact (show Tryz.prog.wantsStandIn 23 = false by kernel_rfl)
  · exact (show Tryz.prog.wantsStandIn 24 = false by kernel_rfl)
  · exact (show Tryz.prog.wantsStandIn 25 = false by kernel_rfl)
theorem card : Rows.EbmAgainUptoCardSaid :=
  Claim7.holds_tied_plain_at .later [] _ _ _ _ said (fun _ h => by cases h) (by kernel_rfl) (fun _ h => by cases h) ebmAgainUpto_row_tie rfl ⟨rfl, rfl⟩ (by kernel_rfl) rfl plain (by kernel_rfl)
end Go.Proofs.YtfcmkkkdccnhgaaGreatDoor.ebmAgain

namespace Go.Proofs.YtfcmkkkdccnhgaaGreatDoor
theorem ebmAgainUpto_holds : Rows.EbmAgainUptoCardSaid := ebmAgain.card
#print axioms ebmAgainUpto_holds
end Go.Proofs.YtfcmkkkdccnhgaaGreatDoor
