/-
  For all geometries and scripts whose bulk is at most 1048576: EbmFormats answers true (a chip that is formatted again, whatever was done with it, is empty, and its blocks tell how often they were erased), and leaves its arguments as they were; given that the two variables that it reaches hold what their initialisers lay (the card ties them).
-/
import Derived.Test.YtccfalafphjkpaaGreatDoorKZA
import Derived.Test.YtccfalafphjkpaaGreatDoorKT
namespace Go.Proofs.YtccfalafphjkpaaGreatDoor.ebmFormats
open Go.ChangeShapes Go.WideShapes Go.ChangeAt Go.RowKit
set_option maxRecDepth 10000

theorem hid_of {p : Prop} (h : p) : Hid p := h
set_option maxHeartbeats 8000000 in
theorem walk_no (b p z r : Int) (a : Option Addr) (n cap : Nat) (w : World) (hg : Hd.Glb w) (ht : Typed w) (hR : rightB b p z r = false) :
    Calls Tryz.prog 4 #[.agg #[.int .i64 b, .int .i64 p, .int .i64 z, .int .i64 r], .slice a n cap] w fun e w' => e = .returned (.bool true) ∧ Below w.heap.size w w' := by
  have HG : Hid (Hd.Glb w ∧ Typed w) := ⟨hg, ht⟩
  have cN := fun W => new_c0 b p z r W hR
  have hb0 := below_new w (.cells #[.int .i64 b, .int .i64 p, .int .i64 z, .int .i64 r] 23)
  have HB0 : Hid (Below w.heap.size w (w.alloc (.cells #[.int .i64 b, .int .i64 p, .int .i64 z, .int .i64 r] 23))) := hb0
  clear hg ht hR hb0
  go_enter Tryz.func4, Tryz.ntmps4
  go_wp2_with (first
    | (go_at_call 5; refine (cN _).mono ?_; rintro e w1 ⟨rfl, hb1⟩; have HB1 : Hid (Below w.heap.size w w1) := Below.after HB0.out hb1; clear hb1)
    | (go_at_call 6; refine (alive_any _ (HG.out.1.later HB1.out) (HG.out.2.later HB1.out)).mono ?_; rintro e w6 ⟨rfl, hb6⟩; have HB6 : Hid (Below w.heap.size w w6) := Below.after HB1.out hb6; clear hb6))
  go_ret
  exact ⟨rfl, HB6.out⟩
/-- The chip that New made. -/
structure Nc (w0 w : World) (c : CS) (gb gp gz gr : Nat) : Prop where
  lies : Lies w0.heap.size w c
  fr : Fresh c
  geo : c.gb = gb ∧ c.gp = gp ∧ c.gz = gz ∧ c.gr = gr
  bel : Below w0.heap.size w0 w
theorem nc_format {w0 w : World} {c : CS} {gb gp gz gr : Nat} (h : Nc w0 w c gb gp gz gr) (hg : Hd.Glb w0) (ht : Typed w0) :
    Calls Tryz.prog 7 #[.pointer (some ⟨c.p, 0, none⟩)] w fun e w' => ∃ p, e = .returned (.tuple #[.pointer (some ⟨p, 0, none⟩), .int .i64 0]) ∧ Scr w0 c p 1 w' := by
  refine (format_al (w0 := w0) h.lies h.fr (hg.later h.bel) hg.lt (ht.later h.bel) ht.pos (.of_below h.bel)).mono ?_
  rintro e w' ⟨m, c', P, rfl, ha, hgm, _⟩
  exact ⟨m.p, rfl, m, c', P, _, ha, hgm, rfl⟩
theorem earg_at {X W : World} {a : Option Addr} {n cap k : Nat} {l : List EOp} (h : EArg X a n cap l) (hb : Below X.heap.size X W) (hk : k < n) : ∃ o b off, l[k]? = some o ∧ a = some ⟨b, off, none⟩ ∧ W.cell? ⟨b, off + k * 4, none⟩ = some (.int .i64 o.kind) ∧ W.cell? ⟨b, off + k * 4 + 1, none⟩ = some (.int .i64 o.leb) ∧ W.cell? ⟨b, off + k * 4 + 2, none⟩ = some (.slice o.da o.dl o.dc) ∧ W.cell? ⟨b, off + k * 4 + 3, none⟩ = some (.slice o.pa o.pl o.pc) ∧ BArg X o.da o.dl o.dc o.data ∧ PArg X o.pa o.pl o.pc o.pages := by
  have hkl : k < l.length := by rw [← h.len_eq]; exact hk
  have ho := List.getElem?_eq_getElem hkl
  rcases (h.later hb).row with e | ⟨b, off, e, hc⟩
  · rw [e] at hkl; simp at hkl
  · obtain ⟨q0, q1, q2, q3⟩ := hc k _ ho
    obtain ⟨q4, q5⟩ := h.each _ (List.mem_of_getElem? ho)
    exact ⟨_, b, off, ho, e, q0, q1, q2, q3, q4, q5⟩
set_option maxHeartbeats 40000000 in
theorem walk_go (gb gp gz gr : Nat) (a : Option Addr) (n cap : Nat) (l : List EOp) (w : World) (hg : Hd.Glb w) (ht : Typed w) (hR : rightB gb gp gz gr = true) (h0 : EArg w a n cap l) (hn : n ≤ 1048576) :
    Calls Tryz.prog 4 #[.agg #[.int .i64 gb, .int .i64 gp, .int .i64 gz, .int .i64 gr], .slice a n cap] w fun e w' => e = .returned (.bool true) ∧ Below w.heap.size w w' := by
  have HG : Hid (Hd.Glb w ∧ Typed w) := ⟨hg, ht⟩
  have cN := fun W => new_chip gb gp gz gr W hR
  have HR : Hid (rightB gb gp gz gr = true) := hR
  obtain ⟨X, hX⟩ : ∃ X, X = w.alloc (.cells #[.int .i64 gb, .int .i64 gp, .int .i64 gz, .int .i64 gr] 23) := ⟨_, rfl⟩
  have HB0 : Hid (Below w.heap.size w X) := by rw [hX]; exact below_new w _
  have hx : Row X w.heap.size [.int .i64 gb, .int .i64 gp, .int .i64 gz, .int .i64 gr] 23 := by rw [hX]; exact Row.new w _ _
  have HX : Hid (Row X w.heap.size [.int .i64 gb, .int .i64 gp, .int .i64 gz, .int .i64 gr] 23) := hx
  have x0 := hx.cell (i := 0) rfl
  have x1 := hx.cell (i := 1) rfl
  have x2 := hx.cell (i := 2) rfl
  have x3 := hx.cell (i := 3) rfl
  have HD : Hid (EArg X a n cap l) := h0.later HB0.out
  have hni : (n : Int) ≤ 1048576 := by omega
  clear hg ht hR hx h0 hn
  go_enter Tryz.func4, Tryz.ntmps4
  go_wp2_with fail
  rw [← hX]
  clear hX
  go_wp2_with (first
    | (go_at_call 5; refine (cN _).mono ?_; rintro e w1 ⟨c0, rfl, q1, q2, q3, q4, q5, q6, hb1⟩; have HB1 : Hid (Nc X w1 c0 gb gp gz gr) := ⟨q1, q2, ⟨q3, q4, q5, q6⟩, hb1⟩; clear hb1 x0 x1 x2 x3 q1 q2 q3 q4 q5 q6)
    | (go_at_call 7; refine (nc_format HB1.out (HG.out.1.later HB0.out) (HG.out.2.later HB0.out)).mono ?_; rintro e w2 ⟨p1, rfl, hA2⟩; have HS0 : Hid (Scr X c0 p1 1 w2) := hA2; clear hA2))
  have hG := right_geo HR.out
  have HFi : Hid (Fine c0 ∧ c0.gb = gb ∧ c0.gr = gr) := ⟨HB1.out.fr.fine, HB1.out.geo.1, HB1.out.geo.2.2.2⟩
  go_loopw [8] (fun i wr => ∃ k : Nat, i = .int .i64 (k : Int) ∧ k ≤ n ∧ Hid (Scr X c0 p1 (k + 1) wr)) (fun i _ => n - (intOf i).toNat)
  case atStart => exact ⟨0, rfl, by omega, HS0⟩
  case round =>
    obtain ⟨k, rfl, hk, HK⟩ := hrel
    by_cases hkl : k < n
    · obtain ⟨o, b, off, ho, rfl, q0, q1, q2, q3, q4, q5⟩ := earg_at HD.out HK.out.below hkl
      have hlt : (k : Int) < (n : Int) := by omega
      have hk0 : ¬ (k : Int) < 0 := by omega
      have HKL : Hid (k < n ∧ k + 1 < 2000000000) := ⟨hkl, by omega⟩
      have HO : Hid (BArg X o.da o.dl o.dc o.data ∧ PArg X o.pa o.pl o.pc o.pages) := ⟨q4, q5⟩
      clear hkl q4 q5 ho
      by_cases h5 : o.kind = 5
      · go_wp2
        go_roundw
        case rel => exact ⟨k + 1, by go_num, HKL.out.1, HK.out.up (by omega)⟩
        case measure => simp [intOf]; have := HKL.out; omega
      · have H5 : Hid (¬ o.kind = 5) := h5
        go_wp2_with (go_at_call 16; refine (does_go HK.out o HO.out.1 HO.out.2 H5.out HKL.out.2).mono ?_; rintro e v2 ⟨r2, rfl, h1⟩; have HK2 : Hid (Scr X c0 p1 (k + 1 + 1) v2) := h1; clear h1)
        go_roundw
        case rel => exact ⟨k + 1, by go_num, HKL.out.1, HK2⟩
        case measure => simp [intOf]; have := HKL.out; omega
    · have hlt : ¬ (k : Int) < (n : Int) := by omega
      have HT : Hid (k + 1 < 2000000000) := (by omega : k + 1 < 2000000000)
      clear hkl
      go_wp2_with (go_at_call 7; refine (sc_format HK.out HFi.out.1 HT.out).mono ?_; rintro e v1 ⟨p2, rfl, h1⟩; have HF1 : Hid (Fm X c0 p2 v1) := h1; clear h1 HK)
      go_loopw [9] (fun i wr => ∃ j : Nat, i = .int .i64 (j : Int) ∧ j + gr + 2 ≤ gb ∧ Hid (Fm X c0 p2 wr)) (fun i _ => gb - (intOf i).toNat)
      case atStart => exact ⟨0, rfl, by omega, HF1⟩
      case round =>
        obtain ⟨j, rfl, hj, HJ⟩ := hrel
        by_cases hjl : j + gr + 2 < gb
        · have hlt2 : (j : Int) < (c0.gb : Int) - c0.gr - 2 := by have := HFi.out; omega
          have hj256 : (j : Int) ≤ 256 := by omega
          have HJL : Hid (j + gr + 2 < gb) := hjl
          clear hjl
          go_wp2_with (first
            | (go_at_call 9; refine (fm_lebs HJ.out).mono ?_; rintro e u1 ⟨rfl, h1⟩; have HJ1 : Hid (Fm X c0 p2 u1) := HJ.out.later h1; clear h1)
            | (go_at_call 11; refine (fm_used HJ1.out (j : Int)).mono ?_; rintro e u2 ⟨rfl, h1⟩; have HJ2 : Hid (Fm X c0 p2 u2) := HJ1.out.later h1; clear h1)
            | (go_at_call 17; refine (fm_closed HJ2.out (j : Int)).mono ?_; rintro e u3 ⟨rfl, h1⟩; have HJ3 : Hid (Fm X c0 p2 u3) := HJ2.out.later h1; clear h1))
          go_roundw
          case rel => exact ⟨j + 1, by go_num, by have := HJL.out; omega, HJ3⟩
          case measure => simp [intOf]; have := HJL.out; omega
        · have hlt2 : ¬ (j : Int) < (c0.gb : Int) - c0.gr - 2 := by have := HFi.out; omega
          clear hjl
          go_wp2_with (first
            | (go_at_call 9; refine (fm_lebs HJ.out).mono ?_; rintro e u1 ⟨rfl, h1⟩; have HJ1 : Hid (Fm X c0 p2 u1) := HJ.out.later h1; clear h1 HJ)
            | (go_at_call 18; refine (fm_scan HJ1.out HFi.out.2.1).mono ?_; rintro e u2 ⟨g, cg, er, rfl, h1⟩; have HN : Hid (Sn X c0 gb g er u2) := h1; have y0 : u2.cell? ⟨w.heap.size, 0, none⟩ = some (.int .i64 gb) := (HX.out.later h1.below).cell (i := 0) rfl; clear h1))
          go_loopw [11] (fun i wr => ∃ j : Nat, i = .int .i64 (j : Int) ∧ j ≤ gb ∧ Hid (Sn X c0 gb g er wr)) (fun i _ => gb - (intOf i).toNat)
          case atStart => exact ⟨0, rfl, by omega, HN⟩
          case round =>
            obtain ⟨i, rfl, hi, HI⟩ := hrel
            by_cases hil : i < gb
            · have hlt3 : (i : Int) < (gb : Int) := by omega
              have hi256 : (i : Int) ≤ 256 := by omega
              have HIL : Hid (i < gb) := hil
              have ne := Wd.non wr
              have z0 : ∀ p : Wd wr, p.v.cell? ⟨g, i * 6, none⟩ = some (.int .i64 2) := fun p => ((HI.out.later p.h).row i hil).1
              have z1 : ∀ p : Wd wr, p.v.cell? ⟨g, i * 6 + 1, none⟩ = some (.int .i64 (er i)) := fun p => ((HI.out.later p.h).row i hil).2
              have cE := fun p : Wd wr => quiet_same p (HI.out.ers i hil p.v p.h)
              clear hil
              go_wp2
              have hi0 : ¬ (i : Int) < 0 := by omega
              refine quiet_below (by kernel_rfl) ?_
              repeat (first | go_big_quiet_skip | go_big_quiet_step (first
                | (go_at_call 19; exact cE _)))
              refine wpQuiet_nil ?_
              rintro _ ⟨p4, rfl⟩
              obtain ⟨w4, hw4⟩ : ∃ W, W = p4.v := ⟨_, rfl⟩
              have HI4 : Hid (Sn X c0 gb g er w4) := by rw [hw4]; exact HI.out.later p4.h
              rw [← hw4]
              clear hw4
              clear p4 z0 z1 cE ne
              go_wp2
              go_roundw
              case rel => exact ⟨i + 1, by go_num, HIL.out, HI4⟩
              case measure => simp [intOf]; have := HIL.out; omega
            · have hlt3 : ¬ (i : Int) < (gb : Int) := by omega
              have HB7 : Hid (Below w.heap.size w wr) := Below.after HB0.out HI.out.below
              clear hil
              go_wp2_with (go_at_call 6; refine (alive_any _ (HG.out.1.later HB7.out) (HG.out.2.later HB7.out)).mono ?_; rintro e u8 ⟨rfl, hb6⟩; have HB8 : Hid (Below w.heap.size w u8) := Below.after HB7.out hb6; clear hb6)
              go_ret
              exact ⟨rfl, HB8.out⟩
theorem walk (b p z r : Int) (a : Option Addr) (n cap : Nat) (l : List EOp) (w : World) (hg : Hd.Glb w) (ht : Typed w) (h0 : EArg w a n cap l) (hn : n ≤ 1048576) :
    Calls Tryz.prog 4 #[.agg #[.int .i64 b, .int .i64 p, .int .i64 z, .int .i64 r], .slice a n cap] w fun e w' => e = .returned (.bool true) ∧ Below w.heap.size w w' := by
  cases h : rightB b p z r with
  | false => exact walk_no b p z r a n cap w hg ht h
  | true =>
    obtain ⟨gb, gp, gz, gr, rfl, rfl, rfl, rfl, g1, g2, g3, g4, g5, g6⟩ := right_nums h
    exact walk_go gb gp gz gr a n cap l w hg ht h h0 hn
theorem bulk_pos {H : Type} (d : DataW H) : 1 ≤ Rows.uptoBulk d := by
  cases d with
  | lit x => cases x <;> simp [Rows.uptoBulk]
  | _ => simp [Rows.uptoBulk]
theorem bulk_len {H : Type} : ∀ l : List (DataW H), l.length ≤ Rows.uptoBulkAll l
  | [] => Nat.zero_le _
  | d :: r => by
    have h1 := bulk_len r
    have h2 := bulk_pos d
    simp only [Rows.uptoBulkAll, List.length_cons]
    omega
theorem slice_bulk {H : Type} {enc : TypeId × Value → H} {w : World} {t e : TypeId} {a : Option Addr} {len cap fuel : Nat} {d : DataW H} {p : List MemPlace} (ht : Tryz.prog.underlying t = some (.slice e)) (hf : DataW.trod enc Tryz.prog w 0 (fun _ => true) true fuel t [.slice a len cap] = some (d, p)) : len ≤ Rows.uptoBulk d := by
  rcases Go.Deep.open_slice ht hf with ⟨hcs, _⟩ | ⟨ad, len', cap', m, n, D, Pl, hcs, _, hl, hm, hmm, hxx, hx⟩
  · simp at hcs
    obtain ⟨rfl, rfl, rfl⟩ := hcs
    exact Nat.zero_le _
  · simp at hcs
    obtain ⟨rfl, rfl, rfl⟩ := hcs
    obtain ⟨rfl, rfl⟩ := Prod.mk.inj hxx
    have h1 := bulk_len ((List.range len).map D)
    simp only [List.length_map, List.length_range] at h1
    simp only [Rows.uptoBulk]
    omega

set_option maxRecDepth 100000 in
theorem contract (H : Type) (enc : TypeId × Value → H) (W : World) (base : Nat) (args : Array Value) (ds gs : List (DataW H)) (before : List MemPlace)
    (hval : ∀ (j : Nat) t v, Tryz.f4.params[j]? = some t → args[j]? = some v → Value.okWide Tryz.prog W .any base t v)
    (hW : DataW.Whole enc Tryz.prog Tryz.f4.params.toList Rows.ebmFormatsSpec.vars false W args.toList ds gs before) (hk : Rows.uptoSmall H (ds ++ gs) = true) (hL : laidMetH Tryz.prog laid W)
    : Calls Tryz.prog 4 args W fun e W' => ∃ v, e = .returned v ∧ Rows.ebmFormatsSpec.post enc Tryz.prog Tryz.f4 false true false false W args v W' := by
  have hW' := hW
  obtain ⟨p, q, hA0, hV, rfl, hfz, hnd⟩ := hW
  have hA : DataW.TrodAll enc Tryz.prog W 0 (fun _ => true) true Tryz.f4.params.toList args.toList ds p := hA0
  rw [Tryz.params4] at hA hval
  obtain ⟨v0, vs0, d0, ds0, p0, q0, hargs, rfl, rfl, h0, r0⟩ := trodAll_cons hA
  obtain ⟨v1, vs1, d1, ds1, p1, q1, rfl, rfl, rfl, h1, r1⟩ := trodAll_cons r0
  obtain ⟨rfl, rfl, rfl⟩ := trodAll_nil r1
  obtain rfl : args = #[v0, v1] := by cases args; simp_all
  obtain ⟨rfl, rfl⟩ := trodVars_none hV
  simp only [List.append_nil] at hk
  have hbk : Rows.uptoBulkAll ([d0, d1] : List (DataW H)) ≤ 1048576 := of_decide_eq_true hk
  simp only [Rows.uptoBulkAll] at hbk
  obtain ⟨cs0, rfl, sz0⟩ := okWide_struct Tryz.underlying23 (hval 0 23 v0 rfl rfl)
  have k0 := h0
  have lt0 : ∀ x ∈ p0, x.block < W.heap.size := by obtain ⟨m, hm⟩ := k0; exact DataW.trod_lt m _ _ _ hm
  obtain ⟨gb0, gp0, gz0, gr0, rfl⟩ : ∃ b p z r, cs0 = #[.int .i64 b, .int .i64 p, .int .i64 z, .int .i64 r] := by
    obtain ⟨fuel, hf⟩ := h0
    exact garg_open sz0 hf
  obtain ⟨a1, len1, cap1, rfl⟩ := okWide_slice Tryz.underlying41 (hval 1 41 v1 rfl rfl)
  have k1 := h1
  have lt1 : ∀ x ∈ p1, x.block < W.heap.size := by obtain ⟨m, hm⟩ := k1; exact DataW.trod_lt m _ _ _ hm
  obtain ⟨l1, w1, b1⟩ : ∃ l, EArg W a1 len1 cap1 l ∧ len1 ≤ Rows.uptoBulk d1 := by
    obtain ⟨fuel, hf⟩ := h1
    obtain ⟨l, hl⟩ := earg_open hf
    exact ⟨l, hl, slice_bulk Tryz.underlying41 hf⟩
  clear hA0
  refine (walk gb0 gp0 gz0 gr0 a1 len1 cap1 l1 W (glb_of hL) (typed_of hL) w1 (by omega)).mono fun e W' ⟨he, bel⟩ => ?_
  subst he
  exact ⟨_, rfl, _, _, _, [], _, [], hW', trodAll_mk1 (shut_bool Tryz.underlying4 _), (trodAll_cons_mk (Below.trod laidOut (by kernel_rfl) (of_decide_eq_true (by kernel_rfl)) k0 bel lt0) (trodAll_cons_mk (Below.trod laidOut (by kernel_rfl) (of_decide_eq_true (by kernel_rfl)) k1 bel lt1) trodAll_mk0)), rfl, bel.frame _, fun h => by cases h⟩

theorem reads (os : Os) {H : Type} (enc : TypeId × Value → H) : ∃ places, DataW.whole enc Tryz.prog ((laidWorld os).forCall (fun _ _ => 0) ⟨#[], #[.agg #[.int .i64 0, .int .i64 0, .int .i64 0, .int .i64 0], .slice none 0 0], []⟩).memory Tryz.f4.params.toList Rows.ebmFormatsSpec.vars false (#[.agg #[.int .i64 0, .int .i64 0, .int .i64 0, .int .i64 0], .slice none 0 0] : Array Value).toList 8 = some ([.agg [.lit (.int .i64 0), .lit (.int .i64 0), .lit (.int .i64 0), .lit (.int .i64 0)], .nil], [], places) :=
  ⟨[], by kernel_rfl⟩
set_option maxRecDepth 100000 in
theorem lifted (os : Os) (started : os.Started) (H : Type) (enc : TypeId × Value → H) (F : Stop.Interp) :
    ReturnsInHanded {} Tryz.checked os 4 .any ((Rows.OpenSpec.upto Rows.ebmFormatsSpec).preRow enc Tryz.prog Tryz.f4 Rows.ebmFormatsUptoRow.domain false Rows.ebmFormatsUptoRow.laid) (((Rows.OpenSpec.upto Rows.ebmFormatsSpec).at F).post enc Tryz.prog Tryz.f4 false true false false) := by
  obtain ⟨places, hx⟩ := reads os enc
  refine returnsInHanded_of_row (C := Tryz.checked) (s := Rows.OpenSpec.upto Rows.ebmFormatsSpec) own started (by kernel_rfl) Tryz.func4
    (witness_row_at (enc := enc) (C := Tryz.checked) false (laidWorld os) #[.agg #[.int .i64 0, .int .i64 0, .int .i64 0, .int .i64 0], .slice none 0 0] (laid_os os) (by kernel_rfl) (by kernel_rfl) (by kernel_rfl)
      (OpenSpec.preRow_of_cond 8 hx (by kernel_rfl) (fun k hk => by cases hk; kernel_rfl) (by kernel_rfl) (laid_met os _))) ?_
  intro W base args ds gs before hval hW _ hk hsz hL _ _
  exact contract H enc W base args ds gs before hval hW (hk _ rfl) hL
theorem said : Rows.EbmFormatsUptoSaid :=
  OpenClaim.holds_of_cond 4 Tryz.f4 rfl rfl rfl rfl rfl rfl rfl ⟨rfl, rfl, rfl, rfl, rfl⟩ rfl rfl rfl rfl rfl (by kernel_rfl) Tryz.func4 (by kernel_rfl)
    (of_decide_eq_true (by kernel_rfl)) (by unfold Func.isWrapper; first | (rw [if_pos (by decide +kernel)]; kernel_rfl) | (rw [if_neg (by decide +kernel)]; exact ⟨rfl, rfl⟩))
    (fun os started H enc _ F => by rw [OpenClaim.pre_eq_preRow]; exact lifted os started H enc F)
set_option maxRecDepth 100000 in
theorem plain (f : FuncId) (fn : Func) (hf : Tryz.pinned.checked.prog.funcNamed "pumice/pumicelaw09.EbmFormats" = some f) (hfn : Tryz.pinned.checked.prog.funcs[f]? = some fn) :
    true = Tryz.pinned.checked.prog.looks [] ∧ ∀ (j : Nat) t, fn.params[j]? = some t → Tryz.pinned.checked.prog.wantsStandIn t = false := by
  obtain rfl : f = 4 := Option.some.inj ((show Tryz.prog.funcNamed "pumice/pumicelaw09.EbmFormats" = some 4 by kernel_rfl).symm.trans hf) |>.symm
  obtain rfl : fn = Tryz.f4 := (Option.some.inj (Tryz.func4.symm.trans hfn)).symm
  refine ⟨by kernel_rfl, fun j t ht => ?_⟩
  rw [Tryz.params4] at ht
  have hm : t = 23 ∨ t = 41 := by simpa using Array.mem_of_getElem? ht
  rcases hm with rfl | rfl
  · exact (show Tryz.prog.wantsStandIn 23 = false by kernel_rfl)
  · exact (show Tryz.prog.wantsStandIn 41 = false by kernel_rfl)
theorem card : Rows.EbmFormatsUptoCardSaid :=
  Claim7.holds_tied_plain_at .later [] _ _ _ _ said (fun _ h => by cases h) (by kernel_rfl) (fun _ h => by cases h) ebmFormatsUpto_row_tie rfl ⟨rfl, rfl⟩ (by kernel_rfl) rfl plain (by kernel_rfl)
end Go.Proofs.YtccfalafphjkpaaGreatDoor.ebmFormats

namespace Go.Proofs.YtccfalafphjkpaaGreatDoor
theorem ebmFormatsUpto_holds : Rows.EbmFormatsUptoCardSaid := ebmFormats.card
#print axioms ebmFormatsUpto_holds
end Go.Proofs.YtccfalafphjkpaaGreatDoor
