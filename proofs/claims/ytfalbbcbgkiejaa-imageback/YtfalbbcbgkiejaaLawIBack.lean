/-
  Proved: the statement that what was packed is unpacked, and that unlike nodes have unlike bytes (ImageBack), for every input.
-/
import Derived.Test.YtfalbbcbgkiejaaIBackM
import Derived.Test.YtfalbbcbgkiejaaIUnpL
import Derived.Test.YtfalbbcbgkiejaaISame
import Derived.Test.YtfalbbcbgkiejaaIChildM
import Derived.OwnWalk
namespace Go.Proofs.Ytfalbbcbgkiejaa.imageBack
open Go.ChangeShapes Go.WideShapes Go.ChangeAt Go.RowKit M
set_option maxRecDepth 10000

theorem imgL_lt (lv : Int) (l : List St) : ∀ x ∈ imgL lv l, x < 256 := by
  intro x hx
  unfold imgL at hx
  simp only [List.mem_append, List.mem_singleton, List.mem_flatMap] at hx
  rcases hx with ((rfl | h) | h) | ⟨s, _, h⟩
  · decide
  · exact putL_lt _ _ x h
  · exact putL_lt _ _ x h
  · unfold stL at h
    simp only [List.mem_append] at h
    rcases h with (((h | h) | h) | h) | h
    · exact putL_lt _ _ x h
    · exact nats_lt _ x h
    · exact putL_lt _ _ x h
    · exact putL_lt _ _ x h
    · exact putL_lt _ _ x h
theorem field_img (W : World) (x : Int) (a : Option Addr) (n c : Nat) : (Instr.field 31 (.agg #[.int .i64 x, .slice a n c]) 1).run Try.prog W = .ok (.slice a n c) W := by
  simp [go_sem, Instr.field, asAgg]
/-- Two boxes with images. -/
structure B2 (w W : World) (lv : Int) (a : Option Addr) (len cap : Nat) (l : List St) (lk : Int) (b : Option Addr) (m d : Nat) (k : List St) : Prop where
  x : Bx w W w.heap.size lv a len cap l
  y : Bx w W (w.heap.size + 1) lk b m d k
theorem B2.later {w W W' : World} {lv : Int} {a : Option Addr} {len cap : Nat} {l : List St} {lk : Int} {b : Option Addr} {m d : Nat} {k : List St} (h : B2 w W lv a len cap l lk b m d k) (hb : Below W.heap.size W W') : B2 w W' lv a len cap l lk b m d k := ⟨h.x.later hb, h.y.later hb⟩
theorem B2.bel {w W : World} {lv : Int} {a : Option Addr} {len cap : Nat} {l : List St} {lk : Int} {b : Option Addr} {m d : Nat} {k : List St} (h : B2 w W lv a len cap l lk b m d k) : Below w.heap.size w W := h.x.bel
/-- What Pack answers. -/
def PkPost (w : World) (lv : Int) (l : List St) (e : Ending) (w' : World) : Prop := ∃ (aa : Option Addr) (na ca : Nat) (er : Int), e = .returned (.tuple #[.slice aa na ca, .int .i64 er]) ∧ Below w.heap.size w w' ∧ (imgOk lv l = true → er = 0 ∧ na = (imgL lv l).length ∧ BRow w' aa (imgL lv l)) ∧ (imgOk lv l = false → er = 22 ∧ aa = none ∧ na = 0 ∧ ca = 0)
theorem pack_any (lv : Int) (a : Option Addr) (len cap : Nat) (l : List St) (w : World) (h : ZArg w a len cap l) :
    Calls Try.prog 9 #[.agg #[.int .i64 lv, .slice a len cap]] w fun e w' => PkPost w lv l e w' := by
  cases hi : imgOk lv l with
  | false =>
    refine (pack_no lv a len cap l w h hi).mono ?_
    rintro e w' ⟨rfl, hb⟩
    exact ⟨none, 0, 0, 22, rfl, hb, (fun e => by rw [hi] at e; cases e), fun _ => ⟨rfl, rfl, rfl, rfl⟩⟩
  | true =>
    refine (pack_yes lv a len cap l w h hi).mono ?_
    rintro e w' ⟨v, rfl, ho⟩
    obtain ⟨aa, ca, rfl, h1, _, _⟩ := ho.row
    exact ⟨aa, _, ca, 0, rfl, ho.2, (fun _ => ⟨rfl, rfl, h1⟩), (fun e => by rw [hi] at e; cases e)⟩
theorem b2_new {w W : World} {lv : Int} {a : Option Addr} {len cap : Nat} {l : List St} {lk : Int} {b : Option Addr} {m d : Nat} {k : List St} (h1 : ZArg w a len cap l) (h2 : ZArg w b m d k)
    (hW : W = (w.alloc (.cells #[.int .i64 lv, .slice a len cap] 24)).alloc (.cells #[.int .i64 lk, .slice b m d] 24)) : B2 w W lv a len cap l lk b m d k := by
  obtain ⟨r1, r2, hb⟩ := two_boxes w [.int .i64 lv, .slice a len cap] [.int .i64 lk, .slice b m d] 24 24 W hW
  exact ⟨⟨r1, h1.later hb, hb⟩, ⟨r2, h2.later hb, hb⟩⟩
set_option maxHeartbeats 8000000 in
theorem walk_no (lv : Int) (a : Option Addr) (len cap : Nat) (l : List St) (lk : Int) (b : Option Addr) (m d : Nat) (k : List St) (w : World) (hA : ZIn w a len cap l) (hs : cap * 40 ≤ 140737488351232) (hB : ZIn w b m d k) (ht : d * 40 ≤ 140737488351232) (hi : imgOk lv l = false) :
    Calls Try.prog 7 #[.agg #[.int .i64 lv, .slice a len cap], .agg #[.int .i64 lk, .slice b m d]] w fun e w' => e = .returned (.bool true) ∧ Below w.heap.size w w' := by
  have hlc := hA.arg.le
  have hmd := hB.arg.le
  have HM1 : Hid (∀ W, B2 w W lv a len cap l lk b m d k → Calls Try.prog 10 #[.agg #[.int .i64 lv, .slice a len cap]] W fun e w' => ∃ a1 n1 c1, e = .returned (.agg #[.int .i64 lv, .slice a1 n1 c1]) ∧ ZArg w' a1 n1 c1 l ∧ B2 w w' lv a len cap l lk b m d k) := fun W h => by
    refine (mine_any lv a len cap l W h.x.arg (by omega)).mono ?_
    rintro e w' ⟨a1, n1, c1, rfl, hz, _, hb⟩
    exact ⟨a1, n1, c1, rfl, hz, h.later hb⟩
  have HM2 : Hid (∀ W, B2 w W lv a len cap l lk b m d k → Calls Try.prog 10 #[.agg #[.int .i64 lk, .slice b m d]] W fun e w' => ∃ a1 n1 c1, e = .returned (.agg #[.int .i64 lk, .slice a1 n1 c1]) ∧ ZArg w' a1 n1 c1 k ∧ B2 w w' lv a len cap l lk b m d k) := fun W h => by
    refine (mine_any lk b m d k W h.y.arg (by omega)).mono ?_
    rintro e w' ⟨a1, n1, c1, rfl, hz, _, hb⟩
    exact ⟨a1, n1, c1, rfl, hz, h.later hb⟩
  have HP1 : Hid (∀ W a1 n1 c1, ZArg W a1 n1 c1 l → Calls Try.prog 9 #[.agg #[.int .i64 lv, .slice a1 n1 c1]] W fun e w' => e = .returned (.tuple #[.slice none 0 0, .int .i64 22]) ∧ Below W.heap.size W w') := fun W a1 n1 c1 h => pack_no lv a1 n1 c1 l W h hi
  have HP2 : Hid (∀ W a1 n1 c1, ZArg W a1 n1 c1 k → Calls Try.prog 9 #[.agg #[.int .i64 lk, .slice a1 n1 c1]] W fun e w' => ∃ aa na ca er, e = .returned (.tuple #[.slice aa na ca, .int .i64 er]) ∧ Below W.heap.size W w') := fun W a1 n1 c1 h => by
    refine (pack_any lk a1 n1 c1 k W h).mono ?_
    rintro e w' ⟨aa, na, ca, er, rfl, hb, _⟩
    exact ⟨aa, na, ca, er, rfl, hb⟩
  have HSz : Hid (∀ W a1 n1 c1, ZArg W a1 n1 c1 l → Calls Try.prog 14 #[.agg #[.int .i64 lv, .slice a1 n1 c1]] W fun e w' => e = .returned (.int .i64 0) ∧ Below W.heap.size W w') := fun W a1 n1 c1 h => by
    have := size_any lv a1 n1 c1 l W h
    unfold sizeN at this
    rwa [hi] at this
  obtain ⟨W0, hW0⟩ : ∃ W0, W0 = (w.alloc (.cells #[.int .i64 lv, .slice a len cap] 24)).alloc (.cells #[.int .i64 lk, .slice b m d] 24) := ⟨_, rfl⟩
  have G0 : Hid (B2 w W0 lv a len cap l lk b m d k) := b2_new hA.arg hB.arg hW0
  obtain ⟨x0, x1⟩ := G0.out.x.seen
  obtain ⟨y0, y1⟩ := G0.out.y.seen
  clear hA hB hs ht hi
  have M1 : Hid True := trivial
  have M2 : Hid True := trivial
  have M3 : Hid True := trivial
  go_enter Try.func7, Try.ntmps7
  go_wp2_with fail
  rw [← hW0]
  clear hW0
  go_wp2_with (first
    | (clear M1; go_at_call 10; refine (HM1.out _ G0.out).mono ?_; rintro e w1 ⟨a1, n1, c1, rfl, hz1, hb1⟩; have HZ1 : Hid (ZArg w1 a1 n1 c1 l) := hz1; have G1 : Hid (B2 w w1 lv a len cap l lk b m d k) := hb1; clear hz1 hb1 x0 x1 y0 y1)
    | (clear M2; go_at_call 9; refine (HP1.out _ _ _ _ HZ1.out).mono ?_; rintro e w2 ⟨rfl, hb2⟩; have G2 : Hid (B2 w w2 lv a len cap l lk b m d k) := G1.out.later hb2; obtain ⟨y0, y1⟩ := G2.out.y.seen; clear hb2)
    | (clear M3; go_at_call 10; refine (HM2.out _ G2.out).mono ?_; rintro e w3 ⟨a3, n3, c3, rfl, hz3, hb3⟩; have HZ3 : Hid (ZArg w3 a3 n3 c3 k) := hz3; have G3 : Hid (B2 w w3 lv a len cap l lk b m d k) := hb3; clear hz3 hb3 y0 y1)
    | (go_at_call 9; refine (HP2.out _ _ _ _ HZ3.out).mono ?_; rintro e w4 ⟨ab, nb, cb, er, rfl, hb4⟩; have G4 : Hid (B2 w w4 lv a len cap l lk b m d k) := G3.out.later hb4; obtain ⟨x0, x1⟩ := G4.out.x.seen; clear hb4)
    | (go_at_call 10; refine (HM1.out _ G4.out).mono ?_; rintro e w5 ⟨a5, n5, c5, rfl, hz5, hb5⟩; have HZ5 : Hid (ZArg w5 a5 n5 c5 l) := hz5; have G5 : Hid (B2 w w5 lv a len cap l lk b m d k) := hb5; clear hz5 hb5 x0 x1)
    | (go_at_call 14; refine (HSz.out _ _ _ _ HZ5.out).mono ?_; rintro e w6 ⟨rfl, hb6⟩; have G6 : Hid (B2 w w6 lv a len cap l lk b m d k) := G5.out.later hb6; clear hb6)
    | (go_at_call 16; refine (alive_any _).mono ?_; rintro e w7 ⟨rfl, hb7⟩; have HB7 : Hid (Below w.heap.size w w7) := bafter G6.out.bel hb7; clear hb7))
  go_ret
  exact ⟨rfl, HB7.out⟩
set_option maxHeartbeats 16000000 in
theorem walk_yes (lv : Int) (a : Option Addr) (len cap : Nat) (l : List St) (lk : Int) (b : Option Addr) (m d : Nat) (k : List St) (w : World) (hA : ZIn w a len cap l) (hs : cap * 40 ≤ 140737488351232) (hB : ZIn w b m d k) (ht : d * 40 ≤ 140737488351232) (hi : imgOk lv l = true) :
    Calls Try.prog 7 #[.agg #[.int .i64 lv, .slice a len cap], .agg #[.int .i64 lk, .slice b m d]] w fun e w' => e = .returned (.bool true) ∧ Below w.heap.size w w' := by
  have hlc := hA.arg.le
  have hmd := hB.arg.le
  have HM1 : Hid (∀ W, B2 w W lv a len cap l lk b m d k → Calls Try.prog 10 #[.agg #[.int .i64 lv, .slice a len cap]] W fun e w' => ∃ a1 n1 c1, e = .returned (.agg #[.int .i64 lv, .slice a1 n1 c1]) ∧ ZArg w' a1 n1 c1 l ∧ B2 w w' lv a len cap l lk b m d k ∧ Below W.heap.size W w') := fun W h => by
    refine (mine_any lv a len cap l W h.x.arg (by omega)).mono ?_
    rintro e w' ⟨a1, n1, c1, rfl, hz, _, hb⟩
    exact ⟨a1, n1, c1, rfl, hz, h.later hb, hb⟩
  have HM2 : Hid (∀ W, B2 w W lv a len cap l lk b m d k → Calls Try.prog 10 #[.agg #[.int .i64 lk, .slice b m d]] W fun e w' => ∃ a1 n1 c1, e = .returned (.agg #[.int .i64 lk, .slice a1 n1 c1]) ∧ ZArg w' a1 n1 c1 k ∧ B2 w w' lv a len cap l lk b m d k ∧ Below W.heap.size W w') := fun W h => by
    refine (mine_any lk b m d k W h.y.arg (by omega)).mono ?_
    rintro e w' ⟨a1, n1, c1, rfl, hz, _, hb⟩
    exact ⟨a1, n1, c1, rfl, hz, h.later hb, hb⟩
  obtain ⟨i1, ⟨i2, i3⟩, i4⟩ := imgOk_iff hi
  have hpk := pkN_le (rises_mem i4)
  obtain ⟨NA, hNA⟩ : ∃ NA, NA = (imgL lv l).length := ⟨_, rfl⟩
  have hNA2 : NA = 3 + pkN l := by rw [hNA, imgL_len]
  have HP1 : Hid (∀ W a1 n1 c1, ZArg W a1 n1 c1 l → Calls Try.prog 9 #[.agg #[.int .i64 lv, .slice a1 n1 c1]] W fun e w' => ∃ aa ca, e = .returned (.tuple #[.slice aa NA ca, .int .i64 0]) ∧ Below W.heap.size W w' ∧ BRow w' aa (imgL lv l)) := fun W a1 n1 c1 h => by
    refine (pack_any lv a1 n1 c1 l W h).mono ?_
    rintro e w' ⟨aa, na, ca, er, rfl, hb, h1, _⟩
    obtain ⟨rfl, h3, h4⟩ := h1 hi
    exact ⟨aa, ca, by rw [h3, ← hNA], hb, h4⟩
  have HP2 : Hid (∀ W a1 n1 c1, ZArg W a1 n1 c1 k → Calls Try.prog 9 #[.agg #[.int .i64 lk, .slice a1 n1 c1]] W fun e w' => ∃ aa na ca er, e = .returned (.tuple #[.slice aa na ca, .int .i64 er]) ∧ Below W.heap.size W w' ∧ (imgOk lk k = true → er = 0 ∧ na = (imgL lk k).length ∧ BRow w' aa (imgL lk k)) ∧ (imgOk lk k = false → er = 22)) := fun W a1 n1 c1 h => by
    refine (pack_any lk a1 n1 c1 k W h).mono ?_
    rintro e w' ⟨aa, na, ca, er, rfl, hb, h1, h2⟩
    exact ⟨aa, na, ca, er, rfl, hb, h1, fun q => (h2 q).1⟩
  have HSz : Hid (∀ W a1 n1 c1, ZArg W a1 n1 c1 l → Calls Try.prog 14 #[.agg #[.int .i64 lv, .slice a1 n1 c1]] W fun e w' => e = .returned (.int .i64 (6 + (NA : Int))) ∧ Below W.heap.size W w') := fun W a1 n1 c1 h => by
    have := size_any lv a1 n1 c1 l W h
    unfold sizeN at this
    rw [hi, if_pos rfl, show ((9 + pkN l : Nat) : Int) = 6 + (NA : Int) by omega] at this
    exact this
  have HUn : Hid (∀ W aa ca, BRow W aa (imgL lv l) → Calls Try.prog 17 #[.slice aa NA ca] W fun e w' => ∃ xa xn xc, e = .returned (.tuple #[.agg #[.int .i64 lv, .slice xa xn xc], .bool true]) ∧ ZArg w' xa xn xc l ∧ Below W.heap.size W w') := fun W aa ca hr => by
    refine (unpack_any aa NA ca (imgL lv l) W hNA (by unfold maxLen; omega) hr).mono ?_
    rintro e w' ⟨x1, xa, xn, xc, ok, rfl, hb, h1, _⟩
    obtain ⟨rfl, rfl, hz⟩ := h1 _ _ (upk_back hi)
    exact ⟨xa, xn, xc, by rw [nat_toNat i1.1], hz, hb⟩
  have HSm : Hid (∀ W xa xn xc, ZArg W xa xn xc l → B2 w W lv a len cap l lk b m d k → Calls Try.prog 19 #[.slice xa xn xc, .slice a len cap] W fun e w' => e = .returned (.bool true) ∧ Below W.heap.size W w') := fun W xa xn xc h1 h2 => by
    have := same_any xa a xn len xc cap l l W h1 h2.x.arg
    rwa [eqL_iff.2 rfl] at this
  have HEq : Hid (∀ W xa xn xc ya yn yc, ZArg W xa xn xc l → ZArg W ya yn yc k → Calls Try.prog 29 #[.slice xa xn xc, .slice ya yn yc] W fun e w' => e = .returned (.bool (eqL l k)) ∧ Below W.heap.size W w') := fun W xa xn xc ya yn yc h1 h2 => equal_any xa ya xn yn xc yc l k W h1 h2
  obtain ⟨SA, hSA⟩ : ∃ S, S = bs (u8s (imgL lv l)) := ⟨_, rfl⟩
  obtain ⟨SB, hSB⟩ : ∃ S, S = bs (u8s (imgL lk k)) := ⟨_, rfl⟩
  have HCA : Hid (∀ W aa ca, BRow W aa (imgL lv l) → (convert 25 9 (.slice aa NA ca)).run Try.prog W = .ok (.string SA) W) := fun W aa ca h => by rw [hNA, hSA]; exact conv_row ca h
  have HCB : Hid (∀ W aa ca, BRow W aa (imgL lk k) → (convert 25 9 (.slice aa (imgL lk k).length ca)).run Try.prog W = .ok (.string SB) W) := fun W aa ca h => by rw [hSB]; exact conv_row ca h
  have HSS : Hid (imgOk lk k = true → (SA.toList == SB.toList) = ((lv == lk) && eqL l k)) := fun hk => by
    rw [hSA, hSB, bs_beq]
    have e1 := img_inj hi hk
    have e2 : u8s (imgL lv l) = u8s (imgL lk k) ↔ imgL lv l = imgL lk k := by
      constructor
      · intro q
        have lt1 : ∀ x ∈ imgL lv l, x < 256 := imgL_lt lv l
        have lt2 : ∀ x ∈ imgL lk k, x < 256 := imgL_lt lk k
        have := congrArg nats q
        rwa [nats_u8s lt1, nats_u8s lt2] at this
      · intro q; rw [q]
    rw [Bool.eq_iff_iff, decide_eq_true_iff, e2, e1, Bool.and_eq_true, beq_iff_eq, eqL_iff]
  have hN5 : NA ≤ 579 := by omega
  obtain ⟨W0, hW0⟩ : ∃ W0, W0 = (w.alloc (.cells #[.int .i64 lv, .slice a len cap] 24)).alloc (.cells #[.int .i64 lk, .slice b m d] 24) := ⟨_, rfl⟩
  have G0 : Hid (B2 w W0 lv a len cap l lk b m d k) := b2_new hA.arg hB.arg hW0
  obtain ⟨x0, x1⟩ := G0.out.x.seen
  obtain ⟨y0, y1⟩ := G0.out.y.seen
  obtain ⟨LA, hLA⟩ : ∃ L, L = imgL lv l := ⟨_, rfl⟩
  obtain ⟨LB, hLB⟩ : ∃ L, L = imgL lk k := ⟨_, rfl⟩
  rw [← hLA] at HP1 HUn HCA
  rw [← hLB] at HP2 HCB
  clear hA hB hs ht hi hNA hNA2 hpk i1 i2 i3 i4 hSA hSB hLA hLB
  have hle5 : ¬ (579 : Int) < (NA : Int) := by omega
  have M1 : Hid True := trivial
  have M2 : Hid True := trivial
  have M3 : Hid True := trivial
  go_enter Try.func7, Try.ntmps7
  go_wp2_with fail
  rw [← hW0]
  clear hW0
  go_wp2_with (first
    | (clear M1; go_at_call 10; refine (HM1.out _ G0.out).mono ?_; rintro e w1 ⟨a1, n1, c1, rfl, hz1, hb1, _⟩; have HZ1 : Hid (ZArg w1 a1 n1 c1 l) := hz1; have G1 : Hid (B2 w w1 lv a len cap l lk b m d k) := hb1; clear hz1 hb1 x0 x1 y0 y1)
    | (clear M2; go_at_call 9; refine (HP1.out _ _ _ _ HZ1.out).mono ?_; rintro e w2 ⟨aa, ca, rfl, hb2, hr2⟩; have HR2 : Hid (BRow w2 aa LA) := hr2; have G2 : Hid (B2 w w2 lv a len cap l lk b m d k) := G1.out.later hb2; obtain ⟨y0, y1⟩ := G2.out.y.seen; clear hb2 hr2)
    | (clear M3; go_at_call 10; refine (HM2.out _ G2.out).mono ?_; rintro e w3 ⟨a3, n3, c3, rfl, hz3, hb3, hc3⟩; have HZ3 : Hid (ZArg w3 a3 n3 c3 k) := hz3; have HR3 : Hid (BRow w3 aa LA) := HR2.out.later hc3; have G3 : Hid (B2 w w3 lv a len cap l lk b m d k) := hb3; clear hz3 hb3 hc3 y0 y1)
    | (go_at_call 9; refine (HP2.out _ _ _ _ HZ3.out).mono ?_; rintro e w4 ⟨ab, nb, cb, er, rfl, hb4, hr4, hq4⟩; have HR4 : Hid (BRow w4 aa LA) := HR3.out.later hb4; have HQ4 : Hid ((imgOk lk k = true → er = 0 ∧ nb = LB.length ∧ BRow w4 ab LB) ∧ (imgOk lk k = false → er = 22)) := ⟨hr4, hq4⟩; have G4 : Hid (B2 w w4 lv a len cap l lk b m d k) := G3.out.later hb4; obtain ⟨x0, x1⟩ := G4.out.x.seen; clear hb4 hr4 hq4)
    | (go_at_call 17; refine (HUn.out _ _ _ HR4.out).mono ?_; rintro e w5 ⟨xa, xn, xc, rfl, hz5, hb5⟩; have HZ5 : Hid (ZArg w5 xa xn xc l) := hz5; have HB5 : Hid (Below w4.heap.size w4 w5) := hb5; have G5 : Hid (B2 w (w5.alloc (.cells #[.int .i64 lv, .slice xa xn xc] 31)) lv a len cap l lk b m d k) := (G4.out.later hb5).later (below_new _ _); clear x0 x1; obtain ⟨x0, x1⟩ := G5.out.x.seen; clear hz5 hb5)
    | (go_at_call 19; refine (HSm.out _ _ _ _ (HZ5.out.later (below_new _ _)) G5.out).mono ?_; rintro e w6 ⟨rfl, hb6⟩; have G6 : Hid (B2 w w6 lv a len cap l lk b m d k) := G5.out.later hb6; have HB6 : Hid (Below w4.heap.size w4 w6) := bafter (bafter HB5.out (below_new _ _)) hb6; clear x0 x1; obtain ⟨x0, x1⟩ := G6.out.x.seen; clear hb6)
    | (go_at_call 10; refine (HM1.out _ G6.out).mono ?_; rintro e w7 ⟨a7, n7, c7, rfl, hz7, hb7, hc7⟩; have HZ7 : Hid (ZArg w7 a7 n7 c7 l) := hz7; have HB7 : Hid (Below w4.heap.size w4 w7) := bafter HB6.out hc7; have G7 : Hid (B2 w w7 lv a len cap l lk b m d k) := hb7; clear hz7 hb7 hc7 x0 x1)
    | (go_at_call 14; refine (HSz.out _ _ _ _ HZ7.out).mono ?_; rintro e w8 ⟨rfl, hb8⟩; have G8 : Hid (B2 w w8 lv a len cap l lk b m d k) := G7.out.later hb8; have HB8 : Hid (Below w4.heap.size w4 w8) := bafter HB7.out hb8; obtain ⟨x0, x1⟩ := G8.out.x.seen; obtain ⟨y0, y1⟩ := G8.out.y.seen; clear hb8))
  have HRA : Hid (∀ W, Below w8.heap.size w8 W → (convert 25 9 (.slice aa NA ca)).run Try.prog W = .ok (.string SA) W) := fun W hb => HCA.out W aa ca (HR4.out.later (bafter HB8.out hb))
  cases hk : imgOk lk k with
  | false =>
    have her : er = 22 := HQ4.out.2 hk
    subst her
    by_cases hlk : lv = lk
    · subst hlk
      have hbq : (lv == lv) = true := by simp
      have hfl := fun W a n c => field_img W lv a n c
      have M1 : Hid True := trivial
      go_region_held3 (fun w' => w'.cell? ⟨w.heap.size, 0, none⟩ = some (.int .i64 lv) ∧ w'.cell? ⟨w.heap.size, 1, none⟩ = some (.slice a len cap) ∧ w'.cell? ⟨w.heap.size + 1, 0, none⟩ = some (.int .i64 lv) ∧ w'.cell? ⟨w.heap.size + 1, 1, none⟩ = some (.slice b m d)) (first | assumption | go_keep) (first
        | (clear M1; go_at_call 10; refine (HM1.out w8.drew (G8.out.later (below_drawn w8 1))).mono ?_; rintro e w9 ⟨a9, n9, c9, rfl, hz9, hb9, _⟩; have HZ9 : Hid (ZArg w9 a9 n9 c9 l) := hz9; have G9 : Hid (B2 w w9 lv a len cap l lv b m d k) := hb9; have p0 := hb9.x.seen.1; have p1 := hb9.x.seen.2; have p2 := hb9.y.seen.1; have p3 := hb9.y.seen.2; clear hz9 hb9)
        | (go_at_call 10; refine (HM2.out w9 G9.out).mono ?_; rintro e w10 ⟨a10, n10, c10, rfl, hz10, hb10, hc10⟩; have HZ10 : Hid (ZArg w10 a10 n10 c10 k) := hz10; have HZ9' : Hid (ZArg w10 a9 n9 c9 l) := HZ9.out.later hc10; have G10 : Hid (B2 w w10 lv a len cap l lv b m d k) := hb10; have q0 := hb10.x.seen.1; have q1 := hb10.x.seen.2; have q2 := hb10.y.seen.1; have q3 := hb10.y.seen.2; clear hz10 hb10 hc10)
        | (go_at_call 29; refine (HEq.out w10 _ _ _ _ _ _ HZ9'.out HZ10.out).mono ?_; rintro e w11 ⟨rfl, hb11⟩; have G11 : Hid (B2 w w11 lv a len cap l lv b m d k) := G10.out.later hb11; have r0 := G11.out.x.seen.1; have r1 := G11.out.x.seen.2; have r2 := G11.out.y.seen.1; have r3 := G11.out.y.seen.2; clear hb11))
      go_wp2
      go_ret
      exact ⟨rfl, G11.out.bel⟩
    · have hbq : (lv == lk) = false := by simpa using hlk
      go_quiet (fail)
      go_wp2
      go_ret
      exact ⟨rfl, bafter G8.out.bel (below_drawn _ _)⟩
  | true =>
    obtain ⟨her, hnb, hrb⟩ := HQ4.out.1 hk
    subst her hnb
    have HRB : Hid (∀ W, Below w8.heap.size w8 W → (convert 25 9 (.slice ab LB.length cb)).run Try.prog W = .ok (.string SB) W) := fun W hb => HCB.out W ab cb (hrb.later (bafter HB8.out hb))
    have hss := HSS.out hk
    obtain ⟨NB, hNB⟩ : ∃ NB, NB = LB.length := ⟨_, rfl⟩
    rw [← hNB] at HRB ⊢
    clear hrb hNB
    by_cases hlk : lv = lk
    · subst hlk
      have hbq : (lv == lv) = true := by simp
      have hfl := fun W a n c => field_img W lv a n c
      rw [hbq, Bool.true_and] at hss
      obtain ⟨E, hE⟩ : ∃ E, E = eqL l k := ⟨_, rfl⟩
      rw [← hE] at HEq hss
      clear hE
      cases E
      all_goals
        have M1 : Hid True := trivial
        have HSQ : Hid ((SA.toList == SB.toList) = _) := hss
        clear hss
        go_region_held3 (fun w' => w'.cell? ⟨w.heap.size, 0, none⟩ = some (.int .i64 lv) ∧ w'.cell? ⟨w.heap.size, 1, none⟩ = some (.slice a len cap) ∧ w'.cell? ⟨w.heap.size + 1, 0, none⟩ = some (.int .i64 lv) ∧ w'.cell? ⟨w.heap.size + 1, 1, none⟩ = some (.slice b m d)) (first | assumption | go_keep) (first
          | (clear M1; go_at_call 10; refine (HM1.out w8.drew (G8.out.later (below_drawn w8 1))).mono ?_; rintro e w9 ⟨a9, n9, c9, rfl, hz9, hb9, hc9⟩; have HC9 : Hid (Below w8.heap.size w8 w9) := bafter (below_drawn w8 1) hc9; have HZ9 : Hid (ZArg w9 a9 n9 c9 l) := hz9; have G9 : Hid (B2 w w9 lv a len cap l lv b m d k) := hb9; have p0 := hb9.x.seen.1; have p1 := hb9.x.seen.2; have p2 := hb9.y.seen.1; have p3 := hb9.y.seen.2; clear hz9 hb9 hc9)
          | (go_at_call 10; refine (HM2.out w9 G9.out).mono ?_; rintro e w10 ⟨a10, n10, c10, rfl, hz10, hb10, hc10⟩; have HC10 : Hid (Below w8.heap.size w8 w10) := bafter HC9.out hc10; have HZ10 : Hid (ZArg w10 a10 n10 c10 k) := hz10; have HZ9' : Hid (ZArg w10 a9 n9 c9 l) := HZ9.out.later hc10; have G10 : Hid (B2 w w10 lv a len cap l lv b m d k) := hb10; have q0 := hb10.x.seen.1; have q1 := hb10.x.seen.2; have q2 := hb10.y.seen.1; have q3 := hb10.y.seen.2; clear hz10 hb10 hc10)
          | (go_at_call 29; refine (HEq.out w10 _ _ _ _ _ _ HZ9'.out HZ10.out).mono ?_; rintro e w11 ⟨rfl, hb11⟩; have HC11 : Hid (Below w8.heap.size w8 w11) := bafter HC10.out hb11; have G11 : Hid (B2 w w11 lv a len cap l lv b m d k) := G10.out.later hb11; have r0 := G11.out.x.seen.1; have r1 := G11.out.x.seen.2; have r2 := G11.out.y.seen.1; have r3 := G11.out.y.seen.2; clear hb11))
        have hca := HRA.out w11 HC11.out
        have hcb := HRB.out w11 HC11.out
        have hss := HSQ.out
        go_wp2_with (go_at_call 16; refine (alive_any _).mono ?_; rintro e w12 ⟨rfl, hb12⟩; have HB12 : Hid (Below w.heap.size w w12) := bafter G11.out.bel hb12; clear hb12)
        go_ret
        exact ⟨rfl, HB12.out⟩
    · have hbq : (lv == lk) = false := by simpa using hlk
      rw [hbq, Bool.false_and] at hss
      have HSQ : Hid ((SA.toList == SB.toList) = false) := hss
      clear hss hlk
      have hca := fun nq => HRA.out (w8.drewN nq) (below_drawn w8 nq)
      have hcb := fun nq => HRB.out (w8.drewN nq) (below_drawn w8 nq)
      go_quiet (fail)
      have hss := HSQ.out
      go_wp2_with (go_at_call 16; refine (alive_any _).mono ?_; rintro e w12 ⟨rfl, hb12⟩; have HB12 : Hid (Below w.heap.size w w12) := bafter (bafter G8.out.bel (below_drawn w8 _)) hb12; clear hb12)
      go_ret
      exact ⟨rfl, HB12.out⟩
theorem walk (lv : Int) (a : Option Addr) (len cap : Nat) (l : List St) (lk : Int) (b : Option Addr) (m d : Nat) (k : List St) (w : World) (_ : i64B lv) (hA : ZIn w a len cap l) (hs : cap * 40 ≤ 140737488351232) (_ : i64B lk) (hB : ZIn w b m d k) (ht : d * 40 ≤ 140737488351232) :
    Calls Try.prog 7 #[.agg #[.int .i64 lv, .slice a len cap], .agg #[.int .i64 lk, .slice b m d]] w fun e w' => e = .returned (.bool true) ∧ Below w.heap.size w w' := by
  cases hi : imgOk lv l with
  | false => exact walk_no lv a len cap l lk b m d k w hA hs hB ht hi
  | true => exact walk_yes lv a len cap l lk b m d k w hA hs hB ht hi
set_option maxRecDepth 100000 in
theorem lifted (os : Os) (started : os.Started) (H : Type) (enc : TypeId × Value → H) :
    ReturnsInHanded {} Try.checked os 7 .any (Rows.imageBackSpec.pre6 enc Try.prog Try.f7 Rows.imageBackRow.domain false) (Rows.imageBackSpec.post enc Try.prog Try.f7 false true false false) := by
  refine returnsInHanded_of_change_sized (C := Try.checked) own started (by kernel_rfl) Try.func7
    (ChangeSpec.witness6 (enc := enc) (C := Try.checked) false ⟨#[], #[.agg #[.int .i64 0, .slice none 0 0], .agg #[.int .i64 0, .slice none 0 0]], []⟩ 8 (by kernel_rfl) (by kernel_rfl) (by kernel_rfl) (by kernel_rfl)) ?_
  intro W base args ds gs before hval0 hW hcnd hsz0 _
  have hval : ∀ (j : Nat) t v, Try.f7.params[j]? = some t → args[j]? = some v → Value.okWide Try.prog W .any base t v := hval0
  have hsz : (DataW.weightsEach Try.prog (Try.f7.params.toList ++ Rows.imageBackSpec.plain.varTypes Try.prog) (ds ++ gs)).all (· ≤ reachBytes) = true := hsz0
  have hW' := hW
  obtain ⟨p, q, hA0, hV, rfl, hfz, hnd⟩ := hW
  have hA : DataW.TrodAll enc Try.prog W 0 (fun _ => true) true Try.f7.params.toList args.toList ds p := hA0
  rw [Try.params7] at hA hval hsz
  obtain ⟨v0, vs0, d0, ds0, p0, q0, hargs, rfl, rfl, h0, r0⟩ := trodAll_cons hA
  obtain ⟨v1, vs1, d1, ds1, p1, q1, rfl, rfl, rfl, h1, r1⟩ := trodAll_cons r0
  obtain ⟨rfl, rfl, rfl⟩ := trodAll_nil r1
  obtain rfl : args = #[v0, v1] := by cases args; simp_all
  obtain ⟨rfl, rfl⟩ := trodVars_none hV
  obtain ⟨cs0, rfl, sz0⟩ := okWide_struct Try.underlying24 (hval 0 24 v0 rfl rfl)
  have k0 := h0
  have lt0 : ∀ x ∈ p0, x.block < W.heap.size := by obtain ⟨m, hm⟩ := k0; exact DataW.trod_lt m _ _ _ hm
  obtain ⟨lv0, a0, len0, cap0, l0, rfl, b0, w0, s0⟩ : ∃ lv a len cap l, cs0 = #[.int .i64 lv, .slice a len cap] ∧ i64B lv ∧ ZIn W a len cap l ∧ cap * 40 ≤ 140737488351232 := by
    obtain ⟨fuel, hf⟩ := h0
    obtain ⟨lv, a, len, cap, l, e, hb, hl, hd⟩ := iarg_open sz0 hf
    refine ⟨lv, a, len, cap, l, e, hb, hl, ?_⟩
    rcases hd with h | ⟨d0, elems, spare, rfl, hc⟩
    · omega
    have := sized_img hsz (j := 0) rfl rfl
    rw [hc] at this
    simp only [reachBytes] at this
    omega
  obtain ⟨cs1, rfl, sz1⟩ := okWide_struct Try.underlying24 (hval 1 24 v1 rfl rfl)
  have k1 := h1
  have lt1 : ∀ x ∈ p1, x.block < W.heap.size := by obtain ⟨m, hm⟩ := k1; exact DataW.trod_lt m _ _ _ hm
  obtain ⟨lv1, a1, len1, cap1, l1, rfl, b1, w1, s1⟩ : ∃ lv a len cap l, cs1 = #[.int .i64 lv, .slice a len cap] ∧ i64B lv ∧ ZIn W a len cap l ∧ cap * 40 ≤ 140737488351232 := by
    obtain ⟨fuel, hf⟩ := h1
    obtain ⟨lv, a, len, cap, l, e, hb, hl, hd⟩ := iarg_open sz1 hf
    refine ⟨lv, a, len, cap, l, e, hb, hl, ?_⟩
    rcases hd with h | ⟨d0, elems, spare, rfl, hc⟩
    · omega
    have := sized_img hsz (j := 1) rfl rfl
    rw [hc] at this
    simp only [reachBytes] at this
    omega
  clear hA0 hval0
  refine (walk lv0 a0 len0 cap0 l0 lv1 a1 len1 cap1 l1 W b0 w0 s0 b1 w1 s1).mono fun e W' ⟨he, bel⟩ => ?_
  subst he
  exact ⟨_, rfl, _, _, _, [], _, [], hW', trodAll_mk1 (shut_bool Try.underlying4 _), (trodAll_cons_mk (Below.trod laidOut (by kernel_rfl) (of_decide_eq_true (by kernel_rfl)) k0 bel lt0) (trodAll_cons_mk (Below.trod laidOut (by kernel_rfl) (of_decide_eq_true (by kernel_rfl)) k1 bel lt1) trodAll_mk0)), rfl, bel.frame _, fun h => by cases h⟩

theorem over : Rows.imageBackRow.holds Try.pinned (OpenSpec.ofChange Rows.imageBackSpec) :=
  OpenClaim.holds_of_wide 7 Try.f7 rfl rfl rfl rfl rfl rfl rfl ⟨rfl, rfl, rfl, rfl, rfl⟩ rfl rfl rfl rfl rfl (by kernel_rfl) Try.func7 (by kernel_rfl)
    (of_decide_eq_true (by kernel_rfl)) (by unfold Func.isWrapper; first | (rw [if_pos (by decide +kernel)]; kernel_rfl) | (rw [if_neg (by decide +kernel)]; exact ⟨rfl, rfl⟩))
    (fun os started H enc _ => lifted os started H enc)
end Go.Proofs.Ytfalbbcbgkiejaa.imageBack

namespace Go.Proofs.Ytfalbbcbgkiejaa
theorem imageBack_holds : Rows.ImageBackSaid := imageBack.over
#print axioms imageBack_holds
end Go.Proofs.Ytfalbbcbgkiejaa
