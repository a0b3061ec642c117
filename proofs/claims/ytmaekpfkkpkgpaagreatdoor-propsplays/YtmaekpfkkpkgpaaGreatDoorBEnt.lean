/-
  begun and enter: what a line of a text makes of a book.
-/
import Derived.Test.YtmaekpfkkpkgpaaGreatDoorBRow2
import Derived.Test.YtmaekpfkkpkgpaaGreatDoorBNew
import Derived.Deep.RegionHeld3
namespace Go.Proofs.YtmaekpfkkpkgpaaGreatDoor
open Go.RowKit Go.Shelf
set_option maxRecDepth 10000

/-- The book of which these are the first line's numbers. -/
def begF (ns : List Int) : Option (Int × List PB) := match ns with
  | [n, size] => if newOk n size then some (size, List.replicate n.toNat PB.none) else none
  | _ => none
/-- The book behind a line more. -/
def entF (size : Int) (l : List PB) (ns : List Int) (c : Bool) : Option (List PB) := match ns with
  | [leb, use, used, live] =>
    if (takeF l leb use).1 ≠ 0 then none else if (useF size (takeF l leb use).2 leb used).1 ≠ 0 then none else if live < 0 then none else if (killF (useF size (takeF l leb use).2 leb used).2 leb (used - live)).1 ≠ 0 then none else if c = false then some (killF (useF size (takeF l leb use).2 leb used).2 leb (used - live)).2 else
      if (closeF (killF (useF size (takeF l leb use).2 leb used).2 leb (used - live)).2 leb).1 ≠ 0 then none else some (closeF (killF (useF size (takeF l leb use).2 leb used).2 leb (used - live)).2 leb).2
  | _ => none
/-- A line's numbers, as they lie. -/
structure Nums (w : World) (v : Value) (ns : List Int) (base : Nat) : Prop where
  own : w.ownsRow base 3 1 v ns.length (ns.map intV)
  bnd : ∀ x ∈ ns, -9223372036854775808 ≤ x ∧ x ≤ 9223372036854775807
theorem Nums.later {w W : World} {v : Value} {ns : List Int} {base : Nat} (h : Nums w v ns base) (hb : Below w.heap.size w W) : Nums W v ns base := ⟨owns_later h.own hb, h.bnd⟩
theorem Nums.row {w : World} {v : Value} {ns : List Int} {base : Nat} (h : Nums w v ns base) (hn : 0 < ns.length) : ∃ g cap, v = .slice (some ⟨g, 0, none⟩) ns.length cap ∧ Row w g (ns.map intV) 3 := by
  obtain ⟨g, cap, h1, _, _, _, h2⟩ := Row.of_owns h.own hn
  exact ⟨g, cap, h1, h2⟩
set_option maxHeartbeats 1000000 in
theorem begun_len {w : World} (a : Option Addr) (m cap : Nat) (c : Bool) (h : ¬ m = 2) :
    Calls Tryz.prog 60 #[.agg #[.slice a m cap, .bool c]] w fun e w' => e = .returned (.tuple #[.pointer none, .bool false]) ∧ Below w.heap.size w w' := by
  have e1 : ((m : Int) != 2) = true := by simp; omega
  clear h
  go_enter Tryz.func60, Tryz.ntmps60
  go_wp2
  go_ret2
  exact ⟨rfl, below_new _ _⟩
set_option maxHeartbeats 2000000 in
theorem begun_no {w : World} {g cap : Nat} {n size : Int} (c : Bool) (hr : Row w g [.int .i64 n, .int .i64 size] 3) (hok : ¬ newOk n size) :
    Calls Tryz.prog 60 #[.agg #[.slice (some ⟨g, 0, none⟩) 2 cap, .bool c]] w fun e w' => e = .returned (.tuple #[.pointer none, .bool false]) ∧ Below w.heap.size w w' := by
  obtain ⟨X, hX⟩ : ∃ X, X = w.alloc (.cells #[.slice (some ⟨g, 0, none⟩) 2 cap, .bool c] 92) := ⟨_, rfl⟩
  have hbX : Below w.heap.size w X := by rw [hX]; exact below_new _ _
  have hrX : Row X w.heap.size [.slice (some ⟨g, 0, none⟩) 2 cap, .bool c] 92 := by rw [hX]; exact Row.new _ _ _
  have c0 := hrX.cell (i := 0) rfl
  have r0 := (hr.later hbX).cell (i := 0) rfl
  have r1 := (hr.later hbX).cell (i := 1) rfl
  have kN := hidW (fun W => new_no n size hok W)
  have HB := hidW hbX
  clear hr hbX hrX hok
  go_enter Tryz.func60, Tryz.ntmps60
  go_wp2_with fail
  rw [← hX]
  clear hX
  go_wp2_with fail
  go_region_held3 (fun w' => w'.cell? ⟨w.heap.size, 0, none⟩ = some (.slice (some ⟨g, 0, none⟩) 2 cap) ∧ w'.cell? ⟨g, 0, none⟩ = some (.int .i64 n) ∧ w'.cell? ⟨g, 1, none⟩ = some (.int .i64 size)) (first | assumption | go_keep) (first
    | (go_at_call 5; refine (kN.out _).mono ?_; rintro e w1 ⟨rfl, rfl⟩))
  go_wp2
  go_ret2
  exact ⟨rfl, HB.out.drew⟩
set_option maxHeartbeats 2000000 in
theorem begun_go {w : World} {g cap n : Nat} {size : Int} (c : Bool) (hr : Row w g [.int .i64 (n : Nat), .int .i64 size] 3) (hok : newOk n size) :
    Calls Tryz.prog 60 #[.agg #[.slice (some ⟨g, 0, none⟩) 2 cap, .bool c]] w fun e w' => ∃ p q, e = .returned (.tuple #[.pointer (some ⟨p, 0, none⟩), .bool true]) ∧ BLies w' p q n size (List.replicate n PB.none) ∧ w.heap.size ≤ p ∧ w.heap.size ≤ q ∧ Below w.heap.size w w' := by
  obtain ⟨X, hX⟩ : ∃ X, X = w.alloc (.cells #[.slice (some ⟨g, 0, none⟩) 2 cap, .bool c] 92) := ⟨_, rfl⟩
  have hbX : Below w.heap.size w X := by rw [hX]; exact below_new _ _
  have hrX : Row X w.heap.size [.slice (some ⟨g, 0, none⟩) 2 cap, .bool c] 92 := by rw [hX]; exact Row.new _ _ _
  have c0 := hrX.cell (i := 0) rfl
  have r0 := (hr.later hbX).cell (i := 0) rfl
  have r1 := (hr.later hbX).cell (i := 1) rfl
  have kN := hidW (fun W => new_go n size hok W)
  have HB := hidW hbX
  have HR := hidW hr
  have HRX := hidW hrX
  clear hr hbX hrX hok
  go_enter Tryz.func60, Tryz.ntmps60
  go_wp2_with fail
  rw [← hX]
  clear hX
  go_wp2_with fail
  go_region_held3 (fun w' => w'.cell? ⟨w.heap.size, 0, none⟩ = some (.slice (some ⟨g, 0, none⟩) 2 cap) ∧ w'.cell? ⟨g, 0, none⟩ = some (.int .i64 n) ∧ w'.cell? ⟨g, 1, none⟩ = some (.int .i64 size)) (first | assumption | go_keep) (first
    | (go_at_call 5; refine (kN.out _).mono ?_; rintro e w1 ⟨rfl, hl1, hb1⟩; have d0 := (HRX.out.drew.later hb1).cell (i := 0) rfl; have d1 := ((HR.out.later HB.out).drew.later hb1).cell (i := 0) rfl; have d2 := ((HR.out.later HB.out).drew.later hb1).cell (i := 1) rfl; have HL1 := hidW hl1; have HB1 := hidW hb1; clear hl1 hb1))
  go_wp2
  go_ret2
  have := HB.out.size
  exact ⟨X.heap.size + 1, X.heap.size, rfl, HL1.out, by omega, this, Below.after HB.out.drew HB1.out⟩
set_option maxHeartbeats 1000000 in
theorem enter_len {w : World} (p : Nat) (a : Option Addr) (m cap : Nat) (c : Bool) (h : ¬ m = 4) :
    Calls Tryz.prog 61 #[.pointer (some ⟨p, 0, none⟩), .agg #[.slice a m cap, .bool c]] w fun e w' => e = .returned (.bool false) ∧ Below w.heap.size w w' := by
  have e1 : ((m : Int) != 4) = true := by simp; omega
  clear h
  go_enter Tryz.func61, Tryz.ntmps61
  go_wp2
  go_ret
  exact ⟨rfl, below_new _ _⟩
theorem Left.trans {w w1 w2 : World} {p q cap : Nat} {size : Int} {l l2 : List PB} (h : Left w w1 p q cap size l) (h2 : Left w1 w2 p q cap size l2) : Left w w2 p q cap size l2 := ⟨h2.1, h.2.trans h2.2⟩
theorem Left.kept {w w1 : World} {p q cap : Nat} {size : Int} {l0 l : List PB} (h0 : BLies w p q cap size l0) (h : Left w w1 p q cap size l) {B : Nat} {cs : List Value} {t : TypeId} (hr : Row w B cs t) (ht : t ≠ 54) : Row w1 B cs t := hr.kept h.2 (hr.ne h0.row ht)
theorem use_zero {size : Int} {l : List PB} (hO : AllOk size l) {leb n : Int} (h : (useF size l leb n).1 = 0) : 0 ≤ n ∧ n ≤ size := by
  unfold useF at h
  split at h
  · simp at h
  · rename_i x hx
    have hm := hO x (blk_mem hx).1
    have h1 := hm.l0
    have h2 := hm.lu
    split at h
    · simp at h
    · split at h
      · simp at h
      · split at h
        · simp at h
        · split at h
          · simp at h
          · omega
/-- What enter leaves. -/
def EntP (w : World) (p q cap : Nat) (size : Int) (o : Option (List PB)) (e : Ending) (w' : World) : Prop :=
  e = .returned (.bool o.isSome) ∧ ∃ l', Left w w' p q cap size l' ∧ ∀ l2, o = some l2 → l' = l2
set_option maxHeartbeats 4000000 in
theorem enter_go {w : World} {p q cap : Nat} {size : Int} {l : List PB} (h : BLies w p q cap size l) (hO : AllOk size l) (hs0 : 0 ≤ size) (hs : size ≤ 16777216) {g cap2 : Nat} {leb use used live : Int} (c : Bool) (hr : Row w g [.int .i64 leb, .int .i64 use, .int .i64 used, .int .i64 live] 3) (hlive : live ≤ 9223372036854775807) :
    Calls Tryz.prog 61 #[.pointer (some ⟨p, 0, none⟩), .agg #[.slice (some ⟨g, 0, none⟩) 4 cap2, .bool c]] w (EntP w p q cap size (entF size l [leb, use, used, live] c)) := by
  obtain ⟨X, hX⟩ : ∃ X, X = w.alloc (.cells #[.slice (some ⟨g, 0, none⟩) 4 cap2, .bool c] 92) := ⟨_, rfl⟩
  have hbX : Below w.heap.size w X := by rw [hX]; exact below_new _ _
  have hrX : Row X w.heap.size [.slice (some ⟨g, 0, none⟩) 4 cap2, .bool c] 92 := by rw [hX]; exact Row.new _ _ _
  have c0 := hrX.cell (i := 0) rfl
  have r0 := (hr.later hbX).cell (i := 0) rfl
  have r1 := (hr.later hbX).cell (i := 1) rfl
  have r2 := (hr.later hbX).cell (i := 2) rfl
  have r3 := (hr.later hbX).cell (i := 3) rfl
  have HB := hidW hbX
  have HRX := hidW hrX
  have HL := hidW (h.later hbX)
  have HO := hidW hO
  have HS := hidW hs
  obtain ⟨T, hT⟩ : ∃ T, T = takeF l leb use := ⟨_, rfl⟩
  obtain ⟨U, hU⟩ : ∃ U, U = useF size T.2 leb used := ⟨_, rfl⟩
  obtain ⟨K, hK⟩ : ∃ K, K = killF U.2 leb (used - live) := ⟨_, rfl⟩
  obtain ⟨C, hC⟩ : ∃ C, C = closeF K.2 leb := ⟨_, rfl⟩
  have e1 : entF size l [leb, use, used, live] c = if T.1 ≠ 0 then none else if U.1 ≠ 0 then none else if live < 0 then none else if K.1 ≠ 0 then none else if c = false then some K.2 else if C.1 ≠ 0 then none else some C.2 := by
    rw [hC, hK, hU, hT]; rfl
  rw [e1]
  have kT := hidW (fun (W : World) (hW : BLies W p q cap size l) => take_go hW leb use)
  rw [← hT] at kT
  have oT : AllOk size T.2 := by rw [hT]; exact take_ok hO _ _
  have kU := hidW (fun (W : World) (hW : BLies W p q cap size T.2) => use_go hW oT hs leb used)
  rw [← hU] at kU
  have oU : AllOk size U.2 := by rw [hU]; exact use_ok oT _ _
  have kK := hidW (fun (W : World) (hW : BLies W p q cap size U.2) => kill_go hW oU hs leb (used - live))
  rw [← hK] at kK
  have kC := hidW (fun (W : World) (hW : BLies W p q cap size K.2) => close_go hW leb)
  rw [← hC] at kC
  have hUz : U.1 = 0 → 0 ≤ used ∧ used ≤ size := by rw [hU]; exact use_zero oT
  clear hT hU hK hC e1 oT oU h hO hr hbX hrX
  by_cases h1 : T.1 = 0
  · rw [if_neg (by simpa using h1)]
    have t1 : (T.1 != 0) = false := by simpa using h1
    clear h1
    by_cases h2 : U.1 = 0
    · rw [if_neg (by simpa using h2)]
      have t2 : (U.1 != 0) = false := by simpa using h2
      obtain ⟨u0, u1⟩ := hUz h2
      have u2 := HS.out
      clear h2 hUz
      by_cases h3 : live < 0
      · rw [if_pos h3]
        go_enter Tryz.func61, Tryz.ntmps61
        go_wp2_with fail
        rw [← hX]
        clear hX
        go_wp2_with fail
        go_quiet (fail)
        go_wp2_with (first
          | (go_at_call 13; refine (kT.out _ (HL.out.later (below_drawn X nq))).mono ?_; rintro e w1 ⟨rfl, hl1⟩; have HL1 := hidW (Left.trans (HL.out.left (below_drawn X nq)) hl1); have HK1 := hidW hl1; have x1 := (Left.kept (HL.out.later (below_drawn X nq)) hl1 (HRX.out.drewN nq) (by decide)).cell (i := 1) rfl; have HR1 := hidW (Left.kept (HL.out.later (below_drawn X nq)) hl1 (HRX.out.drewN nq) (by decide)); clear hl1 c0 r0 r1 r2 r3)
          | (go_at_call 14; refine (kU.out _ HL1.out.1).mono ?_; rintro e w2 ⟨rfl, hl2⟩; have HL2 := hidW (Left.trans HL1.out hl2); have HR2 := hidW (Left.kept HL1.out.1 hl2 HR1.out (by decide)); clear hl2 x1))
        go_ret
        exact ⟨rfl, _, ⟨HL2.out.1, (Kept.of_below HB.out).trans HL2.out.2⟩, fun _ e => by cases e⟩
      · rw [if_neg h3]
        have h3' : 0 ≤ live := by omega
        by_cases h4 : K.1 = 0
        · rw [if_neg (by simpa using h4)]
          have t4 : (K.1 != 0) = false := by simpa using h4
          clear h4
          cases c with
          | false =>
            rw [if_pos rfl]
            go_enter Tryz.func61, Tryz.ntmps61
            go_wp2_with fail
            rw [← hX]
            clear hX
            go_wp2_with fail
            go_quiet (fail)
            go_wp2_with (first
              | (go_at_call 13; refine (kT.out _ (HL.out.later (below_drawn X nq))).mono ?_; rintro e w1 ⟨rfl, hl1⟩; have HL1 := hidW (Left.trans (HL.out.left (below_drawn X nq)) hl1); have HK1 := hidW hl1; have x1 := (Left.kept (HL.out.later (below_drawn X nq)) hl1 (HRX.out.drewN nq) (by decide)).cell (i := 1) rfl; have HR1 := hidW (Left.kept (HL.out.later (below_drawn X nq)) hl1 (HRX.out.drewN nq) (by decide)); clear hl1 c0 r0 r1 r2 r3)
              | (go_at_call 14; refine (kU.out _ HL1.out.1).mono ?_; rintro e w2 ⟨rfl, hl2⟩; have HL2 := hidW (Left.trans HL1.out hl2); have HR2 := hidW (Left.kept HL1.out.1 hl2 HR1.out (by decide)); clear hl2 x1)
              | (go_at_call 15; refine (kK.out _ HL2.out.1).mono ?_; rintro e w3 ⟨rfl, hl3⟩; have HL3 := hidW (Left.trans HL2.out hl3); have x3 := (Left.kept HL2.out.1 hl3 HR2.out (by decide)).cell (i := 1) rfl; clear hl3))
            go_ret
            exact ⟨rfl, _, ⟨HL3.out.1, (Kept.of_below HB.out).trans HL3.out.2⟩, fun _ e => by cases e; rfl⟩
          | true =>
            rw [if_neg (by decide)]
            by_cases h5 : C.1 = 0
            · rw [if_neg (by simpa using h5)]
              have t5 : (C.1 == 0) = true := by simpa using h5
              clear h5
              go_enter Tryz.func61, Tryz.ntmps61
              go_wp2_with fail
              rw [← hX]
              clear hX
              go_wp2_with fail
              go_quiet (fail)
              go_wp2_with (first
                | (go_at_call 13; refine (kT.out _ (HL.out.later (below_drawn X nq))).mono ?_; rintro e w1 ⟨rfl, hl1⟩; have HL1 := hidW (Left.trans (HL.out.left (below_drawn X nq)) hl1); have HK1 := hidW hl1; have x1 := (Left.kept (HL.out.later (below_drawn X nq)) hl1 (HRX.out.drewN nq) (by decide)).cell (i := 1) rfl; have HR1 := hidW (Left.kept (HL.out.later (below_drawn X nq)) hl1 (HRX.out.drewN nq) (by decide)); clear hl1 c0 r0 r1 r2 r3)
                | (go_at_call 14; refine (kU.out _ HL1.out.1).mono ?_; rintro e w2 ⟨rfl, hl2⟩; have HL2 := hidW (Left.trans HL1.out hl2); have HR2 := hidW (Left.kept HL1.out.1 hl2 HR1.out (by decide)); clear hl2 x1)
                | (go_at_call 15; refine (kK.out _ HL2.out.1).mono ?_; rintro e w3 ⟨rfl, hl3⟩; have HL3 := hidW (Left.trans HL2.out hl3); have x3 := (Left.kept HL2.out.1 hl3 HR2.out (by decide)).cell (i := 1) rfl; clear hl3)
                | (go_at_call 16; refine (kC.out _ HL3.out.1).mono ?_; rintro e w4 ⟨rfl, hl4⟩; have HL4 := hidW (Left.trans HL3.out hl4); clear hl4))
              go_ret
              exact ⟨rfl, _, ⟨HL4.out.1, (Kept.of_below HB.out).trans HL4.out.2⟩, fun _ e => by cases e; rfl⟩
            · rw [if_pos h5]
              have t5 : (C.1 == 0) = false := by simpa using h5
              clear h5
              go_enter Tryz.func61, Tryz.ntmps61
              go_wp2_with fail
              rw [← hX]
              clear hX
              go_wp2_with fail
              go_quiet (fail)
              go_wp2_with (first
                | (go_at_call 13; refine (kT.out _ (HL.out.later (below_drawn X nq))).mono ?_; rintro e w1 ⟨rfl, hl1⟩; have HL1 := hidW (Left.trans (HL.out.left (below_drawn X nq)) hl1); have HK1 := hidW hl1; have x1 := (Left.kept (HL.out.later (below_drawn X nq)) hl1 (HRX.out.drewN nq) (by decide)).cell (i := 1) rfl; have HR1 := hidW (Left.kept (HL.out.later (below_drawn X nq)) hl1 (HRX.out.drewN nq) (by decide)); clear hl1 c0 r0 r1 r2 r3)
                | (go_at_call 14; refine (kU.out _ HL1.out.1).mono ?_; rintro e w2 ⟨rfl, hl2⟩; have HL2 := hidW (Left.trans HL1.out hl2); have HR2 := hidW (Left.kept HL1.out.1 hl2 HR1.out (by decide)); clear hl2 x1)
                | (go_at_call 15; refine (kK.out _ HL2.out.1).mono ?_; rintro e w3 ⟨rfl, hl3⟩; have HL3 := hidW (Left.trans HL2.out hl3); have x3 := (Left.kept HL2.out.1 hl3 HR2.out (by decide)).cell (i := 1) rfl; clear hl3)
                | (go_at_call 16; refine (kC.out _ HL3.out.1).mono ?_; rintro e w4 ⟨rfl, hl4⟩; have HL4 := hidW (Left.trans HL3.out hl4); clear hl4))
              go_ret
              exact ⟨rfl, _, ⟨HL4.out.1, (Kept.of_below HB.out).trans HL4.out.2⟩, fun _ e => by cases e⟩
        · rw [if_pos h4]
          have t4 : (K.1 != 0) = true := by simpa using h4
          clear h4
          go_enter Tryz.func61, Tryz.ntmps61
          go_wp2_with fail
          rw [← hX]
          clear hX
          go_wp2_with fail
          go_quiet (fail)
          go_wp2_with (first
            | (go_at_call 13; refine (kT.out _ (HL.out.later (below_drawn X nq))).mono ?_; rintro e w1 ⟨rfl, hl1⟩; have HL1 := hidW (Left.trans (HL.out.left (below_drawn X nq)) hl1); have HK1 := hidW hl1; have x1 := (Left.kept (HL.out.later (below_drawn X nq)) hl1 (HRX.out.drewN nq) (by decide)).cell (i := 1) rfl; have HR1 := hidW (Left.kept (HL.out.later (below_drawn X nq)) hl1 (HRX.out.drewN nq) (by decide)); clear hl1 c0 r0 r1 r2 r3)
            | (go_at_call 14; refine (kU.out _ HL1.out.1).mono ?_; rintro e w2 ⟨rfl, hl2⟩; have HL2 := hidW (Left.trans HL1.out hl2); have HR2 := hidW (Left.kept HL1.out.1 hl2 HR1.out (by decide)); clear hl2 x1)
            | (go_at_call 15; refine (kK.out _ HL2.out.1).mono ?_; rintro e w3 ⟨rfl, hl3⟩; have HL3 := hidW (Left.trans HL2.out hl3); have x3 := (Left.kept HL2.out.1 hl3 HR2.out (by decide)).cell (i := 1) rfl; clear hl3))
          go_ret
          exact ⟨rfl, _, ⟨HL3.out.1, (Kept.of_below HB.out).trans HL3.out.2⟩, fun _ e => by cases e⟩
    · rw [if_pos h2]
      have t2 : (U.1 != 0) = true := by simpa using h2
      clear h2 hUz
      go_enter Tryz.func61, Tryz.ntmps61
      go_wp2_with fail
      rw [← hX]
      clear hX
      go_wp2_with fail
      go_quiet (fail)
      go_wp2_with (first
        | (go_at_call 13; refine (kT.out _ (HL.out.later (below_drawn X nq))).mono ?_; rintro e w1 ⟨rfl, hl1⟩; have HL1 := hidW (Left.trans (HL.out.left (below_drawn X nq)) hl1); have HK1 := hidW hl1; have x1 := (Left.kept (HL.out.later (below_drawn X nq)) hl1 (HRX.out.drewN nq) (by decide)).cell (i := 1) rfl; have HR1 := hidW (Left.kept (HL.out.later (below_drawn X nq)) hl1 (HRX.out.drewN nq) (by decide)); clear hl1 c0 r0 r1 r2 r3)
        | (go_at_call 14; refine (kU.out _ HL1.out.1).mono ?_; rintro e w2 ⟨rfl, hl2⟩; have HL2 := hidW (Left.trans HL1.out hl2); have HR2 := hidW (Left.kept HL1.out.1 hl2 HR1.out (by decide)); clear hl2 x1))
      go_ret
      exact ⟨rfl, _, ⟨HL2.out.1, (Kept.of_below HB.out).trans HL2.out.2⟩, fun _ e => by cases e⟩
  · rw [if_pos h1]
    have t1 : (T.1 != 0) = true := by simpa using h1
    clear h1 hUz
    go_enter Tryz.func61, Tryz.ntmps61
    go_wp2_with fail
    rw [← hX]
    clear hX
    go_wp2_with fail
    go_quiet (fail)
    go_wp2_with (first
      | (go_at_call 13; refine (kT.out _ (HL.out.later (below_drawn X nq))).mono ?_; rintro e w1 ⟨rfl, hl1⟩; have HL1 := hidW (Left.trans (HL.out.left (below_drawn X nq)) hl1); have HK1 := hidW hl1; have x1 := (Left.kept (HL.out.later (below_drawn X nq)) hl1 (HRX.out.drewN nq) (by decide)).cell (i := 1) rfl; have HR1 := hidW (Left.kept (HL.out.later (below_drawn X nq)) hl1 (HRX.out.drewN nq) (by decide)); clear hl1 c0 r0 r1 r2 r3))
    go_ret
    exact ⟨rfl, _, ⟨HL1.out.1, (Kept.of_below HB.out).trans HL1.out.2⟩, fun _ e => by cases e⟩
end Go.Proofs.YtmaekpfkkpkgpaaGreatDoor
