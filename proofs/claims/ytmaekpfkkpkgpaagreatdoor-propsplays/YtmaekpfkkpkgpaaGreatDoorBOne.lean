/-
  An operation on a book; a book to which operations were done.
-/
import Derived.Test.YtmaekpfkkpkgpaaGreatDoorBLive
namespace Go.Proofs.YtmaekpfkkpkgpaaGreatDoor
open Go.RowKit Go.Shelf
set_option maxRecDepth 10000

theorem there_nil (leb : Int) (w : World) : Calls Tryz.prog 53 #[.pointer none, .int .i64 leb] w fun e w' => e = .returned (.int .i64 14) ∧ w = w' := by
  go_enter Tryz.func53, Tryz.ntmps53
  go_wp2
  go_ret
  exact ⟨rfl, rfl⟩
theorem taken_nil (leb n : Int) (w : World) : Calls Tryz.prog 54 #[.pointer none, .int .i64 leb, .int .i64 n] w fun e w' => e = .returned (.int .i64 14) ∧ w = w' := by
  have k := there_nil leb w
  go_enter Tryz.func54, Tryz.ntmps54
  go_wp2_with (go_at_call 53; refine k.mono ?_; rintro e w1 ⟨rfl, rfl⟩)
  go_ret
  exact ⟨rfl, rfl⟩
theorem rTake_nil (leb n : Int) (w : World) : Calls Tryz.prog 21 #[.pointer none, .int .i64 leb, .int .i64 n] w fun e w' => e = .returned (.int .i64 14) ∧ w = w' := by
  have k := there_nil leb w
  go_enter Tryz.func21, Tryz.ntmps21
  go_wp2_with (go_at_call 53; refine k.mono ?_; rintro e w1 ⟨rfl, rfl⟩)
  go_ret
  exact ⟨rfl, rfl⟩
theorem rUse_nil (leb n : Int) (w : World) : Calls Tryz.prog 22 #[.pointer none, .int .i64 leb, .int .i64 n] w fun e w' => e = .returned (.int .i64 14) ∧ w = w' := by
  have k := taken_nil leb n w
  go_enter Tryz.func22, Tryz.ntmps22
  go_wp2_with (go_at_call 54; refine k.mono ?_; rintro e w1 ⟨rfl, rfl⟩)
  go_ret
  exact ⟨rfl, rfl⟩
theorem rKill_nil (leb n : Int) (w : World) : Calls Tryz.prog 23 #[.pointer none, .int .i64 leb, .int .i64 n] w fun e w' => e = .returned (.int .i64 14) ∧ w = w' := by
  have k := taken_nil leb n w
  go_enter Tryz.func23, Tryz.ntmps23
  go_wp2_with (go_at_call 54; refine k.mono ?_; rintro e w1 ⟨rfl, rfl⟩)
  go_ret
  exact ⟨rfl, rfl⟩
theorem rClose_nil (leb : Int) (w : World) : Calls Tryz.prog 24 #[.pointer none, .int .i64 leb] w fun e w' => e = .returned (.int .i64 14) ∧ w = w' := by
  have k := taken_nil leb 0 w
  go_enter Tryz.func24, Tryz.ntmps24
  go_wp2_with (go_at_call 54; refine k.mono ?_; rintro e w1 ⟨rfl, rfl⟩)
  go_ret
  exact ⟨rfl, rfl⟩
theorem rFree_nil (leb : Int) (w : World) : Calls Tryz.prog 25 #[.pointer none, .int .i64 leb] w fun e w' => e = .returned (.int .i64 14) ∧ w = w' := by
  have k := there_nil leb w
  go_enter Tryz.func25, Tryz.ntmps25
  go_wp2_with (go_at_call 53; refine k.mono ?_; rintro e w1 ⟨rfl, rfl⟩)
  go_ret
  exact ⟨rfl, rfl⟩
/-- An operation. -/
structure BOp where
  kind : Int
  leb : Int
  n : Int
def opF (size : Int) (l : List PB) (o : BOp) : List PB :=
  if o.kind = 1 then (takeF l o.leb o.n).2 else if o.kind = 2 then (useF size l o.leb o.n).2 else if o.kind = 3 then (killF l o.leb o.n).2 else if o.kind = 4 then (closeF l o.leb).2 else if o.kind = 5 then (freeF l o.leb).2 else l
theorem op_ok {size : Int} {l : List PB} (h : BkOk size l) (o : BOp) : BkOk size (opF size l o) := by
  have h1 := h.n1
  have h2 := h.n2
  unfold opF
  split
  · have := take_len l o.leb o.n; exact ⟨h.s1, h.s2, by omega, by omega, take_ok h.ok _ _⟩
  · split
    · have := use_len size l o.leb o.n; exact ⟨h.s1, h.s2, by omega, by omega, use_ok h.ok _ _⟩
    · split
      · have := kill_len l o.leb o.n; exact ⟨h.s1, h.s2, by omega, by omega, kill_ok h.ok _ _⟩
      · split
        · have := close_len l o.leb; exact ⟨h.s1, h.s2, by omega, by omega, close_ok h.ok _⟩
        · split
          · have := free_len l o.leb; exact ⟨h.s1, h.s2, by omega, by omega, free_ok (by have := h.s1; omega) h.ok _⟩
          · exact h
set_option maxHeartbeats 2000000 in
theorem one_1 {w : World} {p q cap : Nat} {size : Int} {l : List PB} (h : BLies w p q cap size l) (_hO : BkOk size l) (leb n : Int) :
    Calls Tryz.prog 8 #[.pointer (some ⟨p, 0, none⟩), .pointer none, .agg #[.int .i64 1, .int .i64 leb, .int .i64 n]] w fun e w' => (∃ b, e = .returned (.bool b)) ∧ Left w w' p q cap size (takeF l leb n).2 := by
  obtain ⟨X, hX⟩ : ∃ X, X = w.alloc (.cells #[.int .i64 1, .int .i64 leb, .int .i64 n] 33) := ⟨_, rfl⟩
  have hb : Below w.heap.size w X := by rw [hX]; exact below_new _ _
  have hr : Row X w.heap.size [.int .i64 1, .int .i64 leb, .int .i64 n] 33 := by rw [hX]; exact Row.new _ _ _
  have c0 : (w.alloc (.cells #[.int .i64 1, .int .i64 leb, .int .i64 n] 33)).cell? ⟨w.heap.size, 0, none⟩ = some (.int .i64 1) := (Row.new w _ _).cell (i := 0) rfl
  have c1 : X.cell? ⟨w.heap.size, 1, none⟩ = some (.int .i64 leb) := hr.cell (i := 1) rfl
  have c2 : X.cell? ⟨w.heap.size, 2, none⟩ = some (.int .i64 n) := hr.cell (i := 2) rfl
  have HLd := hidW (show BLies X.drew p q cap size l from (h.later hb).later (Below.refl _ _).drew)
  have HRd := hidW (show Row X.drew w.heap.size [.int .i64 1, .int .i64 leb, .int .i64 n] 33 from hr.drew)
  have HB := hidW (show Below w.heap.size w X.drew from hb.drew)
  have kB := hidW (take_go HLd.out leb n)
  obtain ⟨R, hRR⟩ : ∃ R, R = takeF l leb n := ⟨_, rfl⟩
  rw [← hRR] at kB ⊢
  clear h _hO hb hr hRR
  go_enter Tryz.func8, Tryz.ntmps8
  go_wp2_with fail
  rw [← hX]
  clear hX c0
  go_region_held3 (fun w' => w'.cell? ⟨w.heap.size, 1, none⟩ = some (.int .i64 leb) ∧ w'.cell? ⟨w.heap.size, 2, none⟩ = some (.int .i64 n)) (first | assumption | go_keep) (first
    | (go_at_call 13; refine kB.out.mono ?_; rintro e w1 ⟨rfl, hl⟩; have r1 := Left.kept HLd.out hl HRd.out (by decide); have s1 : w1.cell? ⟨w.heap.size, 1, none⟩ = some (.int .i64 leb) := r1.cell (i := 1) rfl; have s2 : w1.cell? ⟨w.heap.size, 2, none⟩ = some (.int .i64 n) := r1.cell (i := 2) rfl; have HL1 := hidW hl; clear hl r1)
    | (go_at_call 21; refine (rTake_nil _ _ _).mono ?_; rintro e w2 ⟨rfl, rfl⟩))
  go_wp2
  go_ret
  exact ⟨⟨_, rfl⟩, HL1.out.1, (Kept.of_below HB.out).trans HL1.out.2⟩
set_option maxHeartbeats 2000000 in
theorem one_2 {w : World} {p q cap : Nat} {size : Int} {l : List PB} (h : BLies w p q cap size l) (hO : BkOk size l) (leb n : Int) :
    Calls Tryz.prog 8 #[.pointer (some ⟨p, 0, none⟩), .pointer none, .agg #[.int .i64 2, .int .i64 leb, .int .i64 n]] w fun e w' => (∃ b, e = .returned (.bool b)) ∧ Left w w' p q cap size (useF size l leb n).2 := by
  obtain ⟨X, hX⟩ : ∃ X, X = w.alloc (.cells #[.int .i64 2, .int .i64 leb, .int .i64 n] 33) := ⟨_, rfl⟩
  have hb : Below w.heap.size w X := by rw [hX]; exact below_new _ _
  have hr : Row X w.heap.size [.int .i64 2, .int .i64 leb, .int .i64 n] 33 := by rw [hX]; exact Row.new _ _ _
  have c0 : (w.alloc (.cells #[.int .i64 2, .int .i64 leb, .int .i64 n] 33)).cell? ⟨w.heap.size, 0, none⟩ = some (.int .i64 2) := (Row.new w _ _).cell (i := 0) rfl
  have c1 : X.cell? ⟨w.heap.size, 1, none⟩ = some (.int .i64 leb) := hr.cell (i := 1) rfl
  have c2 : X.cell? ⟨w.heap.size, 2, none⟩ = some (.int .i64 n) := hr.cell (i := 2) rfl
  have HLd := hidW (show BLies X.drew p q cap size l from (h.later hb).later (Below.refl _ _).drew)
  have HRd := hidW (show Row X.drew w.heap.size [.int .i64 2, .int .i64 leb, .int .i64 n] 33 from hr.drew)
  have HB := hidW (show Below w.heap.size w X.drew from hb.drew)
  have kB := hidW (use_go HLd.out hO.ok hO.s2 leb n)
  obtain ⟨R, hRR⟩ : ∃ R, R = useF size l leb n := ⟨_, rfl⟩
  rw [← hRR] at kB ⊢
  clear h hO hb hr hRR
  go_enter Tryz.func8, Tryz.ntmps8
  go_wp2_with fail
  rw [← hX]
  clear hX c0
  go_region_held3 (fun w' => w'.cell? ⟨w.heap.size, 1, none⟩ = some (.int .i64 leb) ∧ w'.cell? ⟨w.heap.size, 2, none⟩ = some (.int .i64 n)) (first | assumption | go_keep) (first
    | (go_at_call 14; refine kB.out.mono ?_; rintro e w1 ⟨rfl, hl⟩; have r1 := Left.kept HLd.out hl HRd.out (by decide); have s1 : w1.cell? ⟨w.heap.size, 1, none⟩ = some (.int .i64 leb) := r1.cell (i := 1) rfl; have s2 : w1.cell? ⟨w.heap.size, 2, none⟩ = some (.int .i64 n) := r1.cell (i := 2) rfl; have HL1 := hidW hl; clear hl r1)
    | (go_at_call 22; refine (rUse_nil _ _ _).mono ?_; rintro e w2 ⟨rfl, rfl⟩))
  go_wp2
  go_ret
  exact ⟨⟨_, rfl⟩, HL1.out.1, (Kept.of_below HB.out).trans HL1.out.2⟩
set_option maxHeartbeats 2000000 in
theorem one_3 {w : World} {p q cap : Nat} {size : Int} {l : List PB} (h : BLies w p q cap size l) (hO : BkOk size l) (leb n : Int) :
    Calls Tryz.prog 8 #[.pointer (some ⟨p, 0, none⟩), .pointer none, .agg #[.int .i64 3, .int .i64 leb, .int .i64 n]] w fun e w' => (∃ b, e = .returned (.bool b)) ∧ Left w w' p q cap size (killF l leb n).2 := by
  obtain ⟨X, hX⟩ : ∃ X, X = w.alloc (.cells #[.int .i64 3, .int .i64 leb, .int .i64 n] 33) := ⟨_, rfl⟩
  have hb : Below w.heap.size w X := by rw [hX]; exact below_new _ _
  have hr : Row X w.heap.size [.int .i64 3, .int .i64 leb, .int .i64 n] 33 := by rw [hX]; exact Row.new _ _ _
  have c0 : (w.alloc (.cells #[.int .i64 3, .int .i64 leb, .int .i64 n] 33)).cell? ⟨w.heap.size, 0, none⟩ = some (.int .i64 3) := (Row.new w _ _).cell (i := 0) rfl
  have c1 : X.cell? ⟨w.heap.size, 1, none⟩ = some (.int .i64 leb) := hr.cell (i := 1) rfl
  have c2 : X.cell? ⟨w.heap.size, 2, none⟩ = some (.int .i64 n) := hr.cell (i := 2) rfl
  have HLd := hidW (show BLies X.drew p q cap size l from (h.later hb).later (Below.refl _ _).drew)
  have HRd := hidW (show Row X.drew w.heap.size [.int .i64 3, .int .i64 leb, .int .i64 n] 33 from hr.drew)
  have HB := hidW (show Below w.heap.size w X.drew from hb.drew)
  have kB := hidW (kill_go HLd.out hO.ok hO.s2 leb n)
  obtain ⟨R, hRR⟩ : ∃ R, R = killF l leb n := ⟨_, rfl⟩
  rw [← hRR] at kB ⊢
  clear h hO hb hr hRR
  go_enter Tryz.func8, Tryz.ntmps8
  go_wp2_with fail
  rw [← hX]
  clear hX c0
  go_region_held3 (fun w' => w'.cell? ⟨w.heap.size, 1, none⟩ = some (.int .i64 leb) ∧ w'.cell? ⟨w.heap.size, 2, none⟩ = some (.int .i64 n)) (first | assumption | go_keep) (first
    | (go_at_call 15; refine kB.out.mono ?_; rintro e w1 ⟨rfl, hl⟩; have r1 := Left.kept HLd.out hl HRd.out (by decide); have s1 : w1.cell? ⟨w.heap.size, 1, none⟩ = some (.int .i64 leb) := r1.cell (i := 1) rfl; have s2 : w1.cell? ⟨w.heap.size, 2, none⟩ = some (.int .i64 n) := r1.cell (i := 2) rfl; have HL1 := hidW hl; clear hl r1)
    | (go_at_call 23; refine (rKill_nil _ _ _).mono ?_; rintro e w2 ⟨rfl, rfl⟩))
  go_wp2
  go_ret
  exact ⟨⟨_, rfl⟩, HL1.out.1, (Kept.of_below HB.out).trans HL1.out.2⟩
set_option maxHeartbeats 2000000 in
theorem one_4 {w : World} {p q cap : Nat} {size : Int} {l : List PB} (h : BLies w p q cap size l) (_hO : BkOk size l) (leb n : Int) :
    Calls Tryz.prog 8 #[.pointer (some ⟨p, 0, none⟩), .pointer none, .agg #[.int .i64 4, .int .i64 leb, .int .i64 n]] w fun e w' => (∃ b, e = .returned (.bool b)) ∧ Left w w' p q cap size (closeF l leb).2 := by
  obtain ⟨X, hX⟩ : ∃ X, X = w.alloc (.cells #[.int .i64 4, .int .i64 leb, .int .i64 n] 33) := ⟨_, rfl⟩
  have hb : Below w.heap.size w X := by rw [hX]; exact below_new _ _
  have hr : Row X w.heap.size [.int .i64 4, .int .i64 leb, .int .i64 n] 33 := by rw [hX]; exact Row.new _ _ _
  have c0 : (w.alloc (.cells #[.int .i64 4, .int .i64 leb, .int .i64 n] 33)).cell? ⟨w.heap.size, 0, none⟩ = some (.int .i64 4) := (Row.new w _ _).cell (i := 0) rfl
  have c1 : X.cell? ⟨w.heap.size, 1, none⟩ = some (.int .i64 leb) := hr.cell (i := 1) rfl
  have c2 : X.cell? ⟨w.heap.size, 2, none⟩ = some (.int .i64 n) := hr.cell (i := 2) rfl
  have HLd := hidW (show BLies X.drew p q cap size l from (h.later hb).later (Below.refl _ _).drew)
  have HRd := hidW (show Row X.drew w.heap.size [.int .i64 4, .int .i64 leb, .int .i64 n] 33 from hr.drew)
  have HB := hidW (show Below w.heap.size w X.drew from hb.drew)
  have kB := hidW (close_go HLd.out leb)
  obtain ⟨R, hRR⟩ : ∃ R, R = closeF l leb := ⟨_, rfl⟩
  rw [← hRR] at kB ⊢
  clear h _hO hb hr hRR
  go_enter Tryz.func8, Tryz.ntmps8
  go_wp2_with fail
  rw [← hX]
  clear hX c0
  go_region_held3 (fun w' => w'.cell? ⟨w.heap.size, 1, none⟩ = some (.int .i64 leb)) (first | assumption | go_keep) (first
    | (go_at_call 16; refine kB.out.mono ?_; rintro e w1 ⟨rfl, hl⟩; have r1 := Left.kept HLd.out hl HRd.out (by decide); have s1 : w1.cell? ⟨w.heap.size, 1, none⟩ = some (.int .i64 leb) := r1.cell (i := 1) rfl; have s2 : w1.cell? ⟨w.heap.size, 2, none⟩ = some (.int .i64 n) := r1.cell (i := 2) rfl; have HL1 := hidW hl; clear hl r1)
    | (go_at_call 24; refine (rClose_nil _ _).mono ?_; rintro e w2 ⟨rfl, rfl⟩))
  go_wp2
  go_ret
  exact ⟨⟨_, rfl⟩, HL1.out.1, (Kept.of_below HB.out).trans HL1.out.2⟩
set_option maxHeartbeats 2000000 in
theorem one_5 {w : World} {p q cap : Nat} {size : Int} {l : List PB} (h : BLies w p q cap size l) (_hO : BkOk size l) (leb n : Int) :
    Calls Tryz.prog 8 #[.pointer (some ⟨p, 0, none⟩), .pointer none, .agg #[.int .i64 5, .int .i64 leb, .int .i64 n]] w fun e w' => (∃ b, e = .returned (.bool b)) ∧ Left w w' p q cap size (freeF l leb).2 := by
  obtain ⟨X, hX⟩ : ∃ X, X = w.alloc (.cells #[.int .i64 5, .int .i64 leb, .int .i64 n] 33) := ⟨_, rfl⟩
  have hb : Below w.heap.size w X := by rw [hX]; exact below_new _ _
  have hr : Row X w.heap.size [.int .i64 5, .int .i64 leb, .int .i64 n] 33 := by rw [hX]; exact Row.new _ _ _
  have c0 : (w.alloc (.cells #[.int .i64 5, .int .i64 leb, .int .i64 n] 33)).cell? ⟨w.heap.size, 0, none⟩ = some (.int .i64 5) := (Row.new w _ _).cell (i := 0) rfl
  have c1 : X.cell? ⟨w.heap.size, 1, none⟩ = some (.int .i64 leb) := hr.cell (i := 1) rfl
  have c2 : X.cell? ⟨w.heap.size, 2, none⟩ = some (.int .i64 n) := hr.cell (i := 2) rfl
  have HLd := hidW (show BLies X.drew p q cap size l from (h.later hb).later (Below.refl _ _).drew)
  have HRd := hidW (show Row X.drew w.heap.size [.int .i64 5, .int .i64 leb, .int .i64 n] 33 from hr.drew)
  have HB := hidW (show Below w.heap.size w X.drew from hb.drew)
  have kB := hidW (free_go HLd.out leb)
  obtain ⟨R, hRR⟩ : ∃ R, R = freeF l leb := ⟨_, rfl⟩
  rw [← hRR] at kB ⊢
  clear h _hO hb hr hRR
  go_enter Tryz.func8, Tryz.ntmps8
  go_wp2_with fail
  rw [← hX]
  clear hX c0
  go_region_held3 (fun w' => w'.cell? ⟨w.heap.size, 1, none⟩ = some (.int .i64 leb)) (first | assumption | go_keep) (first
    | (go_at_call 18; refine kB.out.mono ?_; rintro e w1 ⟨rfl, hl⟩; have r1 := Left.kept HLd.out hl HRd.out (by decide); have s1 : w1.cell? ⟨w.heap.size, 1, none⟩ = some (.int .i64 leb) := r1.cell (i := 1) rfl; have s2 : w1.cell? ⟨w.heap.size, 2, none⟩ = some (.int .i64 n) := r1.cell (i := 2) rfl; have HL1 := hidW hl; clear hl r1)
    | (go_at_call 25; refine (rFree_nil _ _).mono ?_; rintro e w2 ⟨rfl, rfl⟩))
  go_wp2
  go_ret
  exact ⟨⟨_, rfl⟩, HL1.out.1, (Kept.of_below HB.out).trans HL1.out.2⟩
set_option maxHeartbeats 2000000 in
theorem one_x {w : World} {p q cap : Nat} {size : Int} {l : List PB} (h : BLies w p q cap size l) (k leb n : Int) (h1 : ¬ k = 1) (h2 : ¬ k = 2) (h3 : ¬ k = 3) (h4 : ¬ k = 4) (h5 : ¬ k = 5) :
    Calls Tryz.prog 8 #[.pointer (some ⟨p, 0, none⟩), .pointer none, .agg #[.int .i64 k, .int .i64 leb, .int .i64 n]] w fun e w' => (∃ b, e = .returned (.bool b)) ∧ Left w w' p q cap size l := by
  have c0 : (w.alloc (.cells #[.int .i64 k, .int .i64 leb, .int .i64 n] 33)).cell? ⟨w.heap.size, 0, none⟩ = some (.int .i64 k) := (Row.new w _ _).cell (i := 0) rfl
  have HL := hidW (h.left (below_new w (.cells #[.int .i64 k, .int .i64 leb, .int .i64 n] 33)))
  clear h
  go_enter Tryz.func8, Tryz.ntmps8
  go_wp2
  go_ret
  exact ⟨⟨_, rfl⟩, HL.out⟩
theorem one_any {w : World} {p q cap : Nat} {size : Int} {l : List PB} (h : BLies w p q cap size l) (hO : BkOk size l) (o : BOp) :
    Calls Tryz.prog 8 #[.pointer (some ⟨p, 0, none⟩), .pointer none, .agg #[.int .i64 o.kind, .int .i64 o.leb, .int .i64 o.n]] w fun e w' => (∃ b, e = .returned (.bool b)) ∧ Left w w' p q cap size (opF size l o) := by
  unfold opF
  by_cases h1 : o.kind = 1
  · rw [if_pos h1, h1]; exact one_1 h hO _ _
  · rw [if_neg h1]
    by_cases h2 : o.kind = 2
    · rw [if_pos h2, h2]; exact one_2 h hO _ _
    · rw [if_neg h2]
      by_cases h3 : o.kind = 3
      · rw [if_pos h3, h3]; exact one_3 h hO _ _
      · rw [if_neg h3]
        by_cases h4 : o.kind = 4
        · rw [if_pos h4, h4]; exact one_4 h hO _ _
        · rw [if_neg h4]
          by_cases h5 : o.kind = 5
          · rw [if_pos h5, h5]; exact one_5 h hO _ _
          · rw [if_neg h5]; exact one_x h _ _ _ h1 h2 h3 h4 h5
end Go.Proofs.YtmaekpfkkpkgpaaGreatDoor
