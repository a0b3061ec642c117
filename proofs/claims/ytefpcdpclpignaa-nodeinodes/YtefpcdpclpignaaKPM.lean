/-
  What ParseMark of package node answers.
-/
import Derived.Test.YtefpcdpclpignaaKUnp2
namespace Go.Proofs.Ytefpcdpclpignaa
open Go.RowKit M

theorem pm_len (a : Option Addr) (n cap : Nat) (h : n ≠ 10) (w : World) :
    Calls Try.prog 44 #[.slice a n cap] w fun e w' => e = .returned (.tuple #[.int .u64 0, .int .i64 0, .bool false]) ∧ Below w.heap.size w w' := by
  have h1 : ((n : Int) != 10) = true := by simp; omega
  go_enter Try.func44, Try.ntmps44
  go_wp2
  go_ret3
  exact ⟨rfl, Below.refl _ _⟩

abbrev NumAt (m : Int) (l r : List UInt8) (s s' : Bool) (f : Nat) : Prop := ∀ (W : World) (B : Nat), Rd W B 88 l s → Calls Try.prog 77 #[.pointer (some ⟨B, 0, none⟩), .int .i64 m] W fun e w' => e = .returned (.int .u64 (f : Int)) ∧ RPost W B 88 r s' w'

set_option maxRecDepth 100000 in
set_option maxHeartbeats 4000000 in
theorem pm_tag (a : Option Addr) (cap : Nat) (r0 r1 r2 r3 : List UInt8) (s1 s2 s3 : Bool) (tg g c : Nat) (hc : c < 256) (w : World)
    (hP : ∀ W, Below w.heap.size w W → Calls Try.prog 74 #[.slice a 10 cap] W fun e w' => e = .returned (.pointer (some ⟨W.heap.size, 0, none⟩)) ∧ Rd w' W.heap.size 88 r0 false ∧ Below W.heap.size W w')
    (h1 : TagAt r0 r1 false s1 tg) (h2 : NumAt 8 r1 r2 s1 s2 g) (h3 : NumAt 1 r2 r3 s2 s3 c) (hd : PDoneAt r3 s3 true) (ht : ((tg : Int) != 3) = true) :
    Calls Try.prog 44 #[.slice a 10 cap] w fun e w' => e = .returned (.tuple #[.int .u64 0, .int .i64 0, .bool false]) ∧ Below w.heap.size w w' := by
  have hw : IntKind.i64.wrap (c : Int) = (c : Int) := by rw [IntKind.wrap_i64]; omega
  have M1 : Hid True := trivial
  have HU : Hid (∀ (W : World) (B : Nat) (t : TypeId) (r : List UInt8) (sh : Bool), Rd W B t r sh → Rd W.drew B t r sh) := fun W B t r sh h => Row.drew h
  have HV : Hid (∀ (W W' : World) (B : Nat) (t : TypeId) (r : List UInt8) (sh : Bool), RPost W.drew B t r sh W' → RPost W B t r sh W') := fun W W' B t r sh p => ⟨p.rd, p.kept.os, p.kept.tape, p.kept.output, p.kept.size, p.kept.block⟩
  go_enter Try.func44, Try.ntmps44
  go_wp2_with (go_at_call 74; refine (hP _ (Below.refl _ _)).mono ?_; rintro e w2 ⟨rfl, hr, hb⟩; have R0 : Hid (Rd w2 w.heap.size 88 r0 false) := hr; have B0 : Hid (Below w.heap.size w w2) := hb; clear hr hb)
  go_region_held3 (fun _ => True) (first | trivial)
    (first
    | (go_at_call 75; refine (h1 _ _ (HU.out _ _ _ _ _ R0.out)).mono ?_; rintro e w3 ⟨rfl, p⟩; have P1 : Hid (RPost w2 w.heap.size 88 r1 s1 w3) := HV.out _ _ _ _ _ _ p; clear p)
    | (go_at_call 77; clear M1; refine (h2 _ _ P1.out.rd).mono ?_; rintro e w4 ⟨rfl, p⟩; have P2 : Hid (RPost w2 w.heap.size 88 r2 s2 w4) := P1.out.trans p; clear p)
    | (go_at_call 77; refine (h3 _ _ P2.out.rd).mono ?_; rintro e w5 ⟨rfl, p⟩; have P3 : Hid (RPost w2 w.heap.size 88 r3 s3 w5) := P2.out.trans p; clear p))
  all_goals
    go_wp2_with (first
      | (go_at_call 53; refine (hd _ _ P3.out.rd).mono ?_; rintro e w9 ⟨rfl, rfl⟩)
      | (go_at_call 72; refine (isCount_any _ _).mono ?_; rintro e w9 ⟨rfl, rfl⟩))
    go_ret3
    exact ⟨rfl, belowK B0.out P3.out⟩

set_option maxRecDepth 100000 in
set_option maxHeartbeats 4000000 in
theorem pm_count (a : Option Addr) (cap : Nat) (r0 r1 r2 r3 : List UInt8) (s1 s2 s3 : Bool) (tg g c : Nat) (hc : c < 256) (w : World)
    (hP : ∀ W, Below w.heap.size w W → Calls Try.prog 74 #[.slice a 10 cap] W fun e w' => e = .returned (.pointer (some ⟨W.heap.size, 0, none⟩)) ∧ Rd w' W.heap.size 88 r0 false ∧ Below W.heap.size W w')
    (h1 : TagAt r0 r1 false s1 tg) (h2 : NumAt 8 r1 r2 s1 s2 g) (h3 : NumAt 1 r2 r3 s2 s3 c) (hd : PDoneAt r3 s3 true) (ht : ((tg : Int) != 3) = false) (hk : inB c 1 16 = false) :
    Calls Try.prog 44 #[.slice a 10 cap] w fun e w' => e = .returned (.tuple #[.int .u64 0, .int .i64 0, .bool false]) ∧ Below w.heap.size w w' := by
  have hw : IntKind.i64.wrap (c : Int) = (c : Int) := by rw [IntKind.wrap_i64]; omega
  have M1 : Hid True := trivial
  have HU : Hid (∀ (W : World) (B : Nat) (t : TypeId) (r : List UInt8) (sh : Bool), Rd W B t r sh → Rd W.drew B t r sh) := fun W B t r sh h => Row.drew h
  have HV : Hid (∀ (W W' : World) (B : Nat) (t : TypeId) (r : List UInt8) (sh : Bool), RPost W.drew B t r sh W' → RPost W B t r sh W') := fun W W' B t r sh p => ⟨p.rd, p.kept.os, p.kept.tape, p.kept.output, p.kept.size, p.kept.block⟩
  go_enter Try.func44, Try.ntmps44
  go_wp2_with (go_at_call 74; refine (hP _ (Below.refl _ _)).mono ?_; rintro e w2 ⟨rfl, hr, hb⟩; have R0 : Hid (Rd w2 w.heap.size 88 r0 false) := hr; have B0 : Hid (Below w.heap.size w w2) := hb; clear hr hb)
  go_region_held3 (fun _ => True) (first | trivial)
    (first
    | (go_at_call 75; refine (h1 _ _ (HU.out _ _ _ _ _ R0.out)).mono ?_; rintro e w3 ⟨rfl, p⟩; have P1 : Hid (RPost w2 w.heap.size 88 r1 s1 w3) := HV.out _ _ _ _ _ _ p; clear p)
    | (go_at_call 77; clear M1; refine (h2 _ _ P1.out.rd).mono ?_; rintro e w4 ⟨rfl, p⟩; have P2 : Hid (RPost w2 w.heap.size 88 r2 s2 w4) := P1.out.trans p; clear p)
    | (go_at_call 77; refine (h3 _ _ P2.out.rd).mono ?_; rintro e w5 ⟨rfl, p⟩; have P3 : Hid (RPost w2 w.heap.size 88 r3 s3 w5) := P2.out.trans p; clear p))
  all_goals
    go_wp2_with (first
      | (go_at_call 53; refine (hd _ _ P3.out.rd).mono ?_; rintro e w9 ⟨rfl, rfl⟩)
      | (go_at_call 72; refine (isCount_any _ _).mono ?_; rintro e w9 ⟨rfl, rfl⟩))
    go_ret3
    exact ⟨rfl, belowK B0.out P3.out⟩

set_option maxRecDepth 100000 in
set_option maxHeartbeats 4000000 in
theorem pm_yes (a : Option Addr) (cap : Nat) (r0 r1 r2 r3 : List UInt8) (s1 s2 s3 : Bool) (tg g c : Nat) (hc : c < 256) (w : World)
    (hP : ∀ W, Below w.heap.size w W → Calls Try.prog 74 #[.slice a 10 cap] W fun e w' => e = .returned (.pointer (some ⟨W.heap.size, 0, none⟩)) ∧ Rd w' W.heap.size 88 r0 false ∧ Below W.heap.size W w')
    (h1 : TagAt r0 r1 false s1 tg) (h2 : NumAt 8 r1 r2 s1 s2 g) (h3 : NumAt 1 r2 r3 s2 s3 c) (hd : PDoneAt r3 s3 true) (ht : ((tg : Int) != 3) = false) (hk : inB c 1 16 = true) :
    Calls Try.prog 44 #[.slice a 10 cap] w fun e w' => e = .returned (.tuple #[.int .u64 (g : Int), .int .i64 (c : Int), .bool true]) ∧ Below w.heap.size w w' := by
  have hw : IntKind.i64.wrap (c : Int) = (c : Int) := by rw [IntKind.wrap_i64]; omega
  have M1 : Hid True := trivial
  have HU : Hid (∀ (W : World) (B : Nat) (t : TypeId) (r : List UInt8) (sh : Bool), Rd W B t r sh → Rd W.drew B t r sh) := fun W B t r sh h => Row.drew h
  have HV : Hid (∀ (W W' : World) (B : Nat) (t : TypeId) (r : List UInt8) (sh : Bool), RPost W.drew B t r sh W' → RPost W B t r sh W') := fun W W' B t r sh p => ⟨p.rd, p.kept.os, p.kept.tape, p.kept.output, p.kept.size, p.kept.block⟩
  go_enter Try.func44, Try.ntmps44
  go_wp2_with (go_at_call 74; refine (hP _ (Below.refl _ _)).mono ?_; rintro e w2 ⟨rfl, hr, hb⟩; have R0 : Hid (Rd w2 w.heap.size 88 r0 false) := hr; have B0 : Hid (Below w.heap.size w w2) := hb; clear hr hb)
  go_region_held3 (fun _ => True) (first | trivial)
    (first
    | (go_at_call 75; refine (h1 _ _ (HU.out _ _ _ _ _ R0.out)).mono ?_; rintro e w3 ⟨rfl, p⟩; have P1 : Hid (RPost w2 w.heap.size 88 r1 s1 w3) := HV.out _ _ _ _ _ _ p; clear p)
    | (go_at_call 77; clear M1; refine (h2 _ _ P1.out.rd).mono ?_; rintro e w4 ⟨rfl, p⟩; have P2 : Hid (RPost w2 w.heap.size 88 r2 s2 w4) := P1.out.trans p; clear p)
    | (go_at_call 77; refine (h3 _ _ P2.out.rd).mono ?_; rintro e w5 ⟨rfl, p⟩; have P3 : Hid (RPost w2 w.heap.size 88 r3 s3 w5) := P2.out.trans p; clear p))
  all_goals
    go_wp2_with (first
      | (go_at_call 53; refine (hd _ _ P3.out.rd).mono ?_; rintro e w9 ⟨rfl, rfl⟩)
      | (go_at_call 72; refine (isCount_any _ _).mono ?_; rintro e w9 ⟨rfl, rfl⟩))
    go_ret3
    exact ⟨rfl, belowK B0.out P3.out⟩

/-- A mark's tag, its group's number, its count, as bytes tell them. -/
def pmT (r : List UInt8) : Nat := numV 1 r
def pmG (r : List UInt8) : Nat := numV 8 (txR 1 r)
def pmC (r : List UInt8) : Nat := numV 1 (txR 8 (txR 1 r))
def pmOk (r : List UInt8) : Bool := decide (r.length = 10) && (pmT r == 3) && inB (pmC r) 1 16
theorem pm_end {r : List UInt8} (h : r.length = 10) : dn (txR 1 (txR 8 (txR 1 r))) (txS 1 (txR 8 (txR 1 r)) (txS 8 (txR 1 r) (txS 1 r false))) = true := by
  rw [dnS, txS_le' (n := 1) (r := r) (by omega), txR_le' (n := 1) (r := r) (by omega), txS_le' (n := 8) (r := r.drop 1) (by rw [List.length_drop]; omega), txR_le' (n := 8) (r := r.drop 1) (by rw [List.length_drop]; omega), decide_eq_true (by rw [List.length_drop, List.length_drop]; omega)]
  rfl
theorem parseMark_any (a : Option Addr) (n cap : Nat) (l : List Nat) (hn : n = l.length) (w : World) (hr : BRow w a l) :
    Calls Try.prog 44 #[.slice a n cap] w fun e w' => e = .returned (.tuple #[.int .u64 ((bif pmOk (u8s l) then pmG (u8s l) else 0 : Nat) : Int), .int .i64 ((bif pmOk (u8s l) then pmC (u8s l) else 0 : Nat) : Int), .bool (pmOk (u8s l))]) ∧ Below w.heap.size w w' := by
  have hlen : (u8s l).length = n := by rw [u8s_length, hn]
  by_cases h10 : n = 10
  · have hP : ∀ W, Below w.heap.size w W → _ := fun W hb => readPayload_any a n cap l hn W (hr.later hb)
    obtain ⟨r, er⟩ : ∃ r, r = u8s l := ⟨_, rfl⟩
    rw [← er] at hP hlen ⊢
    subst h10
    have l0 : r.length ≤ maxLen := by unfold maxLen; omega
    have l1 : (txR 1 r).length ≤ maxLen := Nat.le_trans (txR_len _ _) l0
    have l2 : (txR 8 (txR 1 r)).length ≤ maxLen := Nat.le_trans (txR_len _ _) l1
    have h1 : TagAt r (txR 1 r) false (txS 1 r false) (pmT r) := by unfold pmT; exact fun W B h => tag_any B _ r false W l0 h
    have h2 : NumAt 8 (txR 1 r) (txR 8 (txR 1 r)) (txS 1 r false) (txS 8 (txR 1 r) (txS 1 r false)) (pmG r) := by unfold pmG; exact fun W B h => number_any B _ 8 _ _ W l1 h
    have h3 : NumAt 1 (txR 8 (txR 1 r)) (txR 1 (txR 8 (txR 1 r))) (txS 8 (txR 1 r) (txS 1 r false)) (txS 1 (txR 8 (txR 1 r)) (txS 8 (txR 1 r) (txS 1 r false))) (pmC r) := by unfold pmC; exact fun W B h => number_any B _ 1 _ _ W l2 h
    have hd : PDoneAt (txR 1 (txR 8 (txR 1 r))) (txS 1 (txR 8 (txR 1 r)) (txS 8 (txR 1 r) (txS 1 r false))) true := by rw [← pm_end hlen]; exact fun W B h => done_any B _ _ _ W h
    have hc : pmC r < 256 := numV_byte _
    have e0 : pmOk r = ((pmT r == 3) && inB (pmC r) 1 16) := by unfold pmOk; rw [decide_eq_true hlen, Bool.true_and]
    rw [e0]
    by_cases ht : pmT r = 3
    · have et : (pmT r == 3) = true := by simpa using ht
      have et2 : ((pmT r : Int) != 3) = false := by rw [ht]; rfl
      rw [et]
      cases hk : inB (pmC r) 1 16
      · exact pm_count a cap r _ _ _ _ _ _ _ _ _ hc w hP h1 h2 h3 hd et2 hk
      · exact pm_yes a cap r _ _ _ _ _ _ _ _ _ hc w hP h1 h2 h3 hd et2 hk
    · have et : (pmT r == 3) = false := by simpa using ht
      rw [et]
      exact pm_tag a cap r _ _ _ _ _ _ _ _ _ hc w hP h1 h2 h3 hd (by simp; omega)
  · have e0 : pmOk (u8s l) = false := by unfold pmOk; rw [decide_eq_false (by omega)]; rfl
    rw [e0]
    exact pm_len a n cap h10 w
end Go.Proofs.Ytefpcdpclpignaa
