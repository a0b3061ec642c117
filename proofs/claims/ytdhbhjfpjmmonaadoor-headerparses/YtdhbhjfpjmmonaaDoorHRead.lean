/-
  The reader of package header: its state in memory, and what its methods do with it.
-/
import Derived.Test.YtdhbhjfpjmmonaaDoorHNo
namespace Go.Proofs.YtdhbhjfpjmmonaaDoor
open Go.RowKit Go.Extern.Stop Go.Stop Go.Extern M
variable {L : Nat}

/-- The package's variable holds an error. -/
def Glb (w : World) : Prop := ∃ x, w.cell? ⟨0, 0, none⟩ = some (.iface 94 x)
theorem Glb.later {w w' : World} (h : Glb w) (hb : Below w.heap.size w w') : Glb w' := by
  obtain ⟨x, h⟩ := h
  exact ⟨x, by rw [hb.cell (p := ⟨0, 0, none⟩) (World.block_lt_of_cell? w _ h)]; exact h⟩
theorem Glb.lt {w : World} (h : Glb w) : 0 < w.heap.size := by
  obtain ⟨x, h⟩ := h
  exact World.block_lt_of_cell? w _ h
theorem Glb.kept {S : Nat → Prop} {w w' : World} (h : Glb w) (hk : Kept S w w') (h0 : ¬ S 0) : Glb w' := by
  obtain ⟨x, h⟩ := h
  exact ⟨x, by rw [World.cell?_of_block (a := ⟨0, 0, none⟩) (hk.block 0 (World.block_lt_of_cell? w _ h) h0)]; exact h⟩

/-- The reader at B: what is left, or that something was wrong. -/
structure Rd (L : Nat) (w : World) (B : Nat) (st : Option (List Nat)) : Prop where
  glb : Glb w
  ne : B ≠ 0
  row : ∃ a n c e, Row w B [.slice a n c, e] 58 ∧ n ≤ c ∧ c ≤ maxLen ∧ (∀ l, st = some l → e = .nilIface ∧ n = l.length ∧ BRow w a l ∧ (∀ x ∈ l, x < 256) ∧ (l = [] ∨ ∀ b off, a = some ⟨b, off, none⟩ → b ≠ B ∧ b < L)) ∧ (st = none → ∃ t x, e = .iface t x)
theorem Rd.lt {w : World} {B : Nat} {st : Option (List Nat)} (h : Rd L w B st) : B < w.heap.size := by
  obtain ⟨a, n, c, e, hr, _⟩ := h.row
  exact hr.lt
theorem Rd.later {w w' : World} {B : Nat} {st : Option (List Nat)} (h : Rd L w B st) (hb : Below w.heap.size w w') : Rd L w' B st := by
  obtain ⟨a, n, c, e, hr, h1, h2, h3, h4⟩ := h.row
  refine ⟨h.glb.later hb, h.ne, a, n, c, e, hr.later hb, h1, h2, fun l hl => ?_, h4⟩
  obtain ⟨k1, k2, k3, k4⟩ := h3 l hl
  exact ⟨k1, k2, k3.later hb, k4⟩
/-- Something is wrong. -/
theorem Rd.bad {w : World} {B : Nat} (h : Rd L w B none) : ∃ a n c t x, Row w B [.slice a n c, .iface t x] 58 ∧ n ≤ c ∧ c ≤ maxLen := by
  obtain ⟨a, n, c, e, hr, h1, h2, _, h4⟩ := h.row
  obtain ⟨t, x, rfl⟩ := h4 rfl
  exact ⟨a, n, c, t, x, hr, h1, h2⟩
theorem Rd.good {w : World} {B : Nat} {l : List Nat} (h : Rd L w B (some l)) : ∃ a c, Row w B [.slice a l.length c, .nilIface] 58 ∧ l.length ≤ c ∧ c ≤ maxLen ∧ BRow w a l ∧ (∀ x ∈ l, x < 256) ∧ (l = [] ∨ ∀ b off, a = some ⟨b, off, none⟩ → b ≠ B ∧ b < L) := by
  obtain ⟨a, n, c, e, hr, h1, h2, h3, _⟩ := h.row
  obtain ⟨rfl, rfl, k3, k4⟩ := h3 l rfl
  exact ⟨a, c, hr, h1, h2, k3, k4⟩

theorem Rd.tight {w : World} {B : Nat} {st : Option (List Nat)} (h : Rd L w B st) : Rd w.heap.size w B st := by
  obtain ⟨a, n, c, e, hr, h1, h2, h3, h4⟩ := h.row
  refine ⟨h.glb, h.ne, a, n, c, e, hr, h1, h2, fun l hl => ?_, h4⟩
  obtain ⟨k1, k2, k3, k4, k5⟩ := h3 l hl
  refine ⟨k1, k2, k3, k4, ?_⟩
  rcases k3 with k3 | ⟨b', off', ha, hc⟩
  · exact .inl k3
  · by_cases hl0 : l = []
    · exact .inl hl0
    · refine .inr fun b off e => ⟨?_, ?_⟩
      · rcases k5 with k5 | k5
        · exact absurd k5 hl0
        · exact (k5 b off e).1
      · rw [ha] at e
        cases e
        exact World.block_lt_of_cell? w _ (hc 0 (List.length_pos_iff.2 hl0))
/-- What stays is behind the reader alone. -/
theorem brow_kept {S : Nat → Prop} {w w' : World} {a : Option Addr} {l : List Nat} (h : BRow w a l) (hk : Kept S w w') (hs : ∀ b off, a = some ⟨b, off, none⟩ → ¬ S b) : BRow w' a l := by
  rcases h with h | ⟨b, off, ha, hc⟩
  · exact .inl h
  · refine .inr ⟨b, off, ha, fun i hi => ?_⟩
    have h1 := hc i hi
    rw [World.cell?_of_block (a := ⟨b, off + i, none⟩) (hk.block b (World.block_lt_of_cell? w _ h1) (hs b off ha))]
    exact h1

/-- The reader's new state; all else is as it was. -/
structure RPost (L : Nat) (w : World) (B : Nat) (st : Option (List Nat)) (w' : World) : Prop where
  rd : Rd L w' B st
  kept : Kept (fun k => k = B) w w'
/-- Another block was written. -/
theorem Rd.other {w w' : World} {B bm : Nat} {st : Option (List Nat)} (h : Rd L w B st) (hk : Kept (fun k => k = bm) w w') (h1 : L ≤ bm) (h2 : bm ≠ B) (h3 : bm ≠ 0) : Rd L w' B st := by
  obtain ⟨a, n, c, e, hr, k1, k2, k3, k4⟩ := h.row
  refine ⟨h.glb.kept hk (fun e => h3 e.symm), h.ne, a, n, c, e, hr.kept hk (fun e => h2 e.symm), k1, k2, fun l hl => ?_, k4⟩
  obtain ⟨j1, j2, j3, j4, j5⟩ := k3 l hl
  refine ⟨j1, j2, ?_, j4, j5⟩
  rcases j5 with j5 | j5
  · exact .inl j5
  · exact brow_kept j3 hk (fun b off e1 e2 => by have := (j5 b off e1).2; omega)
theorem RPost.same {w : World} {B : Nat} {st : Option (List Nat)} (h : Rd L w B st) : RPost L w B st w := ⟨h, .refl _ _⟩

def noteS (st : Option (List Nat)) (err : Bool) : Option (List Nat) := if err then none else st

set_option maxRecDepth 10000 in
set_option maxHeartbeats 4000000 in
theorem note_bad (B : Nat) (what : ByteArray) (v : Value) (hv : v = .nilIface ∨ ∃ t x, v = .iface t x) (w : World) (h : Rd L w B none) :
    Calls Tryd.prog 29 #[.pointer (some ⟨B, 0, none⟩), .string what, v] w fun e w' => e = .returned (.tuple #[]) ∧ w = w' := by
  obtain ⟨a, n, c, t, x, hr, _⟩ := h.bad
  have c1 : w.cell? ⟨B, 1, none⟩ = some (.iface t x) := hr.cell (i := 1) rfl
  clear h hr
  rcases hv with rfl | ⟨t2, x2, rfl⟩
  · go_enter Tryd.func29, Tryd.ntmps29
    go_wp2
    go_end0
    exact ⟨rfl, rfl⟩
  · go_enter Tryd.func29, Tryd.ntmps29
    go_wp2
    go_end0
    exact ⟨rfl, rfl⟩
set_option maxRecDepth 10000 in
set_option maxHeartbeats 4000000 in
theorem note_nil (B : Nat) (what : ByteArray) (l : List Nat) (w : World) (h : Rd L w B (some l)) :
    Calls Tryd.prog 29 #[.pointer (some ⟨B, 0, none⟩), .string what, .nilIface] w fun e w' => e = .returned (.tuple #[]) ∧ w = w' := by
  obtain ⟨a, c, hr, _⟩ := h.good
  have c1 : w.cell? ⟨B, 1, none⟩ = some .nilIface := hr.cell (i := 1) rfl
  clear h hr
  go_enter Tryd.func29, Tryd.ntmps29
  go_wp2
  go_end0
  exact ⟨rfl, rfl⟩
theorem rd_noted {w : World} {B : Nat} {l : List Nat} (h : Rd L w B (some l)) (o : Obj) (t : TypeId) (x : Value) : RPost L w B none ((w.setCell ⟨B, 1, none⟩ (.iface t x)).alloc o) := by
  obtain ⟨a, c, hr, h1, h2, h3, h4⟩ := h.good
  have hk : Kept (fun k => k = B) w ((w.setCell ⟨B, 1, none⟩ (.iface t x)).alloc o) := ((Kept.refl (fun k => k = B) w).setCell (p := ⟨B, 1, none⟩) rfl _).alloc o
  refine ⟨⟨h.glb.kept hk (fun e => h.ne e.symm), h.ne, a, l.length, c, _, ?_, h1, h2, (fun l hl => by cases hl), fun _ => ⟨t, x, rfl⟩⟩, hk⟩
  have := (hr.set (i := 1) (.iface t x) (by simp)).alloc o
  exact this
set_option maxRecDepth 10000 in
set_option maxHeartbeats 4000000 in
theorem note_err (B : Nat) (what : ByteArray) (l : List Nat) (t : TypeId) (x : Value) (w : World) (h : Rd L w B (some l)) :
    Calls Tryd.prog 29 #[.pointer (some ⟨B, 0, none⟩), .string what, .iface t x] w fun e w' => e = .returned (.tuple #[]) ∧ RPost L w B none w' := by
  obtain ⟨a, c, hr, _⟩ := h.good
  have c1 : w.cell? ⟨B, 1, none⟩ = some .nilIface := hr.cell (i := 1) rfl
  have f1 := hr.frozen 1
  have hl := hr.lt
  have H : Hid (Rd L w B (some l)) := h
  clear h hr
  go_enter Tryd.func29, Tryd.ntmps29
  go_wp2
  go_end0
  exact ⟨rfl, rd_noted H.out _ _ _⟩
/-- note, whatever the state and the error. -/
theorem note_any (B : Nat) (what : ByteArray) (v : Value) (hv : v = .nilIface ∨ ∃ t x, v = .iface t x) (st : Option (List Nat)) (w : World) (h : Rd L w B st) :
    Calls Tryd.prog 29 #[.pointer (some ⟨B, 0, none⟩), .string what, v] w fun e w' => e = .returned (.tuple #[]) ∧ RPost L w B (noteS st (nn v)) w' := by
  cases st with
  | none =>
    refine (note_bad B what v hv w h).mono ?_
    rintro e w' ⟨rfl, rfl⟩
    refine ⟨rfl, ?_⟩
    have : noteS none (nn v) = none := by unfold noteS; split <;> rfl
    rw [this]
    exact .same h
  | some l =>
    rcases hv with rfl | ⟨t, x, rfl⟩
    · refine (note_nil B what l w h).mono ?_
      rintro e w' ⟨rfl, rfl⟩
      exact ⟨rfl, .same h⟩
    · exact note_err B what l t x w h

/-- What number answers, and what it leaves. -/
def numV (k : Nat) : Option (List Nat) → Nat
  | none => 0
  | some l => if l.length < k then 0 else getL (l.take k)
def numS (k : Nat) : Option (List Nat) → Option (List Nat)
  | none => none
  | some l => if l.length < k then none else some (l.drop k)
set_option maxRecDepth 10000 in
set_option maxHeartbeats 4000000 in
theorem number_bad (B k : Nat) (w : World) (h : Rd L w B none) :
    Calls Tryd.prog 27 #[.pointer (some ⟨B, 0, none⟩), .int .i64 k] w fun e w' => e = .returned (.int .u64 0) ∧ w = w' := by
  obtain ⟨a, n, c, t, x, hr, _⟩ := h.bad
  have c1 : w.cell? ⟨B, 1, none⟩ = some (.iface t x) := hr.cell (i := 1) rfl
  clear h hr
  go_enter Tryd.func27, Tryd.ntmps27
  go_wp2
  go_ret
  exact ⟨rfl, rfl⟩
set_option maxRecDepth 10000 in
set_option maxHeartbeats 4000000 in
theorem number_short (B k : Nat) (l : List Nat) (w : World) (h : Rd L w B (some l)) (hk : l.length < k) :
    Calls Tryd.prog 27 #[.pointer (some ⟨B, 0, none⟩), .int .i64 k] w fun e w' => e = .returned (.int .u64 0) ∧ RPost L w B none w' := by
  obtain ⟨a, c, hr, _⟩ := h.good
  obtain ⟨x, g0⟩ := h.glb
  have c0 : w.cell? ⟨B, 0, none⟩ = some (.slice a l.length c) := hr.cell (i := 0) rfl
  have c1 : w.cell? ⟨B, 1, none⟩ = some .nilIface := hr.cell (i := 1) rfl
  have H : Hid (Rd L w B (some l)) := h
  obtain ⟨n, hn⟩ : ∃ n, n = l.length := ⟨_, rfl⟩
  rw [← hn] at c0 hk
  clear h hr hn
  go_enter Tryd.func27, Tryd.ntmps27
  go_wp2_with (go_at_call 29; refine (note_err _ _ l _ _ _ H.out).mono ?_; rintro e w1 ⟨rfl, hp⟩; have HP : Hid (RPost _ _ _ _ _) := hp; clear hp)
  go_ret
  exact ⟨rfl, HP.out⟩
theorem rd_took {w : World} {B k c' : Nat} {l : List Nat} {a' : Option Addr} (h : Rd L w B (some l)) (hc1 : l.length - k ≤ c') (hc2 : c' ≤ maxLen) (hr' : BRow w a' (l.drop k)) (hs : l.drop k = [] ∨ ∀ b off, a' = some ⟨b, off, none⟩ → b ≠ B ∧ b < L) :
    RPost L w B (some (l.drop k)) (w.setCell ⟨B, 0, none⟩ (.slice a' (l.length - k) c')) := by
  obtain ⟨a, c, hr, h1, h2, h3, h4, _⟩ := h.good
  have hk : Kept (fun k => k = B) w (w.setCell ⟨B, 0, none⟩ (.slice a' (l.length - k) c')) := (Kept.refl (fun k => k = B) w).setCell (p := ⟨B, 0, none⟩) rfl _
  refine ⟨⟨h.glb.kept hk (fun e => h.ne e.symm), h.ne, a', l.length - k, c', .nilIface, ?_, hc1, hc2, ?_, (fun h => by cases h)⟩, hk⟩
  · have := hr.set (i := 0) (.slice a' (l.length - k) c') (by simp)
    exact this
  · intro l2 hl2
    cases hl2
    exact ⟨rfl, by simp, hs.elim .inl (fun hs => brow_kept hr' hk (fun b off e => (hs b off e).1)), fun x hx => h4 x (List.mem_of_mem_drop hx), hs⟩
set_option maxRecDepth 10000 in
set_option maxHeartbeats 4000000 in
theorem number_go (B k : Nat) (l : List Nat) (w : World) (h : Rd L w B (some l)) (hk : k ≤ l.length) (h1 : 1 ≤ k) (h8 : k ≤ 8) :
    Calls Tryd.prog 27 #[.pointer (some ⟨B, 0, none⟩), .int .i64 k] w fun e w' => e = .returned (.int .u64 (getL (l.take k) : Nat)) ∧ RPost L w B (some (l.drop k)) w' := by
  obtain ⟨a, c, hr, hnc, hcm, hbr, hlt, hap⟩ := h.good
  obtain ⟨b, off, rfl, hcs⟩ : ∃ b off, a = some ⟨b, off, none⟩ ∧ ∀ i, i < l.length → w.cell? ⟨b, off + i, none⟩ = some (.int .u8 ((l.getD i 0 : Nat) : Int)) := by
    rcases hbr with h | h
    · rw [h] at hk; simp at hk; omega
    · exact h
  have c0 : w.cell? ⟨B, 0, none⟩ = some (.slice (some ⟨b, off, none⟩) l.length c) := hr.cell (i := 0) rfl
  have c1 : w.cell? ⟨B, 1, none⟩ = some .nilIface := hr.cell (i := 1) rfl
  have f0 := hr.frozen 0
  have H : Hid (Rd L w B (some l)) := h
  have hg : Calls Tryd.prog 41 #[.slice (some ⟨b, off, none⟩) k c] w fun e w' => e = .returned (.int .u64 (getL (l.take k) : Nat)) ∧ w = w' :=
    get_at _ _ (l.take k) w k _ (by simp; omega) (by simp [List.take_take]; congr 1; rw [Nat.min_eq_right h8]) (by simp [maxLen]; omega) (fun x hx => hlt x (List.mem_of_mem_take hx)) (by have := hbr.sub (i := 0) (j := k); simpa using this)
  have F1 : Hid (RPost L w B (some (l.drop k)) (w.setCell ⟨B, 0, none⟩ (.slice (some ⟨b, off + k, none⟩) (l.length - k) (c - k)))) :=
    rd_took h (by omega) (by omega) (by have := hbr.sub (i := k) (j := l.length - k); rwa [List.take_of_length_le (by simp)] at this) (.inr fun b' off' e => by cases e; rcases hap with h0 | h0; (rw [h0] at hk; simp at hk; omega); exact h0 _ _ rfl)
  have F2 : Hid (c = k → RPost L w B (some (l.drop k)) (w.setCell ⟨B, 0, none⟩ (.slice (some ⟨b, off, none⟩) (l.length - k) 0))) := fun e =>
    rd_took h (by omega) (by unfold maxLen; omega) (.inl (List.drop_eq_nil_of_le (by omega))) (.inl (List.drop_eq_nil_of_le (by omega)))
  obtain ⟨n, hn⟩ : ∃ n, n = l.length := ⟨_, rfl⟩
  obtain ⟨z, hz⟩ : ∃ z, z = getL (l.take k) := ⟨_, rfl⟩
  rw [← hn] at c0 hk hnc F1 F2
  rw [← hz] at hg ⊢
  unfold maxLen at hcm
  clear h hr hbr hcs hlt hn hz hap
  go_enter Tryd.func27, Tryd.ntmps27
  go_wp2_with (go_at_call 41; refine hg.mono ?_; rintro e w1 ⟨rfl, rfl⟩)
  · go_ret
    have e : c = k := by assumption
    exact ⟨rfl, F2.out e⟩
  · go_ret
    exact ⟨rfl, F1.out⟩
theorem number_any (B k : Nat) (st : Option (List Nat)) (w : World) (h : Rd L w B st) (h1 : 1 ≤ k) (h8 : k ≤ 8) :
    Calls Tryd.prog 27 #[.pointer (some ⟨B, 0, none⟩), .int .i64 k] w fun e w' => e = .returned (.int .u64 (numV k st : Nat)) ∧ RPost L w B (numS k st) w' := by
  cases st with
  | none =>
    refine (number_bad B k w h).mono ?_
    rintro e w' ⟨rfl, rfl⟩
    exact ⟨rfl, .same h⟩
  | some l =>
    by_cases hk : l.length < k
    · refine (number_short B k l w h hk).mono ?_
      rintro e w' ⟨rfl, hp⟩
      simp only [numV, numS, if_pos hk]
      exact ⟨rfl, hp⟩
    · have := number_go B k l w h (by omega) h1 h8
      simp only [numV, numS, if_neg hk]
      exact this

/-- What end leaves. -/
def endS : Option (List Nat) → Option (List Nat)
  | some [] => some []
  | _ => none
set_option maxRecDepth 10000 in
set_option maxHeartbeats 4000000 in
theorem end_more (B : Nat) (w : World) (n : Nat) (a : Option Addr) (c : Nat) (st : Option (List Nat)) (h : Rd L w B st) (c0 : w.cell? ⟨B, 0, none⟩ = some (.slice a n c)) (hn : 0 < n) :
    Calls Tryd.prog 28 #[.pointer (some ⟨B, 0, none⟩)] w fun e w' => e = .returned (.tuple #[]) ∧ RPost L w B none w' := by
  obtain ⟨x, g0⟩ := h.glb
  have cN := fun what => note_any B what (.iface 94 x) (.inr ⟨_, _, rfl⟩) st w h
  simp only [nn, noteS, if_true] at cN
  clear h
  go_enter Tryd.func28, Tryd.ntmps28
  go_wp2_with (go_at_call 29; refine (cN _).mono ?_; rintro e w1 ⟨rfl, hp⟩; have HP : Hid (RPost _ _ _ _ _) := hp; clear hp)
  go_end0
  exact ⟨rfl, HP.out⟩
set_option maxRecDepth 10000 in
set_option maxHeartbeats 4000000 in
theorem end_none (B : Nat) (w : World) (a : Option Addr) (c : Nat) (c0 : w.cell? ⟨B, 0, none⟩ = some (.slice a 0 c)) :
    Calls Tryd.prog 28 #[.pointer (some ⟨B, 0, none⟩)] w fun e w' => e = .returned (.tuple #[]) ∧ w = w' := by
  go_enter Tryd.func28, Tryd.ntmps28
  go_wp2
  go_end0
  exact ⟨rfl, rfl⟩
theorem end_any (B : Nat) (st : Option (List Nat)) (w : World) (h : Rd L w B st) :
    Calls Tryd.prog 28 #[.pointer (some ⟨B, 0, none⟩)] w fun e w' => e = .returned (.tuple #[]) ∧ RPost L w B (endS st) w' := by
  obtain ⟨a, n, c, e, hr, h1, h2, h3, h4⟩ := h.row
  have c0 : w.cell? ⟨B, 0, none⟩ = some (.slice a n c) := hr.cell (i := 0) rfl
  by_cases hn : 0 < n
  · have hs : endS st = none := by
      rcases st with _ | l
      · rfl
      · obtain ⟨_, hl, _⟩ := h3 l rfl
        cases l with
        | nil => simp at hl; omega
        | cons => rfl
    rw [hs]
    exact end_more B w n a c st h c0 hn
  · have hn0 : n = 0 := by omega
    subst hn0
    have hs : endS st = st := by
      rcases st with _ | l
      · rfl
      · obtain ⟨_, hl, _⟩ := h3 l rfl
        have : l = [] := List.eq_nil_of_length_eq_zero hl.symm
        subst this
        rfl
    rw [hs]
    refine (end_none B w a c c0).mono ?_
    rintro e w' ⟨rfl, rfl⟩
    exact ⟨rfl, .same h⟩
end Go.Proofs.YtdhbhjfpjmmonaaDoor
